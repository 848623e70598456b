import Derived.Test.YtbjcopckkgdmgaaGreatDoorCm
import Derived.Deep.LoopGhost
import Derived.Deep.QuietTactic
import Derived.BigQuiet
import Derived.StillTailTactics
/- Trees compared: the walk. -/
namespace Go.Ev
open Go.Proofs Go.RowKit Go.Lib
set_option maxRecDepth 100000

theorem Kp.drewN {B n : Nat} {a w : World} (h : Kp B a w) : Kp B a (w.drewN n) := ⟨h.os, h.output, h.size, h.block⟩
theorem Chg.of_drewN {b n : Nat} {w w' : World} (h : Chg b (w.drewN n) w') : Chg b w w' := ⟨h.os, h.output, h.size, h.block⟩
theorem LRow.of_heap {w w' : World} {b n : Nat} {ρ : Nat → Nat} {r : Nat} (h : LRow w b n ρ r) (e : w'.heap[b]? = w.heap[b]?) : LRow w' b n ρ r := by
  obtain ⟨ls, d, h1, h2⟩ := h
  exact ⟨ls, d, h1.of_heap e, h2⟩
theorem LRow.lt {w : World} {b n : Nat} {ρ : Nat → Nat} {r : Nat} (h : LRow w b n ρ r) : b < w.heap.size := by
  obtain ⟨ls, d, h1, h2⟩ := h
  exact h1.lt
theorem LRow.kp {w w' : World} {b n : Nat} {ρ : Nat → Nat} {r : Nat} (h : LRow w b n ρ r) (hk : Kp w.heap.size w w') : LRow w' b n ρ r := h.of_heap (hk.block b h.lt)
theorem roots_le (ls : List Int) : roots ls ≤ ls.length := by
  unfold roots
  exact Nat.le_trans List.countP_le_length (by simp)

theorem NodesV.at_ {w : World} {b o n c : Nat} {ns : List Nd} (h : NodesV w (.slice (some ⟨b, o, none⟩) n c) ns) {j : Nat} {nd : Nd} (hj : ns[j]? = some nd) : NodeW w b (o + j * 4) nd := by
  cases h with
  | empty => simp at hj
  | row _ _ _ _ _ _ hcell => exact hcell j nd hj

theorem ArgsV.some {w : World} {base : Option Addr} {n c : Nat} {xs : List Int} (h : ArgsV w (.slice base n c) xs) {k : Nat} (hk : k < xs.length) : ∃ b o, base = Option.some ⟨b, o, none⟩ ∧ w.cell? ⟨b, o + k, none⟩ = Option.some (.int .i64 (xs.getD k 0)) := by
  cases h with
  | empty => simp at hk
  | row b o _ _ _ _ hcell => exact ⟨b, o, rfl, hcell k _ (by rw [List.getElem?_eq_getElem hk]; simp [List.getD, hk])⟩
theorem Tryz.info60 : (Tryz.prog.info? 60).map (fun i => (i.zero, i.size, i.bytes)) = some (some (.agg #[.int .i64 0, .int .i64 0]), 2, 16) := by kernel_rfl
theorem under_length (xs ys : List Int) (p : Nat) : (under xs ys p).length = xs.length := by simp [under]
theorem under_take (xs ys : List Int) (p k : Nat) (h : k < xs.length) : (under xs ys p).take (k + 1) = (under xs ys p).take k ++ [((xs.getD k 0).toNat, (ys.getD k 0).toNat, 8 * p + k + 1)] := by
  rw [List.take_succ_eq_append_getElem (by rw [under_length]; exact h)]
  simp [under]

def qCells (Q : List (Nat × Nat × Nat)) : List Value := Q.flatMap fun q => [Value.int .i64 q.1, Value.int .i64 q.2.1]
theorem qCells_length (Q : List (Nat × Nat × Nat)) : (qCells Q).length = Q.length * 2 := by
  induction Q with
  | nil => rfl
  | cons q Q ih => simp [qCells] at ih ⊢; omega
theorem qCells_append (Q R : List (Nat × Nat × Nat)) : qCells (Q ++ R) = qCells Q ++ qCells R := by simp [qCells]

/-- What holds while trees are compared. -/
structure OSt (A B : List Nd) (ra rb : Nat) (W : World) (sa sb : Value) (lb pb po q cap gk : Nat) (wr : World) : Prop where
  st : ∃ Q now ρ r, OInv A B ra rb ρ Q now ∧ Seg (W.heap.size + 2) 2 wr pb po q cap (qCells Q) ∧ Q.length = q ∧ LRow wr lb (A.length + B.length) ρ r ∧ 9 * r + q ≤ gk
  ne : pb ≠ lb
  lo : W.heap.size + 2 ≤ lb
  kp : Kp W.heap.size W wr
  a0 : wr.cell? ⟨W.heap.size, 0, none⟩ = some sa
  a1 : wr.cell? ⟨W.heap.size, 1, none⟩ = some (.int .i64 ra)
  b0 : wr.cell? ⟨W.heap.size + 1, 0, none⟩ = some sb
  b1 : wr.cell? ⟨W.heap.size + 1, 1, none⟩ = some (.int .i64 rb)
  big : gk ≤ 200000

theorem news_alloc (w : World) (cs : List Value) (t : TypeId) : ∀ j u, cs[j]? = Option.some u → (w.alloc (.cells cs.toArray t)).cell? ((⟨w.heap.size, 0, none⟩ : Addr).add j) = Option.some u := by
  intro j u h
  rw [Go.WideShapes.add_plain, Nat.zero_add, cell_of (heap_alloc_new w _)]
  simpa using h
theorem Chg.of_grownBy {b : Nat} {w w' : World} (h : w.grownBy w' (Option.some b)) : Chg b w w' := ⟨h.os, h.output, h.size, fun k hk hb => h.block k hk (fun e => hb (Option.some.inj e))⟩
theorem qCells_step {Q' : List (Nat × Nat × Nat)} {xs ys : List Int} {p k : Nat} (h : k < xs.length) (hx : ∀ a ∈ xs, 0 ≤ a) (hy : ∀ a ∈ ys, 0 ≤ a) (hl : k < ys.length) :
    qCells Q' ++ qCells ((under xs ys p).take k) ++ [Value.int .i64 (xs.getD k 0), Value.int .i64 (ys.getD k 0)] = qCells Q' ++ qCells ((under xs ys p).take (k + 1)) := by
  rw [under_take _ _ _ _ h, qCells_append, List.append_assoc]
  congr 2
  have h1 : 0 ≤ xs.getD k 0 := by simp only [List.getD, List.getElem?_eq_getElem h]; exact hx _ (List.getElem_mem h)
  have h2 : 0 ≤ ys.getD k 0 := by simp only [List.getD, List.getElem?_eq_getElem hl]; exact hy _ (List.getElem_mem hl)
  show _ = [Value.int .i64 ((xs.getD k 0).toNat : Int), Value.int .i64 ((ys.getD k 0).toNat : Int)]
  rw [Int.toNat_of_nonneg h1, Int.toNat_of_nonneg h2]

def OrderPost (A B : List Nd) (ra rb : Nat) (W : World) (e : Ending) (w' : World) : Prop := ∃ c, e = .returned (.int .i64 c) ∧ Cmp fcmp A ra B rb c ∧ Kp W.heap.size W w'

set_option maxHeartbeats 4000000 in
theorem order_ok (A B : List Nd) (ra rb : Nat) (W : World) (ab ao ac bb bo bc : Nat) (hA : GClosed A) (hB : GClosed B) (hra : ra < A.length) (hrb : rb < B.length) (hA8 : A.length ≤ 8000) (hB8 : B.length ≤ 8000)
    (hva : NodesV W (.slice (some ⟨ab, ao, none⟩) A.length ac) A) (hvb : NodesV W (.slice (some ⟨bb, bo, none⟩) B.length bc) B) :
    Calls Tryz.prog 47 #[.agg #[.slice (some ⟨ab, ao, none⟩) A.length ac, .int .i64 ra], .agg #[.slice (some ⟨bb, bo, none⟩) B.length bc, .int .i64 rb]] W (OrderPost A B ra rb W) := by
  have HVA := Lib.hid hva
  have HVB := Lib.hid hvb
  have HA := Lib.hid hA
  have HB := Lib.hid hB
  have CL := fun w => newLinks_ok (A.length + B.length) (by omega) w
  clear hva hvb hA hB
  simp only [Int.natCast_add] at CL
  go_enter Tryz.func47, Tryz.ntmps47
  go_wp2_with fail
  obtain ⟨W2, hW2⟩ : ∃ W2, W2 = (W.alloc (Obj.cells #[Value.slice (some ⟨ab, ao, none⟩) A.length ac, Value.int IntKind.i64 ra] 24)).alloc (Obj.cells #[Value.slice (some ⟨bb, bo, none⟩) B.length bc, Value.int IntKind.i64 rb] 24) := ⟨_, rfl⟩
  have hs2 : W2.heap.size = W.heap.size + 2 := by rw [hW2]; simp
  have hk2 : Kp W.heap.size W W2 := by rw [hW2]; exact ((Kp.refl _ _).alloc (Nat.le_refl _) _).alloc (by simp) _
  have a0 : W2.cell? ⟨W.heap.size, 0, none⟩ = some (.slice (some ⟨ab, ao, none⟩) A.length ac) := by rw [hW2]; go_simp
  have a1 : W2.cell? ⟨W.heap.size, 1, none⟩ = some (.int .i64 ra) := by rw [hW2]; go_simp
  have b0 : W2.cell? ⟨W.heap.size + 1, 0, none⟩ = some (.slice (some ⟨bb, bo, none⟩) B.length bc) := by rw [hW2]; go_simp
  have b1 : W2.cell? ⟨W.heap.size + 1, 1, none⟩ = some (.int .i64 rb) := by rw [hW2]; go_simp
  rw [← hW2]
  clear hW2
  refine (CL _).mono ?_
  rintro e w1 ⟨rfl, hrow, hkl⟩
  have a0' := hkl.cells a0
  have a1' := hkl.cells a1
  have b0' := hkl.cells b0
  have b1' := hkl.cells b1
  have hs1 := hrow.lt
  have HK := Lib.hid (hk2.trans (hkl.mono (by omega)))
  have HR := Lib.hid hrow
  rw [hs2] at HR hs1
  rw [hs2]
  clear a0 a1 b0 b1 hkl hrow hk2 hs2 CL
  go_wp2_with fail
  go_loopg [6] (9 * (A.length + B.length) + 1) (fun gk v wr => ∃ pb po q cap, v = .slice (some ⟨pb, po, none⟩) q cap ∧ OSt A B ra rb W (.slice (some ⟨ab, ao, none⟩) A.length ac) (.slice (some ⟨bb, bo, none⟩) B.length bc) (W.heap.size + 2) pb po q cap gk wr)
  case atStart =>
    have hst : LRow w1 (W.heap.size + 2) (A.length + B.length) id (roots ((List.range (A.length + B.length)).map fun (i : Nat) => (i : Int))) := ⟨_, _, HR.out, LInv.start _, by simp, rfl⟩
    have hro := roots_le ((List.range (A.length + B.length)).map fun (i : Nat) => (i : Int))
    rw [List.length_map, List.length_range] at hro
    have hal : Kp w1.heap.size w1 (w1.alloc (Obj.cells #[Value.int .i64 ra, Value.int .i64 rb] 60)) := (Kp.refl _ _).alloc (Nat.le_refl _) _
    refine ⟨w1.heap.size, 0, 1, 1, rfl, ⟨[(ra, rb, 0)], 0, id, _, OInv.start (fun u v _ _ h => h), ⟨by omega, rfl, Nat.le_refl _, by unfold maxLen; omega, #[Value.int .i64 ra, Value.int .i64 rb], 60, heap_alloc_new _ _, by simp, fun j u hj => ?_⟩, rfl, hst.kp hal, by omega⟩, by omega, by omega, HK.out.trans (hal.mono (by omega)), hal.cells a0', hal.cells a1', hal.cells b0', hal.cells b1', by omega⟩
    rw [Nat.zero_add]
    simpa [qCells] using hj
  case round =>
    obtain ⟨pb, po, q, cap, rfl, hst⟩ := hrel
    obtain ⟨G, hGG⟩ : ∃ G, G = gk := ⟨_, rfl⟩
    subst hGG
    clear a0' a1' b0' b1' HR HK hs1
    obtain ⟨⟨Q, now, ρ, r, hinv, hseg, hQ, hrow, hgk⟩, hne, hlo, hkp, a0, a1, b0, b1, hbig⟩ := hst
    have hfit := hseg.fit
    have hmaxc : cap ≤ 9223372036854775807 := by have := hseg.max; unfold maxLen at this; omega
    have HK := Lib.hid hkp
    have HLO := Lib.hid hlo
    have HNE := Lib.hid hne
    match Q, hQ, hinv, hseg with
    | [], hQ, hinv, hseg =>
      have HI := Lib.hid hinv
      obtain rfl : q = 0 := hQ.symm
      clear hinv hseg hrow hkp hlo hne hQ
      go_wp2
      go_ret
      exact ⟨0, rfl, .inl ⟨rfl, fun t => HI.out.none t⟩, HK.out⟩
    | (x, y, p) :: Q', hQ, hinv, hseg =>
      have hq : 1 ≤ q := by rw [← hQ]; simp
      have c0 : wr.cell? ⟨pb, po, none⟩ = some (.int .i64 x) := hseg.cell (j := 0) rfl
      have c1 : wr.cell? ⟨pb, po + 1, none⟩ = some (.int .i64 y) := hseg.cell (j := 1) rfl
      have HI := Lib.hid hinv
      have HS := Lib.hid hseg
      have HR := Lib.hid hrow
      have HQ := Lib.hid hQ
      have HG := Lib.hid hgk
      clear hinv hseg hrow hkp hlo hne hQ hgk
      have hinv := HI.out
      obtain ⟨n1, n2, _, _⟩ := hinv.at_ _ (List.mem_cons_self ..)
      have hx : x < A.length := nodeAt_lt HA.out hra n1
      have hy : y < B.length := nodeAt_lt HB.out hrb n2
      clear hinv n1 n2
      obtain ⟨na, hna⟩ : ∃ na, A[x]? = some na := ⟨_, List.getElem?_eq_getElem hx⟩
      obtain ⟨nb, hnb⟩ : ∃ nb, B[y]? = some nb := ⟨_, List.getElem?_eq_getElem hy⟩
      have HNA := Lib.hid hna
      have HNB := Lib.hid hnb
      clear hna hnb
      have HT : Hid (Seg (W.heap.size + 2) 2 wr pb (if cap = 1 then po else po + 2) (q - 1) (cap - 1) (qCells Q')) := by
        have h1 := HS.out
        have h2 := HQ.out
        obtain ⟨q', rfl⟩ : ∃ q', q = q' + 1 := ⟨q - 1, by omega⟩
        have hl : Q'.length = q' := by simpa using h2
        split
        · rename_i e
          subst e
          obtain rfl : q' = 0 := by omega
          obtain rfl : Q' = [] := List.length_eq_zero_iff.1 hl
          exact h1.nothing 0 (by omega)
        · exact Seg.tail (ys := [Value.int .i64 x, Value.int .i64 y]) h1 rfl
      by_cases hcap : cap = 1
      all_goals
        have HT2 := Lib.hid (HT.out)
        simp only [hcap, if_pos, if_neg, not_false_eq_true] at HT2
        go_wp2_with fail
        go_quiet (fail)
        by_cases hl : ρ x = ρ (A.length + y)
        · have C := fun w h => add_same (W.heap.size + 2) (A.length + B.length) (A.length + B.length) x (A.length + y) ρ r (by omega) (by omega) (by omega) (Nat.le_refl _) w h hl
          simp only [Int.natCast_add] at C
          have HL := Lib.hid hl
          clear hl
          go_wp2_with fail
          refine (C _ ?_).mono ?_
          · exact HR.out.of_heap rfl
          rintro e w2 ⟨rfl, hrow2, hch⟩
          have HR2 := Lib.hid hrow2
          have HCH := Lib.hid hch
          clear hrow2 hch
          go_wp2_with fail
          have hK := HK.out
          have hC := HCH.out.of_drewN
          have hQ : Q'.length = q - 1 := by have := HQ.out; simp only [List.length_cons] at this; omega
          have hG := HG.out
          go_roundg (G - 1)
          case measure => omega
          case rel =>
            exact ⟨pb, _, q - 1, _, rfl, ⟨Q', p + 1, ρ, r, HI.out.skip HA.out HB.out hra hrb HL.out, HT2.out.chg hC HNE.out, hQ, HR2.out, by omega⟩, HNE.out, HLO.out,
              hK.chg hC hK.size (by omega), hC.cell (by omega) a0, hC.cell (by omega) a1, hC.cell (by omega) b0, hC.cell (by omega) b1, by omega⟩
        · have C := fun w h => add_new (W.heap.size + 2) (A.length + B.length) (A.length + B.length) x (A.length + y) ρ r (by omega) (by omega) (by omega) (Nat.le_refl _) w h hl
          simp only [Int.natCast_add] at C
          clear hl
          go_wp2_with fail
          refine (C _ ?_).mono ?_
          · exact HR.out.of_heap rfl
          rintro e w2 ⟨ρ', r', rfl, hrow2, hr', hρ, hch⟩
          have hC := hch.of_drewN
          have hK2 := HK.out.chg hC HK.out.size (by omega)
          have a0' := hC.cell (by omega) a0
          have a1' := hC.cell (by omega) a1
          have b0' := hC.cell (by omega) b0
          have b1' := hC.cell (by omega) b1
          have nA := HVA.out.at_ HNA.out
          have nB := HVB.out.at_ HNB.out
          have HT3 := Lib.hid (HT2.out.chg hC HNE.out)
          have HR2 := Lib.hid hrow2
          have HR3 := Lib.hid hr'
          have HRH := Lib.hid hρ
          have HK2 := Lib.hid hK2
          clear a0 a1 b0 b1 c0 c1 HT HT2 HK HR hrow2 hr' hρ hch hC hK2 C
          obtain ⟨g0, g1, g2, _, va, g3, hav⟩ := nA
          obtain ⟨k0, k1, k2, _, vb, k3, hbv⟩ := nB
          obtain ⟨vab, vac, rfl⟩ := hav.len
          obtain ⟨vbb, vbc, rfl⟩ := hbv.len
          have hav2 := hav.grown fun _ _ _ h => HK2.out.cells h
          have hbv2 := hbv.grown fun _ _ _ h => HK2.out.cells h
          have HAV := Lib.hid hav
          have HBV := Lib.hid hbv
          have HK3A := Lib.hid k3
          replace g0 := HK2.out.cells g0
          replace g1 := HK2.out.cells g1
          replace g2 := HK2.out.cells g2
          replace g3 := HK2.out.cells g3
          replace k0 := HK2.out.cells k0
          replace k1 := HK2.out.cells k1
          replace k2 := HK2.out.cells k2
          replace k3 := HK2.out.cells k3
          clear hav hbv
          have CO := fun w h h' => orderFaces_ok na nb (.slice vab na.args.length vac) (.slice vbb nb.args.length vbc) w h h'
          by_cases hc : fcmp na.face nb.face = 0
          · rw [hc] at CO
            have HC := Lib.hid hc
            clear hc
            go_wp2_with fail
            go_still_tail 10, (by kernel_rfl)
            change wpList _ _ _ _ _ w2.drew
            go_wp2_with fail
            refine (CO _ ?_ ?_).mono ?_
            · exact hav2.grown fun _ _ _ h => h
            · exact hbv2.grown fun _ _ _ h => h
            rintro e w3 ⟨rfl, hk3⟩
            have hk3 : Kp w2.heap.size w2 w3 := ⟨hk3.os, hk3.output, hk3.size, hk3.block⟩
            have a0 := hk3.cells a0'
            have b0 := hk3.cells b0'
            have a1 := hk3.cells a1'
            have b1 := hk3.cells b1'
            have g3' := hk3.cells g3
            have k3' := hk3.cells k3
            have HT4 := Lib.hid (HT3.out.kp hk3)
            have HR4 := Lib.hid (HR2.out.kp hk3)
            have HK3 := Lib.hid (HK2.out.trans (hk3.mono HK2.out.size))
            clear a0' a1' b0' b1' g0 g1 g2 g3 k0 k1 k2 k3 hav2 hbv2 HT3 HR2 HK2 hk3 CO
            have hff := (fcmp_cp.eq _ _).1 HC.out
            have hlen : na.args.length = nb.args.length := by
              unfold Nd.face at hff
              injection hff with _ h2
              injection h2 with h3 _
            have h8 := (HA.out na (List.mem_of_getElem? HNA.out)).1
            have HLEN := Lib.hid hlen
            have HFF := Lib.hid hff
            have hG := HG.out
            have hR3 := HR3.out
            have hlQ : Q'.length = q - 1 := by have := HQ.out; simp only [List.length_cons] at this; omega
            have HLQ := Lib.hid hlQ
            clear hff hlen hG hR3 hlQ
            go_wp2_with fail
            go_loopg [6, 69] na.args.length (fun g2 v6 i wi => ∃ k pb' po' cap', k + g2 = na.args.length ∧ i = .int .i64 k ∧ v6 = .slice (some ⟨pb', po', none⟩) (q - 1 + k) cap' ∧
              Seg (W.heap.size + 2) 2 wi pb' po' (q - 1 + k) cap' (qCells Q' ++ qCells ((under na.args nb.args p).take k)) ∧ pb' ≠ W.heap.size + 2 ∧ LRow wi (W.heap.size + 2) (A.length + B.length) ρ' r' ∧ Kp W.heap.size W wi ∧
              wi.cell? ⟨W.heap.size, 0, none⟩ = some (.slice (some ⟨ab, ao, none⟩) A.length ac) ∧ wi.cell? ⟨W.heap.size, 1, none⟩ = some (.int .i64 ra) ∧ wi.cell? ⟨W.heap.size + 1, 0, none⟩ = some (.slice (some ⟨bb, bo, none⟩) B.length bc) ∧ wi.cell? ⟨W.heap.size + 1, 1, none⟩ = some (.int .i64 rb))
            case atStart =>
              refine ⟨0, pb, _, _, by omega, rfl, rfl, ?_, HNE.out, HR4.out, HK3.out, a0, a1, b0, b1⟩
              simpa [qCells] using HT4.out
            case round =>
              obtain ⟨k, pb', po', cap', hkg, rfl, rfl, hseg, hne, hrow, hkp, a0, a1, b0, b1⟩ := hrel
              have hfit := hseg.fit
              have hmaxc' : cap' ≤ 9223372036854775807 := by have := hseg.max; unfold maxLen at this; omega
              by_cases hlt : k < na.args.length
              · obtain ⟨b1', o1', rfl, hca⟩ := HAV.out.some hlt
                obtain ⟨b2', o2', hvbb, hcb⟩ := HBV.out.some (k := k) (by rw [← HLEN.out]; exact hlt)
                have k3' := hkp.cells HK3A.out
                rw [hvbb] at k3'
                clear hvbb
                replace hca := hkp.cells hca
                replace hcb := hkp.cells hcb
                have hlt2 : k < nb.args.length := by rw [← HLEN.out]; exact hlt
                obtain ⟨z1, hz1e⟩ : ∃ z, na.args.getD k 0 = z := ⟨_, rfl⟩
                obtain ⟨z2, hz2e⟩ : ∃ z, nb.args.getD k 0 = z := ⟨_, rfl⟩
                rw [hz1e] at hca
                rw [hz2e] at hcb
                have HZ1 := Lib.hid hz1e
                have HZ2 := Lib.hid hz2e
                clear hz1e hz2e
                obtain ⟨i60, hi0, hz0, hz1, hz2⟩ := info_parts Tryz.info60
                have HS5 := Lib.hid hseg
                have HR5 := Lib.hid hrow
                have HK5 := Lib.hid hkp
                have HNE5 := Lib.hid hne
                have hqG : q ≤ 200000 := by have := HG.out; omega
                have hx0 := Lib.hid (fun a ha => ((HA.out na (List.mem_of_getElem? HNA.out)).2 a ha).1)
                have hy0 := Lib.hid (fun a ha => ((HB.out nb (List.mem_of_getElem? HNB.out)).2 a ha).1)
                have hqk : q - 1 + k + 1 ≤ 300000 := by omega
                have hszw : W.heap.size + 2 ≤ wr.heap.size := by have := hrow.lt; omega
                clear hseg hrow hne hkp
                go_wp2_with (at_builtin; refine wpList_append_mine rfl (.tmp 74) (.tmp 86) 61 rfl (W.heap.size + 2) 60 i60 (.agg #[.int .i64 0, .int .i64 0]) 2 16 Tryz.underlying61 hi0 hz0 hz1 hz2 rfl (by decide) (.slice (some ⟨pb', po', none⟩) (q - 1 + k) cap') (q - 1 + k) _ rfl ((HS5.out.kp ((Kp.refl _ _).alloc (Nat.le_refl _) _)).own) ⟨wr.heap.size, 0, none⟩ 1 1 [.int .i64 z1, .int .i64 z2] rfl rfl (news_alloc wr [.int .i64 z1, .int .i64 z2] 60) (by simp [Value.oneCell']) (by unfold maxLen; omega) (by omega) (by simp; omega) ?_; intro v' w4 hown4 hgrow4 hblk4)
                obtain ⟨b4, o4, c4, rfl, hs4⟩ := hown4.seg (by omega)
                have hal : Kp wr.heap.size wr (wr.alloc (Obj.cells #[Value.int .i64 z1, Value.int .i64 z2] 60)) := (Kp.refl _ _).alloc (Nat.le_refl _) _
                have hC4 : Chg pb' (wr.alloc (Obj.cells #[Value.int .i64 z1, Value.int .i64 z2] 60)) w4 := Chg.of_grownBy hgrow4
                have hlo4 := HS5.out.lo
                have hlb := HR5.out.lt
                have hne4 : b4 ≠ W.heap.size + 2 := by
                  have hne5 := HNE5.out
                  rcases hblk4 with e | ⟨g, e, hg⟩
                  · obtain rfl : b4 = pb' := Option.some.inj e
                    exact hne5
                  · obtain rfl : b4 = g := Option.some.inj e
                    have := hal.size
                    omega
                have hcells : qCells Q' ++ qCells ((under na.args nb.args p).take k) ++ [Value.int .i64 z1, Value.int .i64 z2] = qCells Q' ++ qCells ((under na.args nb.args p).take (k + 1)) := by
                  rw [← HZ1.out, ← HZ2.out]
                  exact qCells_step hlt hx0.out hy0.out hlt2
                rw [hcells] at hs4
                go_roundg (gk - 1)
                case measure => omega
                case rel =>
                  exact ⟨k + 1, b4, o4, c4, by omega, by go_num, rfl, hs4, hne4, (HR5.out.kp hal).of_heap (hC4.block _ (by have := hal.size; omega) (Ne.symm HNE5.out)), (HK5.out.trans (hal.mono (by omega))).chg hC4 (by have := hal.size; omega) (by omega),
                    hC4.cell (by omega) (hal.cells a0), hC4.cell (by omega) (hal.cells a1), hC4.cell (by omega) (hal.cells b0), hC4.cell (by omega) (hal.cells b1)⟩
              · obtain rfl : k = na.args.length := by omega
                have hG := HG.out
                have hR3 := HR3.out
                have hlQ := HLQ.out
                have hres := HI.out.go HA.out HB.out hra hrb HNA.out HNB.out HFF.out (fun u v _ _ h => HRH.out u v h)
                rw [List.take_of_length_le (by rw [under_length]; exact Nat.le_refl _), ← qCells_append] at hseg
                go_wp2_with fail
                go_roundg (9 * r' + (q - 1 + na.args.length))
                case measure => omega
                case rel =>
                  exact ⟨pb', po', q - 1 + na.args.length, cap', rfl, ⟨_, p + 1, ρ', r', hres, hseg, by rw [List.length_append, under_length, hlQ], hrow, Nat.le_refl _⟩, hne, HLO.out, hkp, a0, a1, b0, b1, by omega⟩
          · have hcne : (fcmp na.face nb.face != 0) = true := by simpa using hc
            have HC := Lib.hid hc
            clear hc
            go_wp2_with fail
            go_still_tail 10, (by kernel_rfl)
            change wpList _ _ _ _ _ w2.drew
            go_wp2_with fail
            refine (CO _ ?_ ?_).mono ?_
            · exact hav2.grown fun _ _ _ h => h
            · exact hbv2.grown fun _ _ _ h => h
            rintro e w3 ⟨rfl, hk3⟩
            have HK3 := Lib.hid (HK2.out.drew.trans (hk3.mono HK2.out.size))
            clear hk3 CO
            obtain ⟨n1, n2, _, _⟩ := HI.out.at_ _ (List.mem_cons_self ..)
            have f1 : faceOf A x = some na.face := by unfold faceOf; rw [HNA.out]; rfl
            have f2 : faceOf B y = some nb.face := by unfold faceOf; rw [HNB.out]; rfl
            have HCMP := Lib.hid (show Cmp fcmp A ra B rb (fcmp na.face nb.face) from .inr ⟨p, _, _, HI.out.differ HA.out HB.out hra hrb (fun e => HC.out (by rw [f1, f2] at e; rw [Option.some.inj e]; exact (fcmp_cp.eq _ _).2 rfl)), (faceAt_node n1).trans f1, (faceAt_node n2).trans f2, rfl⟩)
            clear f1 f2 n1 n2
            go_wp2
            go_ret
            exact ⟨_, rfl, HCMP.out, HK3.out⟩
end Go.Ev
