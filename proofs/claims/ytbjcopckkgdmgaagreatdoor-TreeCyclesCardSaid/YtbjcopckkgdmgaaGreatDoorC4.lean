import Derived.Test.YtbjcopckkgdmgaaGreatDoorC1
import Derived.Test.YtbjcopckkgdmgaaGreatDoorLn1
import Derived.Test.YtbjcopckkgdmgaaGreatDoorLa1
import Derived.Test.YtbjcopckkgdmgaaGreatDoorRe1
import Derived.StillTailTactics
/- Finite trees and ways back: the mathematics of TreeCycles. -/
namespace Go.Ev
open Go.Proofs Go.RowKit

/-- Where no node leads to itself, each is finite. -/
theorem acyclic_ends {G : List Nd} (hG : GClosed G) (h : ∀ i, i < G.length → ¬ Leads G i i) : ∀ (f x : Nat) (S : List Nat), S.Nodup → (∀ s ∈ S, s < G.length) → (∀ s ∈ S, s = x ∨ Leads G s x) → G.length ≤ S.length + f → Ends G x := by
  intro f
  induction f with
  | zero =>
    intro x S hn hlt hs hf
    refine .node x fun a ha => ?_
    exfalso
    have haS : a ∉ S := fun hm => by
      rcases hs a hm with rfl | l
      · exact h a (hlt a hm) (.one ha)
      · exact h a (hlt a hm) (.more l ha)
    have := nodup_le G.length (a :: S) (List.nodup_cons.2 ⟨haS, hn⟩) (fun y hy => by
      rcases List.mem_cons.1 hy with rfl | hy
      · exact argsAt_lt hG ha
      · exact hlt y hy)
    simp at this
    omega
  | succ f ih =>
    intro x S hn hlt hs hf
    refine .node x fun a ha => ?_
    have haS : a ∉ S := fun hm => by
      rcases hs a hm with rfl | l
      · exact h a (hlt a hm) (.one ha)
      · exact h a (hlt a hm) (.more l ha)
    refine ih a (a :: S) (List.nodup_cons.2 ⟨haS, hn⟩) (fun y hy => ?_) (fun y hy => ?_) (by simp; omega)
    · rcases List.mem_cons.1 hy with rfl | hy
      · exact argsAt_lt hG ha
      · exact hlt y hy
    · rcases List.mem_cons.1 hy with rfl | hy
      · exact .inl rfl
      · rcases hs y hy with rfl | l
        · exact .inr (.one ha)
        · exact .inr (.more l ha)

theorem ends_nodeAt {G : List Nd} {r : Nat} (h : Ends G r) : ∀ (t x : Nat), nodeAt G r t = some x → Ends G x := by
  intro t
  induction t using Nat.strongRecOn with
  | _ t ih =>
    intro x hx
    by_cases ht : t = 0
    · subst ht
      rw [nodeAt_zero] at hx
      cases hx; exact h
    · have e : t = 8 * ((t - 1) / 8) + (t - 1) % 8 + 1 := by omega
      rw [e, nodeAt_child _ _ _ _ (by omega)] at hx
      cases hy : nodeAt G r ((t - 1) / 8) with
      | none => rw [hy] at hx; cases hx
      | some y =>
        rw [hy] at hx
        have hc : child G y ((t - 1) % 8) = some x := hx
        rw [child_args] at hc
        exact (ih ((t - 1) / 8) (by omega) y hy).args x (List.mem_of_getElem? hc)

/-- A least graph is of an infinite tree if a node leads to itself, and only then. -/
theorem cyclic_iff {L : List Nd} (hL : Canon L) : ¬ Ends L 0 ↔ ∃ i, i < L.length ∧ Leads L i i := by
  constructor
  · intro h
    refine Classical.byContradiction fun hn => h ?_
    refine acyclic_ends hL.closed (fun i hi l => hn ⟨i, hi, l⟩) L.length 0 [] List.nodup_nil (by simp) (by simp) (by simp)
  · rintro ⟨i, hi, l⟩ h
    have hre := reach_ok hL.closed hL.some
    rw [hL.order] at hre
    obtain ⟨t, ht⟩ := hre.path i (by simpa using hi)
    exact not_fin l (ends_nodeAt h t i ht)

/-- What is reached from an argument. -/
theorem leads_iff {G : List Nd} (hG : GClosed G) {i : Nat} : Leads G i i ↔ ∃ a ∈ argsAt G i, i ∈ reach G a := by
  constructor
  · intro l
    have gen : ∀ y, Leads G i y → ∃ a ∈ argsAt G i, y ∈ reach G a := by
      intro y l
      induction l with
      | one ha =>
        have hre := reach_ok hG (argsAt_lt hG ha)
        obtain ⟨m, hm⟩ := hre.first
        exact ⟨_, ha, by rw [hm]; simp⟩
      | more _ ha ih =>
        obtain ⟨b, hb, hy⟩ := ih
        exact ⟨b, hb, (reach_ok hG (argsAt_lt hG hb)).closed _ hy _ ha⟩
    exact gen i l
  · rintro ⟨a, ha, hi⟩
    have hre := reach_ok hG (argsAt_lt hG ha)
    obtain ⟨t, ht⟩ := hre.path i hi
    have gen : ∀ (t x : Nat), nodeAt G a t = some x → x = a ∨ Leads G a x := by
      intro t
      induction t using Nat.strongRecOn with
      | _ t ih =>
        intro x hx
        by_cases h0 : t = 0
        · subst h0
          rw [nodeAt_zero] at hx
          cases hx; exact .inl rfl
        · have e : t = 8 * ((t - 1) / 8) + (t - 1) % 8 + 1 := by omega
          rw [e, nodeAt_child _ _ _ _ (by omega)] at hx
          cases hy : nodeAt G a ((t - 1) / 8) with
          | none => rw [hy] at hx; cases hx
          | some y =>
            rw [hy] at hx
            have hc : child G y ((t - 1) % 8) = some x := hx
            rw [child_args] at hc
            have hm := List.mem_of_getElem? hc
            rcases ih ((t - 1) / 8) (by omega) y hy with rfl | l
            · exact .inr (.one hm)
            · exact .inr (.more l hm)
    rcases gen t i ht with rfl | l
    · exact .one ha
    · exact l.step ha
end Go.Ev

/- TreeCycles: the law. -/
namespace Go.Ev
open Go.Proofs Go.RowKit Go.Lib
set_option maxRecDepth 100000

set_option maxHeartbeats 16000000 in
theorem treeCycles_ok (va : Value) (A : List Nd) (za : Int) (W : World) (ha : NodesV W va A) (hva : validB A za = true) (hfit : ∀ n ∈ A, FitN n) (hga : decide (60 < (A.length : Int)) = false) :
    Calls Tryz.prog 15 #[.agg #[va, .int .i64 za]] W fun e w' => e = .returned (.bool true) ∧ Kp W.heap.size W w' := by
  obtain ⟨ra, rfl, hra, hA8, hA⟩ := valid_nodes hva
  have GA := fun w (h : L1 W va ra w) => great_ok _ A ra w (ha.kp h.kp)
  rw [hga] at GA
  have RV := fun w (h : L1 W va ra w) => rvalid_ok va A ra w (ha.kp h.kp)
  rw [hva] at RV
  have TL := fun w (h : L1 W va ra w) => tleast_ok _ A ra w (ha.kp h.kp) hva hfit
  have TC := fun w (h : L1 W va ra w) => tcyclic_ok _ A ra w (ha.kp h.kp) hva
  have s0 : L1 W va ra (W.alloc (Obj.cells #[va, Value.int IntKind.i64 ra] 24)) := ⟨by go_simp, by go_simp, (Kp.refl _ _).alloc (Nat.le_refl _) _⟩
  obtain ⟨W2, hW2⟩ : ∃ W2, W2 = W.alloc (Obj.cells #[va, Value.int IntKind.i64 ra] 24) := ⟨_, rfl⟩
  rw [← hW2] at s0
  have HTL := Lib.hid TL
  have HTC := Lib.hid TC
  have HRV := Lib.hid RV
  have HAC := Lib.hid hA
  clear ha hva hfit TL TC RV hA hga
  go_enter Tryz.func15, Tryz.ntmps15
  go_wp2_with fail
  rw [← hW2]
  clear hW2
  refine (GA _ s0).mono ?_
  rintro e w1 ⟨rfl, k1⟩
  have S1 := Lib.hid (s0.step k1)
  obtain ⟨a0, a1, -⟩ := s0.step k1
  clear s0 k1 GA
  go_wp2_with fail
  refine (HRV.out _ S1.out).mono ?_
  rintro e w1' ⟨rfl, k1⟩
  have S1' := Lib.hid (S1.out.step k1)
  clear a0 a1
  obtain ⟨a0, a1, -⟩ := S1.out.step k1
  clear k1
  go_wp2_with fail
  refine (HTL.out _ S1'.out).mono ?_
  rintro e w2 ⟨L, v, us, rfl, hon, hcan, hbis, hle, k2⟩
  have hL0 := hcan.some
  have hnod := hon.nodes
  obtain ⟨xb, xo, xc, rfl⟩ := hnod.shape hL0
  obtain ⟨w3, hw3⟩ : ∃ w3, w3 = w2.alloc (Obj.cells #[.slice (some ⟨xb, xo, none⟩) L.length xc, Value.int IntKind.i64 0] 24) := ⟨_, rfl⟩
  have k23 : Kp w2.heap.size w2 w3 := by rw [hw3]; exact (Kp.refl _ _).alloc (Nat.le_refl _) _
  have S3 := Lib.hid ((S1'.out.step k2).step k23)
  obtain ⟨X, hX⟩ : ∃ X, X = w2.heap.size := ⟨_, rfl⟩
  have hbX := heap_top hw3 hX.symm
  have HKEEP := Lib.hid (show ∀ w, Kp w3.heap.size w3 w → w.cell? ⟨X, 0, none⟩ = some (.slice (some ⟨xb, xo, none⟩) L.length xc) ∧ NodesV w (.slice (some ⟨xb, xo, none⟩) L.length xc) L ∧ L1 W va ra w from fun w hk =>
    ⟨hk.cells (by unfold World.cell?; rw [hbX]; rfl), (hnod.kp k23).kp hk, S3.out.step hk⟩)
  have HCN := Lib.hid hcan
  have HBS := Lib.hid hbis
  have HW3 := Lib.hid hw3
  have HX := Lib.hid hX
  have hL8 : L.length ≤ 8000 := by omega
  clear hon hcan hbis hnod hle k2 k23 hw3 hX hbX a0 a1
  go_wp2_with fail
  rw [← HW3.out, ← HX.out]
  go_loopw [5, 6, 7, 8, 9] (fun v5 v6 _ _ _ wr => ∃ (i : Nat) (b : Bool), i ≤ L.length ∧ v6 = .int .i64 (i : Int) ∧ v5 = .bool b ∧ (b = true ↔ ∃ y, y < i ∧ Leads L y y) ∧ Kp w3.heap.size w3 wr) (fun _ v6 _ _ _ _ => L.length - (RowKit.intOf v6).toNat)
  case atStart => exact ⟨0, false, Nat.zero_le _, rfl, rfl, ⟨fun h => (by cases h), fun ⟨y, hy, _⟩ => (by omega)⟩, Kp.refl _ _⟩
  case round =>
    obtain ⟨i, b, hi, rfl, rfl, hb, hkr⟩ := hrel
    obtain ⟨x0, hnv, hl1⟩ := HKEEP.out _ hkr
    have HB := Lib.hid hb
    by_cases hil : i < L.length
    · obtain ⟨nd, hnd⟩ : ∃ nd, L[i]? = some nd := ⟨_, List.getElem?_eq_getElem hil⟩
      obtain ⟨hgc, hcell⟩ := hnv.at hL0
      obtain ⟨_, _, _, _, va', n4, hav⟩ := hcell i nd hnd
      obtain ⟨aa, ac, rfl⟩ := hav.len
      obtain ⟨h8, hargs⟩ := HCN.out.closed nd (List.mem_of_getElem? hnd)
      have hat : nd.args.map Int.toNat = argsAt L i := by unfold argsAt; rw [hnd]
      have HND := Lib.hid hnd
      have HAR := Lib.hid hargs
      have HAT := Lib.hid hat
      have HKR := Lib.hid hkr
      have N4 := Lib.hid n4
      obtain ⟨wo, rfl⟩ : ∃ wo : World, wo = wr := ⟨_, rfl⟩
      clear hb hkr hnv hl1 hnd hcell hav hargs hat n4
      go_wp2_with fail
      go_loopw [5, 7, 8, 9] (fun v5 v7 _ _ wr => ∃ (k : Nat) (b : Bool), k ≤ nd.args.length ∧ v7 = .int .i64 (k : Int) ∧ v5 = .bool b ∧ (b = true ↔ (∃ y, y < i ∧ Leads L y y) ∨ ∃ a ∈ (argsAt L i).take k, i ∈ reach L a) ∧ Kp w3.heap.size w3 wr ∧ wr.cell? ⟨xb, xo + i * 4 + 3, none⟩ = some (.slice aa nd.args.length ac)) (fun _ v7 _ _ _ => nd.args.length - (RowKit.intOf v7).toNat)
      case atStart => exact ⟨0, b, Nat.zero_le _, rfl, rfl, by rw [HB.out]; simp, HKR.out, N4.out⟩
      case round =>
        obtain ⟨k, b, hk, rfl, rfl, hb, hkr, n4⟩ := hrel
        clear x0
        obtain ⟨x0, hnv, -⟩ := HKEEP.out _ hkr
        by_cases hkm : k < nd.args.length
        · obtain ⟨_, hcell⟩ := hnv.at hL0
          obtain ⟨_, _, _, _, va', m4, hav⟩ := hcell i nd HND.out
          rw [n4] at m4
          obtain rfl := Option.some.inj m4
          obtain ⟨b0, o0, rfl, hac, -, hck⟩ := args_cellAt hav hkm
          obtain ⟨a, hxa⟩ : ∃ a : Nat, nd.args[k] = (a : Int) := ⟨_, (Int.toNat_of_nonneg (HAR.out _ (List.getElem_mem hkm)).1).symm⟩
          have hca := hck k _ (List.getElem?_eq_getElem hkm)
          have haL := (HAR.out _ (List.getElem_mem hkm)).2
          rw [hxa] at hca haL
          have haL' : a < L.length := by omega
          have hak : (argsAt L i)[k]? = some a := by rw [← HAT.out, List.getElem?_map, List.getElem?_eq_getElem hkm, hxa]; rfl
          have HAK := Lib.hid hak
          have HBK := Lib.hid hb
          have HKK := Lib.hid hkr
          have M4 := Lib.hid n4
          have RE := reached_ok L a wr.drew xb xo xc HCN.out.closed haL' (by omega) (hnv.kp ((Kp.refl _ _).drew))
          have HRE := Lib.hid RE
          clear RE hb hkr hnv hcell hav hck hxa hak m4
          go_wp2_with fail
          go_still_tail 11, (by kernel_rfl)
          go_wp2_with fail
          refine HRE.out.mono ?_
          rintro e w8 ⟨ob, oo, oc, rfl, hseg, k8⟩
          have KW := Lib.hid (HKK.out.drew.trans (k8.mono HKK.out.drew.size))
          have C8 := Lib.hid (k8.cells (show wr.drew.cell? ⟨xb, xo + i * 4 + 3, none⟩ = _ from M4.out))
          obtain ⟨l, hl⟩ : ∃ l, l = reach L a := ⟨_, rfl⟩
          rw [← hl] at hseg ⊢
          have HSEG := Lib.hid hseg
          have HLL := Lib.hid hl
          have hfit := hseg.fit
          have hl9 : l.length ≤ 8000 := by rw [hl]; exact Nat.le_trans (reach_le HCN.out.closed haL') hL8
          clear k8 hseg hl n4 hca
          go_wp2_with fail
          go_loopw [5, 9] (fun v5 v9 wk => ∃ (j : Nat) (b' : Bool), j ≤ l.length ∧ v9 = .int .i64 (j : Int) ∧ v5 = .bool b' ∧ (b' = true ↔ b = true ∨ i ∈ l.take j) ∧ wk = w8) (fun _ v9 _ => l.length - (RowKit.intOf v9).toNat)
          case atStart => exact ⟨0, b, Nat.zero_le _, rfl, rfl, by simp, rfl⟩
          case round =>
            obtain ⟨j, b', hj, rfl, rfl, hbj, rfl⟩ := hrel
            by_cases hjl : j < l.length
            · obtain ⟨z, hlj⟩ : ∃ z, l[j]? = some z := ⟨_, List.getElem?_eq_getElem hjl⟩
              have hcj := HSEG.out.cell (j := j) (u := .int .i64 (z : Int)) (by unfold intsV; rw [List.getElem?_map, hlj]; rfl)
              have HT := Lib.hid (takeSnoc hlj)
              have HBJ := Lib.hid hbj
              clear hbj hlj
              cases b' with
              | true =>
                go_wp2_with fail
                go_roundw
                case rel => exact ⟨j + 1, true, by omega, by go_num, rfl, ⟨fun _ => (HBJ.out.1 (by first | trivial | rfl)).imp_right fun h => by rw [HT.out]; exact List.mem_append_left _ h, fun _ => rfl⟩, by first | trivial | rfl⟩
                case measure => simp [RowKit.intOf]; omega
              | false =>
                by_cases hzi : z = i
                · subst hzi
                  go_wp2_with fail
                  go_roundw
                  case rel => exact ⟨j + 1, true, by omega, by go_num, rfl, ⟨fun _ => .inr (by rw [HT.out]; simp), fun _ => rfl⟩, by first | trivial | rfl⟩
                  case measure => simp [RowKit.intOf]; omega
                · have hzz : decide ((z : Int) = (i : Int)) = false := by simp; omega
                  have HZI := Lib.hid hzi
                  have HZB := Lib.hid (show ((z : Int) == (i : Int)) = false from by rw [beq_eq_false_iff_ne]; omega)
                  go_wp2_with fail
                  go_roundw
                  case rel => exact ⟨j + 1, false, by omega, by go_num, congrArg Value.bool HZB.out, ⟨fun h => (by cases h), fun h => HBJ.out.2 (h.imp_right fun h => by
                    rw [HT.out] at h
                    rcases List.mem_append.1 h with h | h
                    · exact h
                    · simp at h; exact absurd h.symm HZI.out)⟩, by first | trivial | rfl⟩
                  case measure => simp [RowKit.intOf]; omega
            · have hje : l.take j = l := List.take_of_length_le (by omega)
              have HBJ := Lib.hid (show b' = true ↔ b = true ∨ i ∈ l from by rw [hbj, hje])
              have hjl2 : (l.length : Int) ≤ (j : Int) := by omega
              clear hbj hje hj
              go_wp2_with fail
              go_roundw
              case rel => exact ⟨k + 1, b', by omega, by go_num, rfl, by
                rw [HBJ.out, HBK.out, takeSnoc HAK.out, HLL.out]
                simp only [List.mem_append, List.mem_singleton]
                constructor
                · rintro ((h | ⟨a', h, h'⟩) | h)
                  · exact .inl h
                  · exact .inr ⟨a', .inl h, h'⟩
                  · exact .inr ⟨a, .inr rfl, h⟩
                · rintro (h | ⟨a', h | rfl, h'⟩)
                  · exact .inl (.inl h)
                  · exact .inl (.inr ⟨a', h, h'⟩)
                  · exact .inr h', KW.out, C8.out⟩
              case measure => simp [RowKit.intOf]; omega
        · have hke : (argsAt L i).take k = argsAt L i := List.take_of_length_le (by rw [← HAT.out, List.length_map]; omega)
          have HBK := Lib.hid (show b = true ↔ ∃ y, y < i + 1 ∧ Leads L y y from by
            rw [hb, hke, ← leads_iff HCN.out.closed]
            constructor
            · rintro (⟨y, h1, h2⟩ | h)
              · exact ⟨y, by omega, h2⟩
              · exact ⟨i, by omega, h⟩
            · rintro ⟨y, h1, h2⟩
              by_cases e : y = i
              · subst e; exact .inr h2
              · exact .inl ⟨y, by omega, h2⟩)
          have HKK := Lib.hid hkr
          have hkm2 : (nd.args.length : Int) ≤ (k : Int) := by omega
          clear hb hkr hnv hke hk
          go_wp2_with fail
          go_roundw
          case rel => exact ⟨i + 1, b, by omega, by go_num, rfl, HBK.out, HKK.out⟩
          case measure => simp [RowKit.intOf]; omega
    · have hie : i = L.length := by omega
      have HB2 := Lib.hid (show b = true ↔ ¬ Ends A ra from by
        have h1 := HB.out
        rw [hie] at h1
        rw [h1, ← (show Ends L 0 ↔ Ends A ra from ⟨fun h => h.bis HCN.out.closed HAC.out hL0 hra (by simpa using HBS.out), fun h => h.bis HAC.out HCN.out.closed hra hL0 (by simpa using HBS.out.symm)⟩), cyclic_iff HCN.out])
      have hin2 : (L.length : Int) ≤ (i : Int) := by omega
      have a0 := hl1.a0
      have a1 := hl1.a1
      have HL1 := Lib.hid hl1
      clear hb hkr hnv hl1 hie hi
      go_wp2_with fail
      refine (HTC.out _ HL1.out).mono ?_
      rintro e w9 ⟨b', rfl, hb', k9⟩
      have hbb : b' = b := by rw [Bool.eq_iff_iff, hb', HB2.out]; simp
      rw [hbb]
      have S9 := Lib.hid (HL1.out.step k9)
      clear k9 hb' hbb a0 a1 x0
      cases b
      all_goals
        go_wp2_with (go_at_call 19; refine (alive_kp _).mono ?_; rintro e w11 ⟨rfl, k11⟩; have S11 := Lib.hid (S9.out.step k11); clear k11)
        go_ret
        exact ⟨rfl, S11.out.kp⟩

set_option maxHeartbeats 4000000 in
theorem treeCycles_skip (va : Value) (A : List Nd) (za : Int) (W : World) (ha : NodesV W va A) (hga : decide (60 < (A.length : Int)) = true ∨ validB A za = false) :
    Calls Tryz.prog 15 #[.agg #[va, .int .i64 za]] W fun e w' => e = .returned (.bool true) ∧ Kp W.heap.size W w' := by
  have GA := fun w (h : L1 W va za w) => great_ok _ A za w (ha.kp h.kp)
  have RV := fun w (h : L1 W va za w) => rvalid_ok va A za w (ha.kp h.kp)
  have s0 : L1 W va za (W.alloc (Obj.cells #[va, Value.int IntKind.i64 za] 24)) := ⟨by go_simp, by go_simp, (Kp.refl _ _).alloc (Nat.le_refl _) _⟩
  obtain ⟨W2, hW2⟩ : ∃ W2, W2 = W.alloc (Obj.cells #[va, Value.int IntKind.i64 za] 24) := ⟨_, rfl⟩
  rw [← hW2] at s0
  have HRV := Lib.hid RV
  obtain ⟨g, hg⟩ : ∃ g, decide (60 < (A.length : Int)) = g := ⟨_, rfl⟩
  rw [hg] at GA hga
  have HGA := Lib.hid hga
  clear ha RV hg hga
  go_enter Tryz.func15, Tryz.ntmps15
  go_wp2_with fail
  rw [← hW2]
  clear hW2
  refine (GA _ s0).mono ?_
  rintro e w1 ⟨rfl, k1⟩
  have S1 := Lib.hid (s0.step k1)
  obtain ⟨a0, a1, -⟩ := s0.step k1
  clear s0 k1 GA
  cases g
  · have hv : validB A za = false := HGA.out.resolve_left (by simp)
    have RV := HRV.out _ S1.out
    rw [hv] at RV
    have HR := Lib.hid RV
    clear RV hv
    go_wp2_with fail
    refine HR.out.mono ?_
    rintro e w1' ⟨rfl, k1⟩
    have S2 := Lib.hid (S1.out.step k1)
    clear k1 a0 a1
    go_wp2_with (go_at_call 19; refine (alive_kp _).mono ?_; rintro e w7 ⟨rfl, k7⟩; have S7 := Lib.hid (S2.out.step k7); clear k7)
    go_ret
    exact ⟨rfl, S7.out.kp⟩
  · go_wp2_with (go_at_call 19; refine (alive_kp _).mono ?_; rintro e w7 ⟨rfl, k7⟩; have S7 := Lib.hid (S1.out.step k7); clear k7)
    go_ret
    exact ⟨rfl, S7.out.kp⟩

theorem treeCycles_true (va : Value) (A : List Nd) (za : Int) (W : World) (ha : NodesV W va A) (hfit : ∀ n ∈ A, FitN n) :
    Calls Tryz.prog 15 #[.agg #[va, .int .i64 za]] W fun e w' => e = .returned (.bool true) ∧ Kp W.heap.size W w' := by
  cases hg : decide (60 < (A.length : Int)) with
  | true => exact treeCycles_skip va A za W ha (.inl hg)
  | false =>
    cases hv : validB A za with
    | false => exact treeCycles_skip va A za W ha (.inr hv)
    | true => exact treeCycles_ok va A za W ha hv hfit hg
end Go.Ev
