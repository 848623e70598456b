import Derived.Test.YtbjcopckkgdmgaaGreatDoorOd2
import Derived.Test.YtbjcopckkgdmgaaGreatDoorLgA
import Derived.Deep.RegionHeld3
/- The document's own answers on trees: nodes compared. -/
namespace Go.Ev
open Go.Proofs Go.RowKit Go.Lib
set_option maxRecDepth 100000

/-- A node as a value. -/
abbrev nodeV (x : Nd) (v : Value) : Value := .agg #[.int .i64 x.kind, .int .i64 x.num, .string x.label, v]

def alikeB (x y : Nd) : Bool := x.kind == y.kind && (x.num == y.num && (x.label.toList == y.label.toList && ((x.args.length : Int) == (y.args.length : Int))))
theorem alike_iff {x y : Nd} : alikeB x y = true ↔ x.face = y.face := by
  unfold alikeB Nd.face
  simp only [Bool.and_eq_true, beq_iff_eq, Prod.mk.injEq]
  constructor
  · rintro ⟨h1, h2, h3, h4⟩
    exact ⟨h1, by omega, bytes_inj h3, h2⟩
  · rintro ⟨h1, h2, h3, h4⟩
    exact ⟨h1, h4, by rw [h3], by omega⟩

set_option maxHeartbeats 2000000 in
theorem alike_ok (x y : Nd) (va vb : Value) (W : World) (ha : ArgsV W va x.args) (hb : ArgsV W vb y.args) :
    Calls Tryz.prog 46 #[nodeV x va, nodeV y vb] W fun e w' => e = .returned (.bool (alikeB x y)) ∧ Kp W.heap.size W w' := by
  obtain ⟨ab, ac, rfl⟩ := ha.len
  obtain ⟨bb, bc, rfl⟩ := hb.len
  clear ha hb
  obtain ⟨e1, he1⟩ : ∃ b, (x.kind == y.kind) = b := ⟨_, rfl⟩
  obtain ⟨e2, he2⟩ : ∃ b, (x.num == y.num) = b := ⟨_, rfl⟩
  obtain ⟨e3, he3⟩ : ∃ b, (x.label.toList == y.label.toList) = b := ⟨_, rfl⟩
  obtain ⟨e4, he4⟩ : ∃ b, ((x.args.length : Int) == (y.args.length : Int)) = b := ⟨_, rfl⟩
  have HV := Lib.hid (show alikeB x y = (e1 && (e2 && (e3 && e4))) by unfold alikeB; rw [he1, he2, he3, he4])
  cases e1 <;> cases e2 <;> cases e3 <;> cases e4
  all_goals
    go_enter Tryz.func46, Tryz.ntmps46
    go_wp2
    go_ret
    refine ⟨?_, ((Kp.refl _ _).alloc (Nat.le_refl _) _).alloc (by simp) _⟩
    rw [HV.out]
    first | rfl | simp_all

def readyB (dn : Nat → Bool) (xs : List Int) : Bool := xs.all fun a => dn a.toNat
theorem ready_snoc {dn : Nat → Bool} {xs : List Int} {k : Nat} (h : k < xs.length) : readyB dn (xs.take (k + 1)) = (readyB dn (xs.take k) && dn (xs.getD k 0).toNat) := by
  unfold readyB
  rw [List.take_succ_eq_append_getElem h, List.all_append]
  simp [List.getD, h]
theorem ready_not {dn : Nat → Bool} {xs : List Int} {k : Nat} (h : k < xs.length) (hb : dn (xs.getD k 0).toNat = false) : readyB dn xs = false := by
  unfold readyB
  rw [List.all_eq_false]
  exact ⟨xs[k], List.getElem_mem h, by simp only [List.getD, List.getElem?_eq_getElem h, Option.getD_some] at hb; rw [hb]; simp⟩

set_option maxHeartbeats 2000000 in
theorem ready_ok (x : Nd) (va : Value) (db n dc : Nat) (dn : Nat → Bool) (W : World) (ha : ArgsV W va x.args) (_hn : n ≤ 200000) (h8 : x.args.length ≤ 8) (hx : ∀ a ∈ x.args, 0 ≤ a ∧ a < n) (hd : ∀ j, j < n → W.cell? ⟨db, j, none⟩ = some (.bool (dn j))) :
    Calls Tryz.prog 92 #[nodeV x va, .slice (some ⟨db, 0, none⟩) n dc] W fun e w' => e = .returned (.bool (readyB dn x.args)) ∧ Kp W.heap.size W w' := by
  obtain ⟨ab, ac, rfl⟩ := ha.len
  have HA := Lib.hid ha
  have HX := Lib.hid hx
  have HD := Lib.hid hd
  clear ha hx hd
  go_enter Tryz.func92, Tryz.ntmps92
  go_wp2
  go_loop [5] (fun i => ∃ k : Nat, k ≤ x.args.length ∧ i = .int .i64 k ∧ readyB dn (x.args.take k) = true) (fun i => x.args.length - (RowKit.intOf i).toNat)
  case atStart => exact ⟨0, Nat.zero_le _, rfl, rfl⟩
  case round =>
    obtain ⟨k, hk, rfl, hl⟩ := hrel
    by_cases hlt : k < x.args.length
    · obtain ⟨b1, o1, hab, hca⟩ := HA.out.some hlt
      have hmem : x.args.getD k 0 ∈ x.args := by simp only [List.getD, List.getElem?_eq_getElem hlt, Option.getD_some]; exact List.getElem_mem hlt
      obtain ⟨z1, z2⟩ := HX.out _ hmem
      have HS := Lib.hid (ready_snoc (dn := dn) hlt)
      have HNo := Lib.hid (fun hb => ready_not (dn := dn) hlt hb)
      have HL := Lib.hid hl
      obtain ⟨q, hq⟩ : ∃ q : Nat, x.args.getD k 0 = q := ⟨(x.args.getD k 0).toNat, by omega⟩
      rw [hq] at hca z2 HS HNo
      have hcd := HD.out q (by omega)
      have hqn : q < n := by omega
      subst hab
      have hca' := fun ob => cell_alloc hca ob
      have hcd' := fun ob => cell_alloc hcd ob
      simp only [Int.toNat_natCast] at HS HNo
      clear hmem z1 z2 hl hq
      cases hb : dn q with
      | true =>
        rw [hb] at hcd hcd' HS
        have HB := Lib.hid hb
        clear hb
        go_wp2
        go_round
        case rel => exact ⟨k + 1, by omega, by go_num, by rw [HS.out, HL.out]; rfl⟩
        case measure => simp [RowKit.intOf]; omega
      | false =>
        rw [hb] at hcd hcd'
        have HB := Lib.hid (HNo.out hb)
        clear hb
        go_wp2
        go_ret
        exact ⟨by rw [HB.out]; rfl, (Kp.refl _ _).alloc (Nat.le_refl _) _⟩
    · have HL := Lib.hid hl
      clear hl
      go_wp2
      go_ret
      have hl := HL.out
      rw [List.take_of_length_le (by omega)] at hl
      exact ⟨by rw [hl]; rfl, (Kp.refl _ _).alloc (Nat.le_refl _) _⟩
end Go.Ev

/- The document's own answers on trees: arguments compared; a node found among others. -/
namespace Go.Ev
open Go.Proofs Go.RowKit Go.Lib
set_option maxRecDepth 100000

/-- The same memory, but for what is drawn. -/
structure Sm (w w' : World) : Prop where
  heap : w'.heap = w.heap
  os : w'.os = w.os
  output : w'.output = w.output
theorem Sm.refl (w : World) : Sm w w := ⟨rfl, rfl, rfl⟩
theorem Sm.cell {w w' : World} (h : Sm w w') {a : Addr} {v : Value} (hv : w.cell? a = some v) : w'.cell? a = some v := by
  have : w'.cell? a = w.cell? a := by simp only [World.cell?, h.heap]
  rw [this]; exact hv
theorem Sm.drewN {w w' : World} (h : Sm w w') (n : Nat) : Sm w (w'.drewN n) := ⟨h.heap, h.os, h.output⟩
theorem Sm.kp {B : Nat} {a w w' : World} (h : Kp B a w) (k : Sm w w') : Kp B a w' := h.trans ⟨k.os, k.output, by rw [k.heap]; exact Nat.le_refl _, fun i _ => by rw [k.heap]⟩

def sargsB (cl : Nat → Nat) (xs ys : List Int) (k : Nat) : Bool := (List.range k).all fun i => cl (xs.getD i 0).toNat == cl (ys.getD i 0).toNat
theorem same_snoc {cl : Nat → Nat} {xs ys : List Int} {k : Nat} : sargsB cl xs ys (k + 1) = (sargsB cl xs ys k && (cl (xs.getD k 0).toNat == cl (ys.getD k 0).toNat)) := by
  unfold sargsB
  rw [List.range_succ, List.all_append]
  simp
theorem same_not {cl : Nat → Nat} {xs ys : List Int} {k n : Nat} (h : k < n) (hb : (cl (xs.getD k 0).toNat == cl (ys.getD k 0).toNat) = false) : sargsB cl xs ys n = false := by
  unfold sargsB
  rw [List.all_eq_false]
  exact ⟨k, List.mem_range.2 h, by rw [hb]; simp⟩

set_option maxHeartbeats 2000000 in
theorem sameArgs_ok (x y : Nd) (va vb : Value) (cb co n cc : Nat) (cl : Nat → Nat) (W : World) (ha : ArgsV W va x.args) (hb : ArgsV W vb y.args) (_hn : n ≤ 200000) (hlen : x.args.length = y.args.length) (h8 : x.args.length ≤ 8)
    (hx : ∀ a ∈ x.args, 0 ≤ a ∧ a < n) (hy : ∀ a ∈ y.args, 0 ≤ a ∧ a < n) (hd : ∀ j, j < n → W.cell? ⟨cb, co + j, none⟩ = some (.int .i64 (cl j : Int))) :
    Calls Tryz.prog 94 #[nodeV x va, nodeV y vb, .slice (some ⟨cb, co, none⟩) n cc] W fun e w' => e = .returned (.bool (sargsB cl x.args y.args x.args.length)) ∧ Kp W.heap.size W w' := by
  obtain ⟨ab, ac, rfl⟩ := ha.len
  obtain ⟨bb, bc, rfl⟩ := hb.len
  have HA := Lib.hid ha
  have HB := Lib.hid hb
  have HX := Lib.hid hx
  have HY := Lib.hid hy
  have HD := Lib.hid hd
  have HLEN := Lib.hid hlen
  clear ha hb hx hy hd hlen
  obtain ⟨W2, hW2⟩ : ∃ W2, W2 = (W.alloc (Obj.cells #[.int .i64 x.kind, .int .i64 x.num, .string x.label, .slice ab x.args.length ac] 48)).alloc (Obj.cells #[.int .i64 y.kind, .int .i64 y.num, .string y.label, .slice bb y.args.length bc] 48) := ⟨_, rfl⟩
  have hk2 : Kp W.heap.size W W2 := by rw [hW2]; exact ((Kp.refl _ _).alloc (Nat.le_refl _) _).alloc (by simp) _
  have a3 : W2.cell? ⟨W.heap.size, 3, none⟩ = some (.slice ab x.args.length ac) := by rw [hW2]; go_simp
  have b3 : W2.cell? ⟨W.heap.size + 1, 3, none⟩ = some (.slice bb y.args.length bc) := by rw [hW2]; go_simp
  have HK2 := Lib.hid hk2
  clear hk2
  go_enter Tryz.func94, Tryz.ntmps94
  go_wp2
  rw [← hW2]
  clear hW2
  go_loopw [7] (fun i wr => ∃ (k : Nat), k ≤ x.args.length ∧ i = .int .i64 k ∧ sargsB cl x.args y.args k = true ∧ Sm W2 wr) (fun i _ => x.args.length - (RowKit.intOf i).toNat)
  case atStart => exact ⟨0, Nat.zero_le _, rfl, rfl, Sm.refl _⟩
  case round =>
    obtain ⟨k, hk, rfl, hl, hsm⟩ := hrel
    replace a3 := hsm.cell a3
    replace b3 := hsm.cell b3
    have HSM := Lib.hid hsm
    clear hsm
    by_cases hlt : k < x.args.length
    · obtain ⟨b1, o1, rfl, hca⟩ := HA.out.some hlt
      have hlt2 : k < y.args.length := by rw [← HLEN.out]; exact hlt
      obtain ⟨b2, o2, rfl, hcb⟩ := HB.out.some hlt2
      have hmem : x.args.getD k 0 ∈ x.args := by simp only [List.getD, List.getElem?_eq_getElem hlt, Option.getD_some]; exact List.getElem_mem hlt
      have hmem2 : y.args.getD k 0 ∈ y.args := by simp only [List.getD, List.getElem?_eq_getElem hlt2, Option.getD_some]; exact List.getElem_mem hlt2
      obtain ⟨z1, z2⟩ := HX.out _ hmem
      obtain ⟨z3, z4⟩ := HY.out _ hmem2
      have HS := Lib.hid (same_snoc (cl := cl) (xs := x.args) (ys := y.args) (k := k))
      have HNo := Lib.hid (fun hb => same_not (cl := cl) (xs := x.args) (ys := y.args) hlt hb)
      have HL := Lib.hid hl
      obtain ⟨q, hq⟩ : ∃ q : Nat, x.args.getD k 0 = q := ⟨(x.args.getD k 0).toNat, by omega⟩
      obtain ⟨q2, hq2⟩ : ∃ q : Nat, y.args.getD k 0 = q := ⟨(y.args.getD k 0).toNat, by omega⟩
      rw [hq] at hca z2 HS HNo
      rw [hq2] at hcb z4 HS HNo
      have hcd := HK2.out.cells (HD.out q (by omega))
      have hcd2 := HK2.out.cells (HD.out q2 (by omega))
      replace hca := HK2.out.cells hca
      replace hcb := HK2.out.cells hcb
      have hqn : q < n := by omega
      have hqn2 : q2 < n := by omega
      simp only [Int.toNat_natCast] at HS HNo
      clear hmem hmem2 z1 z2 z3 z4 hl hq hq2
      replace hca := HSM.out.cell hca
      replace hcb := HSM.out.cell hcb
      replace hcd := HSM.out.cell hcd
      replace hcd2 := HSM.out.cell hcd2
      generalize hc1 : cl q = c1 at *
      generalize hc2 : cl q2 = c2 at *
      have HC1 := Lib.hid hc1
      have HC2 := Lib.hid hc2
      clear hc1 hc2
      by_cases hcc : c1 = c2
      · subst hcc
        go_wp2_with fail
        go_quiet (fail)
        go_wp2
        go_roundw
        case rel => exact ⟨k + 1, by omega, by go_num, by rw [HS.out, HL.out]; simp, HSM.out.drewN _⟩
        case measure => simp [RowKit.intOf]; omega
      · have hne : ((c1 : Int) != (c2 : Int)) = true := by simp; omega
        have HCC := Lib.hid hcc
        clear hcc
        go_wp2_with fail
        go_quiet (fail)
        go_wp2
        go_ret
        refine ⟨?_, Sm.kp HK2.out (HSM.out.drewN _)⟩
        rw [HNo.out (by simp [HCC.out])]
        rfl
    · have HL := Lib.hid hl
      clear hl
      obtain rfl : k = x.args.length := by omega
      go_wp2
      go_ret
      exact ⟨by rw [HL.out]; rfl, Sm.kp HK2.out HSM.out⟩

end Go.Ev

/- The document's own answers on trees: a node found among others. -/
namespace Go.Ev
open Go.Proofs Go.RowKit Go.Lib
set_option maxRecDepth 100000

/-- Numbers in a slice. -/
def IntsAt (W : World) (b o n : Nat) (f : Nat → Nat) : Prop := ∀ j, j < n → W.cell? ⟨b, o + j, none⟩ = some (.int .i64 (f j : Int))
theorem IntsAt.kp {W w : World} {b o n : Nat} {f : Nat → Nat} (h : IntsAt W b o n f) (hk : Kp W.heap.size W w) : IntsAt w b o n f := fun j hj => hk.cells (h j hj)

def firstOr (p : Nat → Bool) (n : Nat) : List Nat → Nat
  | [] => n
  | a :: l => if p a = true then a else firstOr p n l
theorem firstOr_hit {p : Nat → Bool} {n : Nat} {l : List Nat} {k : Nat} (hk : k < l.length) (h : p l[k] = true) : firstOr p n (l.drop k) = l[k] := by
  rw [List.drop_eq_getElem_cons hk]
  simp [firstOr, h]
theorem firstOr_miss {p : Nat → Bool} {n : Nat} {l : List Nat} {k : Nat} (hk : k < l.length) (h : p l[k] = false) : firstOr p n (l.drop k) = firstOr p n (l.drop (k + 1)) := by
  rw [List.drop_eq_getElem_cons hk]
  simp [firstOr, h]

/-- Of two nodes: look the same, and have arguments of the same classes. -/
def likeB (G : List Nd) (cl : Nat → Nat) (i j : Nat) : Bool := match G[i]?, G[j]? with
  | some x, some y => alikeB x y && sargsB cl x.args y.args x.args.length
  | _, _ => false

set_option maxHeartbeats 4000000 in
theorem find_ok (G : List Nd) (some' : List Nat) (i : Nat) (cl : Nat → Nat) (W : World) (gb go gc fb fo fn fc cb co cc : Nat) (hG : GClosed G) (hg : NodesV W (.slice (some ⟨gb, go, none⟩) G.length gc) G) (hG8 : G.length ≤ 200000)
    (hf : IntsAt W fb fo some'.length (fun j => some'.getD j 0)) (hfn : fn = some'.length) (hfm : ∀ x ∈ some', x < G.length) (hfl : some'.length ≤ 200000) (hi : i < G.length) (hc : IntsAt W cb co G.length cl) :
    Calls Tryz.prog 93 #[.slice (some ⟨gb, go, none⟩) G.length gc, .slice (some ⟨fb, fo, none⟩) fn fc, .int .i64 i, .slice (some ⟨cb, co, none⟩) G.length cc] W fun e w' =>
      e = .returned (.int .i64 (firstOr (likeB G cl i) i some' : Nat)) ∧ Kp W.heap.size W w' := by
  subst hfn
  have HG := Lib.hid hG
  have HV := Lib.hid hg
  have HF := Lib.hid hf
  have HM := Lib.hid hfm
  have HC := Lib.hid hc
  clear hG hg hf hfm hc
  go_enter Tryz.func93, Tryz.ntmps93
  go_wp2
  go_loopw [9] (fun v wr => ∃ (k : Nat), k ≤ some'.length ∧ v = .int .i64 k ∧ firstOr (likeB G cl i) i some' = firstOr (likeB G cl i) i (some'.drop k) ∧ Kp W.heap.size W wr) (fun v _ => some'.length - (RowKit.intOf v).toNat)
  case atStart => exact ⟨0, Nat.zero_le _, rfl, rfl, Kp.refl _ _⟩
  case round =>
    obtain ⟨k, hk, rfl, hfi, hkp⟩ := hrel
    by_cases hlt : k < some'.length
    · obtain ⟨f, hf0⟩ : ∃ f, some'[k] = f := ⟨_, rfl⟩
      have hfG : f < G.length := by rw [← hf0]; exact HM.out _ (List.getElem_mem hlt)
      have hcf := hkp.cells (HF.out k hlt)
      simp only [List.getD, List.getElem?_eq_getElem hlt, Option.getD_some, hf0] at hcf
      obtain ⟨x, hx⟩ : ∃ x, G[i]? = some x := ⟨_, List.getElem?_eq_getElem hi⟩
      obtain ⟨y, hy⟩ : ∃ y, G[f]? = some y := ⟨_, List.getElem?_eq_getElem hfG⟩
      have nX := HV.out.at_ hx
      have nY := HV.out.at_ hy
      obtain ⟨g0, g1, g2, _, vx, g3, hxv⟩ := nX
      obtain ⟨k0, k1, k2, _, vy, k3, hyv⟩ := nY
      obtain ⟨xb, xc, rfl⟩ := hxv.len
      obtain ⟨yb, yc, rfl⟩ := hyv.len
      replace g0 := hkp.cells g0
      replace g1 := hkp.cells g1
      replace g2 := hkp.cells g2
      replace g3 := hkp.cells g3
      replace k0 := hkp.cells k0
      replace k1 := hkp.cells k1
      replace k2 := hkp.cells k2
      replace k3 := hkp.cells k3
      have hkb := hkp.size
      have CA := fun w (h : Kp W.heap.size W w) => alike_ok x y (.slice xb x.args.length xc) (.slice yb y.args.length yc) w (hxv.grown fun _ _ _ h' => h.cells h') (hyv.grown fun _ _ _ h' => h.cells h')
      have hGx := HG.out x (List.mem_of_getElem? hx)
      have hGy := HG.out y (List.mem_of_getElem? hy)
      have CS := fun (hl : x.args.length = y.args.length) w (h : Kp W.heap.size W w) => sameArgs_ok x y (.slice xb x.args.length xc) (.slice yb y.args.length yc) cb co G.length cc cl w (hxv.grown fun _ _ _ h' => h.cells h') (hyv.grown fun _ _ _ h' => h.cells h') hG8 hl hGx.1 hGx.2 hGy.2 (HC.out.kp h)
      have HX := Lib.hid hx
      have HY := Lib.hid hy
      have HF0 := Lib.hid hf0
      have HFI := Lib.hid hfi
      have HKP := Lib.hid hkp
      clear hx hy hxv hyv hGx hGy hf0 hfi hkp
      have HLK := Lib.hid (show likeB G cl i f = (alikeB x y && sargsB cl x.args y.args x.args.length) by unfold likeB; rw [HX.out, HY.out])
      cases ha : alikeB x y with
      | false =>
        rw [ha] at CA
        have HA := Lib.hid ha
        clear ha CS
        go_wp2_with fail
        refine wp_region_held_drew (S := fun w' => w'.cell? ⟨gb, go + i * 4, none⟩ = some (.int .i64 x.kind) ∧ w'.cell? ⟨gb, go + i * 4 + 1, none⟩ = some (.int .i64 x.num) ∧ w'.cell? ⟨gb, go + i * 4 + 2, none⟩ = some (.string x.label) ∧ w'.cell? ⟨gb, go + i * 4 + 3, none⟩ = some (.slice xb x.args.length xc) ∧ w'.cell? ⟨gb, go + f * 4, none⟩ = some (.int .i64 y.kind) ∧ w'.cell? ⟨gb, go + f * 4 + 1, none⟩ = some (.int .i64 y.num) ∧ w'.cell? ⟨gb, go + f * 4 + 2, none⟩ = some (.string y.label) ∧ w'.cell? ⟨gb, go + f * 4 + 3, none⟩ = some (.slice yb y.args.length yc) ∧ w'.cell? ⟨fb, fo + k, none⟩ = some (.int .i64 (f : Int)) ∧ Kp W.heap.size W w') (by kernel_rfl) ?_ (fun hHeld => ?_)
        · exact ⟨g0, g1, g2, g3, k0, k1, k2, k3, hcf, HKP.out.drew⟩
        refine wpAnyH_take (i := 0) (oi := { dst := some 16, op := Go.Op.move (Go.Operand.tmp 0), type := 22, pos := "ref.go:138", after := #[], guard := none }) (v := ?_) rfl (by kernel_rfl) (by kernel_rfl) (by kernel_rfl) (fun _ _ _ h => h) (Or.inl ⟨by rfl, ?_⟩) (by assumption) ?_
        rotate_left
        · (intro w hSw; (try dsimp only at hSw); go_simp); all_goals (with_reducible rfl)
        try simp only [Act.put, List.setIfInBounds_toArray, List.set_cons_zero, List.set_cons_succ]
        refine wpAnyH_take (i := 1) (oi := { dst := some 17, op := Go.Op.move (Go.Operand.tmp 2), type := 3, pos := "ref.go:138", after := #[], guard := none }) (v := ?_) rfl (by kernel_rfl) (by kernel_rfl) (by kernel_rfl) (fun _ _ _ h => h) (Or.inl ⟨by rfl, ?_⟩) (by assumption) ?_
        rotate_left
        · (intro w hSw; (try dsimp only at hSw); go_simp); all_goals (with_reducible rfl)
        try simp only [Act.put, List.setIfInBounds_toArray, List.set_cons_zero, List.set_cons_succ]
        refine wpAnyH_take (i := 2) (oi := { dst := some 18, op := Go.Op.indexAddr 22 (Go.Operand.tmp 16) (Go.Operand.tmp 17), type := 0, pos := "ref.go:138", after := #[{ on := 0, ground := Go.Ground.data }, { on := 1, ground := Go.Ground.data }], guard := none }) (v := ?_) rfl (by kernel_rfl) (by kernel_rfl) (by kernel_rfl) (fun _ _ _ h => h) (Or.inl ⟨by rfl, ?_⟩) (by assumption) ?_
        rotate_left
        · (intro w hSw; (try dsimp only at hSw); go_simp); all_goals (with_reducible rfl)
        try simp only [Act.put, List.setIfInBounds_toArray, List.set_cons_zero, List.set_cons_succ]
        refine wpAnyH_take (i := 3) (oi := { dst := some 19, op := Go.Op.load 48 (Go.Operand.tmp 18), type := 48, pos := "ref.go:138", after := #[{ on := 2, ground := Go.Ground.data }], guard := none }) (v := ?_) rfl (by kernel_rfl) (by kernel_rfl) (by kernel_rfl) (fun _ _ _ h => h) (Or.inl ⟨by rfl, ?_⟩) (by assumption) ?_
        rotate_left
        · (intro w hSw; (try dsimp only at hSw); go_simp); all_goals (with_reducible rfl)
        try simp only [Act.put, List.setIfInBounds_toArray, List.set_cons_zero, List.set_cons_succ]
        refine wpAnyH_take (i := 4) (oi := { dst := some 20, op := Go.Op.move (Go.Operand.tmp 0), type := 22, pos := "ref.go:138", after := #[], guard := none }) (v := ?_) rfl (by kernel_rfl) (by kernel_rfl) (by kernel_rfl) (fun _ _ _ h => h) (Or.inl ⟨by rfl, ?_⟩) (by assumption) ?_
        rotate_left
        · (intro w hSw; (try dsimp only at hSw); go_simp); all_goals (with_reducible rfl)
        try simp only [Act.put, List.setIfInBounds_toArray, List.set_cons_zero, List.set_cons_succ]
        refine wpAnyH_take (i := 5) (oi := { dst := some 21, op := Go.Op.move (Go.Operand.tmp 1), type := 43, pos := "ref.go:138", after := #[], guard := none }) (v := ?_) rfl (by kernel_rfl) (by kernel_rfl) (by kernel_rfl) (fun _ _ _ h => h) (Or.inl ⟨by rfl, ?_⟩) (by assumption) ?_
        rotate_left
        · (intro w hSw; (try dsimp only at hSw); go_simp); all_goals (with_reducible rfl)
        try simp only [Act.put, List.setIfInBounds_toArray, List.set_cons_zero, List.set_cons_succ]
        refine wpAnyH_take (i := 6) (oi := { dst := some 22, op := Go.Op.move (Go.Operand.tmp 9), type := 3, pos := "ref.go:138", after := #[], guard := none }) (v := ?_) rfl (by kernel_rfl) (by kernel_rfl) (by kernel_rfl) (fun _ _ _ h => h) (Or.inl ⟨by rfl, ?_⟩) (by assumption) ?_
        rotate_left
        · (intro w hSw; (try dsimp only at hSw); go_simp); all_goals (with_reducible rfl)
        try simp only [Act.put, List.setIfInBounds_toArray, List.set_cons_zero, List.set_cons_succ]
        refine wpAnyH_take (i := 7) (oi := { dst := some 23, op := Go.Op.indexAddr 43 (Go.Operand.tmp 21) (Go.Operand.tmp 22), type := 0, pos := "ref.go:138", after := #[{ on := 5, ground := Go.Ground.data }, { on := 6, ground := Go.Ground.data }], guard := none }) (v := ?_) rfl (by kernel_rfl) (by kernel_rfl) (by kernel_rfl) (fun _ _ _ h => h) (Or.inl ⟨by rfl, ?_⟩) (by assumption) ?_
        rotate_left
        · (intro w hSw; (try dsimp only at hSw); go_simp); all_goals (with_reducible rfl)
        try simp only [Act.put, List.setIfInBounds_toArray, List.set_cons_zero, List.set_cons_succ]
        refine wpAnyH_take (i := 8) (oi := { dst := some 24, op := Go.Op.load 3 (Go.Operand.tmp 23), type := 3, pos := "ref.go:138", after := #[{ on := 7, ground := Go.Ground.data }], guard := none }) (v := ?_) rfl (by kernel_rfl) (by kernel_rfl) (by kernel_rfl) (fun _ _ _ h => h) (Or.inl ⟨by rfl, ?_⟩) (by assumption) ?_
        rotate_left
        · (intro w hSw; (try dsimp only at hSw); go_simp); all_goals (with_reducible rfl)
        try simp only [Act.put, List.setIfInBounds_toArray, List.set_cons_zero, List.set_cons_succ]
        refine wpAnyH_take (i := 9) (oi := { dst := some 25, op := Go.Op.indexAddr 22 (Go.Operand.tmp 20) (Go.Operand.tmp 24), type := 0, pos := "ref.go:138", after := #[{ on := 4, ground := Go.Ground.data }, { on := 8, ground := Go.Ground.data }], guard := none }) (v := ?_) rfl (by kernel_rfl) (by kernel_rfl) (by kernel_rfl) (fun _ _ _ h => h) (Or.inl ⟨by rfl, ?_⟩) (by assumption) ?_
        rotate_left
        · (intro w hSw; (try dsimp only at hSw); go_simp); all_goals (with_reducible rfl)
        try simp only [Act.put, List.setIfInBounds_toArray, List.set_cons_zero, List.set_cons_succ]
        refine wpAnyH_take (i := 10) (oi := { dst := some 26, op := Go.Op.load 48 (Go.Operand.tmp 25), type := 48, pos := "ref.go:138", after := #[{ on := 9, ground := Go.Ground.data }], guard := none }) (v := ?_) rfl (by kernel_rfl) (by kernel_rfl) (by kernel_rfl) (fun _ _ _ h => h) (Or.inl ⟨by rfl, ?_⟩) (by assumption) ?_
        rotate_left
        · (intro w hSw; (try dsimp only at hSw); go_simp); all_goals (with_reducible rfl)
        try simp only [Act.put, List.setIfInBounds_toArray, List.set_cons_zero, List.set_cons_succ]
        refine wpAnyH_ready (rs := [11]) (by kernel_rfl) (by simp) ?_
        refine AllReadyH.cons (o := { dst := some 27, op := Go.Op.call { callee := Go.Callee.value (Go.Operand.func 46), args := #[Go.Operand.tmp 19, Go.Operand.tmp 26], argTypes := #[48, 48] }, type := 4, pos := "ref.go:138", after := #[{ on := 3, ground := Go.Ground.data }, { on := 10, ground := Go.Ground.data }], guard := none }) rfl (fun K hK => ?_) AllReadyH.nil
        go_simp
        refine (CA _ hHeld.2.2.2.2.2.2.2.2.2).mono ?_
        rintro e w' ⟨rfl, hk2⟩
        refine hK.out _ _ ?_ (fun hHeld => ?_)
        · obtain ⟨s0, s1, s2, s3, s4, s5, s6, s7, s8, s9⟩ := hHeld
          exact ⟨hk2.cells s0, hk2.cells s1, hk2.cells s2, hk2.cells s3, hk2.cells s4, hk2.cells s5, hk2.cells s6, hk2.cells s7, hk2.cells s8, s9.trans (hk2.mono s9.size)⟩
        clear hK K
        try simp only [Act.put, List.setIfInBounds_toArray, List.set_cons_zero, List.set_cons_succ]
        refine wpAnyH_take (i := 12) (oi := { dst := some 28, op := Go.Op.move (Go.Operand.tmp 27), type := 4, pos := "ref.go:138", after := #[{ on := 11, ground := Go.Ground.data }, { on := 11, ground := Go.Ground.chain }], guard := none }) (v := ?_) rfl (by kernel_rfl) (by kernel_rfl) (by kernel_rfl) (fun _ _ _ h => h) (Or.inl ⟨by rfl, ?_⟩) (by assumption) ?_
        rotate_left
        · (intro w hSw; (try dsimp only at hSw); go_simp); all_goals (with_reducible rfl)
        try simp only [Act.put, List.setIfInBounds_toArray, List.set_cons_zero, List.set_cons_succ]
        refine wpAnyH_take (i := 13) (oi := { dst := some 29, op := Go.Op.move (Go.Operand.tmp 0), type := 22, pos := "ref.go:138", after := #[{ on := 12, ground := Go.Ground.guard }], guard := some (12, true) }) (v := undef) rfl (by kernel_rfl) (by kernel_rfl) (by kernel_rfl) (fun _ _ _ h => h) (Or.inr ⟨by rfl, rfl⟩) (by assumption) ?_
        try simp only [Act.put, List.setIfInBounds_toArray, List.set_cons_zero, List.set_cons_succ]
        refine wpAnyH_take (i := 14) (oi := { dst := some 30, op := Go.Op.move (Go.Operand.tmp 2), type := 3, pos := "ref.go:138", after := #[{ on := 12, ground := Go.Ground.guard }], guard := some (12, true) }) (v := undef) rfl (by kernel_rfl) (by kernel_rfl) (by kernel_rfl) (fun _ _ _ h => h) (Or.inr ⟨by rfl, rfl⟩) (by assumption) ?_
        try simp only [Act.put, List.setIfInBounds_toArray, List.set_cons_zero, List.set_cons_succ]
        refine wpAnyH_take (i := 15) (oi := { dst := some 31, op := Go.Op.indexAddr 22 (Go.Operand.tmp 29) (Go.Operand.tmp 30), type := 0, pos := "ref.go:138", after := #[{ on := 13, ground := Go.Ground.data }, { on := 14, ground := Go.Ground.data }, { on := 12, ground := Go.Ground.guard }], guard := some (12, true) }) (v := undef) rfl (by kernel_rfl) (by kernel_rfl) (by kernel_rfl) (fun _ _ _ h => h) (Or.inr ⟨by rfl, rfl⟩) (by assumption) ?_
        try simp only [Act.put, List.setIfInBounds_toArray, List.set_cons_zero, List.set_cons_succ]
        refine wpAnyH_take (i := 16) (oi := { dst := some 32, op := Go.Op.load 48 (Go.Operand.tmp 31), type := 48, pos := "ref.go:138", after := #[{ on := 15, ground := Go.Ground.data }, { on := 12, ground := Go.Ground.guard }], guard := some (12, true) }) (v := undef) rfl (by kernel_rfl) (by kernel_rfl) (by kernel_rfl) (fun _ _ _ h => h) (Or.inr ⟨by rfl, rfl⟩) (by assumption) ?_
        try simp only [Act.put, List.setIfInBounds_toArray, List.set_cons_zero, List.set_cons_succ]
        refine wpAnyH_take (i := 17) (oi := { dst := some 33, op := Go.Op.move (Go.Operand.tmp 0), type := 22, pos := "ref.go:138", after := #[{ on := 12, ground := Go.Ground.guard }], guard := some (12, true) }) (v := undef) rfl (by kernel_rfl) (by kernel_rfl) (by kernel_rfl) (fun _ _ _ h => h) (Or.inr ⟨by rfl, rfl⟩) (by assumption) ?_
        try simp only [Act.put, List.setIfInBounds_toArray, List.set_cons_zero, List.set_cons_succ]
        refine wpAnyH_take (i := 18) (oi := { dst := some 34, op := Go.Op.move (Go.Operand.tmp 1), type := 43, pos := "ref.go:138", after := #[{ on := 12, ground := Go.Ground.guard }], guard := some (12, true) }) (v := undef) rfl (by kernel_rfl) (by kernel_rfl) (by kernel_rfl) (fun _ _ _ h => h) (Or.inr ⟨by rfl, rfl⟩) (by assumption) ?_
        try simp only [Act.put, List.setIfInBounds_toArray, List.set_cons_zero, List.set_cons_succ]
        refine wpAnyH_take (i := 19) (oi := { dst := some 35, op := Go.Op.move (Go.Operand.tmp 9), type := 3, pos := "ref.go:138", after := #[{ on := 12, ground := Go.Ground.guard }], guard := some (12, true) }) (v := undef) rfl (by kernel_rfl) (by kernel_rfl) (by kernel_rfl) (fun _ _ _ h => h) (Or.inr ⟨by rfl, rfl⟩) (by assumption) ?_
        try simp only [Act.put, List.setIfInBounds_toArray, List.set_cons_zero, List.set_cons_succ]
        refine wpAnyH_take (i := 20) (oi := { dst := some 36, op := Go.Op.indexAddr 43 (Go.Operand.tmp 34) (Go.Operand.tmp 35), type := 0, pos := "ref.go:138", after := #[{ on := 18, ground := Go.Ground.data }, { on := 19, ground := Go.Ground.data }, { on := 12, ground := Go.Ground.guard }], guard := some (12, true) }) (v := undef) rfl (by kernel_rfl) (by kernel_rfl) (by kernel_rfl) (fun _ _ _ h => h) (Or.inr ⟨by rfl, rfl⟩) (by assumption) ?_
        try simp only [Act.put, List.setIfInBounds_toArray, List.set_cons_zero, List.set_cons_succ]
        refine wpAnyH_take (i := 21) (oi := { dst := some 37, op := Go.Op.load 3 (Go.Operand.tmp 36), type := 3, pos := "ref.go:138", after := #[{ on := 20, ground := Go.Ground.data }, { on := 12, ground := Go.Ground.guard }], guard := some (12, true) }) (v := undef) rfl (by kernel_rfl) (by kernel_rfl) (by kernel_rfl) (fun _ _ _ h => h) (Or.inr ⟨by rfl, rfl⟩) (by assumption) ?_
        try simp only [Act.put, List.setIfInBounds_toArray, List.set_cons_zero, List.set_cons_succ]
        refine wpAnyH_take (i := 22) (oi := { dst := some 38, op := Go.Op.indexAddr 22 (Go.Operand.tmp 33) (Go.Operand.tmp 37), type := 0, pos := "ref.go:138", after := #[{ on := 17, ground := Go.Ground.data }, { on := 21, ground := Go.Ground.data }, { on := 12, ground := Go.Ground.guard }], guard := some (12, true) }) (v := undef) rfl (by kernel_rfl) (by kernel_rfl) (by kernel_rfl) (fun _ _ _ h => h) (Or.inr ⟨by rfl, rfl⟩) (by assumption) ?_
        try simp only [Act.put, List.setIfInBounds_toArray, List.set_cons_zero, List.set_cons_succ]
        refine wpAnyH_take (i := 23) (oi := { dst := some 39, op := Go.Op.load 48 (Go.Operand.tmp 38), type := 48, pos := "ref.go:138", after := #[{ on := 22, ground := Go.Ground.data }, { on := 12, ground := Go.Ground.guard }], guard := some (12, true) }) (v := undef) rfl (by kernel_rfl) (by kernel_rfl) (by kernel_rfl) (fun _ _ _ h => h) (Or.inr ⟨by rfl, rfl⟩) (by assumption) ?_
        try simp only [Act.put, List.setIfInBounds_toArray, List.set_cons_zero, List.set_cons_succ]
        refine wpAnyH_take (i := 24) (oi := { dst := some 40, op := Go.Op.move (Go.Operand.tmp 3), type := 43, pos := "ref.go:138", after := #[{ on := 12, ground := Go.Ground.guard }], guard := some (12, true) }) (v := undef) rfl (by kernel_rfl) (by kernel_rfl) (by kernel_rfl) (fun _ _ _ h => h) (Or.inr ⟨by rfl, rfl⟩) (by assumption) ?_
        try simp only [Act.put, List.setIfInBounds_toArray, List.set_cons_zero, List.set_cons_succ]
        refine wpAnyH_take (i := 25) (oi := { dst := some 41, op := Go.Op.call { callee := Go.Callee.value (Go.Operand.func 94), args := #[Go.Operand.tmp 32, Go.Operand.tmp 39, Go.Operand.tmp 40], argTypes := #[48, 48, 43] }, type := 4, pos := "ref.go:138", after := #[{ on := 16, ground := Go.Ground.data }, { on := 23, ground := Go.Ground.data }, { on := 24, ground := Go.Ground.data }, { on := 12, ground := Go.Ground.chain }, { on := 12, ground := Go.Ground.guard }], guard := some (12, true) }) (v := undef) rfl (by kernel_rfl) (by kernel_rfl) (by kernel_rfl) (fun _ _ _ h => h) (Or.inr ⟨by rfl, rfl⟩) (by assumption) ?_
        try simp only [Act.put, List.setIfInBounds_toArray, List.set_cons_zero, List.set_cons_succ]
        refine wpAnyH_take (i := 26) (oi := { dst := some 42, op := Go.Op.pick (Go.Operand.tmp 28) (Go.Operand.tmp 41) (Go.Operand.const (Go.Value.bool false)), type := 4, pos := "ref.go:138", after := #[{ on := 12, ground := Go.Ground.data }, { on := 25, ground := Go.Ground.data }], guard := none }) (v := ?_) rfl (by kernel_rfl) (by kernel_rfl) (by kernel_rfl) (fun _ _ _ h => h) (Or.inl ⟨by rfl, ?_⟩) (by assumption) ?_
        rotate_left
        · (intro w hSw; (try dsimp only at hSw); go_simp); all_goals (with_reducible rfl)
        try simp only [Act.put, List.setIfInBounds_toArray, List.set_cons_zero, List.set_cons_succ]
        refine wpAnyH_done (by kernel_rfl) ?_ _
        have HE := Lib.hid hHeld.2.2.2.2.2.2.2.2.2
        clear hHeld
        have HN := Lib.hid (HFI.out.trans (firstOr_miss hlt (by rw [HF0.out, HLK.out, HA.out]; rfl)))
        go_wp2
        go_roundw
        case rel => exact ⟨k + 1, by omega, by go_num, HN.out, HE.out⟩
        case measure => simp [RowKit.intOf]; omega
      | true =>
        rw [ha] at CA
        have hal := alike_iff.1 ha
        have hlen : x.args.length = y.args.length := by
          unfold Nd.face at hal
          injection hal with _ h2
          injection h2 with h3 _
        have CS2 := fun w h => CS hlen w h
        have HA := Lib.hid ha
        clear ha CS hal hlen
        cases hsb : sargsB cl x.args y.args x.args.length with
        | false =>
          rw [hsb] at CS2
          have HSB := Lib.hid hsb
          clear hsb
          go_wp2_with fail
          refine wp_region_held_drew (S := fun w' => w'.cell? ⟨gb, go + i * 4, none⟩ = some (.int .i64 x.kind) ∧ w'.cell? ⟨gb, go + i * 4 + 1, none⟩ = some (.int .i64 x.num) ∧ w'.cell? ⟨gb, go + i * 4 + 2, none⟩ = some (.string x.label) ∧ w'.cell? ⟨gb, go + i * 4 + 3, none⟩ = some (.slice xb x.args.length xc) ∧ w'.cell? ⟨gb, go + f * 4, none⟩ = some (.int .i64 y.kind) ∧ w'.cell? ⟨gb, go + f * 4 + 1, none⟩ = some (.int .i64 y.num) ∧ w'.cell? ⟨gb, go + f * 4 + 2, none⟩ = some (.string y.label) ∧ w'.cell? ⟨gb, go + f * 4 + 3, none⟩ = some (.slice yb y.args.length yc) ∧ w'.cell? ⟨fb, fo + k, none⟩ = some (.int .i64 (f : Int)) ∧ Kp W.heap.size W w') (by kernel_rfl) ?_ (fun hHeld => ?_)
          · exact ⟨g0, g1, g2, g3, k0, k1, k2, k3, hcf, HKP.out.drew⟩
          refine wpAnyH_take (i := 0) (oi := { dst := some 16, op := Go.Op.move (Go.Operand.tmp 0), type := 22, pos := "ref.go:138", after := #[], guard := none }) (v := ?_) rfl (by kernel_rfl) (by kernel_rfl) (by kernel_rfl) (fun _ _ _ h => h) (Or.inl ⟨by rfl, ?_⟩) (by assumption) ?_
          rotate_left
          · (intro w hSw; (try dsimp only at hSw); go_simp); all_goals (with_reducible rfl)
          try simp only [Act.put, List.setIfInBounds_toArray, List.set_cons_zero, List.set_cons_succ]
          refine wpAnyH_take (i := 1) (oi := { dst := some 17, op := Go.Op.move (Go.Operand.tmp 2), type := 3, pos := "ref.go:138", after := #[], guard := none }) (v := ?_) rfl (by kernel_rfl) (by kernel_rfl) (by kernel_rfl) (fun _ _ _ h => h) (Or.inl ⟨by rfl, ?_⟩) (by assumption) ?_
          rotate_left
          · (intro w hSw; (try dsimp only at hSw); go_simp); all_goals (with_reducible rfl)
          try simp only [Act.put, List.setIfInBounds_toArray, List.set_cons_zero, List.set_cons_succ]
          refine wpAnyH_take (i := 2) (oi := { dst := some 18, op := Go.Op.indexAddr 22 (Go.Operand.tmp 16) (Go.Operand.tmp 17), type := 0, pos := "ref.go:138", after := #[{ on := 0, ground := Go.Ground.data }, { on := 1, ground := Go.Ground.data }], guard := none }) (v := ?_) rfl (by kernel_rfl) (by kernel_rfl) (by kernel_rfl) (fun _ _ _ h => h) (Or.inl ⟨by rfl, ?_⟩) (by assumption) ?_
          rotate_left
          · (intro w hSw; (try dsimp only at hSw); go_simp); all_goals (with_reducible rfl)
          try simp only [Act.put, List.setIfInBounds_toArray, List.set_cons_zero, List.set_cons_succ]
          refine wpAnyH_take (i := 3) (oi := { dst := some 19, op := Go.Op.load 48 (Go.Operand.tmp 18), type := 48, pos := "ref.go:138", after := #[{ on := 2, ground := Go.Ground.data }], guard := none }) (v := ?_) rfl (by kernel_rfl) (by kernel_rfl) (by kernel_rfl) (fun _ _ _ h => h) (Or.inl ⟨by rfl, ?_⟩) (by assumption) ?_
          rotate_left
          · (intro w hSw; (try dsimp only at hSw); go_simp); all_goals (with_reducible rfl)
          try simp only [Act.put, List.setIfInBounds_toArray, List.set_cons_zero, List.set_cons_succ]
          refine wpAnyH_take (i := 4) (oi := { dst := some 20, op := Go.Op.move (Go.Operand.tmp 0), type := 22, pos := "ref.go:138", after := #[], guard := none }) (v := ?_) rfl (by kernel_rfl) (by kernel_rfl) (by kernel_rfl) (fun _ _ _ h => h) (Or.inl ⟨by rfl, ?_⟩) (by assumption) ?_
          rotate_left
          · (intro w hSw; (try dsimp only at hSw); go_simp); all_goals (with_reducible rfl)
          try simp only [Act.put, List.setIfInBounds_toArray, List.set_cons_zero, List.set_cons_succ]
          refine wpAnyH_take (i := 5) (oi := { dst := some 21, op := Go.Op.move (Go.Operand.tmp 1), type := 43, pos := "ref.go:138", after := #[], guard := none }) (v := ?_) rfl (by kernel_rfl) (by kernel_rfl) (by kernel_rfl) (fun _ _ _ h => h) (Or.inl ⟨by rfl, ?_⟩) (by assumption) ?_
          rotate_left
          · (intro w hSw; (try dsimp only at hSw); go_simp); all_goals (with_reducible rfl)
          try simp only [Act.put, List.setIfInBounds_toArray, List.set_cons_zero, List.set_cons_succ]
          refine wpAnyH_take (i := 6) (oi := { dst := some 22, op := Go.Op.move (Go.Operand.tmp 9), type := 3, pos := "ref.go:138", after := #[], guard := none }) (v := ?_) rfl (by kernel_rfl) (by kernel_rfl) (by kernel_rfl) (fun _ _ _ h => h) (Or.inl ⟨by rfl, ?_⟩) (by assumption) ?_
          rotate_left
          · (intro w hSw; (try dsimp only at hSw); go_simp); all_goals (with_reducible rfl)
          try simp only [Act.put, List.setIfInBounds_toArray, List.set_cons_zero, List.set_cons_succ]
          refine wpAnyH_take (i := 7) (oi := { dst := some 23, op := Go.Op.indexAddr 43 (Go.Operand.tmp 21) (Go.Operand.tmp 22), type := 0, pos := "ref.go:138", after := #[{ on := 5, ground := Go.Ground.data }, { on := 6, ground := Go.Ground.data }], guard := none }) (v := ?_) rfl (by kernel_rfl) (by kernel_rfl) (by kernel_rfl) (fun _ _ _ h => h) (Or.inl ⟨by rfl, ?_⟩) (by assumption) ?_
          rotate_left
          · (intro w hSw; (try dsimp only at hSw); go_simp); all_goals (with_reducible rfl)
          try simp only [Act.put, List.setIfInBounds_toArray, List.set_cons_zero, List.set_cons_succ]
          refine wpAnyH_take (i := 8) (oi := { dst := some 24, op := Go.Op.load 3 (Go.Operand.tmp 23), type := 3, pos := "ref.go:138", after := #[{ on := 7, ground := Go.Ground.data }], guard := none }) (v := ?_) rfl (by kernel_rfl) (by kernel_rfl) (by kernel_rfl) (fun _ _ _ h => h) (Or.inl ⟨by rfl, ?_⟩) (by assumption) ?_
          rotate_left
          · (intro w hSw; (try dsimp only at hSw); go_simp); all_goals (with_reducible rfl)
          try simp only [Act.put, List.setIfInBounds_toArray, List.set_cons_zero, List.set_cons_succ]
          refine wpAnyH_take (i := 9) (oi := { dst := some 25, op := Go.Op.indexAddr 22 (Go.Operand.tmp 20) (Go.Operand.tmp 24), type := 0, pos := "ref.go:138", after := #[{ on := 4, ground := Go.Ground.data }, { on := 8, ground := Go.Ground.data }], guard := none }) (v := ?_) rfl (by kernel_rfl) (by kernel_rfl) (by kernel_rfl) (fun _ _ _ h => h) (Or.inl ⟨by rfl, ?_⟩) (by assumption) ?_
          rotate_left
          · (intro w hSw; (try dsimp only at hSw); go_simp); all_goals (with_reducible rfl)
          try simp only [Act.put, List.setIfInBounds_toArray, List.set_cons_zero, List.set_cons_succ]
          refine wpAnyH_take (i := 10) (oi := { dst := some 26, op := Go.Op.load 48 (Go.Operand.tmp 25), type := 48, pos := "ref.go:138", after := #[{ on := 9, ground := Go.Ground.data }], guard := none }) (v := ?_) rfl (by kernel_rfl) (by kernel_rfl) (by kernel_rfl) (fun _ _ _ h => h) (Or.inl ⟨by rfl, ?_⟩) (by assumption) ?_
          rotate_left
          · (intro w hSw; (try dsimp only at hSw); go_simp); all_goals (with_reducible rfl)
          try simp only [Act.put, List.setIfInBounds_toArray, List.set_cons_zero, List.set_cons_succ]
          refine wpAnyH_ready (rs := [11]) (by kernel_rfl) (by simp) ?_
          refine AllReadyH.cons (o := { dst := some 27, op := Go.Op.call { callee := Go.Callee.value (Go.Operand.func 46), args := #[Go.Operand.tmp 19, Go.Operand.tmp 26], argTypes := #[48, 48] }, type := 4, pos := "ref.go:138", after := #[{ on := 3, ground := Go.Ground.data }, { on := 10, ground := Go.Ground.data }], guard := none }) rfl (fun K hK => ?_) AllReadyH.nil
          go_simp
          refine (CA _ hHeld.2.2.2.2.2.2.2.2.2).mono ?_
          rintro e w' ⟨rfl, hk2⟩
          refine hK.out _ _ ?_ (fun hHeld => ?_)
          · obtain ⟨s0, s1, s2, s3, s4, s5, s6, s7, s8, s9⟩ := hHeld
            exact ⟨hk2.cells s0, hk2.cells s1, hk2.cells s2, hk2.cells s3, hk2.cells s4, hk2.cells s5, hk2.cells s6, hk2.cells s7, hk2.cells s8, s9.trans (hk2.mono s9.size)⟩
          clear hK K
          try simp only [Act.put, List.setIfInBounds_toArray, List.set_cons_zero, List.set_cons_succ]
          refine wpAnyH_take (i := 12) (oi := { dst := some 28, op := Go.Op.move (Go.Operand.tmp 27), type := 4, pos := "ref.go:138", after := #[{ on := 11, ground := Go.Ground.data }, { on := 11, ground := Go.Ground.chain }], guard := none }) (v := ?_) rfl (by kernel_rfl) (by kernel_rfl) (by kernel_rfl) (fun _ _ _ h => h) (Or.inl ⟨by rfl, ?_⟩) (by assumption) ?_
          rotate_left
          · (intro w hSw; (try dsimp only at hSw); go_simp); all_goals (with_reducible rfl)
          try simp only [Act.put, List.setIfInBounds_toArray, List.set_cons_zero, List.set_cons_succ]
          refine wpAnyH_take (i := 13) (oi := { dst := some 29, op := Go.Op.move (Go.Operand.tmp 0), type := 22, pos := "ref.go:138", after := #[{ on := 12, ground := Go.Ground.guard }], guard := some (12, true) }) (v := ?_) rfl (by kernel_rfl) (by kernel_rfl) (by kernel_rfl) (fun _ _ _ h => h) (Or.inl ⟨by rfl, ?_⟩) (by assumption) ?_
          rotate_left
          · (intro w hSw; (try dsimp only at hSw); go_simp); all_goals (with_reducible rfl)
          try simp only [Act.put, List.setIfInBounds_toArray, List.set_cons_zero, List.set_cons_succ]
          refine wpAnyH_take (i := 14) (oi := { dst := some 30, op := Go.Op.move (Go.Operand.tmp 2), type := 3, pos := "ref.go:138", after := #[{ on := 12, ground := Go.Ground.guard }], guard := some (12, true) }) (v := ?_) rfl (by kernel_rfl) (by kernel_rfl) (by kernel_rfl) (fun _ _ _ h => h) (Or.inl ⟨by rfl, ?_⟩) (by assumption) ?_
          rotate_left
          · (intro w hSw; (try dsimp only at hSw); go_simp); all_goals (with_reducible rfl)
          try simp only [Act.put, List.setIfInBounds_toArray, List.set_cons_zero, List.set_cons_succ]
          refine wpAnyH_take (i := 15) (oi := { dst := some 31, op := Go.Op.indexAddr 22 (Go.Operand.tmp 29) (Go.Operand.tmp 30), type := 0, pos := "ref.go:138", after := #[{ on := 13, ground := Go.Ground.data }, { on := 14, ground := Go.Ground.data }, { on := 12, ground := Go.Ground.guard }], guard := some (12, true) }) (v := ?_) rfl (by kernel_rfl) (by kernel_rfl) (by kernel_rfl) (fun _ _ _ h => h) (Or.inl ⟨by rfl, ?_⟩) (by assumption) ?_
          rotate_left
          · (intro w hSw; (try dsimp only at hSw); go_simp); all_goals (with_reducible rfl)
          try simp only [Act.put, List.setIfInBounds_toArray, List.set_cons_zero, List.set_cons_succ]
          refine wpAnyH_take (i := 16) (oi := { dst := some 32, op := Go.Op.load 48 (Go.Operand.tmp 31), type := 48, pos := "ref.go:138", after := #[{ on := 15, ground := Go.Ground.data }, { on := 12, ground := Go.Ground.guard }], guard := some (12, true) }) (v := ?_) rfl (by kernel_rfl) (by kernel_rfl) (by kernel_rfl) (fun _ _ _ h => h) (Or.inl ⟨by rfl, ?_⟩) (by assumption) ?_
          rotate_left
          · (intro w hSw; (try dsimp only at hSw); go_simp); all_goals (with_reducible rfl)
          try simp only [Act.put, List.setIfInBounds_toArray, List.set_cons_zero, List.set_cons_succ]
          refine wpAnyH_take (i := 17) (oi := { dst := some 33, op := Go.Op.move (Go.Operand.tmp 0), type := 22, pos := "ref.go:138", after := #[{ on := 12, ground := Go.Ground.guard }], guard := some (12, true) }) (v := ?_) rfl (by kernel_rfl) (by kernel_rfl) (by kernel_rfl) (fun _ _ _ h => h) (Or.inl ⟨by rfl, ?_⟩) (by assumption) ?_
          rotate_left
          · (intro w hSw; (try dsimp only at hSw); go_simp); all_goals (with_reducible rfl)
          try simp only [Act.put, List.setIfInBounds_toArray, List.set_cons_zero, List.set_cons_succ]
          refine wpAnyH_take (i := 18) (oi := { dst := some 34, op := Go.Op.move (Go.Operand.tmp 1), type := 43, pos := "ref.go:138", after := #[{ on := 12, ground := Go.Ground.guard }], guard := some (12, true) }) (v := ?_) rfl (by kernel_rfl) (by kernel_rfl) (by kernel_rfl) (fun _ _ _ h => h) (Or.inl ⟨by rfl, ?_⟩) (by assumption) ?_
          rotate_left
          · (intro w hSw; (try dsimp only at hSw); go_simp); all_goals (with_reducible rfl)
          try simp only [Act.put, List.setIfInBounds_toArray, List.set_cons_zero, List.set_cons_succ]
          refine wpAnyH_take (i := 19) (oi := { dst := some 35, op := Go.Op.move (Go.Operand.tmp 9), type := 3, pos := "ref.go:138", after := #[{ on := 12, ground := Go.Ground.guard }], guard := some (12, true) }) (v := ?_) rfl (by kernel_rfl) (by kernel_rfl) (by kernel_rfl) (fun _ _ _ h => h) (Or.inl ⟨by rfl, ?_⟩) (by assumption) ?_
          rotate_left
          · (intro w hSw; (try dsimp only at hSw); go_simp); all_goals (with_reducible rfl)
          try simp only [Act.put, List.setIfInBounds_toArray, List.set_cons_zero, List.set_cons_succ]
          refine wpAnyH_take (i := 20) (oi := { dst := some 36, op := Go.Op.indexAddr 43 (Go.Operand.tmp 34) (Go.Operand.tmp 35), type := 0, pos := "ref.go:138", after := #[{ on := 18, ground := Go.Ground.data }, { on := 19, ground := Go.Ground.data }, { on := 12, ground := Go.Ground.guard }], guard := some (12, true) }) (v := ?_) rfl (by kernel_rfl) (by kernel_rfl) (by kernel_rfl) (fun _ _ _ h => h) (Or.inl ⟨by rfl, ?_⟩) (by assumption) ?_
          rotate_left
          · (intro w hSw; (try dsimp only at hSw); go_simp); all_goals (with_reducible rfl)
          try simp only [Act.put, List.setIfInBounds_toArray, List.set_cons_zero, List.set_cons_succ]
          refine wpAnyH_take (i := 21) (oi := { dst := some 37, op := Go.Op.load 3 (Go.Operand.tmp 36), type := 3, pos := "ref.go:138", after := #[{ on := 20, ground := Go.Ground.data }, { on := 12, ground := Go.Ground.guard }], guard := some (12, true) }) (v := ?_) rfl (by kernel_rfl) (by kernel_rfl) (by kernel_rfl) (fun _ _ _ h => h) (Or.inl ⟨by rfl, ?_⟩) (by assumption) ?_
          rotate_left
          · (intro w hSw; (try dsimp only at hSw); go_simp); all_goals (with_reducible rfl)
          try simp only [Act.put, List.setIfInBounds_toArray, List.set_cons_zero, List.set_cons_succ]
          refine wpAnyH_take (i := 22) (oi := { dst := some 38, op := Go.Op.indexAddr 22 (Go.Operand.tmp 33) (Go.Operand.tmp 37), type := 0, pos := "ref.go:138", after := #[{ on := 17, ground := Go.Ground.data }, { on := 21, ground := Go.Ground.data }, { on := 12, ground := Go.Ground.guard }], guard := some (12, true) }) (v := ?_) rfl (by kernel_rfl) (by kernel_rfl) (by kernel_rfl) (fun _ _ _ h => h) (Or.inl ⟨by rfl, ?_⟩) (by assumption) ?_
          rotate_left
          · (intro w hSw; (try dsimp only at hSw); go_simp); all_goals (with_reducible rfl)
          try simp only [Act.put, List.setIfInBounds_toArray, List.set_cons_zero, List.set_cons_succ]
          refine wpAnyH_take (i := 23) (oi := { dst := some 39, op := Go.Op.load 48 (Go.Operand.tmp 38), type := 48, pos := "ref.go:138", after := #[{ on := 22, ground := Go.Ground.data }, { on := 12, ground := Go.Ground.guard }], guard := some (12, true) }) (v := ?_) rfl (by kernel_rfl) (by kernel_rfl) (by kernel_rfl) (fun _ _ _ h => h) (Or.inl ⟨by rfl, ?_⟩) (by assumption) ?_
          rotate_left
          · (intro w hSw; (try dsimp only at hSw); go_simp); all_goals (with_reducible rfl)
          try simp only [Act.put, List.setIfInBounds_toArray, List.set_cons_zero, List.set_cons_succ]
          refine wpAnyH_take (i := 24) (oi := { dst := some 40, op := Go.Op.move (Go.Operand.tmp 3), type := 43, pos := "ref.go:138", after := #[{ on := 12, ground := Go.Ground.guard }], guard := some (12, true) }) (v := ?_) rfl (by kernel_rfl) (by kernel_rfl) (by kernel_rfl) (fun _ _ _ h => h) (Or.inl ⟨by rfl, ?_⟩) (by assumption) ?_
          rotate_left
          · (intro w hSw; (try dsimp only at hSw); go_simp); all_goals (with_reducible rfl)
          try simp only [Act.put, List.setIfInBounds_toArray, List.set_cons_zero, List.set_cons_succ]
          refine wpAnyH_ready (rs := [25]) (by kernel_rfl) (by simp) ?_
          refine AllReadyH.cons (o := { dst := some 41, op := Go.Op.call { callee := Go.Callee.value (Go.Operand.func 94), args := #[Go.Operand.tmp 32, Go.Operand.tmp 39, Go.Operand.tmp 40], argTypes := #[48, 48, 43] }, type := 4, pos := "ref.go:138", after := #[{ on := 16, ground := Go.Ground.data }, { on := 23, ground := Go.Ground.data }, { on := 24, ground := Go.Ground.data }, { on := 12, ground := Go.Ground.chain }, { on := 12, ground := Go.Ground.guard }], guard := some (12, true) }) rfl (fun K hK => ?_) AllReadyH.nil
          go_simp
          refine (CS2 _ hHeld.2.2.2.2.2.2.2.2.2).mono ?_
          rintro e w' ⟨rfl, hk2⟩
          refine hK.out _ _ ?_ (fun hHeld => ?_)
          · obtain ⟨s0, s1, s2, s3, s4, s5, s6, s7, s8, s9⟩ := hHeld
            exact ⟨hk2.cells s0, hk2.cells s1, hk2.cells s2, hk2.cells s3, hk2.cells s4, hk2.cells s5, hk2.cells s6, hk2.cells s7, hk2.cells s8, s9.trans (hk2.mono s9.size)⟩
          clear hK K
          try simp only [Act.put, List.setIfInBounds_toArray, List.set_cons_zero, List.set_cons_succ]
          refine wpAnyH_take (i := 26) (oi := { dst := some 42, op := Go.Op.pick (Go.Operand.tmp 28) (Go.Operand.tmp 41) (Go.Operand.const (Go.Value.bool false)), type := 4, pos := "ref.go:138", after := #[{ on := 12, ground := Go.Ground.data }, { on := 25, ground := Go.Ground.data }], guard := none }) (v := ?_) rfl (by kernel_rfl) (by kernel_rfl) (by kernel_rfl) (fun _ _ _ h => h) (Or.inl ⟨by rfl, ?_⟩) (by assumption) ?_
          rotate_left
          · (intro w hSw; (try dsimp only at hSw); go_simp); all_goals (with_reducible rfl)
          try simp only [Act.put, List.setIfInBounds_toArray, List.set_cons_zero, List.set_cons_succ]
          refine wpAnyH_done (by kernel_rfl) ?_ _
          have HE := Lib.hid hHeld.2.2.2.2.2.2.2.2.2
          clear hHeld
          have HN := Lib.hid (HFI.out.trans (firstOr_miss hlt (by rw [HF0.out, HLK.out, HA.out, HSB.out]; rfl)))
          go_wp2
          go_roundw
          case rel => exact ⟨k + 1, by omega, by go_num, HN.out, HE.out⟩
          case measure => simp [RowKit.intOf]; omega
        | true =>
          rw [hsb] at CS2
          have HSB := Lib.hid hsb
          clear hsb
          go_wp2_with fail
          refine wp_region_held_drew (S := fun w' => w'.cell? ⟨gb, go + i * 4, none⟩ = some (.int .i64 x.kind) ∧ w'.cell? ⟨gb, go + i * 4 + 1, none⟩ = some (.int .i64 x.num) ∧ w'.cell? ⟨gb, go + i * 4 + 2, none⟩ = some (.string x.label) ∧ w'.cell? ⟨gb, go + i * 4 + 3, none⟩ = some (.slice xb x.args.length xc) ∧ w'.cell? ⟨gb, go + f * 4, none⟩ = some (.int .i64 y.kind) ∧ w'.cell? ⟨gb, go + f * 4 + 1, none⟩ = some (.int .i64 y.num) ∧ w'.cell? ⟨gb, go + f * 4 + 2, none⟩ = some (.string y.label) ∧ w'.cell? ⟨gb, go + f * 4 + 3, none⟩ = some (.slice yb y.args.length yc) ∧ w'.cell? ⟨fb, fo + k, none⟩ = some (.int .i64 (f : Int)) ∧ Kp W.heap.size W w') (by kernel_rfl) ?_ (fun hHeld => ?_)
          · exact ⟨g0, g1, g2, g3, k0, k1, k2, k3, hcf, HKP.out.drew⟩
          refine wpAnyH_take (i := 0) (oi := { dst := some 16, op := Go.Op.move (Go.Operand.tmp 0), type := 22, pos := "ref.go:138", after := #[], guard := none }) (v := ?_) rfl (by kernel_rfl) (by kernel_rfl) (by kernel_rfl) (fun _ _ _ h => h) (Or.inl ⟨by rfl, ?_⟩) (by assumption) ?_
          rotate_left
          · (intro w hSw; (try dsimp only at hSw); go_simp); all_goals (with_reducible rfl)
          try simp only [Act.put, List.setIfInBounds_toArray, List.set_cons_zero, List.set_cons_succ]
          refine wpAnyH_take (i := 1) (oi := { dst := some 17, op := Go.Op.move (Go.Operand.tmp 2), type := 3, pos := "ref.go:138", after := #[], guard := none }) (v := ?_) rfl (by kernel_rfl) (by kernel_rfl) (by kernel_rfl) (fun _ _ _ h => h) (Or.inl ⟨by rfl, ?_⟩) (by assumption) ?_
          rotate_left
          · (intro w hSw; (try dsimp only at hSw); go_simp); all_goals (with_reducible rfl)
          try simp only [Act.put, List.setIfInBounds_toArray, List.set_cons_zero, List.set_cons_succ]
          refine wpAnyH_take (i := 2) (oi := { dst := some 18, op := Go.Op.indexAddr 22 (Go.Operand.tmp 16) (Go.Operand.tmp 17), type := 0, pos := "ref.go:138", after := #[{ on := 0, ground := Go.Ground.data }, { on := 1, ground := Go.Ground.data }], guard := none }) (v := ?_) rfl (by kernel_rfl) (by kernel_rfl) (by kernel_rfl) (fun _ _ _ h => h) (Or.inl ⟨by rfl, ?_⟩) (by assumption) ?_
          rotate_left
          · (intro w hSw; (try dsimp only at hSw); go_simp); all_goals (with_reducible rfl)
          try simp only [Act.put, List.setIfInBounds_toArray, List.set_cons_zero, List.set_cons_succ]
          refine wpAnyH_take (i := 3) (oi := { dst := some 19, op := Go.Op.load 48 (Go.Operand.tmp 18), type := 48, pos := "ref.go:138", after := #[{ on := 2, ground := Go.Ground.data }], guard := none }) (v := ?_) rfl (by kernel_rfl) (by kernel_rfl) (by kernel_rfl) (fun _ _ _ h => h) (Or.inl ⟨by rfl, ?_⟩) (by assumption) ?_
          rotate_left
          · (intro w hSw; (try dsimp only at hSw); go_simp); all_goals (with_reducible rfl)
          try simp only [Act.put, List.setIfInBounds_toArray, List.set_cons_zero, List.set_cons_succ]
          refine wpAnyH_take (i := 4) (oi := { dst := some 20, op := Go.Op.move (Go.Operand.tmp 0), type := 22, pos := "ref.go:138", after := #[], guard := none }) (v := ?_) rfl (by kernel_rfl) (by kernel_rfl) (by kernel_rfl) (fun _ _ _ h => h) (Or.inl ⟨by rfl, ?_⟩) (by assumption) ?_
          rotate_left
          · (intro w hSw; (try dsimp only at hSw); go_simp); all_goals (with_reducible rfl)
          try simp only [Act.put, List.setIfInBounds_toArray, List.set_cons_zero, List.set_cons_succ]
          refine wpAnyH_take (i := 5) (oi := { dst := some 21, op := Go.Op.move (Go.Operand.tmp 1), type := 43, pos := "ref.go:138", after := #[], guard := none }) (v := ?_) rfl (by kernel_rfl) (by kernel_rfl) (by kernel_rfl) (fun _ _ _ h => h) (Or.inl ⟨by rfl, ?_⟩) (by assumption) ?_
          rotate_left
          · (intro w hSw; (try dsimp only at hSw); go_simp); all_goals (with_reducible rfl)
          try simp only [Act.put, List.setIfInBounds_toArray, List.set_cons_zero, List.set_cons_succ]
          refine wpAnyH_take (i := 6) (oi := { dst := some 22, op := Go.Op.move (Go.Operand.tmp 9), type := 3, pos := "ref.go:138", after := #[], guard := none }) (v := ?_) rfl (by kernel_rfl) (by kernel_rfl) (by kernel_rfl) (fun _ _ _ h => h) (Or.inl ⟨by rfl, ?_⟩) (by assumption) ?_
          rotate_left
          · (intro w hSw; (try dsimp only at hSw); go_simp); all_goals (with_reducible rfl)
          try simp only [Act.put, List.setIfInBounds_toArray, List.set_cons_zero, List.set_cons_succ]
          refine wpAnyH_take (i := 7) (oi := { dst := some 23, op := Go.Op.indexAddr 43 (Go.Operand.tmp 21) (Go.Operand.tmp 22), type := 0, pos := "ref.go:138", after := #[{ on := 5, ground := Go.Ground.data }, { on := 6, ground := Go.Ground.data }], guard := none }) (v := ?_) rfl (by kernel_rfl) (by kernel_rfl) (by kernel_rfl) (fun _ _ _ h => h) (Or.inl ⟨by rfl, ?_⟩) (by assumption) ?_
          rotate_left
          · (intro w hSw; (try dsimp only at hSw); go_simp); all_goals (with_reducible rfl)
          try simp only [Act.put, List.setIfInBounds_toArray, List.set_cons_zero, List.set_cons_succ]
          refine wpAnyH_take (i := 8) (oi := { dst := some 24, op := Go.Op.load 3 (Go.Operand.tmp 23), type := 3, pos := "ref.go:138", after := #[{ on := 7, ground := Go.Ground.data }], guard := none }) (v := ?_) rfl (by kernel_rfl) (by kernel_rfl) (by kernel_rfl) (fun _ _ _ h => h) (Or.inl ⟨by rfl, ?_⟩) (by assumption) ?_
          rotate_left
          · (intro w hSw; (try dsimp only at hSw); go_simp); all_goals (with_reducible rfl)
          try simp only [Act.put, List.setIfInBounds_toArray, List.set_cons_zero, List.set_cons_succ]
          refine wpAnyH_take (i := 9) (oi := { dst := some 25, op := Go.Op.indexAddr 22 (Go.Operand.tmp 20) (Go.Operand.tmp 24), type := 0, pos := "ref.go:138", after := #[{ on := 4, ground := Go.Ground.data }, { on := 8, ground := Go.Ground.data }], guard := none }) (v := ?_) rfl (by kernel_rfl) (by kernel_rfl) (by kernel_rfl) (fun _ _ _ h => h) (Or.inl ⟨by rfl, ?_⟩) (by assumption) ?_
          rotate_left
          · (intro w hSw; (try dsimp only at hSw); go_simp); all_goals (with_reducible rfl)
          try simp only [Act.put, List.setIfInBounds_toArray, List.set_cons_zero, List.set_cons_succ]
          refine wpAnyH_take (i := 10) (oi := { dst := some 26, op := Go.Op.load 48 (Go.Operand.tmp 25), type := 48, pos := "ref.go:138", after := #[{ on := 9, ground := Go.Ground.data }], guard := none }) (v := ?_) rfl (by kernel_rfl) (by kernel_rfl) (by kernel_rfl) (fun _ _ _ h => h) (Or.inl ⟨by rfl, ?_⟩) (by assumption) ?_
          rotate_left
          · (intro w hSw; (try dsimp only at hSw); go_simp); all_goals (with_reducible rfl)
          try simp only [Act.put, List.setIfInBounds_toArray, List.set_cons_zero, List.set_cons_succ]
          refine wpAnyH_ready (rs := [11]) (by kernel_rfl) (by simp) ?_
          refine AllReadyH.cons (o := { dst := some 27, op := Go.Op.call { callee := Go.Callee.value (Go.Operand.func 46), args := #[Go.Operand.tmp 19, Go.Operand.tmp 26], argTypes := #[48, 48] }, type := 4, pos := "ref.go:138", after := #[{ on := 3, ground := Go.Ground.data }, { on := 10, ground := Go.Ground.data }], guard := none }) rfl (fun K hK => ?_) AllReadyH.nil
          go_simp
          refine (CA _ hHeld.2.2.2.2.2.2.2.2.2).mono ?_
          rintro e w' ⟨rfl, hk2⟩
          refine hK.out _ _ ?_ (fun hHeld => ?_)
          · obtain ⟨s0, s1, s2, s3, s4, s5, s6, s7, s8, s9⟩ := hHeld
            exact ⟨hk2.cells s0, hk2.cells s1, hk2.cells s2, hk2.cells s3, hk2.cells s4, hk2.cells s5, hk2.cells s6, hk2.cells s7, hk2.cells s8, s9.trans (hk2.mono s9.size)⟩
          clear hK K
          try simp only [Act.put, List.setIfInBounds_toArray, List.set_cons_zero, List.set_cons_succ]
          refine wpAnyH_take (i := 12) (oi := { dst := some 28, op := Go.Op.move (Go.Operand.tmp 27), type := 4, pos := "ref.go:138", after := #[{ on := 11, ground := Go.Ground.data }, { on := 11, ground := Go.Ground.chain }], guard := none }) (v := ?_) rfl (by kernel_rfl) (by kernel_rfl) (by kernel_rfl) (fun _ _ _ h => h) (Or.inl ⟨by rfl, ?_⟩) (by assumption) ?_
          rotate_left
          · (intro w hSw; (try dsimp only at hSw); go_simp); all_goals (with_reducible rfl)
          try simp only [Act.put, List.setIfInBounds_toArray, List.set_cons_zero, List.set_cons_succ]
          refine wpAnyH_take (i := 13) (oi := { dst := some 29, op := Go.Op.move (Go.Operand.tmp 0), type := 22, pos := "ref.go:138", after := #[{ on := 12, ground := Go.Ground.guard }], guard := some (12, true) }) (v := ?_) rfl (by kernel_rfl) (by kernel_rfl) (by kernel_rfl) (fun _ _ _ h => h) (Or.inl ⟨by rfl, ?_⟩) (by assumption) ?_
          rotate_left
          · (intro w hSw; (try dsimp only at hSw); go_simp); all_goals (with_reducible rfl)
          try simp only [Act.put, List.setIfInBounds_toArray, List.set_cons_zero, List.set_cons_succ]
          refine wpAnyH_take (i := 14) (oi := { dst := some 30, op := Go.Op.move (Go.Operand.tmp 2), type := 3, pos := "ref.go:138", after := #[{ on := 12, ground := Go.Ground.guard }], guard := some (12, true) }) (v := ?_) rfl (by kernel_rfl) (by kernel_rfl) (by kernel_rfl) (fun _ _ _ h => h) (Or.inl ⟨by rfl, ?_⟩) (by assumption) ?_
          rotate_left
          · (intro w hSw; (try dsimp only at hSw); go_simp); all_goals (with_reducible rfl)
          try simp only [Act.put, List.setIfInBounds_toArray, List.set_cons_zero, List.set_cons_succ]
          refine wpAnyH_take (i := 15) (oi := { dst := some 31, op := Go.Op.indexAddr 22 (Go.Operand.tmp 29) (Go.Operand.tmp 30), type := 0, pos := "ref.go:138", after := #[{ on := 13, ground := Go.Ground.data }, { on := 14, ground := Go.Ground.data }, { on := 12, ground := Go.Ground.guard }], guard := some (12, true) }) (v := ?_) rfl (by kernel_rfl) (by kernel_rfl) (by kernel_rfl) (fun _ _ _ h => h) (Or.inl ⟨by rfl, ?_⟩) (by assumption) ?_
          rotate_left
          · (intro w hSw; (try dsimp only at hSw); go_simp); all_goals (with_reducible rfl)
          try simp only [Act.put, List.setIfInBounds_toArray, List.set_cons_zero, List.set_cons_succ]
          refine wpAnyH_take (i := 16) (oi := { dst := some 32, op := Go.Op.load 48 (Go.Operand.tmp 31), type := 48, pos := "ref.go:138", after := #[{ on := 15, ground := Go.Ground.data }, { on := 12, ground := Go.Ground.guard }], guard := some (12, true) }) (v := ?_) rfl (by kernel_rfl) (by kernel_rfl) (by kernel_rfl) (fun _ _ _ h => h) (Or.inl ⟨by rfl, ?_⟩) (by assumption) ?_
          rotate_left
          · (intro w hSw; (try dsimp only at hSw); go_simp); all_goals (with_reducible rfl)
          try simp only [Act.put, List.setIfInBounds_toArray, List.set_cons_zero, List.set_cons_succ]
          refine wpAnyH_take (i := 17) (oi := { dst := some 33, op := Go.Op.move (Go.Operand.tmp 0), type := 22, pos := "ref.go:138", after := #[{ on := 12, ground := Go.Ground.guard }], guard := some (12, true) }) (v := ?_) rfl (by kernel_rfl) (by kernel_rfl) (by kernel_rfl) (fun _ _ _ h => h) (Or.inl ⟨by rfl, ?_⟩) (by assumption) ?_
          rotate_left
          · (intro w hSw; (try dsimp only at hSw); go_simp); all_goals (with_reducible rfl)
          try simp only [Act.put, List.setIfInBounds_toArray, List.set_cons_zero, List.set_cons_succ]
          refine wpAnyH_take (i := 18) (oi := { dst := some 34, op := Go.Op.move (Go.Operand.tmp 1), type := 43, pos := "ref.go:138", after := #[{ on := 12, ground := Go.Ground.guard }], guard := some (12, true) }) (v := ?_) rfl (by kernel_rfl) (by kernel_rfl) (by kernel_rfl) (fun _ _ _ h => h) (Or.inl ⟨by rfl, ?_⟩) (by assumption) ?_
          rotate_left
          · (intro w hSw; (try dsimp only at hSw); go_simp); all_goals (with_reducible rfl)
          try simp only [Act.put, List.setIfInBounds_toArray, List.set_cons_zero, List.set_cons_succ]
          refine wpAnyH_take (i := 19) (oi := { dst := some 35, op := Go.Op.move (Go.Operand.tmp 9), type := 3, pos := "ref.go:138", after := #[{ on := 12, ground := Go.Ground.guard }], guard := some (12, true) }) (v := ?_) rfl (by kernel_rfl) (by kernel_rfl) (by kernel_rfl) (fun _ _ _ h => h) (Or.inl ⟨by rfl, ?_⟩) (by assumption) ?_
          rotate_left
          · (intro w hSw; (try dsimp only at hSw); go_simp); all_goals (with_reducible rfl)
          try simp only [Act.put, List.setIfInBounds_toArray, List.set_cons_zero, List.set_cons_succ]
          refine wpAnyH_take (i := 20) (oi := { dst := some 36, op := Go.Op.indexAddr 43 (Go.Operand.tmp 34) (Go.Operand.tmp 35), type := 0, pos := "ref.go:138", after := #[{ on := 18, ground := Go.Ground.data }, { on := 19, ground := Go.Ground.data }, { on := 12, ground := Go.Ground.guard }], guard := some (12, true) }) (v := ?_) rfl (by kernel_rfl) (by kernel_rfl) (by kernel_rfl) (fun _ _ _ h => h) (Or.inl ⟨by rfl, ?_⟩) (by assumption) ?_
          rotate_left
          · (intro w hSw; (try dsimp only at hSw); go_simp); all_goals (with_reducible rfl)
          try simp only [Act.put, List.setIfInBounds_toArray, List.set_cons_zero, List.set_cons_succ]
          refine wpAnyH_take (i := 21) (oi := { dst := some 37, op := Go.Op.load 3 (Go.Operand.tmp 36), type := 3, pos := "ref.go:138", after := #[{ on := 20, ground := Go.Ground.data }, { on := 12, ground := Go.Ground.guard }], guard := some (12, true) }) (v := ?_) rfl (by kernel_rfl) (by kernel_rfl) (by kernel_rfl) (fun _ _ _ h => h) (Or.inl ⟨by rfl, ?_⟩) (by assumption) ?_
          rotate_left
          · (intro w hSw; (try dsimp only at hSw); go_simp); all_goals (with_reducible rfl)
          try simp only [Act.put, List.setIfInBounds_toArray, List.set_cons_zero, List.set_cons_succ]
          refine wpAnyH_take (i := 22) (oi := { dst := some 38, op := Go.Op.indexAddr 22 (Go.Operand.tmp 33) (Go.Operand.tmp 37), type := 0, pos := "ref.go:138", after := #[{ on := 17, ground := Go.Ground.data }, { on := 21, ground := Go.Ground.data }, { on := 12, ground := Go.Ground.guard }], guard := some (12, true) }) (v := ?_) rfl (by kernel_rfl) (by kernel_rfl) (by kernel_rfl) (fun _ _ _ h => h) (Or.inl ⟨by rfl, ?_⟩) (by assumption) ?_
          rotate_left
          · (intro w hSw; (try dsimp only at hSw); go_simp); all_goals (with_reducible rfl)
          try simp only [Act.put, List.setIfInBounds_toArray, List.set_cons_zero, List.set_cons_succ]
          refine wpAnyH_take (i := 23) (oi := { dst := some 39, op := Go.Op.load 48 (Go.Operand.tmp 38), type := 48, pos := "ref.go:138", after := #[{ on := 22, ground := Go.Ground.data }, { on := 12, ground := Go.Ground.guard }], guard := some (12, true) }) (v := ?_) rfl (by kernel_rfl) (by kernel_rfl) (by kernel_rfl) (fun _ _ _ h => h) (Or.inl ⟨by rfl, ?_⟩) (by assumption) ?_
          rotate_left
          · (intro w hSw; (try dsimp only at hSw); go_simp); all_goals (with_reducible rfl)
          try simp only [Act.put, List.setIfInBounds_toArray, List.set_cons_zero, List.set_cons_succ]
          refine wpAnyH_take (i := 24) (oi := { dst := some 40, op := Go.Op.move (Go.Operand.tmp 3), type := 43, pos := "ref.go:138", after := #[{ on := 12, ground := Go.Ground.guard }], guard := some (12, true) }) (v := ?_) rfl (by kernel_rfl) (by kernel_rfl) (by kernel_rfl) (fun _ _ _ h => h) (Or.inl ⟨by rfl, ?_⟩) (by assumption) ?_
          rotate_left
          · (intro w hSw; (try dsimp only at hSw); go_simp); all_goals (with_reducible rfl)
          try simp only [Act.put, List.setIfInBounds_toArray, List.set_cons_zero, List.set_cons_succ]
          refine wpAnyH_ready (rs := [25]) (by kernel_rfl) (by simp) ?_
          refine AllReadyH.cons (o := { dst := some 41, op := Go.Op.call { callee := Go.Callee.value (Go.Operand.func 94), args := #[Go.Operand.tmp 32, Go.Operand.tmp 39, Go.Operand.tmp 40], argTypes := #[48, 48, 43] }, type := 4, pos := "ref.go:138", after := #[{ on := 16, ground := Go.Ground.data }, { on := 23, ground := Go.Ground.data }, { on := 24, ground := Go.Ground.data }, { on := 12, ground := Go.Ground.chain }, { on := 12, ground := Go.Ground.guard }], guard := some (12, true) }) rfl (fun K hK => ?_) AllReadyH.nil
          go_simp
          refine (CS2 _ hHeld.2.2.2.2.2.2.2.2.2).mono ?_
          rintro e w' ⟨rfl, hk2⟩
          refine hK.out _ _ ?_ (fun hHeld => ?_)
          · obtain ⟨s0, s1, s2, s3, s4, s5, s6, s7, s8, s9⟩ := hHeld
            exact ⟨hk2.cells s0, hk2.cells s1, hk2.cells s2, hk2.cells s3, hk2.cells s4, hk2.cells s5, hk2.cells s6, hk2.cells s7, hk2.cells s8, s9.trans (hk2.mono s9.size)⟩
          clear hK K
          try simp only [Act.put, List.setIfInBounds_toArray, List.set_cons_zero, List.set_cons_succ]
          refine wpAnyH_take (i := 26) (oi := { dst := some 42, op := Go.Op.pick (Go.Operand.tmp 28) (Go.Operand.tmp 41) (Go.Operand.const (Go.Value.bool false)), type := 4, pos := "ref.go:138", after := #[{ on := 12, ground := Go.Ground.data }, { on := 25, ground := Go.Ground.data }], guard := none }) (v := ?_) rfl (by kernel_rfl) (by kernel_rfl) (by kernel_rfl) (fun _ _ _ h => h) (Or.inl ⟨by rfl, ?_⟩) (by assumption) ?_
          rotate_left
          · (intro w hSw; (try dsimp only at hSw); go_simp); all_goals (with_reducible rfl)
          try simp only [Act.put, List.setIfInBounds_toArray, List.set_cons_zero, List.set_cons_succ]
          refine wpAnyH_done (by kernel_rfl) ?_ _
          have hs8 := hHeld.2.2.2.2.2.2.2.2.1
          have HE := Lib.hid hHeld.2.2.2.2.2.2.2.2.2
          clear hHeld
          have HN := Lib.hid (HFI.out.trans ((firstOr_hit hlt (by rw [HF0.out, HLK.out, HA.out, HSB.out]; rfl)).trans HF0.out))
          go_wp2
          go_ret
          exact ⟨by rw [HN.out]; rfl, HE.out⟩
    · have HKP := Lib.hid hkp
      have HN := Lib.hid (hfi.trans (show firstOr (likeB G cl i) i (some'.drop k) = i by rw [List.drop_eq_nil_of_le (by omega)]; rfl))
      clear hkp hfi
      go_wp2
      go_ret
      exact ⟨by rw [HN.out]; rfl, HKP.out⟩
end Go.Ev
