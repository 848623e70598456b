import Derived.Test.YtbjcopckkgdmgaaGreatDoorLw2
import Derived.Test.YtbjcopckkgdmgaaGreatDoorLw3
/- The document's own Same and Compare where a tree is malformed, and Same where none is. -/
namespace Go.Ev
open Go.Proofs Go.RowKit Go.Lib
set_option maxRecDepth 100000

/-- Two trees lie in boxes, and one result of theirs. -/
theorem two_kp (W : World) (o o' : Obj) : Kp W.heap.size W ((W.alloc o).alloc o') := ((Kp.refl _ _).alloc (Nat.le_refl _) _).alloc (by simp) _

section
variable (va vb : Value) (A B : List Nd) (za zb : Int) (W : World)
def BadSame (W : World) (e : Ending) (w' : World) : Prop := e = .returned (.tuple #[.bool false, .int .i64 2]) ∧ Kp W.heap.size W w'
def BadComp (W : World) (e : Ending) (w' : World) : Prop := e = .returned (.tuple #[.int .i64 0, .int .i64 2]) ∧ Kp W.heap.size W w'
end

set_option maxHeartbeats 2000000 in
theorem same_bad (va vb : Value) (A B : List Nd) (za zb : Int) (W : World) (ha : NodesV W va A) (hb : NodesV W vb B) (h : (validB A za && validB B zb) = false) :
    Calls Tryz.prog 28 #[.agg #[va, .int .i64 za], .agg #[vb, .int .i64 zb]] W (BadSame W) := by
  have CA := fun w (hk : Kp W.heap.size W w) => valid_ok va A za w (ha.kp hk)
  have CB := fun w (hk : Kp W.heap.size W w) => valid_ok vb B zb w (hb.kp hk)
  clear ha hb
  generalize validB A za = xa at *
  generalize validB B zb = xb at *
  go_enter Tryz.func28, Tryz.ntmps28
  go_wp2_with fail
  obtain ⟨W2, hW2⟩ : ∃ W2, W2 = (W.alloc (Obj.cells #[va, Value.int IntKind.i64 za] 24)).alloc (Obj.cells #[vb, Value.int IntKind.i64 zb] 24) := ⟨_, rfl⟩
  have hk2 : Kp W.heap.size W W2 := by rw [hW2]; exact two_kp _ _ _
  have b0 : W2.cell? ⟨W.heap.size + 1, 0, none⟩ = some vb := by rw [hW2]; go_simp
  have b1 : W2.cell? ⟨W.heap.size + 1, 1, none⟩ = some (.int .i64 zb) := by rw [hW2]; go_simp
  rw [← hW2]
  clear hW2
  refine (CA _ hk2).mono ?_
  rintro e w1 ⟨rfl, k1⟩
  have HK1 := Lib.hid (hk2.trans (k1.mono hk2.size))
  replace b0 := k1.cells b0
  replace b1 := k1.cells b1
  clear k1 hk2 CA
  cases xa
  · go_wp2_with fail
    go_ret2
    exact ⟨rfl, HK1.out⟩
  · obtain rfl : xb = false := by simpa using h
    go_wp2_with (go_at_call 17; refine (CB _ HK1.out).mono ?_; rintro e w2 ⟨rfl, k2⟩; have HK2 := Lib.hid (HK1.out.trans (k2.mono HK1.out.size)); clear k2)
    go_ret2
    exact ⟨rfl, HK2.out⟩

set_option maxHeartbeats 2000000 in
theorem compare_bad (va vb : Value) (A B : List Nd) (za zb : Int) (W : World) (ha : NodesV W va A) (hb : NodesV W vb B) (h : (validB A za && validB B zb) = false) :
    Calls Tryz.prog 30 #[.agg #[va, .int .i64 za], .agg #[vb, .int .i64 zb]] W (BadComp W) := by
  have CA := fun w (hk : Kp W.heap.size W w) => valid_ok va A za w (ha.kp hk)
  have CB := fun w (hk : Kp W.heap.size W w) => valid_ok vb B zb w (hb.kp hk)
  clear ha hb
  generalize validB A za = xa at *
  generalize validB B zb = xb at *
  go_enter Tryz.func30, Tryz.ntmps30
  go_wp2_with fail
  obtain ⟨W2, hW2⟩ : ∃ W2, W2 = (W.alloc (Obj.cells #[va, Value.int IntKind.i64 za] 24)).alloc (Obj.cells #[vb, Value.int IntKind.i64 zb] 24) := ⟨_, rfl⟩
  have hk2 : Kp W.heap.size W W2 := by rw [hW2]; exact two_kp _ _ _
  have b0 : W2.cell? ⟨W.heap.size + 1, 0, none⟩ = some vb := by rw [hW2]; go_simp
  have b1 : W2.cell? ⟨W.heap.size + 1, 1, none⟩ = some (.int .i64 zb) := by rw [hW2]; go_simp
  rw [← hW2]
  clear hW2
  refine (CA _ hk2).mono ?_
  rintro e w1 ⟨rfl, k1⟩
  have HK1 := Lib.hid (hk2.trans (k1.mono hk2.size))
  replace b0 := k1.cells b0
  replace b1 := k1.cells b1
  clear k1 hk2 CA
  cases xa
  · go_wp2_with fail
    go_ret2
    exact ⟨rfl, HK1.out⟩
  · obtain rfl : xb = false := by simpa using h
    go_wp2_with (go_at_call 17; refine (CB _ HK1.out).mono ?_; rintro e w2 ⟨rfl, k2⟩; have HK2 := Lib.hid (HK1.out.trans (k2.mono HK1.out.size)); clear k2)
    go_ret2
    exact ⟨rfl, HK2.out⟩

set_option maxHeartbeats 2000000 in
theorem rcompare_bad (va vb : Value) (A B : List Nd) (za zb : Int) (W : World) (ha : NodesV W va A) (hb : NodesV W vb B) (h : (validB A za && validB B zb) = false) :
    Calls Tryz.prog 31 #[.agg #[va, .int .i64 za], .agg #[vb, .int .i64 zb]] W (BadComp W) := by
  have CA := fun w (hk : Kp W.heap.size W w) => rvalid_ok va A za w (ha.kp hk)
  have CB := fun w (hk : Kp W.heap.size W w) => rvalid_ok vb B zb w (hb.kp hk)
  clear ha hb
  generalize validB A za = xa at *
  generalize validB B zb = xb at *
  go_enter Tryz.func31, Tryz.ntmps31
  go_wp2_with fail
  obtain ⟨W2, hW2⟩ : ∃ W2, W2 = (W.alloc (Obj.cells #[va, Value.int IntKind.i64 za] 24)).alloc (Obj.cells #[vb, Value.int IntKind.i64 zb] 24) := ⟨_, rfl⟩
  have hk2 : Kp W.heap.size W W2 := by rw [hW2]; exact two_kp _ _ _
  have b0 : W2.cell? ⟨W.heap.size + 1, 0, none⟩ = some vb := by rw [hW2]; go_simp
  have b1 : W2.cell? ⟨W.heap.size + 1, 1, none⟩ = some (.int .i64 zb) := by rw [hW2]; go_simp
  rw [← hW2]
  clear hW2
  refine (CA _ hk2).mono ?_
  rintro e w1 ⟨rfl, k1⟩
  have HK1 := Lib.hid (hk2.trans (k1.mono hk2.size))
  replace b0 := k1.cells b0
  replace b1 := k1.cells b1
  clear k1 hk2 CA
  cases xa
  · go_wp2_with fail
    go_ret2
    exact ⟨rfl, HK1.out⟩
  · obtain rfl : xb = false := by simpa using h
    go_wp2_with (go_at_call 18; refine (CB _ HK1.out).mono ?_; rintro e w2 ⟨rfl, k2⟩; have HK2 := Lib.hid (HK1.out.trans (k2.mono HK1.out.size)); clear k2)
    go_ret2
    exact ⟨rfl, HK2.out⟩
end Go.Ev
