import Derived.Test.YtbjcopckkgdmgaaGreatDoorLw1
import Derived.Test.YtbjcopckkgdmgaaGreatDoorCq1
import Derived.Test.YtbjcopckkgdmgaaGreatDoorOd2
/- The document's own Least and Same. -/
namespace Go.Ev
open Go.Proofs Go.RowKit Go.Lib
set_option maxRecDepth 100000

def RLeastPost (A : List Nd) (za : Int) (W : World) (e : Ending) (w' : World) : Prop := ∃ L v, e = .returned (.tuple #[.agg #[v, .int .i64 0], .int .i64 0]) ∧ NodesV w' v L ∧ Canon L ∧ Bis L 0 A za.toNat ∧ L.length ≤ A.length ∧ Kp W.heap.size W w'

set_option maxHeartbeats 2000000 in
theorem rleast_bad (va : Value) (A : List Nd) (za : Int) (W : World) (ha : NodesV W va A) (hva : validB A za = false) :
    Calls Tryz.prog 22 #[.agg #[va, .int .i64 za]] W fun e w' => e = .returned (.tuple #[.agg #[.slice none 0 0, .int .i64 0], .int .i64 2]) ∧ Kp W.heap.size W w' := by
  have CA := fun w (hk : Kp W.heap.size W w) => rvalid_ok va A za w (ha.kp hk)
  rw [hva] at CA
  clear ha hva
  go_enter Tryz.func22, Tryz.ntmps22
  go_wp2_with fail
  obtain ⟨W2, hW2⟩ : ∃ W2, W2 = (W.alloc (Obj.cells #[va, Value.int IntKind.i64 za] 24)).alloc (Obj.cells #[Value.slice none 0 0, Value.int IntKind.i64 0] 24) := ⟨_, rfl⟩
  have hk2 : Kp W.heap.size W W2 := by rw [hW2]; exact ((Kp.refl _ _).alloc (Nat.le_refl _) _).alloc (by simp) _
  have hb : W2.heap[W.heap.size + 1]? = some (Obj.cells #[Value.slice none 0 0, Value.int IntKind.i64 0] 24 (0, 0)) := by
    rw [hW2, show W.heap.size + 1 = (W.alloc (Obj.cells #[va, Value.int IntKind.i64 za] 24)).heap.size by simp]; exact Array.getElem?_push_size
  have hz2 : W2.heap.size = W.heap.size + 2 := by rw [hW2]; simp
  rw [← hW2]
  clear hW2
  refine (CA _ hk2).mono ?_
  rintro e w1 ⟨rfl, k1⟩
  have hk1 := Lib.hid (hk2.trans (k1.mono (by omega)))
  have hb1 := (k1.block (W.heap.size + 1) (by omega)).trans hb
  have f0 : ∀ o, w1.frozen? ⟨W.heap.size + 1, o, none⟩ = false := fun o => by simp [World.frozen?, hb1]
  have d0 : w1.cell? ⟨W.heap.size + 1, 0, none⟩ = some (.slice none 0 0) := by rw [cell_of hb1]; rfl
  have d1 : w1.cell? ⟨W.heap.size + 1, 1, none⟩ = some (.int .i64 0) := by rw [cell_of hb1]; rfl
  clear k1 hk2 hb hb1 CA
  go_wp2_with fail
  refine bodyPost_ret (v := .tuple #[.agg #[.slice none 0 0, .int .i64 0], .int .i64 2]) ?_ rfl ⟨rfl, ?_⟩
  · simp [results, Tryz.results22, go_sem, d0, d1]
  · exact (hk1.out.setCell (p := ⟨_, _, _⟩) (Nat.le_succ _) _).setCell (p := ⟨_, _, _⟩) (Nat.le_succ _) _

set_option maxHeartbeats 2000000 in
theorem rleast_good (va : Value) (A : List Nd) (za : Int) (W : World) (ha : NodesV W va A) (hva : validB A za = true) :
    Calls Tryz.prog 22 #[.agg #[va, .int .i64 za]] W (RLeastPost A za W) := by
  obtain ⟨ra, rfl, hra, hA8, hA⟩ := valid_nodes hva
  obtain ⟨ab, ao, ac, rfl⟩ := ha.shape (by omega)
  have CA := fun w (hk : Kp W.heap.size W w) => rvalid_ok _ A ra w (ha.kp hk)
  rw [hva] at CA
  have CL := fun w (hk : Kp W.heap.size W w) => least_ok A ra w ab ao ac hA hra (by omega) (ha.kp hk)
  clear ha hva
  go_enter Tryz.func22, Tryz.ntmps22
  go_wp2_with fail
  obtain ⟨W2, hW2⟩ : ∃ W2, W2 = (W.alloc (Obj.cells #[Value.slice (some ⟨ab, ao, none⟩) A.length ac, Value.int IntKind.i64 ra] 24)).alloc (Obj.cells #[Value.slice none 0 0, Value.int IntKind.i64 0] 24) := ⟨_, rfl⟩
  have hk2 : Kp W.heap.size W W2 := by rw [hW2]; exact ((Kp.refl _ _).alloc (Nat.le_refl _) _).alloc (by simp) _
  have a0 : W2.cell? ⟨W.heap.size, 0, none⟩ = some (.slice (some ⟨ab, ao, none⟩) A.length ac) := by rw [hW2]; go_simp
  have a1 : W2.cell? ⟨W.heap.size, 1, none⟩ = some (.int .i64 ra) := by rw [hW2]; go_simp
  have hb : W2.heap[W.heap.size + 1]? = some (Obj.cells #[Value.slice none 0 0, Value.int IntKind.i64 0] 24 (0, 0)) := by
    rw [hW2, show W.heap.size + 1 = (W.alloc (Obj.cells #[Value.slice (some ⟨ab, ao, none⟩) A.length ac, Value.int IntKind.i64 ra] 24)).heap.size by simp]; exact Array.getElem?_push_size
  have hz2 : W2.heap.size = W.heap.size + 2 := by rw [hW2]; simp
  rw [← hW2]
  clear hW2
  refine (CA _ hk2).mono ?_
  rintro e w1 ⟨rfl, k1⟩
  have hk1 := Lib.hid (hk2.trans (k1.mono (by omega)))
  replace hb := (k1.block (W.heap.size + 1) (by omega)).trans hb
  replace a0 := k1.cells a0
  replace a1 := k1.cells a1
  have hs1 := k1.size
  clear k1 hk2 CA
  have HB := Lib.hid hb
  clear hb
  go_wp2_with fail
  refine (CL _ hk1.out).mono ?_
  rintro e w3 ⟨L, v, us, rfl, hon, hcan, hbis, hLl, k3⟩
  obtain ⟨va, vc, rfl⟩ := own_form hon.own
  have hb1 := (k3.block (W.heap.size + 1) (by omega)).trans HB.out
  have f0 : ∀ o, w3.frozen? ⟨W.heap.size + 1, o, none⟩ = false := fun o => by simp [World.frozen?, hb1]
  have d0 : w3.cell? ⟨W.heap.size + 1, 0, none⟩ = some (.slice none 0 0) := by rw [cell_of hb1]; rfl
  have d1 : w3.cell? ⟨W.heap.size + 1, 1, none⟩ = some (.int .i64 0) := by rw [cell_of hb1]; rfl
  have HON := Lib.hid hon
  have HCB := Lib.hid (And.intro hcan hbis)
  have HK3 := Lib.hid (hk1.out.trans (k3.mono (by omega)))
  clear hon hcan hbis k3 hb1 CL
  go_wp2_with fail
  obtain ⟨w4, hw4⟩ : ∃ w4, w4 = (w3.setCell ⟨W.heap.size + 1, 0, none⟩ (.slice va L.length vc)).setCell ⟨W.heap.size + 1, 1, none⟩ (.int .i64 0) := ⟨_, rfl⟩
  refine bodyPost_ret (v := .tuple #[.agg #[.slice va L.length vc, .int .i64 0], .int .i64 0]) ?_ rfl ?_
  · simp [results, Tryz.results22, go_sem, d0, d1]
  · refine ⟨L, _, rfl, ?_, HCB.out.1, by simpa using HCB.out.2, ?_, ?_⟩
    · have hC : Chg (W.heap.size + 1) w3 w4 := by rw [hw4]; exact ((Chg.refl _ _).setCell _ _).setCell _ _
      rw [← hw4]
      exact (HON.out.chg hC (fun e => by have := (HON.out.own.lt e).1; omega) (fun u hu e => by have := HON.out.ge_us u hu _ e; omega)).nodes
    · exact hLl
    · exact (HK3.out.setCell (p := ⟨_, _, _⟩) (Nat.le_succ _) _).setCell (p := ⟨_, _, _⟩) (Nat.le_succ _) _
end Go.Ev
