import Derived.Test.YtbjcopckkgdmgaaGreatDoorEvA
import Derived.Below
import Derived.RowKit3
import Derived.ChangeAgain
import Derived.Lib.Hide
/- Below some block the memory is as it was. -/
namespace Go.Ev
open Go.RowKit

/-- Below block number B the memory is as it was, and nothing has been put out. -/
structure Kp (B : Nat) (w w' : World) : Prop where
  os : w'.os = w.os
  output : w'.output = w.output
  size : w.heap.size ≤ w'.heap.size
  block : ∀ k, k < B → w'.heap[k]? = w.heap[k]?

variable {B : Nat} {a w w' : World}
theorem Kp.refl (B : Nat) (w : World) : Kp B w w := ⟨rfl, rfl, Nat.le_refl _, fun _ _ => rfl⟩
theorem Kp.trans {b c : World} (h : Kp B a b) (k : Kp B b c) : Kp B a c :=
  ⟨k.os.trans h.os, k.output.trans h.output, Nat.le_trans h.size k.size, fun i hi => (k.block i hi).trans (h.block i hi)⟩
theorem Kp.mono {B' : Nat} (h : Kp B w w') (hB : B' ≤ B) : Kp B' w w' := ⟨h.os, h.output, h.size, fun k hk => h.block k (Nat.lt_of_lt_of_le hk hB)⟩
theorem Kp.drew (h : Kp B a w) : Kp B a w.drew := ⟨h.os, h.output, h.size, h.block⟩
theorem Kp.of_below (h : Below B w w') : Kp B w w' := ⟨h.os, h.output, h.size, h.block⟩
theorem Kp.alloc (h : Kp B a w) (hB : B ≤ w.heap.size) (o : Obj) : Kp B a (w.alloc o) := h.trans (.of_below ((Below.refl B w).alloc hB o))
theorem Kp.setCell (h : Kp B a w) {p : Addr} (hp : B ≤ p.block) (u : Value) : Kp B a (w.setCell p u) := h.trans (.of_below ((Below.refl B w).setCell hp u))
theorem Kp.grownBy {row : Option Nat} (h : Kp B a w) (hg : w.grownBy w' row) (hB : B ≤ w.heap.size) (hr : ∀ k, row = some k → B ≤ k) : Kp B a w' := h.trans (.of_below ((Below.refl B w).grown hg hB hr))
theorem Kp.of_grown (h : Grown w w') : Kp w.heap.size w w' := ⟨h.1.1, h.1.2.1, h.2.2, fun _ hk => h.1.block hk fun _ hp => hp.elim⟩
theorem Kp.of_out (h : Out w w') (hs : w.heap.size ≤ w'.heap.size) (hb : ∀ b : Nat, b < w.heap.size → w'.heap[b]? = w.heap[b]?) : Kp w.heap.size w w' := ⟨h.1, h.2, hs, hb⟩

theorem Kp.cell (h : Kp B w w') {b o : Nat} (hb : b < B) : w'.cell? ⟨b, o, none⟩ = w.cell? ⟨b, o, none⟩ := by
  simp only [World.cell?, h.block b hb]
theorem Kp.frozen (h : Kp B w w') {b o : Nat} (hb : b < B) : w'.frozen? ⟨b, o, none⟩ = w.frozen? ⟨b, o, none⟩ := by
  simp only [World.frozen?, h.block b hb]
theorem Kp.cells (h : Kp w.heap.size w w') {b o : Nat} {x : Value} (hx : w.cell? ⟨b, o, none⟩ = some x) : w'.cell? ⟨b, o, none⟩ = some x := by
  rw [h.cell (block_lt_of_cell hx)]; exact hx
theorem Kp.frame (h : Kp w.heap.size w w') (may : MemPlace → Prop) : w.keptBut w' may := by
  refine ⟨h.os, h.output, fun i hi => ?_⟩
  rw [h.block i hi]
  cases hw : w.heap[i]? with
  | none => rfl
  | some o =>
    cases o with
    | cells c t fr => exact ⟨rfl, rfl, rfl, fun _ _ => rfl⟩
    | map es k => exact .inr ⟨rfl, rfl⟩
    | _ => rfl
end Go.Ev
