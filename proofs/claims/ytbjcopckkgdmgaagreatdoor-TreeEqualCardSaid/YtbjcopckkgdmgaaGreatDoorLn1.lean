import Derived.Test.YtbjcopckkgdmgaaGreatDoorKp
/- What a law on one tree has in its memory. -/
namespace Go.Ev
open Go.RowKit

/-- What a law on one tree has in its memory. -/
structure L1 (W : World) (va : Value) (za : Int) (w : World) : Prop where
  a0 : w.cell? ⟨W.heap.size, 0, none⟩ = some va
  a1 : w.cell? ⟨W.heap.size, 1, none⟩ = some (.int .i64 za)
  kp : Kp W.heap.size W w
theorem L1.step {W : World} {va : Value} {za : Int} {w w' : World} (h : L1 W va za w) (k : Kp w.heap.size w w') : L1 W va za w' :=
  ⟨k.cells h.a0, k.cells h.a1, h.kp.trans (k.mono h.kp.size)⟩
end Go.Ev
