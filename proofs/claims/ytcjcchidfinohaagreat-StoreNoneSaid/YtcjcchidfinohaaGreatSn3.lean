/- Stores that nobody made: what can be asked of a node. -/
import Derived.Test.YtcjcchidfinohaaGreatSn2
import Derived.Deep.LoopGhost
namespace Go.Sn
open Go.Proofs Go.RowKit Go.Lib Go.Ev
set_option maxRecDepth 100000

theorem kp_then {a b c : World} (h : Kp a.heap.size a b) (k : Kp b.heap.size b c) : Kp a.heap.size a c := h.trans (k.mono h.size)

/-- A box of four cells, written, and a call. -/
theorem boxed4 {w w3 w4 : World} {z0 z1 z2 z3 a b c d : Value} {t : TypeId} (h : Kp w.heap.size w w3)
    (hk : Kp (((((w3.alloc (.cells #[z0, z1, z2, z3] t)).setCell ⟨w3.heap.size, 0, none⟩ a).setCell ⟨w3.heap.size, 1, none⟩ b).setCell ⟨w3.heap.size, 2, none⟩ c).setCell ⟨w3.heap.size, 3, none⟩ d).heap.size
      (((((w3.alloc (.cells #[z0, z1, z2, z3] t)).setCell ⟨w3.heap.size, 0, none⟩ a).setCell ⟨w3.heap.size, 1, none⟩ b).setCell ⟨w3.heap.size, 2, none⟩ c).setCell ⟨w3.heap.size, 3, none⟩ d) w4) :
    (w4.cell? ⟨w3.heap.size, 0, none⟩ = some a ∧ w4.cell? ⟨w3.heap.size, 1, none⟩ = some b ∧ w4.cell? ⟨w3.heap.size, 2, none⟩ = some c ∧ w4.cell? ⟨w3.heap.size, 3, none⟩ = some d) ∧ Kp w.heap.size w w4 := by
  have hB := h.size
  refine ⟨⟨hk.cells ?_, hk.cells ?_, hk.cells ?_, hk.cells ?_⟩, kp_then (((((h.alloc hB _).setCell (p := ⟨_, _, _⟩) hB _).setCell (p := ⟨_, _, _⟩) hB _).setCell (p := ⟨_, _, _⟩) hB _).setCell (p := ⟨_, _, _⟩) hB _) hk⟩
  all_goals simp [go_sem]
theorem boxed2 {w w3 w4 : World} {z0 z1 a b : Value} {t : TypeId} (h : Kp w.heap.size w w3)
    (hk : Kp (((w3.alloc (.cells #[z0, z1] t)).setCell ⟨w3.heap.size, 0, none⟩ a).setCell ⟨w3.heap.size, 1, none⟩ b).heap.size
      (((w3.alloc (.cells #[z0, z1] t)).setCell ⟨w3.heap.size, 0, none⟩ a).setCell ⟨w3.heap.size, 1, none⟩ b) w4) :
    (w4.cell? ⟨w3.heap.size, 0, none⟩ = some a ∧ w4.cell? ⟨w3.heap.size, 1, none⟩ = some b) ∧ Kp w.heap.size w w4 := by
  have hB := h.size
  refine ⟨⟨hk.cells ?_, hk.cells ?_⟩, kp_then (((h.alloc hB _).setCell (p := ⟨_, _, _⟩) hB _).setCell (p := ⟨_, _, _⟩) hB _) hk⟩
  all_goals simp [go_sem]
def At2 (w : World) (k : Nat) (a b : Value) : Prop := w.cell? ⟨k, 0, none⟩ = some a ∧ w.cell? ⟨k, 1, none⟩ = some b
def At4 (w : World) (k : Nat) (a b c d : Value) : Prop := w.cell? ⟨k, 0, none⟩ = some a ∧ w.cell? ⟨k, 1, none⟩ = some b ∧ w.cell? ⟨k, 2, none⟩ = some c ∧ w.cell? ⟨k, 3, none⟩ = some d
theorem At2.kp {w w' : World} {k : Nat} {a b : Value} (h : At2 w k a b) (hk : Kp w.heap.size w w') : At2 w' k a b := ⟨hk.cells h.1, hk.cells h.2⟩
theorem At4.kp {w w' : World} {k : Nat} {a b c d : Value} (h : At4 w k a b c d) (hk : Kp w.heap.size w w') : At4 w' k a b c d := ⟨hk.cells h.1, hk.cells h.2.1, hk.cells h.2.2.1, hk.cells h.2.2.2⟩

set_option maxHeartbeats 400000 in
theorem ints_nil (w : World) : Calls Tryz.prog 17 #[.slice none 0 0, .slice none 0 0] w fun e w' => e = .returned (.bool true) ∧ Kp w.heap.size w w' := by
  go_enter Tryz.func17, Tryz.ntmps17
  go_wp2_with fail
  go_loopg [5] 1 (fun gk v wr => wr = w ∧ v = .int .i64 0)
  case atStart => exact ⟨rfl, rfl⟩
  case round =>
    obtain ⟨rfl, rfl⟩ := hrel
    go_wp2_with fail
    go_ret
    exact ⟨rfl, Kp.refl _ _⟩

set_option maxHeartbeats 400000 in
theorem equal_nil (w : World) : Calls Tryz.prog 39 #[.agg #[.slice none 0 0, .int .i64 0], .agg #[.slice none 0 0, .int .i64 0]] w fun e w' => e = .returned (.bool true) ∧ Kp w.heap.size w w' := by
  go_enter Tryz.func39, Tryz.ntmps39
  go_wp2_with fail
  obtain ⟨W, hW⟩ : ∃ W, W = (w.alloc (.cells #[.slice none 0 0, .int .i64 0] 25)).alloc (.cells #[.slice none 0 0, .int .i64 0] 25) := ⟨_, rfl⟩
  have c0 : W.cell? ⟨w.heap.size, 0, none⟩ = some (.slice none 0 0) := by subst hW; simp [go_sem]
  have hk : Kp w.heap.size w W := by subst hW; exact kp_b2 _ _ _
  rw [← hW]
  clear hW
  go_loopg [5] 1 (fun gk v wr => wr = W ∧ v = .int .i64 0)
  case atStart => exact ⟨rfl, rfl⟩
  case round =>
    obtain ⟨rfl, rfl⟩ := hrel
    go_wp2_with fail
    go_ret
    exact ⟨rfl, hk⟩

set_option maxHeartbeats 400000 in
theorem nodes_zero (w : World) : Calls Tryz.prog 38 #[.agg #[.int .i64 0, .int .i64 0, .string ⟨#[]⟩, .slice none 0 0], .agg #[.int .i64 0, .int .i64 0, .string ⟨#[]⟩, .slice none 0 0]] w fun e w' => e = .returned (.bool true) ∧ Kp w.heap.size w w' := by
  go_enter Tryz.func38, Tryz.ntmps38
  go_wp2_with (go_at_call 17; refine (ints_nil _).mono ?_; rintro e w' ⟨rfl, hk⟩)
  go_ret
  exact ⟨rfl, by first | exact hk | exact kp_box1 hk | exact kp_box2 hk⟩
end Go.Sn
