import Derived.Test.YtbjcopckkgdmgaaGreatDoorVa7
import Derived.Test.YtbjcopckkgdmgaaGreatDoorAl1
import Derived.Deep.RegionHeld3
/- TreeValid. -/
namespace Go.Ev
open Go.Proofs Go.RowKit Go.Lib
set_option maxRecDepth 100000

theorem alive_kp (w : World) : Calls Tryz.prog 19 #[] w fun e w' => e = .returned (.bool true) ∧ Kp w.heap.size w w' :=
  (alive w).mono fun _ _ ⟨h1, h2, h3, h4⟩ => ⟨h1, .of_out h2 h3 h4⟩


set_option maxHeartbeats 4000000 in
theorem treeValid_true (v : Value) (ns : List Nd) (root : Int) (W : World) (h : NodesV W v ns) :
    Calls Tryz.prog 3 #[.agg #[v, .int .i64 root]] W fun e w' => e = .returned (.bool true) ∧ Kp W.heap.size W w' := by
  have H := Lib.hid h
  have C17 := fun w (hk : Kp W.heap.size W w) => valid_ok v ns root w (h.kp hk)
  have C18 := fun w (hk : Kp W.heap.size W w) => rvalid_ok v ns root w (h.kp hk)
  generalize validB ns root = bb at C17 C18
  clear h
  have hbb : (bb == bb) = true := by simp
  go_enter Tryz.func3, Tryz.ntmps3
  go_wp2_with fail
  go_region_held3 (fun w' => w'.cell? ⟨W.heap.size, 0, none⟩ = some v ∧ w'.cell? ⟨W.heap.size, 1, none⟩ = some (.int .i64 root) ∧ Kp W.heap.size W w' ∧ W.heap.size < w'.heap.size)
    (first
      | exact ⟨by go_simp, by go_simp, ((Kp.refl _ _).alloc (Nat.le_refl _) _).drew, by simp⟩
      | (rename Kp _ _ _ => hk
         rename (_ ∧ _ ∧ Kp W.heap.size W _ ∧ _) => hS
         exact ⟨hk.cells hS.1, hk.cells hS.2.1, hS.2.2.1.trans (hk.mono (Nat.le_of_lt hS.2.2.2)), Nat.lt_of_lt_of_le hS.2.2.2 hk.size⟩))
    (first
      | (go_at_call 17; refine (C17 _ ?_).mono ?_; (simp [*]); rintro e w' ⟨rfl, hk⟩)
      | (go_at_call 18; refine (C18 _ ?_).mono ?_; (simp [*]); rintro e w' ⟨rfl, hk⟩)
      | (go_at_call 19; refine (alive_kp _).mono ?_; rintro e w' ⟨rfl, hk⟩))
  rename (_ ∧ _ ∧ Kp W.heap.size W _ ∧ _) => hS
  have HS := Lib.hid hS.2.2.1
  clear hS
  go_wp2
  go_ret
  exact ⟨rfl, HS.out⟩
end Go.Ev
