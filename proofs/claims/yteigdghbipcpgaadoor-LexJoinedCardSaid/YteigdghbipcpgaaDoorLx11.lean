/- Whether a token can come from a source. -/
import Derived.Test.YteigdghbipcpgaaDoorLx10
namespace Go.Lx
open Go.Proofs Go.RowKit Go.Lib Go.Ev
set_option maxRecDepth 100000

theorem kp_box {w w' : World} {o : Obj} (h : Kp (w.alloc o).heap.size (w.alloc o) w') : Kp w.heap.size w w' :=
  ((Kp.refl _ _).alloc (Nat.le_refl _) _).trans (h.mono (by simp))

set_option maxHeartbeats 1000000 in
theorem isTok_ok (k p : Int) (s : ByteArray) (hs : s.size ≤ 281474976710656) (w : World) (hg : Glb w) :
    Calls Tryd.prog 26 #[.agg #[.int .i64 k, .string s, .int .i64 p]] w fun e w' => e = .returned (.bool (isTok ⟨k, s.data.toList, p⟩)) ∧ Kp w.heap.size w w' := by
  have hs' : s.size ≤ 9223372036854775807 := by omega
  have C42 := fun w hg => isInt_ok s hs w hg
  have C43 := fun k w => isWord_ok s hs' k w
  have C20 := fun w => keyword_ok s w
  have C44 := fun w => isSymbol_ok s w
  have HG := Lib.hid hg
  clear hg
  by_cases h1 : k = 1
  · subst h1
    rw [show isTok ⟨1, s.data.toList, p⟩ = intB s.data.toList from rfl]
    go_enter Tryd.func26, Tryd.ntmps26
    go_wp2_with (go_at_call 42; refine (C42 _ (HG.out.alloc _)).mono ?_; rintro e w' ⟨rfl, hk⟩; have HK := Lib.hid (kp_box hk); clear hk)
    go_ret
    exact ⟨rfl, HK.out⟩
  have e1 : (k == 1) = false := beq_eq_false_iff_ne.2 h1
  by_cases h2 : k = 2
  · subst h2
    rw [show isTok ⟨2, s.data.toList, p⟩ = atB s.data.toList from rfl]
    clear h1 e1
    unfold atB
    rw [← toList_data s]
    rw [← toList_data s] at C43
    generalize hb : (s.toList == [124]) = b1
    generalize hb : (s.toList == [35]) = b2
    cases b1
    · cases b2
      · go_enter Tryd.func26, Tryd.ntmps26
        go_wp2_with (go_at_call 43; refine (C43 _ _).mono ?_; rintro e w' ⟨rfl, hk⟩; have HK := Lib.hid (kp_box hk); clear hk)
        go_ret
        exact ⟨rfl, HK.out⟩
      · go_enter Tryd.func26, Tryd.ntmps26
        go_wp2_with fail
        go_ret
        exact ⟨rfl, (Kp.refl _ _).alloc (Nat.le_refl _) _⟩
    · go_enter Tryd.func26, Tryd.ntmps26
      go_wp2_with fail
      go_ret
      exact ⟨rfl, (Kp.refl _ _).alloc (Nat.le_refl _) _⟩
  have e2 : (k == 2) = false := beq_eq_false_iff_ne.2 h2
  by_cases h3 : k = 3
  · subst h3
    rw [show isTok ⟨3, s.data.toList, p⟩ = wdB 4 s.data.toList from rfl]
    go_enter Tryd.func26, Tryd.ntmps26
    go_wp2_with (go_at_call 43; refine (C43 _ _).mono ?_; rintro e w' ⟨rfl, hk⟩; have HK := Lib.hid (kp_box hk); clear hk)
    go_ret
    exact ⟨rfl, HK.out⟩
  have e3 : (k == 3) = false := beq_eq_false_iff_ne.2 h3
  by_cases h4 : k = 4
  · subst h4
    rw [show isTok ⟨4, s.data.toList, p⟩ = kwB s.data.toList from rfl]
    go_enter Tryd.func26, Tryd.ntmps26
    go_wp2_with (go_at_call 20; refine (C20 _).mono ?_; rintro e w' ⟨rfl, rfl⟩)
    go_ret
    exact ⟨rfl, (Kp.refl _ _).alloc (Nat.le_refl _) _⟩
  have e4 : (k == 4) = false := beq_eq_false_iff_ne.2 h4
  by_cases h5 : k = 5
  · subst h5
    rw [show isTok ⟨5, s.data.toList, p⟩ = symB s.data.toList from rfl]
    go_enter Tryd.func26, Tryd.ntmps26
    go_wp2_with (go_at_call 44; refine (C44 _).mono ?_; rintro e w' ⟨rfl, rfl⟩)
    go_ret
    exact ⟨rfl, (Kp.refl _ _).alloc (Nat.le_refl _) _⟩
  have e5 : (k == 5) = false := beq_eq_false_iff_ne.2 h5
  rw [show isTok ⟨k, s.data.toList, p⟩ = false by unfold isTok; simp [h1, h2, h3, h4, h5]]
  go_enter Tryd.func26, Tryd.ntmps26
  go_wp2_with fail
  go_ret
  exact ⟨rfl, (Kp.refl _ _).alloc (Nat.le_refl _) _⟩
end Go.Lx
