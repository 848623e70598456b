/- One call on both sides: a store that nobody made, and the document's. -/
import Derived.Test.YtcjcchidfinohaaGreatSn5
namespace Go.Sn
open Go.Proofs Go.RowKit Go.Lib Go.Ev
set_option maxRecDepth 100000

theorem box7 {w w' : World} {a b c d e f g : Value} {t : TypeId} (h : Kp (w.alloc (.cells #[a, b, c, d, e, f, g] t)).heap.size (w.alloc (.cells #[a, b, c, d, e, f, g] t)) w') :
    w'.cell? ⟨w.heap.size, 1, none⟩ = some b ∧ w'.cell? ⟨w.heap.size, 2, none⟩ = some c ∧ w'.cell? ⟨w.heap.size, 3, none⟩ = some d ∧ w'.cell? ⟨w.heap.size, 4, none⟩ = some e ∧ w'.cell? ⟨w.heap.size, 5, none⟩ = some f ∧ w'.cell? ⟨w.heap.size, 6, none⟩ = some g ∧ Kp w.heap.size w w' := by
  have hz : w.heap.size < (w.alloc (.cells #[a, b, c, d, e, f, g] t)).heap.size := by simp
  refine ⟨?_, ?_, ?_, ?_, ?_, ?_, ((Kp.refl _ _).alloc (Nat.le_refl _) _).trans (h.mono (Nat.le_of_lt hz))⟩
  all_goals (rw [h.cell hz, World.cell?_alloc_new]; rfl)
abbrev act (k a b : Int) (l : ByteArray) (args nodes : Value) (root : Int) : Value := .agg #[.int .i64 k, .int .i64 a, .int .i64 b, .string l, args, nodes, .int .i64 root]

set_option maxHeartbeats 1000000 in
theorem play0 (s : Value) (a b : Int) (l : ByteArray) (ab : Option Addr) (an ac : Nat) (nodes : Value) (root : Int) (w : World) (h : Un w s) : Calls Tryz.prog 6 #[s, .pointer none, act 0 a b l (.slice ab an ac) nodes root] w fun e w' => e = .returned (.bool true) ∧ Kp w.heap.size w w' := by
  have HU := Lib.hid (show ∀ w', Kp w.heap.size w w' → Un w' s from fun w' hk => h.kp hk)
  clear h
  go_enter Tryz.func6, Tryz.ntmps6
  go_wp2_with (first
    | (go_at_call 11; refine (var_ok s _ (HU.out _ (kp_b1 _ _))).mono ?_; rintro e w1 ⟨rfl, hk⟩; obtain ⟨c1, c2, c3, c4, c5, c6, hk1⟩ := box7 hk; have HK1 := Lib.hid hk1; clear hk hk1)
    | (go_at_call 19; refine (rvar_ok _).mono ?_; rintro e w2 ⟨rfl, hk⟩; have HK2 := Lib.hid (kp_then HK1.out hk); clear hk))
  go_ret
  exact ⟨rfl, HK2.out⟩

set_option maxHeartbeats 1000000 in
theorem play1 (s : Value) (a b : Int) (l : ByteArray) (ab : Option Addr) (an ac : Nat) (nodes : Value) (root : Int) (w : World) (h : Un w s) : Calls Tryz.prog 6 #[s, .pointer none, act 1 a b l (.slice ab an ac) nodes root] w fun e w' => e = .returned (.bool true) ∧ Kp w.heap.size w w' := by
  have HU := Lib.hid (show ∀ w', Kp w.heap.size w w' → Un w' s from fun w' hk => h.kp hk)
  clear h
  go_enter Tryz.func6, Tryz.ntmps6
  go_wp2_with (first
    | (go_at_call 16; refine (int_ok s _ _ (HU.out _ (kp_b1 _ _))).mono ?_; rintro e w1 ⟨rfl, hk⟩; obtain ⟨c1, c2, c3, c4, c5, c6, hk1⟩ := box7 hk; have HK1 := Lib.hid hk1; clear hk hk1)
    | (go_at_call 20; refine (rint_ok _ _).mono ?_; rintro e w2 ⟨rfl, hk⟩; have HK2 := Lib.hid (kp_then HK1.out hk); clear hk))
  go_ret
  exact ⟨rfl, HK2.out⟩

set_option maxHeartbeats 1000000 in
theorem play2 (s : Value) (a b : Int) (l : ByteArray) (ab : Option Addr) (an ac : Nat) (nodes : Value) (root : Int) (w : World) (h : Un w s) : Calls Tryz.prog 6 #[s, .pointer none, act 2 a b l (.slice ab an ac) nodes root] w fun e w' => e = .returned (.bool true) ∧ Kp w.heap.size w w' := by
  have HU := Lib.hid (show ∀ w', Kp w.heap.size w w' → Un w' s from fun w' hk => h.kp hk)
  clear h
  go_enter Tryz.func6, Tryz.ntmps6
  go_wp2_with (first
    | (go_at_call 12; refine (atom_ok s _ _ (HU.out _ (kp_b1 _ _))).mono ?_; rintro e w1 ⟨rfl, hk⟩; obtain ⟨c1, c2, c3, c4, c5, c6, hk1⟩ := box7 hk; have HK1 := Lib.hid hk1; clear hk hk1)
    | (go_at_call 21; refine (ratom_ok _ _).mono ?_; rintro e w2 ⟨rfl, hk⟩; have HK2 := Lib.hid (kp_then HK1.out hk); clear hk))
  go_ret
  exact ⟨rfl, HK2.out⟩

set_option maxHeartbeats 1000000 in
theorem play3 (s : Value) (a b : Int) (l : ByteArray) (ab : Option Addr) (an ac : Nat) (nodes : Value) (root : Int) (w : World) (h : Un w s) : Calls Tryz.prog 6 #[s, .pointer none, act 3 a b l (.slice ab an ac) nodes root] w fun e w' => e = .returned (.bool true) ∧ Kp w.heap.size w w' := by
  have HU := Lib.hid (show ∀ w', Kp w.heap.size w w' → Un w' s from fun w' hk => h.kp hk)
  clear h
  go_enter Tryz.func6, Tryz.ntmps6
  go_wp2_with (first
    | (go_at_call 22; refine (tuple_ok s _ _ _ (HU.out _ (kp_b1 _ _))).mono ?_; rintro e w1 ⟨rfl, hk⟩; obtain ⟨c1, c2, c3, c4, c5, c6, hk1⟩ := box7 hk; have HK1 := Lib.hid hk1; clear hk hk1)
    | (go_at_call 23; refine (rtuple_ok _ _ _ _ _).mono ?_; rintro e w2 ⟨rfl, hk⟩; have HK2 := Lib.hid (kp_then HK1.out hk); clear hk))
  go_ret
  exact ⟨rfl, HK2.out⟩

set_option maxHeartbeats 1000000 in
theorem play4 (s : Value) (a b : Int) (l : ByteArray) (ab : Option Addr) (an ac : Nat) (nodes : Value) (root : Int) (w : World) (h : Un w s) : Calls Tryz.prog 6 #[s, .pointer none, act 4 a b l (.slice ab an ac) nodes root] w fun e w' => e = .returned (.bool true) ∧ Kp w.heap.size w w' := by
  have HU := Lib.hid (show ∀ w', Kp w.heap.size w w' → Un w' s from fun w' hk => h.kp hk)
  clear h
  go_enter Tryz.func6, Tryz.ntmps6
  go_wp2_with (first
    | (go_at_call 24; refine (name_ok s _ _ _ (HU.out _ (kp_b1 _ _))).mono ?_; rintro e w1 ⟨rfl, hk⟩; obtain ⟨c1, c2, c3, c4, c5, c6, hk1⟩ := box7 hk; have HK1 := Lib.hid hk1; clear hk hk1)
    | (go_at_call 25; refine (rname_ok _ _ _).mono ?_; rintro e w2 ⟨rfl, hk⟩; have HK2 := Lib.hid (kp_then HK1.out hk); clear hk))
  go_ret
  exact ⟨rfl, HK2.out⟩

set_option maxHeartbeats 1000000 in
theorem play5 (s : Value) (a b : Int) (l : ByteArray) (ab : Option Addr) (an ac : Nat) (nodes : Value) (root : Int) (w : World) (h : Un w s) : Calls Tryz.prog 6 #[s, .pointer none, act 5 a b l (.slice ab an ac) nodes root] w fun e w' => e = .returned (.bool true) ∧ Kp w.heap.size w w' := by
  have HU := Lib.hid (show ∀ w', Kp w.heap.size w w' → Un w' s from fun w' hk => h.kp hk)
  clear h
  go_enter Tryz.func6, Tryz.ntmps6
  go_wp2_with (first
    | (go_at_call 26; refine (add_ok s _ _ _ (HU.out _ (kp_b1 _ _))).mono ?_; rintro e w1 ⟨rfl, hk⟩; obtain ⟨c1, c2, c3, c4, c5, c6, hk1⟩ := box7 hk; have HK1 := Lib.hid hk1; clear hk hk1)
    | (go_at_call 27; refine (radd_ok _ _ _).mono ?_; rintro e w2 ⟨rfl, hk⟩; have HK2 := Lib.hid (kp_then HK1.out hk); clear hk))
  go_ret
  exact ⟨rfl, HK2.out⟩

set_option maxHeartbeats 1000000 in
theorem play6 (s : Value) (a b : Int) (l : ByteArray) (ab : Option Addr) (an ac : Nat) (nodes : Value) (root : Int) (w : World) (h : Un w s) : Calls Tryz.prog 6 #[s, .pointer none, act 6 a b l (.slice ab an ac) nodes root] w fun e w' => e = .returned (.bool true) ∧ Kp w.heap.size w w' := by
  have HU := Lib.hid (show ∀ w', Kp w.heap.size w w' → Un w' s from fun w' hk => h.kp hk)
  clear h
  go_enter Tryz.func6, Tryz.ntmps6
  go_wp2_with (first
    | (go_at_call 13; refine (unify_ok s _ _ _ (HU.out _ (kp_b1 _ _))).mono ?_; rintro e w1 ⟨rfl, hk⟩; obtain ⟨c1, c2, c3, c4, c5, c6, hk1⟩ := box7 hk; have HK1 := Lib.hid hk1; clear hk hk1)
    | (go_at_call 28; refine (runify_ok _ _ _).mono ?_; rintro e w2 ⟨rfl, hk⟩; have HK2 := Lib.hid (kp_then HK1.out hk); clear hk)
    | (go_at_call 17; refine (ints_nil _).mono ?_; rintro e w3 ⟨rfl, hk⟩; have HK3 := Lib.hid (kp_then HK2.out hk); clear hk))
  go_ret
  exact ⟨rfl, HK3.out⟩

set_option maxHeartbeats 1000000 in
theorem play7 (s : Value) (a b : Int) (l : ByteArray) (ab : Option Addr) (an ac : Nat) (nodes : Value) (root : Int) (w : World) (h : Un w s) : Calls Tryz.prog 6 #[s, .pointer none, act 7 a b l (.slice ab an ac) nodes root] w fun e w' => e = .returned (.bool true) ∧ Kp w.heap.size w w' := by
  have HU := Lib.hid (show ∀ w', Kp w.heap.size w w' → Un w' s from fun w' hk => h.kp hk)
  clear h
  go_enter Tryz.func6, Tryz.ntmps6
  go_wp2_with (first
    | (go_at_call 15; refine (test_ok s _ _ _ (HU.out _ (kp_b1 _ _))).mono ?_; rintro e w1 ⟨rfl, hk⟩; obtain ⟨c1, c2, c3, c4, c5, c6, hk1⟩ := box7 hk; have HK1 := Lib.hid hk1; clear hk hk1)
    | (go_at_call 29; refine (rtest_ok _ _ _).mono ?_; rintro e w2 ⟨rfl, hk⟩; have HK2 := Lib.hid (kp_then HK1.out hk); clear hk)
    | (go_at_call 17; refine (ints_nil _).mono ?_; rintro e w3 ⟨rfl, hk⟩; have HK3 := Lib.hid (kp_then HK2.out hk); clear hk))
  go_ret
  exact ⟨rfl, HK3.out⟩

set_option maxHeartbeats 1000000 in
theorem play8 (s : Value) (a b : Int) (l : ByteArray) (ab : Option Addr) (an ac : Nat) (nodes : Value) (root : Int) (w : World) (h : Un w s) (k : Int) (h0 : k ≠ 0) (h1 : k ≠ 1) (h2 : k ≠ 2) (h3 : k ≠ 3) (h4 : k ≠ 4) (h5 : k ≠ 5) (h6 : k ≠ 6) (h7 : k ≠ 7) : Calls Tryz.prog 6 #[s, .pointer none, act k a b l (.slice ab an ac) nodes root] w fun e w' => e = .returned (.bool true) ∧ Kp w.heap.size w w' := by
  have HU := Lib.hid (show ∀ w', Kp w.heap.size w w' → Un w' s from fun w' hk => h.kp hk)
  clear h
  have e0 : (k == 0) = false := by simp [h0]
  have f0 : decide (k = 0) = false := by simp [h0]
  have e1 : (k == 1) = false := by simp [h1]
  have f1 : decide (k = 1) = false := by simp [h1]
  have e2 : (k == 2) = false := by simp [h2]
  have f2 : decide (k = 2) = false := by simp [h2]
  have e3 : (k == 3) = false := by simp [h3]
  have f3 : decide (k = 3) = false := by simp [h3]
  have e4 : (k == 4) = false := by simp [h4]
  have f4 : decide (k = 4) = false := by simp [h4]
  have e5 : (k == 5) = false := by simp [h5]
  have f5 : decide (k = 5) = false := by simp [h5]
  have e6 : (k == 6) = false := by simp [h6]
  have f6 : decide (k = 6) = false := by simp [h6]
  have e7 : (k == 7) = false := by simp [h7]
  have f7 : decide (k = 7) = false := by simp [h7]
  go_enter Tryz.func6, Tryz.ntmps6
  go_wp2_with fail
  go_ret
  exact ⟨rfl, kp_b1 _ _⟩

theorem play_ok (s : Value) (k a b : Int) (l : ByteArray) (ab : Option Addr) (an ac : Nat) (nodes : Value) (root : Int) (w : World) (h : Un w s) : Calls Tryz.prog 6 #[s, .pointer none, act k a b l (.slice ab an ac) nodes root] w fun e w' => e = .returned (.bool true) ∧ Kp w.heap.size w w' := by
  by_cases h0 : k = 0
  · subst h0; exact play0 s a b l ab an ac nodes root w h
  by_cases h1 : k = 1
  · subst h1; exact play1 s a b l ab an ac nodes root w h
  by_cases h2 : k = 2
  · subst h2; exact play2 s a b l ab an ac nodes root w h
  by_cases h3 : k = 3
  · subst h3; exact play3 s a b l ab an ac nodes root w h
  by_cases h4 : k = 4
  · subst h4; exact play4 s a b l ab an ac nodes root w h
  by_cases h5 : k = 5
  · subst h5; exact play5 s a b l ab an ac nodes root w h
  by_cases h6 : k = 6
  · subst h6; exact play6 s a b l ab an ac nodes root w h
  by_cases h7 : k = 7
  · subst h7; exact play7 s a b l ab an ac nodes root w h
  exact play8 s a b l ab an ac nodes root w h k h0 h1 h2 h3 h4 h5 h6 h7
end Go.Sn
