/- LexBack, LexAgain. -/
import Derived.Test.YteigdghbipcpgaaDoorLx26
namespace Go.Lx
open Go.Proofs Go.RowKit Go.Lib Go.Ev
set_option maxRecDepth 100000

theorem text_len {ts : List Tok} {s : List UInt8} (h : textL ts = .ok s) : s.length ≤ 4000 := by
  unfold textL at h
  split at h
  · cases h
  split at h
  · cases h
  injection h with h
  subst h
  omega

set_option maxHeartbeats 2000000 in
theorem lexBack_true (v : Value) (ts : List Tok) (w : World) (hv : ToksV w v ts) (hsz : ∀ t ∈ ts, t.text.length ≤ 140737488355328) (hn : ts.length ≤ 4398046511104) (hg : Glb w) :
    Calls Tryd.prog 7 #[v] w fun e w' => e = .returned (.bool true) ∧ Kp w.heap.size w w' := by
  have HG := Lib.hid hg
  have C18 := text_ok v ts w hv hsz hn hg
  have HV := Lib.hid hv
  obtain ⟨base, c, rfl⟩ := hv.len
  clear hg hv hsz
  by_cases h1 : 400 < ts.length
  · have hx1 : decide (400 < (ts.length : Int)) = true := by simp; omega
    go_enter Tryd.func7, Tryd.ntmps7
    go_wp2_with (go_at_call 14; refine (alive_ok _ HG.out).mono ?_; rintro e w4 ⟨rfl, hk⟩; have HK4 := Lib.hid hk; clear hk)
    go_ret
    exact ⟨rfl, HK4.out⟩
  have hx1 : decide (400 < (ts.length : Int)) = false := by simp; omega
  cases hT : textL ts with
  | form =>
    rw [hT] at C18
    simp only [tText, tErr] at C18
    clear hT
    go_enter Tryd.func7, Tryd.ntmps7
    go_wp2_with (first
      | (go_at_call 18; refine C18.mono ?_; rintro e w1 ⟨rfl, hk⟩; have HK1 := Lib.hid hk; have HG1 := Lib.hid (HG.out.kp hk); clear hk)
      | (go_at_call 14; refine (alive_ok _ HG1.out).mono ?_; rintro e w4 ⟨rfl, hk⟩; have HK4 := Lib.hid hk; clear hk))
    go_ret
    exact ⟨rfl, kp_then HK1.out HK4.out⟩
  | long =>
    rw [hT] at C18
    simp only [tText, tErr] at C18
    clear hT
    go_enter Tryd.func7, Tryd.ntmps7
    go_wp2_with (first
      | (go_at_call 18; refine C18.mono ?_; rintro e w1 ⟨rfl, hk⟩; have HK1 := Lib.hid hk; have HG1 := Lib.hid (HG.out.kp hk); clear hk)
      | (go_at_call 14; refine (alive_ok _ HG1.out).mono ?_; rintro e w4 ⟨rfl, hk⟩; have HK4 := Lib.hid hk; clear hk))
    go_ret
    exact ⟨rfl, kp_then HK1.out HK4.out⟩
  | ok s =>
    rw [hT] at C18
    simp only [tText, tErr] at C18
    obtain ⟨us, hu, hsame⟩ := back hT
    have hl := text_len hT
    have C15 := fun w hg => scanV ⟨s.toArray⟩ (by rw [Lib.size_eq]; simp only [List.toList_toArray]; omega) w hg
    simp only [List.toList_toArray] at C15
    rw [hu] at C15
    simp only [outM, outE, outTs] at C15
    have HS := Lib.hid hsame
    clear hT hu hsame hl
    generalize (⟨s.toArray⟩ : ByteArray) = z at *
    go_enter Tryd.func7, Tryd.ntmps7
    go_wp2_with (first
      | (go_at_call 18; refine C18.mono ?_; rintro e w1 ⟨rfl, hk⟩; have HK1 := Lib.hid hk; have HG1 := Lib.hid (HG.out.kp hk); clear hk)
      | (go_at_call 15; refine (C15 _ HG1.out).mono ?_; rintro e w2 ⟨v2, rfl, hv, hk⟩; have HV2 := Lib.hid hv; have HK2 := Lib.hid hk; have HG2 := Lib.hid (HG1.out.kp hk); clear hk hv)
      | (go_at_call 17; refine (tokens_ok _ _ ts us false _ (HV.out.kp (kp_then HK1.out HK2.out)) HV2.out HS.out).mono ?_; rintro e w3 ⟨rfl, hk⟩; have HK3 := Lib.hid hk; have HG3 := Lib.hid (HG2.out.kp hk); clear hk)
      | (go_at_call 14; refine (alive_ok _ HG3.out).mono ?_; rintro e w4 ⟨rfl, hk⟩; have HK4 := Lib.hid hk; clear hk))
    go_ret
    exact ⟨rfl, kp_then HK1.out (kp_then HK2.out (kp_then HK3.out HK4.out))⟩

theorem scanF_form_le (l : List UInt8) : ∀ (f p : Nat) (out : List Tok) (k : Nat), scanF f (l.drop p) p out = .form k → k < l.length
  | 0, p, out, k, h => by simp [scanF] at h
  | f + 1, p, out, k, h => by
    unfold scanF at h
    by_cases hd : l.drop p = []
    · rw [if_pos hd] at h; cases h
    rw [if_neg hd] at h
    have hlt : p < l.length := by
      rcases Nat.lt_or_ge p l.length with h | h
      · exact h
      · exact absurd (List.drop_of_length_le h) hd
    by_cases hok : isTok (nextL (l.drop p)).1 = false
    · rw [if_pos hok] at h
      injection h with h
      omega
    rw [if_neg hok] at h
    by_cases h12 : out.length = 1200
    · rw [if_pos h12] at h; cases h
    rw [if_neg h12] at h
    simp only [List.drop_drop] at h
    exact scanF_form_le l f _ _ k h
theorem scanL_form_le {l : List UInt8} {k : Nat} (h : scanL l = .form k) : k ≤ l.length := by
  unfold scanL at h
  split at h
  · cases h
  · exact Nat.le_of_lt (scanF_form_le l _ _ _ _ h)
theorem scan_texts {l : List UInt8} {ts : List Tok} (h : scanL l = .ok ts) : ∀ t ∈ ts, t.text.length ≤ l.length := fun t ht => by
  obtain ⟨q, hq, _, h2, _⟩ := longest_of h t ht
  exact h2

theorem scan_long (s : ByteArray) (h : scanL s.data.toList = .long) (hs : s.size ≤ 140737488355328) (w : World) (hg : Glb w) :
    Calls Tryd.prog 15 #[.string s] w fun e w' => e = .returned (.tuple #[.slice none 0 0, .int .i64 0, .int .i64 3]) ∧ Kp w.heap.size w w' :=
  (scan_ok s hs w hg).mono fun e w' hS => by
    unfold Scanned at hS
    rw [h] at hS
    exact ⟨hS.2, hS.1⟩

set_option maxHeartbeats 2000000 in
theorem lexAgain_true (s : ByteArray) (hs : s.size ≤ 140737488355328) (w : World) (hg : Glb w) : Calls Tryd.prog 8 #[.string s] w fun e w' => e = .returned (.bool true) ∧ Kp w.heap.size w w' := by
  have HG := Lib.hid hg
  clear hg
  have hlen := Lib.size_eq s
  by_cases h1 : 1000 < s.size
  · have hx1 : decide (1000 < (s.size : Int)) = true := by simp; omega
    clear hlen
    go_enter Tryd.func8, Tryd.ntmps8
    go_wp2_with (go_at_call 14; refine (alive_ok _ HG.out).mono ?_; rintro e w4 ⟨rfl, hk⟩; have HK4 := Lib.hid hk; clear hk)
    go_ret
    exact ⟨rfl, HK4.out⟩
  have hx1 : decide (1000 < (s.size : Int)) = false := by simp; omega
  cases hR : scanL s.data.toList with
  | form k =>
    have C15 := fun w hg => scan_bad s k hR hs w hg
    have hk := scanL_form_le hR
    rw [← hlen] at hk
    have hk1 : decide ((k : Int) ≤ (s.size : Int)) = true := by simp; omega
    clear hR hlen
    go_enter Tryd.func8, Tryd.ntmps8
    go_wp2_with (first
      | (go_at_call 15; refine (C15 _ HG.out).mono ?_; rintro e w1 ⟨rfl, hk⟩; have HK1 := Lib.hid hk; have HG1 := Lib.hid (HG.out.kp hk); clear hk)
      | (go_at_call 14; refine (alive_ok _ HG1.out).mono ?_; rintro e w4 ⟨rfl, hk⟩; have HK4 := Lib.hid hk; clear hk))
    go_ret
    exact ⟨rfl, kp_then HK1.out HK4.out⟩
  | long =>
    have C15 := fun w hg => scan_long s hR hs w hg
    have hk1 : decide ((0 : Int) ≤ (s.size : Int)) = true := by simp
    clear hR hlen
    go_enter Tryd.func8, Tryd.ntmps8
    go_wp2_with (first
      | (go_at_call 15; refine (C15 _ HG.out).mono ?_; rintro e w1 ⟨rfl, hk⟩; have HK1 := Lib.hid hk; have HG1 := Lib.hid (HG.out.kp hk); clear hk)
      | (go_at_call 14; refine (alive_ok _ HG1.out).mono ?_; rintro e w4 ⟨rfl, hk⟩; have HK4 := Lib.hid hk; clear hk))
    go_ret
    exact ⟨rfl, kp_then HK1.out HK4.out⟩
  | ok ts =>
    have C15 := fun w hg => scanV s hs w hg
    rw [hR] at C15
    simp only [outM, outE, outTs] at C15
    obtain ⟨t, us, ht, htl, hu, hsame⟩ := again (by omega) hR
    have hx := scan_texts hR
    have htn := ((scanL_ok _ _).1 hR).2.1
    have C18 := fun v w hv hg => text_ok v ts w hv (fun t ht => by have := hx t ht; omega) (by omega) hg
    rw [ht] at C18
    simp only [tText, tErr] at C18
    have C15' := fun w hg => scanV ⟨t.toArray⟩ (by rw [Lib.size_eq]; simp only [List.toList_toArray]; omega) w hg
    simp only [List.toList_toArray] at C15'
    rw [hu] at C15'
    simp only [outM, outE, outTs] at C15'
    have HS := Lib.hid hsame
    clear hR hu hsame ht hx htn htl hlen
    generalize (⟨t.toArray⟩ : ByteArray) = z at *
    go_enter Tryd.func8, Tryd.ntmps8
    go_wp2_with (first
      | (go_at_call 15; (with_reducible refine (C15 _ HG.out).mono ?_); rintro e w1 ⟨v1, rfl, hv, hk⟩; have HV1 := Lib.hid hv; have HK1 := Lib.hid hk; have HG1 := Lib.hid (HG.out.kp hk); clear hk hv)
      | (go_at_call 18; (with_reducible refine (C18 _ _ HV1.out HG1.out).mono ?_); rintro e w2 ⟨rfl, hk⟩; have HK2 := Lib.hid hk; have HG2 := Lib.hid (HG1.out.kp hk); clear hk)
      | (go_at_call 15; (with_reducible refine (C15' _ HG2.out).mono ?_); rintro e w3 ⟨v3, rfl, hv, hk⟩; have HV3 := Lib.hid hv; have HK3 := Lib.hid hk; have HG3 := Lib.hid (HG2.out.kp hk); clear hk hv)
      | (go_at_call 17; refine (tokens_ok _ _ ts us false _ (HV1.out.kp (kp_then HK2.out HK3.out)) HV3.out HS.out).mono ?_; rintro e w4 ⟨rfl, hk⟩; have HK4 := Lib.hid hk; have HG4 := Lib.hid (HG3.out.kp hk); clear hk)
      | (go_at_call 14; refine (alive_ok _ HG4.out).mono ?_; rintro e w5 ⟨rfl, hk⟩; have HK5 := Lib.hid hk; clear hk))
    go_ret
    exact ⟨rfl, kp_then HK1.out (kp_then HK2.out (kp_then HK3.out (kp_then HK4.out HK5.out)))⟩
end Go.Lx
