/- The document's own answers: digits, numbers. -/
import Derived.Test.YteigdghbipcpgaaDoorLx13
namespace Go.Lx
open Go.Proofs Go.RowKit Go.Lib Go.Ev
set_option maxRecDepth 100000

def pAt (p : UInt8 → Bool) (l : List UInt8) (i : Nat) : Bool := match l[i]? with
  | some c => p c
  | none => false
theorem pAt_lt {p : UInt8 → Bool} {s : ByteArray} {i : Nat} (h : i < s.size) : pAt p s.data.toList i = p s[i] := by
  unfold pAt
  rw [List.getElem?_eq_getElem (by simpa using h)]
  rfl
theorem pAt_ge {p : UInt8 → Bool} {s : ByteArray} {i : Nat} (h : ¬ i < s.size) : pAt p s.data.toList i = false := by
  unfold pAt
  rw [List.getElem?_eq_none (by simp; have h' : ¬ i < s.data.size := h; omega)]
theorem pAt_tw0 {p : UInt8 → Bool} : ∀ (l : List UInt8) (j : Nat), j ≤ (l.takeWhile p).length → pAt p l j = decide (j < (l.takeWhile p).length)
  | [], j, h => by simp [pAt]
  | c :: l, j, h => by
    by_cases hc : p c = true
    · rw [List.takeWhile_cons, if_pos hc] at h ⊢
      cases j with
      | zero => simp [pAt, hc]
      | succ j =>
        have := pAt_tw0 l j (by simpa using h)
        simp only [List.length_cons, Nat.add_lt_add_iff_right]
        rw [← this]
        simp [pAt]
    · rw [List.takeWhile_cons, if_neg hc] at h ⊢
      obtain rfl : j = 0 := by simpa using h
      simp [pAt, hc]
theorem pAt_tw {p : UInt8 → Bool} (l : List UInt8) (f j : Nat) (h : j ≤ ((l.drop f).takeWhile p).length) : pAt p l (f + j) = decide (j < ((l.drop f).takeWhile p).length) := by
  rw [← pAt_tw0 (l.drop f) j h]
  unfold pAt
  rw [List.getElem?_drop]

theorem rdigit_ok (s : ByteArray) (hs : s.size ≤ 9223372036854775807) (i : Nat) (w : World) : Calls Tryd.prog 45 #[.string s, .int .i64 i] w fun e w' => e = .returned (.bool (pAt digB s.data.toList i)) ∧ w' = w := by
  by_cases h : i < s.size
  · rw [pAt_lt h]
    unfold digB
    have hx : decide ((i : Int) < (s.size : Int)) = true := by simp; omega
    go_enter Tryd.func45, Tryd.ntmps45
    go_wp2
    all_goals go_ret
    all_goals refine ⟨?_, rfl⟩
    all_goals simp_all
    all_goals first
      | omega
      | (rw [Bool.eq_iff_iff]; simp; omega)
  · rw [pAt_ge h]
    have hx : decide ((i : Int) < (s.size : Int)) = false := by simp; omega
    go_enter Tryd.func45, Tryd.ntmps45
    go_wp2
    all_goals go_ret
    all_goals exact ⟨rfl, rfl⟩

theorem decV_lt (l : List UInt8) (h : l.all digB = true) : decV l < 10 ^ l.length := by
  have : ∀ (n : Nat) (l : List UInt8), l.length = n → l.all digB = true → decV l < 10 ^ n := by
    intro n
    induction n with
    | zero => intro l hl _; obtain rfl := List.length_eq_zero_iff.1 hl; simp [decV]
    | succ n ih =>
      intro l hl hall
      have hne : l ≠ [] := by intro e; subst e; simp at hl
      have hsp : l = l.dropLast ++ [l.getLast hne] := (List.dropLast_concat_getLast hne).symm
      generalize l.dropLast = p at hsp
      generalize l.getLast hne = c at hsp
      subst hsp
      rw [List.all_append, Bool.and_eq_true] at hall
      have hc : 48 ≤ c.toNat ∧ c.toNat ≤ 57 := by simpa [digB] using hall.2
      have := ih p (by simpa using hl) hall.1
      rw [decV_append, Nat.pow_succ]
      omega
  exact this _ l rfl h

theorem all_take {p : UInt8 → Bool} {l : List UInt8} (h : l.all p = true) (k : Nat) : (l.take k).all p = true := by
  rw [List.all_eq_true] at h ⊢
  exact fun c hc => h c (List.mem_of_mem_take hc)

set_option maxHeartbeats 1000000 in
theorem decimal_ok (s : ByteArray) (hs : s.size ≤ 13) (hd : s.data.toList.all digB = true) (w : World) : Calls Tryd.prog 56 #[.string s] w fun e w' => e = .returned (.int .i64 (decV s.data.toList)) ∧ w' = w := by
  have hb : ∀ k, decV (s.data.toList.take k) < 10000000000000 := fun k => by
    have h1 := decV_lt _ (all_take hd k)
    have h2 : (s.data.toList.take k).length ≤ 13 := by
      rw [List.length_take]
      have := Lib.size_eq s
      omega
    have h3 : 10 ^ (s.data.toList.take k).length ≤ 10 ^ 13 := Nat.pow_le_pow_right (by omega) h2
    omega
  have hc : ∀ (k : Nat) (h : k < s.size), 48 ≤ s[k].toNat ∧ s[k].toNat ≤ 57 := fun k h => by
    have := List.all_eq_true.1 hd s[k] (by show s.data[k] ∈ _; simp)
    simpa [digB] using this
  have hstep : ∀ (k : Nat) (h : k < s.size), decV (s.data.toList.take (k + 1)) = 10 * decV (s.data.toList.take k) + (s[k].toNat - 48) := fun k h => by
    rw [List.take_succ_eq_append_getElem (by simpa using h), decV_append]; rfl
  have hfull : decV (s.data.toList.take s.size) = decV s.data.toList := by
    rw [List.take_of_length_le (by rw [← Lib.size_eq s]; omega)]
  have HB := Lib.hid hb
  have HC := Lib.hid hc
  have HS := Lib.hid hstep
  have HF := Lib.hid hfull
  clear hb hc hstep hfull hd
  go_enter Tryd.func56, Tryd.ntmps56
  go_wp2
  go_loop [3, 4] (fun v i => ∃ k : Nat, k ≤ s.size ∧ i = .int .i64 k ∧ v = .int .i64 (decV (s.data.toList.take k))) (fun _ i => s.size - (RowKit.intOf i).toNat)
  case atStart => exact ⟨0, Nat.zero_le _, rfl, rfl⟩
  case round =>
    obtain ⟨k, hk, rfl, rfl⟩ := hrel
    by_cases hlt : k < s.size
    · have h1 := HB.out k
      obtain ⟨h2, h3⟩ := HC.out k hlt
      have HE := Lib.hid (HS.out k hlt)
      generalize hq : decV (s.data.toList.take k) = q at *
      clear hq
      have h4 : (48 : Int) ≤ (s[k].toNat : Int) := by omega
      have h5 : (s[k].toNat : Int) ≤ 57 := by omega
      have h6 : (0 : Int) ≤ (q : Int) := by omega
      have h7 : (q : Int) < 10000000000000 := by omega
      go_wp2
      go_round
      case rel => exact ⟨k + 1, by omega, by go_num, by rw [HE.out]; congr 1; omega⟩
      case measure => simp [RowKit.intOf]; omega
    · have hk' : k = s.size := by omega
      subst hk'
      rw [HF.out]
      go_wp2
      go_ret
      exact ⟨rfl, rfl⟩
end Go.Lx
