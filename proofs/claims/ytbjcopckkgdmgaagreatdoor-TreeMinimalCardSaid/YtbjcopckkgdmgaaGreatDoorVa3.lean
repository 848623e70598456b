import Derived.Test.YtbjcopckkgdmgaaGreatDoorVa2
/- Atoms, as the document's own answers say it. -/
namespace Go.Ev
open Go.Proofs Go.RowKit
set_option maxRecDepth 100000

def wordB (s : ByteArray) : Bool := decide (1 ≤ s.size ∧ s.size ≤ 16) && lettersB s.data.toList

set_option maxHeartbeats 1000000 in
theorem word_ok (s : ByteArray) (hs : s.size ≤ 9223372036854775807) (w : World) : Calls Tryz.prog 81 #[.string s] w fun e w' => e = .returned (.bool (wordB s)) ∧ w' = w := by
  go_enter Tryz.func81, Tryz.ntmps81
  go_wp2
  · go_ret
    refine ⟨?_, rfl⟩
    rw [show wordB s = false by unfold wordB; rw [show decide (1 ≤ s.size ∧ s.size ≤ 16) = false by simp; omega]; simp]
    rfl
  · rename_i h1 h2 _ _
    have hx1 : decide ((s.size : Int) < 1) = false := by simp; omega
    have hx2 : decide (16 < (s.size : Int)) = false := by simp; omega
    simp only [hx1, hx2, Bool.or_false]
    clear hx1 hx2
    go_loop [3] (fun i => ∃ k : Nat, k ≤ s.size ∧ i = .int .i64 k ∧ lettersB (s.data.toList.take k) = true) (fun i => s.size - (intOf i).toNat)
    case atStart => exact ⟨0, Nat.zero_le _, rfl, rfl⟩
    case round =>
      obtain ⟨k, hk, rfl, hl⟩ := hrel
      by_cases hlt : k < s.size
      · have hsn := letters_snoc s k hlt
        have HS : Hid (lettersB (s.data.toList.take (k + 1)) = (lettersB (s.data.toList.take k) && letterB s[k].toNat)) := hsn
        have HL : Hid (lettersB (s.data.toList.take k) = true) := hl
        clear hsn hl
        go_wp2_with (first
          | (go_at_call 114; refine (letter_ok _ _).mono ?_; rintro e w' ⟨rfl, rfl⟩)
          | go_in)
        · go_ret
          refine ⟨?_, rfl⟩
          have hb : letterB s[k].toNat = false := by simp_all
          have hn := letters_not hlt hb
          rw [show wordB s = false by unfold wordB; rw [hn]; simp]
          rfl
        · have hb : letterB s[k].toNat = true := by simp_all
          go_round
          case rel => exact ⟨k + 1, by omega, by go_num, by rw [HS.out, HL.out, hb]; rfl⟩
          case measure => simp [intOf]; omega
      · have HL : Hid (lettersB (s.data.toList.take k) = true) := hl
        clear hl
        go_wp2
        go_ret
        refine ⟨?_, rfl⟩
        have hl := HL.out
        rw [List.take_of_length_le (by simp; have h' : ¬ k < s.data.size := hlt; omega)] at hl
        rw [show wordB s = true by unfold wordB; rw [hl]; simp; omega]
        rfl
  · go_ret
    refine ⟨?_, rfl⟩
    rw [show wordB s = false by unfold wordB; rw [show decide (1 ≤ s.size ∧ s.size ≤ 16) = false by simp; omega]; simp]
    rfl

theorem atom_eq (s : ByteArray) : atomB s = (s.toList == [124] || s.toList == [35] || (wordB s && headB s.data.toList)) := by
  unfold atomB wordB
  cases decide (1 ≤ s.size ∧ s.size ≤ 16) <;> cases headB s.data.toList <;> cases lettersB s.data.toList <;> simp

set_option maxHeartbeats 1000000 in
theorem atom_ok (s : ByteArray) (hs : s.size ≤ 9223372036854775807) (w : World) : Calls Tryz.prog 54 #[.string s] w fun e w' => e = .returned (.bool (atomB s)) ∧ w' = w := by
  go_enter Tryz.func54, Tryz.ntmps54
  by_cases hw : wordB s = true
  · have hsz : 1 ≤ s.size ∧ s.size ≤ 16 := by
      have h1 := hw
      unfold wordB at h1
      simp at h1
      exact h1.1
    have h0 : 0 < s.size := by omega
    have hh := head_of h0
    go_wp2_with (first
      | (go_at_call 81; refine (word_ok _ hs _).mono ?_; rintro e w' ⟨rfl, rfl⟩)
      | go_in)
    all_goals go_ret
    all_goals refine ⟨?_, rfl⟩
    all_goals rw [atom_eq, hw, hh]
    · simp_all
    · simp_all
    · simp_all [smallB]
    · simp_all [smallB]
      try omega
  · go_wp2_with (first
      | (go_at_call 81; refine (word_ok _ hs _).mono ?_; rintro e w' ⟨rfl, rfl⟩)
      | go_in)
    all_goals go_ret
    all_goals refine ⟨?_, rfl⟩
    all_goals rw [atom_eq, show wordB s = false by simpa using hw]
    all_goals simp_all
end Go.Ev
