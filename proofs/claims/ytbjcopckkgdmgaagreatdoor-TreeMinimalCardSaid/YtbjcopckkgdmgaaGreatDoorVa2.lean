import Derived.Test.YtbjcopckkgdmgaaGreatDoorVa1
import Derived.Lib.Hide
/- Atoms. -/
namespace Go.Ev
open Go.Proofs Go.RowKit
set_option maxRecDepth 100000

def lettersB (l : List UInt8) : Bool := l.all fun c => letterB c.toNat
def headB : List UInt8 → Bool
  | [] => false
  | c :: _ => smallB c.toNat
def atomB (s : ByteArray) : Bool := (s.toList == [124] || s.toList == [35]) || (decide (1 ≤ s.size ∧ s.size ≤ 16) && (headB s.data.toList && lettersB s.data.toList))

theorem take_snoc (s : ByteArray) (k : Nat) (h : k < s.size) : s.data.toList.take (k + 1) = s.data.toList.take k ++ [s[k]] := by
  rw [List.take_succ_eq_append_getElem (by simpa using h)]; rfl
theorem letters_snoc (s : ByteArray) (k : Nat) (h : k < s.size) : lettersB (s.data.toList.take (k + 1)) = (lettersB (s.data.toList.take k) && letterB s[k].toNat) := by
  rw [take_snoc s k h]
  simp [lettersB]
theorem letters_not {s : ByteArray} {k : Nat} (h : k < s.size) (hb : letterB s[k].toNat = false) : lettersB s.data.toList = false := by
  unfold lettersB
  rw [List.all_eq_false]
  exact ⟨s[k], by show s.data[k] ∈ _; simp, by rw [hb]; simp⟩
theorem head_of {s : ByteArray} (h : 0 < s.size) : headB s.data.toList = smallB (s[0]'h).toNat := by
  have : s.data.toList = s.data.toList := rfl
  cases hl : s.data.toList with
  | nil =>
    have h1 : s.data.toList.length = 0 := by rw [hl]; rfl
    rw [Array.length_toList] at h1
    have h' : 0 < s.data.size := h
    omega
  | cons c r =>
    have : s.data.toList[0]? = some c := by rw [hl]; rfl
    have h2 : s.data[0]? = some c := by simpa using this
    have h3 : s.data[0]'h = c := by
      rw [Array.getElem?_eq_getElem h] at h2
      exact Option.some.inj h2
    show smallB c.toNat = smallB (s.data[0]'h).toNat
    rw [h3]

set_option maxHeartbeats 1000000 in
theorem isAtom_ok (s : ByteArray) (hs : s.size ≤ 9223372036854775807) (w : World) : Calls Tryz.prog 55 #[.string s] w fun e w' => e = .returned (.bool (atomB s)) ∧ w' = w := by
  go_enter Tryz.func55, Tryz.ntmps55
  go_wp2_with (first
    | (go_at_call 82; refine (isSmall_ok _ _).mono ?_; rintro e w' ⟨rfl, rfl⟩)
    | (go_at_call 83; refine (isWordByte_ok _ _).mono ?_; rintro e w' ⟨rfl, rfl⟩)
    | go_in)
  · go_ret
    refine ⟨?_, rfl⟩
    simp_all [atomB]
  · go_ret
    refine ⟨?_, rfl⟩
    simp_all [atomB]
  · go_ret
    refine ⟨?_, rfl⟩
    have h0 : 0 < s.size := by assumption
    have hh := head_of h0
    have hsm : smallB (s[0]'h0).toNat = false := by
      rcases ‹(_ ∨ _) ∨ _› with (h | h) | h
      · omega
      · omega
      · simpa using h
    rw [hsm] at hh
    simp_all [atomB]
  · rename ((_ ∧ _) ∧ _ = false) => hc
    have h0 : 0 < s.size := by assumption
    have hsm : smallB (s[0]'h0).toNat = true := by simpa using hc.2
    have hx1 : decide ((s.size : Int) < 1) = false := by simp; omega
    have hx2 : decide (16 < (s.size : Int)) = false := by simp; omega
    have HC := (show Hid (smallB (s[0]'h0).toNat = true) from hsm)
    simp only [hsm, hx1, hx2, Bool.not_true, Bool.or_false]
    clear hc hsm hx1 hx2
    go_loop [26] (fun i => ∃ k : Nat, k ≤ s.size ∧ i = .int .i64 k ∧ lettersB (s.data.toList.take k) = true) (fun i => s.size - (intOf i).toNat)
    case atStart => exact ⟨0, Nat.zero_le _, rfl, rfl⟩
    case round =>
      obtain ⟨k, hk, rfl, hl⟩ := hrel
      by_cases hlt : k < s.size
      · have hsn := letters_snoc s k hlt
        have HS : Hid (lettersB (s.data.toList.take (k + 1)) = (lettersB (s.data.toList.take k) && letterB s[k].toNat)) := hsn
        have HL : Hid (lettersB (s.data.toList.take k) = true) := hl
        clear hsn hl
        go_wp2_with (first
          | (go_at_call 83; refine (isWordByte_ok _ _).mono ?_; rintro e w' ⟨rfl, rfl⟩)
          | go_in)
        · go_ret
          refine ⟨?_, rfl⟩
          have hb : letterB s[k].toNat = false := by simp_all
          have hn := letters_not hlt hb
          rw [show atomB s = false by unfold atomB; rw [hn]; simp_all]
          rfl
        · have hb : letterB s[k].toNat = true := by simp_all
          go_round
          case rel => exact ⟨k + 1, by omega, by go_num, by rw [HS.out, HL.out, hb]; rfl⟩
          case measure => simp [intOf]; omega
      · have HL : Hid (lettersB (s.data.toList.take k) = true) := hl
        clear hl
        go_wp2
        go_ret
        refine ⟨?_, rfl⟩
        have hl := HL.out
        rw [List.take_of_length_le (by simp; have h' : ¬ k < s.data.size := hlt; omega)] at hl
        have hh := head_of h0
        rw [HC.out] at hh
        rw [show atomB s = true by unfold atomB; rw [hl, hh]; simp; omega]
        rfl
  · go_ret
    refine ⟨?_, rfl⟩
    rw [show atomB s = false by unfold atomB; rw [show decide (1 ≤ s.size ∧ s.size ≤ 16) = false by simp; omega]; simp_all]
    rfl
  · go_ret
    refine ⟨?_, rfl⟩
    rw [show atomB s = false by unfold atomB; rw [show decide (1 ≤ s.size ∧ s.size ≤ 16) = false by simp; omega]; simp_all]
    rfl
end Go.Ev
