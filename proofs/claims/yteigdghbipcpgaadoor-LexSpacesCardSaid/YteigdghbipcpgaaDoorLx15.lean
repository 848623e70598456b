/- The document's own answers: what is between tokens. -/
import Derived.Test.YteigdghbipcpgaaDoorLx14
namespace Go.Lx
open Go.Proofs Go.RowKit Go.Lib Go.Ev
set_option maxRecDepth 100000

theorem drop_cons {s : ByteArray} {j : Nat} (h : j < s.size) : s.data.toList.drop j = s[j] :: s.data.toList.drop (j + 1) := by
  rw [List.drop_eq_getElem_cons (by simpa using h)]
  rfl
theorem drop_end {s : ByteArray} {j : Nat} (h : ¬ j < s.size) : s.data.toList.drop j = [] := by
  apply List.drop_of_length_le
  rw [← Lib.size_eq s]; omega

theorem gap_at_rem {s : ByteArray} {j : Nat} (h : j < s.size) (hc : s[j] = 37) : gapL false (s.data.toList.drop j) = gapL true (s.data.toList.drop j) := by
  rw [drop_cons h, hc]; rfl
theorem gap_at_nl {s : ByteArray} {j : Nat} (h : ¬ j < s.size ∨ ∃ h : j < s.size, s[j] = 10) : gapL true (s.data.toList.drop j) = gapL false (s.data.toList.drop j) := by
  rcases h with h | ⟨h, hc⟩
  · rw [drop_end h]; rfl
  · rw [drop_cons h, hc]; rfl
theorem gap_in {s : ByteArray} {j : Nat} (h : j < s.size) (hc : s[j] ≠ 10) : gapL true (s.data.toList.drop j) = 1 + gapL true (s.data.toList.drop (j + 1)) := by
  rw [drop_cons h, gap_true, if_neg hc]
theorem gap_sp {s : ByteArray} {j : Nat} (h : j < s.size) (hc : spB s[j] = true) : gapL false (s.data.toList.drop j) = 1 + gapL false (s.data.toList.drop (j + 1)) := by
  rw [drop_cons h, gap_false, if_neg (sp_not_rem hc), if_pos hc]
theorem gap_no {s : ByteArray} {j : Nat} (h : ¬ j < s.size ∨ ∃ h : j < s.size, s[j] ≠ 37 ∧ spB s[j] = false) : gapL false (s.data.toList.drop j) = 0 := by
  rcases h with h | ⟨h, h1, h2⟩
  · rw [drop_end h]; rfl
  · rw [drop_cons h, gap_stop h2 h1]
theorem byte_eq (c : UInt8) (n : UInt8) : ((c.toNat : Int) == (n.toNat : Int)) = decide (c = n) := by
  rw [Bool.eq_iff_iff]
  simp only [beq_iff_eq, decide_eq_true_eq]
  constructor
  · intro h; exact UInt8.toNat_inj.1 (by omega)
  · intro h; rw [h]

set_option maxHeartbeats 2000000 in
theorem between_ok (s : ByteArray) (hs : s.size ≤ 9223372036854775800) (k0 : Nat) (hk0 : k0 ≤ s.size) (w : World) :
    Calls Tryd.prog 27 #[.string s, .int .i64 k0] w fun e w' => e = .returned (.int .i64 ((k0 + gapL false (s.data.toList.drop k0) : Nat) : Int)) ∧ w' = w := by
  generalize htot : k0 + gapL false (s.data.toList.drop k0) = tot
  have HT := Lib.hid htot
  clear htot
  go_enter Tryd.func27, Tryd.ntmps27
  go_wp2
  go_loopg [5] s.size (fun gk v wr => wr = w ∧ ∃ k : Nat, v = .int .i64 k ∧ k ≤ s.size ∧ s.size - k ≤ gk ∧ k + gapL false (s.data.toList.drop k) = tot)
  case atStart => exact ⟨rfl, k0, rfl, hk0, by omega, HT.out⟩
  case round =>
    obtain ⟨rfl, k, rfl, hk, hgk, htot⟩ := hrel
    have HTK := Lib.hid htot
    clear htot
    by_cases hlt : k < s.size
    · by_cases h37 : s[k] = 37
      · have e1 : ((s[k].toNat : Int) == 37) = true := by rw [show (37 : Int) = ((37 : UInt8).toNat : Int) from rfl, byte_eq]; simpa using h37
        have HG := Lib.hid (gap_at_rem hlt h37)
        have H37 := Lib.hid h37
        clear h37
        go_wp2
        go_loopg [5] s.size (fun gi v wi => wi = wr ∧ ∃ j : Nat, v = .int .i64 j ∧ k ≤ j ∧ j ≤ s.size ∧ s.size - j ≤ gi ∧ j + gapL true (s.data.toList.drop j) = tot)
        case atStart => exact ⟨rfl, k, rfl, Nat.le_refl _, hk, by omega, by rw [← HG.out]; exact HTK.out⟩
        case round =>
          obtain ⟨rfl, j, rfl, hkj, hj, hgj, htj⟩ := hrel
          have HTJ := Lib.hid htj
          clear htj
          by_cases hlj : j < s.size
          · by_cases h10 : s[j] = 10
            · have e2 : ((s[j].toNat : Int) != 10) = false := by rw [bne, show (10 : Int) = ((10 : UInt8).toNat : Int) from rfl, byte_eq]; simpa using h10
              have HG2 := Lib.hid (gap_at_nl (.inr ⟨hlj, h10⟩))
              have hjk : k < j := by
                rcases Nat.eq_or_lt_of_le hkj with h | h
                · subst h; have := H37.out; rw [h10] at this; exact absurd this (by decide)
                · exact h
              clear h10
              go_wp2
              go_roundg (s.size - j)
              case measure => omega
              case rel => exact ⟨rfl, j, rfl, hj, Nat.le_refl _, by rw [← HG2.out]; exact HTJ.out⟩
            · have e2 : ((s[j].toNat : Int) != 10) = true := by rw [bne, show (10 : Int) = ((10 : UInt8).toNat : Int) from rfl, byte_eq]; simpa using h10
              have HG2 := Lib.hid (gap_in hlj h10)
              clear h10
              go_wp2
              go_roundg (s.size - (j + 1))
              case measure => omega
              case rel => exact ⟨rfl, j + 1, by go_num, by omega, by omega, Nat.le_refl _, by have := HG2.out; have := HTJ.out; omega⟩
          · have HG2 := Lib.hid (gap_at_nl (.inl hlj))
            have hx : decide ((j : Int) < (s.size : Int)) = false := by simp; omega
            go_wp2
            go_roundg (s.size - j)
            case measure => omega
            case rel => exact ⟨rfl, j, rfl, hj, Nat.le_refl _, by rw [← HG2.out]; exact HTJ.out⟩
      · have e1 : ((s[k].toNat : Int) == 37) = false := by rw [show (37 : Int) = ((37 : UInt8).toNat : Int) from rfl, byte_eq]; simpa using h37
        by_cases hsp : spB s[k] = true
        · have HG := Lib.hid (gap_sp hlt hsp)
          have hc : s[k].toNat = 32 ∨ s[k].toNat = 10 ∨ s[k].toNat = 9 := by simpa [spB] using hsp
          clear hsp h37
          rcases hc with hc | hc | hc
          · have e2 : ((s[k].toNat : Int) == 32) = true := by rw [hc]; rfl
            clear hc
            go_wp2
            go_roundg (s.size - (k + 1))
            case measure => omega
            case rel => exact ⟨rfl, k + 1, by go_num, by omega, Nat.le_refl _, by have := HG.out; have := HTK.out; omega⟩
          · have e2 : ((s[k].toNat : Int) == 32) = false := by rw [hc]; rfl
            have e3 : ((s[k].toNat : Int) == 10) = true := by rw [hc]; rfl
            clear hc
            go_wp2
            go_roundg (s.size - (k + 1))
            case measure => omega
            case rel => exact ⟨rfl, k + 1, by go_num, by omega, Nat.le_refl _, by have := HG.out; have := HTK.out; omega⟩
          · have e2 : ((s[k].toNat : Int) == 32) = false := by rw [hc]; rfl
            have e3 : ((s[k].toNat : Int) == 10) = false := by rw [hc]; rfl
            have e4 : ((s[k].toNat : Int) == 9) = true := by rw [hc]; rfl
            clear hc
            go_wp2
            go_roundg (s.size - (k + 1))
            case measure => omega
            case rel => exact ⟨rfl, k + 1, by go_num, by omega, Nat.le_refl _, by have := HG.out; have := HTK.out; omega⟩
        · have hsp' : spB s[k] = false := by simpa using hsp
          have hg0 := gap_no (s := s) (j := k) (.inr ⟨hlt, h37, hsp'⟩)
          have hc : ¬ s[k].toNat = 32 ∧ ¬ s[k].toNat = 10 ∧ ¬ s[k].toNat = 9 := by simpa [spB] using hsp'
          have e2 : ((s[k].toNat : Int) == 32) = false := by simp; omega
          have e3 : ((s[k].toNat : Int) == 10) = false := by simp; omega
          have e4 : ((s[k].toNat : Int) == 9) = false := by simp; omega
          have HF := Lib.hid (show k = tot by have := HTK.out; omega)
          clear hc hsp hsp' h37 hg0
          go_wp2
          go_ret
          rw [← HF.out]
          exact ⟨rfl, rfl⟩
    · have hg0 := gap_no (s := s) (j := k) (.inl hlt)
      have HF := Lib.hid (show k = tot by have := HTK.out; omega)
      clear hg0
      go_wp2
      go_ret
      rw [← HF.out]
      exact ⟨rfl, rfl⟩
end Go.Lx
