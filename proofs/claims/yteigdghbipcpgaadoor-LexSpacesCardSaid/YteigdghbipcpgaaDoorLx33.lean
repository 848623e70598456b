/- blank. -/
import Derived.Test.YteigdghbipcpgaaDoorLx32
import Derived.Test.YteigdghbipcpgaaDoorLm6
namespace Go.Lx
open Go.Proofs Go.RowKit Go.Lib Go.Ev
set_option maxRecDepth 100000

theorem not_sp {c : UInt8} (h : spB c = true) : c = 32 ∨ c = 9 ∨ c = 10 := by
  have := all_bytes (p := fun c => !spB c || (c == 32 || c == 9 || c == 10)) (by decide +kernel) c
  simpa [h, or_assoc] using this
theorem gap_step {c : UInt8} {r : List UInt8} {b : Bool} {n : Nat} (h : gapL b (c :: r) = n + 1) : (c = 10 ∧ gapL false r = n) ∨ (c = 37 ∧ gapL true r = n) ∨ (c ≠ 10 ∧ c ≠ 37 ∧ b = true ∧ gapL true r = n) ∨ (c ≠ 10 ∧ c ≠ 37 ∧ b = false ∧ (c = 32 ∨ c = 9) ∧ gapL false r = n) := by
  cases b with
  | true =>
    rw [gap_true] at h
    by_cases hc : c = 10
    · rw [if_pos hc] at h; exact .inl ⟨hc, by omega⟩
    · rw [if_neg hc] at h
      by_cases h37 : c = 37
      · exact .inr (.inl ⟨h37, by omega⟩)
      · exact .inr (.inr (.inl ⟨hc, h37, rfl, by omega⟩))
  | false =>
    rw [gap_false] at h
    by_cases h37 : c = 37
    · rw [if_pos h37] at h; exact .inr (.inl ⟨h37, by omega⟩)
    · rw [if_neg h37] at h
      by_cases hs : spB c = true
      · rw [if_pos hs] at h
        rcases not_sp hs with e | e | e
        · exact .inr (.inr (.inr ⟨by rw [e]; decide, h37, rfl, .inl e, by omega⟩))
        · exact .inr (.inr (.inr ⟨by rw [e]; decide, h37, rfl, .inr e, by omega⟩))
        · exact .inl ⟨e, by omega⟩
      · rw [if_neg hs] at h; omega

set_option maxHeartbeats 2000000 in
theorem blank_ok (s : ByteArray) (hs : s.size ≤ 9223372036854775800) (h : gapL false s.data.toList = s.size) (w : World) :
    Calls Tryd.prog 22 #[.string s] w fun e w' => e = .returned (.bool true) ∧ ∃ k, w' = w.drewN k := by
  have H := Lib.hid h
  have HLEN := Lib.hid (Lib.size_eq s).symm
  clear h
  go_enter Tryd.func22, Tryd.ntmps22
  go_wp2_with fail
  go_loopg [3, 4] s.size (fun gk v3 v4 wr => (∃ q, wr = w.drewN q) ∧ ∃ (b : Bool) (k : Nat), v3 = .bool b ∧ v4 = .int .i64 k ∧ k + gk = s.size ∧ gapL b (s.data.toList.drop k) = gk)
  case atStart => exact ⟨⟨0, rfl⟩, false, 0, rfl, rfl, by omega, by rw [List.drop_zero]; exact H.out⟩
  case round =>
    obtain ⟨⟨q, rfl⟩, b, k, rfl, rfl, hgk, hga⟩ := hrel
    by_cases hlt : k < s.size
    · have hx : decide ((k : Int) < (s.size : Int)) = true := by simp; omega
      rw [drop_at (by rw [HLEN.out]; exact hlt), at0_get hlt] at hga
      obtain ⟨n, rfl⟩ : ∃ n, gk = n + 1 := ⟨gk - 1, by omega⟩
      have hx2 : (k : Int) < (s.size : Int) := by omega
      rcases gap_step hga with ⟨hc, hg⟩ | ⟨hc, hg⟩ | ⟨hc, hc2, rfl, hg⟩ | ⟨hc, hc2, rfl, hc3, hg⟩
      · have e1 : ((s[k].toNat : Int) == 10) = true := by rw [hc]; rfl
        have HGG := Lib.hid hg
        clear hg hga hc
        go_wp2_with fail
        go_roundg n
        case measure => omega
        case rel => exact ⟨⟨_, rfl⟩, false, k + 1, rfl, by go_num, by omega, HGG.out⟩
      · have e1 : ((s[k].toNat : Int) == 10) = false := by rw [hc]; rfl
        have e2 : ((s[k].toNat : Int) == 37) = true := by rw [hc]; rfl
        have HGG := Lib.hid hg
        clear hg hga hc
        go_wp2_with fail
        go_roundg n
        case measure => omega
        case rel => exact ⟨⟨_, rfl⟩, true, k + 1, rfl, by go_num, by omega, HGG.out⟩
      · have e1 : ((s[k].toNat : Int) == 10) = false := by rw [show (10 : Int) = ((10 : UInt8).toNat : Int) from rfl, byte_eq]; simpa using hc
        have e2 : ((s[k].toNat : Int) == 37) = false := by rw [show (37 : Int) = ((37 : UInt8).toNat : Int) from rfl, byte_eq]; simpa using hc2
        have HGG := Lib.hid hg
        clear hg hga hc hc2
        go_wp2_with fail
        go_roundg n
        case measure => omega
        case rel => exact ⟨⟨_, rfl⟩, true, k + 1, rfl, by go_num, by omega, HGG.out⟩
      · have e1 : ((s[k].toNat : Int) == 10) = false := by rw [show (10 : Int) = ((10 : UInt8).toNat : Int) from rfl, byte_eq]; simpa using hc
        have e2 : ((s[k].toNat : Int) == 37) = false := by rw [show (37 : Int) = ((37 : UInt8).toNat : Int) from rfl, byte_eq]; simpa using hc2
        have HGG := Lib.hid hg
        rcases hc3 with hc3 | hc3
        · have e3 : ((s[k].toNat : Int) != 32) = false := by rw [hc3]; rfl
          clear hg hga hc hc2 hc3
          go_wp2_with fail
          go_roundg n
          case measure => omega
          case rel => exact ⟨⟨_, rfl⟩, false, k + 1, rfl, by go_num, by omega, HGG.out⟩
        · have e3 : ((s[k].toNat : Int) != 32) = true := by rw [hc3]; rfl
          have e4 : ((s[k].toNat : Int) != 9) = false := by rw [hc3]; rfl
          clear hg hga hc hc2 hc3
          go_wp2_with fail
          go_roundg n
          case measure => omega
          case rel => exact ⟨⟨_, rfl⟩, false, k + 1, rfl, by go_num, by omega, HGG.out⟩
    · have hx : decide ((k : Int) < (s.size : Int)) = false := by simp; omega
      go_wp2_with fail
      go_ret
      exact ⟨rfl, q, rfl⟩
end Go.Lx
