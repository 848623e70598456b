/- The document's own answers: the token at a place: words. -/
import Derived.Test.YteigdghbipcpgaaDoorLx17
namespace Go.Lx
open Go.Proofs Go.RowKit Go.Lib Go.Ev
set_option maxRecDepth 100000

section
variable (s : ByteArray) (hs : s.size ≤ 9223372036854775800) (k : Nat) (hk : k < s.size) (w : World)
include hs hk

set_option maxHeartbeats 2000000 in
theorem token_word (hd : digB s[k] = false) (h126 : s[k] ≠ 126) (h39 : s[k] ≠ 39) (h95 : s[k] ≠ 95) (hl : letB s[k] = true) :
    Calls Tryd.prog 28 #[.string s, .int .i64 k] w fun e w' => TokAns (refTok (s.data.toList.drop k)) k e ∧ Kp w.heap.size w w' := by
  have C45 := fun w => rdigit_ok s (by omega) k w
  rw [pAt_lt hk, hd] at C45
  have e1 : ((s[k].toNat : Int) == 126) = false := by rw [show (126 : Int) = ((126 : UInt8).toNat : Int) from rfl, byte_eq]; simpa using h126
  have e2 : ((s[k].toNat : Int) == 39) = false := by rw [show (39 : Int) = ((39 : UInt8).toNat : Int) from rfl, byte_eq]; simpa using h39
  have e3 : ((s[k].toNat : Int) != 95) = true := by rw [bne, show (95 : Int) = ((95 : UInt8).toNat : Int) from rfl, byte_eq]; simpa using h95
  have hr : refTok (s.data.toList.drop k) = if kwB ((s.data.toList.drop k).takeWhile letB) = true then some (⟨4, (s.data.toList.drop k).takeWhile letB, 0⟩, ((s.data.toList.drop k).takeWhile letB).length)
      else if wdB 4 ((s.data.toList.drop k).takeWhile letB) = true then some (⟨3, (s.data.toList.drop k).takeWhile letB, 0⟩, ((s.data.toList.drop k).takeWhile letB).length)
      else if atB ((s.data.toList.drop k).takeWhile letB) = true then some (⟨2, (s.data.toList.drop k).takeWhile letB, 0⟩, ((s.data.toList.drop k).takeWhile letB).length) else none := by
    rw [drop_cons hk]
    simp only [refTok]
    rw [if_neg (by rw [hd]; simp), if_neg h126, if_neg h39, if_pos ⟨h95, hl⟩]
  have hex := ext_tw_at s k letB
  have hpat := fun j hj => pAt_tw (p := letB) s.data.toList k j hj
  have hml := tw_le (p := letB) (s.data.toList.drop k)
  rw [List.length_drop, ← Lib.size_eq s] at hml
  have hpos : 1 ≤ ((s.data.toList.drop k).takeWhile letB).length := by rw [drop_cons hk, List.takeWhile_cons, hl]; simp
  obtain ⟨Q, hQ⟩ : ∃ Q, Q = k + ((s.data.toList.drop k).takeWhile letB).length := ⟨_, rfl⟩
  rw [← hQ] at hex
  have hQs : Q ≤ s.size := by omega
  have hkQ : k < Q := by omega
  have hlet : ∀ j (h1 : k ≤ j) (h2 : j ≤ Q) (h3 : j < s.size), ltrI (s[j].toNat : Int) = decide (j < Q) := fun j h1 h2 h3 => by
    have := hpat (j - k) (by omega)
    rw [show k + (j - k) = j by omega, pAt_lt h3] at this
    show letB s[j] = _
    rw [this, Bool.eq_iff_iff]
    simp
    omega
  have HL := Lib.hid hlet
  have HQ := Lib.hid hQ
  have HEX := Lib.hid hex
  generalize (s.data.toList.drop k).takeWhile letB = d at *
  have HR := Lib.hid hr
  have hxd : (s.extract k Q).data.toList = d := by rw [hex]
  have hxs : (s.extract k Q).size ≤ 9223372036854775807 := by rw [hex, Lib.size_eq]; simp only; omega
  have C21 := fun w => rkeyword_ok (s.extract k Q) w
  have C49 := fun w => rident_ok (s.extract k Q) hxs w
  have C47 := fun w => ratom_ok (s.extract k Q) hxs w
  rw [hxd] at C21 C49 C47
  have hk2 : (k : Int) ≤ (Q : Int) := by omega
  have hk3 : (Q : Int) ≤ (s.size : Int) := by omega
  have hk4 : decide ((k : Int) < (Q : Int)) = true := by simp; omega
  generalize hb1 : kwB d = b1 at C21
  generalize hb2 : wdB 4 d = b2 at C49
  generalize hb3 : atB d = b3 at C47
  have HB1 := Lib.hid hb1
  have HB2 := Lib.hid hb2
  have HB3 := Lib.hid hb3
  have fin : ∀ (x : Int) (b : Bool), refTok (s.data.toList.drop k) = (if b = true then some (⟨x, d, 0⟩, d.length) else none) → TokAns (refTok (s.data.toList.drop k)) k (.returned (.tuple #[.agg #[.int .i64 x, .string (s.extract k Q), .int .i64 k], .int .i64 Q, .bool b])) := fun x b h => by
    rw [h]
    cases b
    · exact ⟨_, _, _, _, rfl⟩
    · rw [HEX.out, HQ.out]; rfl
  have F1 := Lib.hid (show b1 = true → _ from fun h => fin 4 true (by rw [HR.out, HB1.out, h]; rfl))
  have F2 := Lib.hid (show b1 = false → b2 = true → _ from fun h1 h2 => fin 3 true (by rw [HR.out, HB1.out, HB2.out, h1, h2]; rfl))
  have F3 := Lib.hid (show b1 = false → b2 = false → _ from fun h1 h2 => fin 2 b3 (by rw [HR.out, HB1.out, HB2.out, HB3.out, h1, h2]; rfl))
  clear fin hr hpat hml hpos hQ hex hlet hd h126 h39 h95 hl hxd hxs hb1 hb2 hb3
  go_enter Tryd.func28, Tryd.ntmps28
  go_wp2_with (first
    | (go_at_call 45; refine (C45 _).mono ?_; rintro e w' ⟨rfl, rfl⟩))
  go_loopg [8] s.size (fun gk v wr => wr = w.alloc (.cells #[.int .i64 0, .string ⟨#[]⟩, .int .i64 0] 35) ∧ ∃ j : Nat, v = .int .i64 j ∧ k ≤ j ∧ j ≤ Q ∧ s.size - j ≤ gk)
  case atStart => exact ⟨rfl, k, rfl, Nat.le_refl _, Nat.le_of_lt hkQ, by omega⟩
  case round =>
    obtain ⟨rfl, j, rfl, hj1, hj2, hgk⟩ := hrel
    by_cases hjQ : j < Q
    · have hjs : j < s.size := by omega
      have hb := HL.out j hj1 hj2 hjs
      rw [decide_eq_true hjQ] at hb
      go_wp2_with (go_at_call 48; refine (rletter_ok _ _).mono ?_; rintro e w' ⟨rfl, rfl⟩)
      go_roundg (s.size - (j + 1))
      case measure => omega
      case rel => exact ⟨rfl, j + 1, by go_num, by omega, by omega, Nat.le_refl _⟩
    · obtain rfl : j = Q := by omega
      by_cases hjs : j < s.size
      · have hb := HL.out j hj1 hj2 hjs
        rw [decide_eq_false hjQ] at hb
        have hx : decide ((j : Int) < (s.size : Int)) = true := by simp; omega
        go_wp2_with (first
          | (go_at_call 48; refine (rletter_ok _ _).mono ?_; rintro e w' ⟨rfl, rfl⟩)
          | (go_at_call 21; refine (C21 _).mono ?_; rintro e w1 ⟨rfl, hk1⟩; obtain ⟨hc0, hc1, hc2, hf, hz, hkp⟩ := box3 hk1; have HK := Lib.hid hkp; clear hk1 hkp)
          | (go_at_call 49; refine (C49 _).mono ?_; rintro e w' ⟨rfl, rfl⟩)
          | (go_at_call 47; refine (C47 _).mono ?_; rintro e w' ⟨rfl, rfl⟩))
        · refine bodyPost_ret (v := .tuple #[.agg #[.int .i64 4, .string (s.extract k j), .int .i64 k], .int .i64 j, .bool true]) ?_ rfl ⟨F1.out (by assumption), ?_⟩
          · simp [results, Tryd.results28, go_sem, *]
          · exact ((HK.out.setCell (Nat.le_refl _) _).setCell (Nat.le_refl _) _).setCell (Nat.le_refl _) _
        · refine bodyPost_ret (v := .tuple #[.agg #[.int .i64 3, .string (s.extract k j), .int .i64 k], .int .i64 j, .bool true]) ?_ rfl ⟨F2.out (by assumption) (by assumption), ?_⟩
          · simp [results, Tryd.results28, go_sem, *]
          · exact ((HK.out.setCell (Nat.le_refl _) _).setCell (Nat.le_refl _) _).setCell (Nat.le_refl _) _
        · refine bodyPost_ret (v := .tuple #[.agg #[.int .i64 2, .string (s.extract k j), .int .i64 k], .int .i64 j, .bool b3]) ?_ rfl ⟨F3.out (by assumption) (by assumption), ?_⟩
          · simp [results, Tryd.results28, go_sem, *]
          · exact ((HK.out.setCell (Nat.le_refl _) _).setCell (Nat.le_refl _) _).setCell (Nat.le_refl _) _
      · have hx : decide ((j : Int) < (s.size : Int)) = false := by simp; omega
        go_wp2_with (first
          | (go_at_call 21; refine (C21 _).mono ?_; rintro e w1 ⟨rfl, hk1⟩; obtain ⟨hc0, hc1, hc2, hf, hz, hkp⟩ := box3 hk1; have HK := Lib.hid hkp; clear hk1 hkp)
          | (go_at_call 49; refine (C49 _).mono ?_; rintro e w' ⟨rfl, rfl⟩)
          | (go_at_call 47; refine (C47 _).mono ?_; rintro e w' ⟨rfl, rfl⟩))
        · refine bodyPost_ret (v := .tuple #[.agg #[.int .i64 4, .string (s.extract k j), .int .i64 k], .int .i64 j, .bool true]) ?_ rfl ⟨F1.out (by assumption), ?_⟩
          · simp [results, Tryd.results28, go_sem, *]
          · exact ((HK.out.setCell (Nat.le_refl _) _).setCell (Nat.le_refl _) _).setCell (Nat.le_refl _) _
        · refine bodyPost_ret (v := .tuple #[.agg #[.int .i64 3, .string (s.extract k j), .int .i64 k], .int .i64 j, .bool true]) ?_ rfl ⟨F2.out (by assumption) (by assumption), ?_⟩
          · simp [results, Tryd.results28, go_sem, *]
          · exact ((HK.out.setCell (Nat.le_refl _) _).setCell (Nat.le_refl _) _).setCell (Nat.le_refl _) _
        · refine bodyPost_ret (v := .tuple #[.agg #[.int .i64 2, .string (s.extract k j), .int .i64 k], .int .i64 j, .bool b3]) ?_ rfl ⟨F3.out (by assumption) (by assumption), ?_⟩
          · simp [results, Tryd.results28, go_sem, *]
          · exact ((HK.out.setCell (Nat.le_refl _) _).setCell (Nat.le_refl _) _).setCell (Nat.le_refl _) _
end
end Go.Lx
