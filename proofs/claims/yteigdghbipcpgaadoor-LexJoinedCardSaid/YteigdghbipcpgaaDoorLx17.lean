/- The document's own answers: the token at a place. -/
import Derived.Test.YteigdghbipcpgaaDoorLx16
import Derived.Deep.RegionHeld3
import Derived.Deep.RegionWith
import Derived.Laws.Strings2
namespace Go.Lx
open Go.Proofs Go.RowKit Go.Lib Go.Ev
set_option maxRecDepth 100000

/-- A token that a call has handed back lies in memory that is as it was below. -/
theorem ans_cases {r : Option (Tok × Nat)} {k : Nat} {e : Ending} (h : TokAns r k e) :
    ∃ (x : Int) (y : ByteArray) (z p : Int) (b : Bool), e = .returned (.tuple #[.agg #[.int .i64 x, .string y, .int .i64 z], .int .i64 p, .bool b]) ∧ TokAns r k (.returned (.tuple #[.agg #[.int .i64 x, .string y, .int .i64 z], .int .i64 p, .bool b])) := by
  have h' := h
  unfold TokAns at h
  split at h
  · rename_i t n
    subst h
    exact ⟨_, _, _, _, _, rfl, h'⟩
  · obtain ⟨x, y, z, p, rfl⟩ := h
    exact ⟨x, y, z, p, false, rfl, h'⟩

section
variable (s : ByteArray) (hs : s.size ≤ 9223372036854775800) (k : Nat) (hk : k < s.size) (w : World)
include hs hk

set_option maxHeartbeats 1000000 in
theorem token_num (h : digB s[k] = true ∨ s[k] = 126) :
    Calls Tryd.prog 28 #[.string s, .int .i64 k] w fun e w' => TokAns (refTok (s.data.toList.drop k)) k e ∧ Kp w.heap.size w w' := by
  have C45 := fun w => rdigit_ok s (by omega) k w
  rw [pAt_lt hk] at C45
  have C46 : ∀ w, Calls Tryd.prog 46 #[.string s, .int .i64 k] w fun e w' => TokAns (refTok (s.data.toList.drop k)) k e ∧ Kp w.heap.size w w' := by
    intro w
    by_cases hd : digB s[k] = true
    · have hr : refTok (s.data.toList.drop k) = numL false ((s.data.toList.drop k).takeWhile digB) := by
        rw [drop_cons hk]
        simp only [refTok, numL]
        rw [if_pos hd]
        simp
      rw [hr]
      exact number_pos s hs k hk (fun e => by rw [e] at hd; revert hd; decide) w
    · have h126 := h.resolve_left hd
      have hr : refTok (s.data.toList.drop k) = numL true ((s.data.toList.drop (k + 1)).takeWhile digB) := by
        rw [drop_cons hk]
        simp only [refTok, numL]
        rw [if_neg hd, if_pos h126]
        simp
      rw [hr]
      exact number_neg s hs k hk h126 w
  generalize refTok (s.data.toList.drop k) = R at *
  have e2 : digB s[k] = false → ((s[k].toNat : Int) == 126) = true := fun hd => by
    have := h.resolve_left (by rw [hd]; simp)
    rw [this]; rfl
  clear h
  generalize hd : digB s[k] = bd at *
  clear hd
  cases bd
  · have e2' := e2 rfl
    clear e2
    go_enter Tryd.func28, Tryd.ntmps28
    go_wp2_with (first
      | (go_at_call 45; refine (C45 _).mono ?_; rintro e w' ⟨rfl, rfl⟩)
      | (go_at_call 46; refine (C46 _).mono ?_; rintro e w' ⟨ha, hk⟩; obtain ⟨x, y, z, p, b, rfl, ha⟩ := ans_cases ha; have HA := Lib.hid ha; obtain ⟨hc0, hc1, hc2, hf, hz, hkp⟩ := box3 hk; have HK := Lib.hid hkp; clear hk hkp ha))
    refine bodyPost_ret (v := .tuple #[.agg #[.int .i64 x, .string y, .int .i64 z], .int .i64 p, .bool b]) ?_ rfl ⟨HA.out, ?_⟩
    · simp [results, Tryd.results28, go_sem, *]
    · exact ((HK.out.setCell (Nat.le_refl _) _).setCell (Nat.le_refl _) _).setCell (Nat.le_refl _) _
  · clear e2
    go_enter Tryd.func28, Tryd.ntmps28
    go_wp2_with (first
      | (go_at_call 45; refine (C45 _).mono ?_; rintro e w' ⟨rfl, rfl⟩)
      | (go_at_call 46; refine (C46 _).mono ?_; rintro e w' ⟨ha, hk⟩; obtain ⟨x, y, z, p, b, rfl, ha⟩ := ans_cases ha; have HA := Lib.hid ha; obtain ⟨hc0, hc1, hc2, hf, hz, hkp⟩ := box3 hk; have HK := Lib.hid hkp; clear hk hkp ha))
    refine bodyPost_ret (v := .tuple #[.agg #[.int .i64 x, .string y, .int .i64 z], .int .i64 p, .bool b]) ?_ rfl ⟨HA.out, ?_⟩
    · simp [results, Tryd.results28, go_sem, *]
    · exact ((HK.out.setCell (Nat.le_refl _) _).setCell (Nat.le_refl _) _).setCell (Nat.le_refl _) _

set_option maxHeartbeats 1000000 in
theorem token_quote (h : s[k] = 39) :
    Calls Tryd.prog 28 #[.string s, .int .i64 k] w fun e w' => TokAns (refTok (s.data.toList.drop k)) k e ∧ Kp w.heap.size w w' := by
  have C45 := fun w => rdigit_ok s (by omega) k w
  rw [pAt_lt hk, show digB s[k] = false by rw [h]; rfl] at C45
  have e1 : ((s[k].toNat : Int) == 126) = false := by rw [h]; rfl
  have e2 : ((s[k].toNat : Int) == 39) = true := by rw [h]; rfl
  have hr : refTok (s.data.toList.drop k) = if 39 ∈ s.data.toList.drop (k + 1) ∧ atB ((s.data.toList.drop (k + 1)).takeWhile (· != 39)) = true then some (⟨2, (s.data.toList.drop (k + 1)).takeWhile (· != 39), 0⟩, ((s.data.toList.drop (k + 1)).takeWhile (· != 39)).length + 2) else none := by
    rw [drop_cons hk]
    simp only [refTok]
    rw [if_neg (by rw [h]; decide), if_neg (by rw [h]; decide), if_pos h]
  have hex := ext_tw_at s (k + 1) (· != 39)
  have hpat := fun j hj => pAt_tw (p := (· != 39)) s.data.toList (k + 1) j hj
  have hml := tw_le (p := (· != 39)) (s.data.toList.drop (k + 1))
  rw [List.length_drop, ← Lib.size_eq s] at hml
  have hlt0 : 39 ∈ s.data.toList.drop (k + 1) → k + 1 + ((s.data.toList.drop (k + 1)).takeWhile (· != 39)).length < s.size := fun hm => by
    have := tw_lt hm
    rw [List.length_drop, ← Lib.size_eq s] at this
    omega
  have hend : 39 ∉ s.data.toList.drop (k + 1) → k + 1 + ((s.data.toList.drop (k + 1)).takeWhile (· != 39)).length = s.size := fun hm => by
    rw [tw_eq_self hm, List.length_drop, ← Lib.size_eq s]
    omega
  obtain ⟨Q, hQ⟩ : ∃ Q, Q = k + 1 + ((s.data.toList.drop (k + 1)).takeWhile (· != 39)).length := ⟨_, rfl⟩
  rw [← hQ] at hex hlt0 hend
  have hQs : Q ≤ s.size := by omega
  have hkQ : k + 1 ≤ Q := by omega
  have hbyte : ∀ j (h1 : k + 1 ≤ j) (h2 : j ≤ Q) (h3 : j < s.size), ((s[j].toNat : Int) == 39) = decide (j = Q) := fun j h1 h2 h3 => by
    have := hpat (j - (k + 1)) (by omega)
    rw [show k + 1 + (j - (k + 1)) = j by omega, pAt_lt h3] at this
    rw [show (39 : Int) = ((39 : UInt8).toNat : Int) from rfl, byte_eq]
    have h4 : (s[j] != 39) = !decide (s[j] = 39) := by rw [bne, Bool.eq_iff_iff]; simp
    rw [h4] at this
    have h5 : decide (s[j] = 39) = !decide (j - (k + 1) < ((s.data.toList.drop (k + 1)).takeWhile (· != 39)).length) := by rw [← this]; simp
    rw [h5, Bool.eq_iff_iff]
    simp
    omega
  have HBY := Lib.hid hbyte
  have HQ := Lib.hid hQ
  have HEX := Lib.hid hex
  generalize (s.data.toList.drop (k + 1)).takeWhile (· != 39) = d at *
  by_cases hm : 39 ∈ s.data.toList.drop (k + 1)
  · have hQlt := hlt0 hm
    simp only [hm, true_and] at hr
    have HR := Lib.hid hr
    have C47 := fun w => ratom_ok (s.extract (k + 1) Q) (by rw [hex, Lib.size_eq]; simp only; omega) w
    rw [show (s.extract (k + 1) Q).data.toList = d by rw [hex]] at C47
    generalize hab : atB d = ab at C47
    have HAB := Lib.hid hab
    have hk1 : (k : Int) + 1 ≤ (Q : Int) := by omega
    have hk2 : (Q : Int) ≤ (s.size : Int) := by omega
    clear hab hr h hpat hlt0 hend hbyte hQ hex hm hml
    go_enter Tryd.func28, Tryd.ntmps28
    go_wp2_with (first
      | (go_at_call 45; refine (C45 _).mono ?_; rintro e w' ⟨rfl, rfl⟩))
    go_loopg [7] s.size (fun gk v wr => wr = w.alloc (.cells #[.int .i64 0, .string ⟨#[]⟩, .int .i64 0] 35) ∧ ∃ j : Nat, v = .int .i64 j ∧ k + 1 ≤ j ∧ j ≤ Q ∧ s.size - j ≤ gk)
    case atStart => exact ⟨rfl, k + 1, by go_num, Nat.le_refl _, hkQ, by omega⟩
    case round =>
      obtain ⟨rfl, j, rfl, hj1, hj2, hgk⟩ := hrel
      have hjs : j < s.size := by omega
      have hb := HBY.out j hj1 hj2 hjs
      by_cases hjQ : j = Q
      · subst hjQ
        rw [decide_eq_true rfl] at hb
        go_wp2_with fail
        clear hb
        have hw1 : IntKind.i64.wrap ((k : Int) + 1) = (k : Int) + 1 := IntWalk.i64_in _ (by omega)
        have hw2 : IntKind.i64.wrap ((j : Int) + 1) = (j : Int) + 1 := IntWalk.i64_in _ (by omega)
        have hw3 : (0 : Int) ≤ (k : Int) + 1 := by omega
        have hw4 : ((k : Int) + 1).toNat = k + 1 := by omega
        go_region_with ((go_at_call 47; refine (C47 _).mono ?_; rintro e w' ⟨rfl, rfl⟩))
        all_goals clear hw1 hw2 hw3 hw4
        all_goals go_wp2_with fail
        all_goals refine bodyPost_ret (v := .tuple #[.agg #[.int .i64 2, .string (s.extract (k + 1) j), .int .i64 k], .int .i64 ((j : Int) + 1), .bool ab]) ?_ rfl ⟨?_, ?_⟩
        · simp [results, Tryd.results28, go_sem, Act.put]
        · rw [HR.out, HAB.out, HEX.out, HQ.out]
          cases ab
          · exact ⟨_, _, _, _, rfl⟩
          · show _ = _
            rw [show ((k + 1 + d.length : Nat) : Int) + 1 = ((k + (d.length + 2) : Nat) : Int) by omega]
            rfl
        · exact ((Kp.refl _ _).alloc (Nat.le_refl _) _).drew
      · rw [decide_eq_false hjQ] at hb
        go_wp2_with fail
        go_roundg (s.size - (j + 1))
        case measure => omega
        case rel => exact ⟨rfl, j + 1, by go_num, by omega, by omega, Nat.le_refl _⟩
  · have hQe := hend hm
    rw [if_neg (fun h => hm h.1)] at hr
    have HR := Lib.hid hr
    clear hr h hpat hlt0 hend hbyte hQ hex hm hml
    go_enter Tryd.func28, Tryd.ntmps28
    go_wp2_with (first
      | (go_at_call 45; refine (C45 _).mono ?_; rintro e w' ⟨rfl, rfl⟩))
    go_loopg [7] s.size (fun gk v wr => wr = w.alloc (.cells #[.int .i64 0, .string ⟨#[]⟩, .int .i64 0] 35) ∧ ∃ j : Nat, v = .int .i64 j ∧ k + 1 ≤ j ∧ j ≤ Q ∧ s.size - j ≤ gk)
    case atStart => exact ⟨rfl, k + 1, by go_num, Nat.le_refl _, hkQ, by omega⟩
    case round =>
      obtain ⟨rfl, j, rfl, hj1, hj2, hgk⟩ := hrel
      by_cases hjs : j < s.size
      · have hb := HBY.out j hj1 hj2 hjs
        rw [decide_eq_false (by omega)] at hb
        go_wp2_with fail
        go_roundg (s.size - (j + 1))
        case measure => omega
        case rel => exact ⟨rfl, j + 1, by go_num, by omega, by omega, Nat.le_refl _⟩
      · have hx : decide ((j : Int) < (s.size : Int)) = false := by simp; omega
        go_wp2_with fail
        refine bodyPost_ret (v := .tuple #[.agg #[.int .i64 0, .string ⟨#[]⟩, .int .i64 0], .int .i64 0, .bool false]) ?_ rfl ⟨by rw [HR.out]; exact ⟨_, _, _, _, rfl⟩, (Kp.refl _ _).alloc (Nat.le_refl _) _⟩
        simp [results, Tryd.results28, go_sem]
end
end Go.Lx
