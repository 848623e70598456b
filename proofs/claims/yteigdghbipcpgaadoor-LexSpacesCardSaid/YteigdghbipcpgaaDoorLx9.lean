/- Tokens: the program's next, whole; integers, words. -/
import Derived.Test.YteigdghbipcpgaaDoorLx8
namespace Go.Lx
open Go.Proofs Go.RowKit Go.Lib Go.Ev
set_option maxRecDepth 100000

section
variable (s : ByteArray) (h0 : 0 < s.size) (hs : s.size < 4294967281) (w : World)
include h0 hs

set_option maxHeartbeats 400000 in
theorem next_cap_ok (h2 : kindI (s[0].toNat : Int) = 4) :
    Calls Tryd.prog 25 #[.string s] w fun e w' => e = .returned (.tuple #[tokV (nextL s.data.toList).1, .int .i64 (nextL s.data.toList).2]) ∧ Kp w.heap.size w w' := by
  have hs' : s.size ≤ 9223372036854775807 := by omega
  have hcons := head_cons h0
  have C37 := fun w => kindOf_ok (s[0].toNat : Int) w
  have hv : nextL s.data.toList = (⟨3, s.data.toList.takeWhile letB, 0⟩, (s.data.toList.takeWhile letB).length) := by
    conv => lhs; rw [hcons]
    rw [next_cap h2, ← hcons]
  rw [hv]
  clear hv hcons
  rw [h2] at C37
  clear h2
  have C39 := fun w => wordRun_ok s hs' w
  have he := ext_tw s letB
  have hle := tw_le (p := letB) s.data.toList
  rw [← Lib.size_eq s] at hle
  unfold tokV
  simp only []
  rw [← he]
  clear he
  generalize (s.data.toList.takeWhile letB).length = n at *
  go_enter Tryd.func25, Tryd.ntmps25
  go_wp2_with (first
    | (go_at_call 37; refine (C37 _).mono ?_; rintro e w' ⟨rfl, rfl⟩)
    | (go_at_call 39; refine (C39 _).mono ?_; rintro e w' ⟨rfl, hk⟩; obtain ⟨hc0, hc1, hc2, hf, hz, hkp⟩ := box3 hk; have HK := Lib.hid hkp; clear hk hkp))
  refine bodyPost_ret (v := .tuple #[.agg #[.int .i64 3, .string (s.extract 0 n), .int .i64 0], .int .i64 n]) ?_ rfl ⟨rfl, ?_⟩
  · simp [results, Tryd.results25, go_sem, *]
  · exact ((HK.out.setCell (Nat.le_refl _) _).setCell (Nat.le_refl _) _).setCell (Nat.le_refl _) _

set_option maxHeartbeats 400000 in
theorem next_quote_ok (m : Int) (hm : w.cell? ⟨0, 0, none⟩ = some (.int .i64 m)) (h2 : kindI (s[0].toNat : Int) = 7) :
    Calls Tryd.prog 25 #[.string s] w fun e w' => e = .returned (.tuple #[tokV (nextL s.data.toList).1, .int .i64 (nextL s.data.toList).2]) ∧ Kp w.heap.size w w' := by
  have hcons := head_cons h0
  have C37 := fun w => kindOf_ok (s[0].toNat : Int) w
  have hv : nextL s.data.toList = quoteL (s.data.toList.drop 1) := by
    conv => lhs; rw [hcons]
    unfold quoteL
    split
    · rename_i hm; rw [next_quote h2 hm]
    · rename_i hm; rw [next_open h2 hm]
  have C40 := fun w hm => quoted_ok s h0 hs m w hm
  rw [← hv] at C40
  clear hv hcons
  rw [h2] at C37
  clear h2
  have hM := fun ob => cell_alloc hm ob
  unfold tokV at *
  generalize (nextL s.data.toList).2 = n at *
  generalize (nextL s.data.toList).1.kind = x at *
  generalize (nextL s.data.toList).1.text = y at *
  generalize (nextL s.data.toList).1.pos = z at *
  clear hm
  go_enter Tryd.func25, Tryd.ntmps25
  go_wp2_with (first
    | (go_at_call 37; refine (C37 _).mono ?_; rintro e w' ⟨rfl, rfl⟩)
    | (go_at_call 40; refine (C40 _ (hM _)).mono ?_; rintro e w' ⟨rfl, hk⟩; obtain ⟨hc0, hc1, hc2, hf, hz, hkp⟩ := box3 hk; have HK := Lib.hid hkp; clear hk hkp))
  refine bodyPost_ret (v := .tuple #[.agg #[.int .i64 x, .string ⟨y.toArray⟩, .int .i64 z], .int .i64 n]) ?_ rfl ⟨rfl, ?_⟩
  · simp [results, Tryd.results25, go_sem, *]
  · exact ((HK.out.setCell (Nat.le_refl _) _).setCell (Nat.le_refl _) _).setCell (Nat.le_refl _) _

set_option maxHeartbeats 400000 in
theorem next_sym_ok (k : Int) (h1 : kindI (s[0].toNat : Int) = k) (h2 : (k == 2) = false) (h6 : (k == 6) = false) (h3 : (k == 3) = false) (h4 : (k == 4) = false) (h7 : (k == 7) = false) :
    Calls Tryd.prog 25 #[.string s] w fun e w' => e = .returned (.tuple #[tokV (nextL s.data.toList).1, .int .i64 (nextL s.data.toList).2]) ∧ Kp w.heap.size w w' := by
  have hs' : s.size ≤ 9223372036854775807 := by omega
  have hcons := head_cons h0
  have C37 := fun w => kindOf_ok (s[0].toNat : Int) w
  have hv : nextL s.data.toList = (⟨5, s.data.toList.take (symL s.data.toList), 0⟩, symL s.data.toList) := by
    conv => lhs; rw [hcons]
    simp only [beq_eq_false_iff_ne, ne_eq] at h2 h6 h3 h4 h7
    rw [next_sym (by rw [h1]; exact h2) (by rw [h1]; exact h6) (by rw [h1]; exact h3) (by rw [h1]; exact h4) (by rw [h1]; exact h7), ← hcons]
  rw [hv]
  rw [h1] at C37
  have C41 := fun w => symLen_ok s hs' w
  have hle : symL s.data.toList ≤ s.size := by
    unfold symL
    rw [← Lib.size_eq s]
    split <;> omega
  have he := ext_take s (symL s.data.toList)
  clear hv hcons h1
  unfold tokV
  simp only []
  rw [← he]
  clear he
  generalize symL s.data.toList = n at *
  go_enter Tryd.func25, Tryd.ntmps25
  go_wp2_with (first
    | (go_at_call 37; refine (C37 _).mono ?_; rintro e w' ⟨rfl, rfl⟩)
    | (go_at_call 41; refine (C41 _).mono ?_; rintro e w' ⟨rfl, rfl⟩))
  refine bodyPost_ret (v := .tuple #[.agg #[.int .i64 5, .string (s.extract 0 n), .int .i64 0], .int .i64 n]) ?_ rfl ⟨rfl, (Kp.refl _ _).alloc (Nat.le_refl _) _⟩
  simp [results, Tryd.results25, go_sem]

theorem next_ok (m : Int) (hm : w.cell? ⟨0, 0, none⟩ = some (.int .i64 m)) :
    Calls Tryd.prog 25 #[.string s] w fun e w' => e = .returned (.tuple #[tokV (nextL s.data.toList).1, .int .i64 (nextL s.data.toList).2]) ∧ Kp w.heap.size w w' := by
  by_cases h2 : kindI (s[0].toNat : Int) = 2
  · exact next_dig_ok s h0 hs w h2
  by_cases h6 : kindI (s[0].toNat : Int) = 6
  · exact next_tilde_ok s h0 hs w h6
  by_cases h3 : kindI (s[0].toNat : Int) = 3
  · exact next_small_ok s h0 hs w h3
  by_cases h4 : kindI (s[0].toNat : Int) = 4
  · exact next_cap_ok s h0 hs w h4
  by_cases h7 : kindI (s[0].toNat : Int) = 7
  · exact next_quote_ok s h0 hs w m hm h7
  exact next_sym_ok s h0 hs w _ rfl (beq_eq_false_iff_ne.2 h2) (beq_eq_false_iff_ne.2 h6) (beq_eq_false_iff_ne.2 h3) (beq_eq_false_iff_ne.2 h4) (beq_eq_false_iff_ne.2 h7)
end
end Go.Lx
