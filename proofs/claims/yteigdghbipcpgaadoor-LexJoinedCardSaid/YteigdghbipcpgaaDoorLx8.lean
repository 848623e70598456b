/- Tokens: the program's next. -/
import Derived.Test.YteigdghbipcpgaaDoorLx7
import Derived.Laws.Strings2
namespace Go.Lx
open Go.Proofs Go.RowKit Go.Lib Go.Ev
set_option maxRecDepth 100000

theorem run_dig' (s : ByteArray) (hs : s.size ≤ 9223372036854775807) (w : World) (n : Nat) (hn : n = w.heap.size) :
    Calls Tryd.prog 34 #[.string s, .slice (some ⟨n, 0, none⟩) 1 1] (w.alloc (.cells #[.int .i64 2] 55)) fun e w' => e = .returned (.int .i64 (s.data.toList.takeWhile digB).length) ∧ w' = w.alloc (.cells #[.int .i64 2] 55) := by
  subst hn
  exact run_dig s hs w

theorem kp2 {w : World} (a b : Obj) : Kp w.heap.size w ((w.alloc a).alloc b) := ((Kp.refl _ _).alloc (Nat.le_refl _) _).alloc (by simp) _

section
variable (s : ByteArray) (h0 : 0 < s.size) (hs : s.size < 4294967281) (w : World)
include h0 hs

set_option maxHeartbeats 400000 in
theorem next_dig_ok (h2 : kindI (s[0].toNat : Int) = 2) :
    Calls Tryd.prog 25 #[.string s] w fun e w' => e = .returned (.tuple #[tokV (nextL s.data.toList).1, .int .i64 (nextL s.data.toList).2]) ∧ Kp w.heap.size w w' := by
  have hs' : s.size ≤ 9223372036854775807 := by omega
  have hcons := head_cons h0
  have C37 := fun w => kindOf_ok (s[0].toNat : Int) w
  have hv : nextL s.data.toList = (⟨1, s.data.toList.takeWhile digB, 0⟩, (s.data.toList.takeWhile digB).length) := by
    conv => lhs; rw [hcons]
    rw [next_dig h2, ← hcons]
  rw [hv]
  clear hv hcons
  rw [h2] at C37
  clear h2
  have C34 := fun w => run_dig' s hs' w
  have he := ext_tw s digB
  have hle := tw_le (p := digB) s.data.toList
  rw [← Lib.size_eq s] at hle
  unfold tokV
  simp only []
  rw [← he]
  clear he
  generalize (s.data.toList.takeWhile digB).length = n at *
  go_enter Tryd.func25, Tryd.ntmps25
  go_wp2_with (first
    | (go_at_call 37; refine (C37 _).mono ?_; rintro e w' ⟨rfl, rfl⟩)
    | (go_at_call 34; (with_reducible refine (C34 _ _ ?_).mono ?_); (simp); rintro e w' ⟨rfl, rfl⟩))
  refine bodyPost_ret (v := .tuple #[.agg #[.int .i64 1, .string (s.extract 0 n), .int .i64 0], .int .i64 n]) ?_ rfl ⟨rfl, kp2 _ _⟩
  simp [results, Tryd.results25, go_sem]

set_option maxHeartbeats 400000 in
theorem next_tilde_ok (h2 : kindI (s[0].toNat : Int) = 6) :
    Calls Tryd.prog 25 #[.string s] w fun e w' => e = .returned (.tuple #[tokV (nextL s.data.toList).1, .int .i64 (nextL s.data.toList).2]) ∧ Kp w.heap.size w w' := by
  have hs' : s.size ≤ 9223372036854775807 := by omega
  have hcons := head_cons h0
  have C37 := fun w => kindOf_ok (s[0].toNat : Int) w
  have hv : nextL s.data.toList = (⟨1, 45 :: (s.data.toList.drop 1).takeWhile digB, 0⟩, 1 + ((s.data.toList.drop 1).takeWhile digB).length) := by
    conv => lhs; rw [hcons]
    rw [next_tilde h2]
  rw [hv]
  have C34 := fun w => run_dig' (s.extract 1 s.size) (ext_size s 1 hs') w
  rw [ext_drop] at C34
  have he := ext_tilde s
  have hle := tw_le (p := digB) (s.data.toList.drop 1)
  rw [List.length_drop, ← Lib.size_eq s] at hle
  have hx : (⟨(45 :: (s.data.toList.drop 1).takeWhile digB).toArray⟩ : ByteArray) = ⟨#[45]⟩ ++ s.extract 1 (1 + ((s.data.toList.drop 1).takeWhile digB).length) := by
    rw [he]
    apply ByteArray.ext
    simp
  unfold tokV
  simp only []
  rw [hx]
  clear he hx hv hcons
  rw [h2] at C37
  clear h2
  generalize ((s.data.toList.drop 1).takeWhile digB).length = n at *
  obtain ⟨q, hq⟩ : ∃ q, 1 + n = q := ⟨_, rfl⟩
  rw [hq]
  have hq1 : 1 + (n : Int) = (q : Int) := by omega
  have hq2 : (1 : Int) ≤ (q : Int) := by omega
  have hq3 : (q : Int) ≤ (s.size : Int) := by omega
  clear hq
  go_enter Tryd.func25, Tryd.ntmps25
  go_wp2_with (first
    | (go_at_call 37; refine (C37 _).mono ?_; rintro e w' ⟨rfl, rfl⟩)
    | (go_at_call 34; (with_reducible refine (C34 _ _ ?_).mono ?_); (simp); rintro e w' ⟨rfl, rfl⟩))
  refine bodyPost_ret (v := .tuple #[.agg #[.int .i64 1, .string (⟨#[45]⟩ ++ s.extract 1 q), .int .i64 0], .int .i64 q]) ?_ rfl ⟨rfl, kp2 _ _⟩
  simp [results, Tryd.results25, go_sem]

set_option maxHeartbeats 400000 in
theorem next_small_ok (h2 : kindI (s[0].toNat : Int) = 3) :
    Calls Tryd.prog 25 #[.string s] w fun e w' => e = .returned (.tuple #[tokV (nextL s.data.toList).1, .int .i64 (nextL s.data.toList).2]) ∧ Kp w.heap.size w w' := by
  have hs' : s.size ≤ 9223372036854775807 := by omega
  have hcons := head_cons h0
  have C37 := fun w => kindOf_ok (s[0].toNat : Int) w
  have hv : nextL s.data.toList = (⟨if kwB (s.data.toList.takeWhile letB) then 4 else 2, s.data.toList.takeWhile letB, 0⟩, (s.data.toList.takeWhile letB).length) := by
    conv => lhs; rw [hcons]
    rw [next_small h2, ← hcons]
  have C38 := fun w => smallWord_ok s hs' w
  rw [show (s.data.toList.takeWhile letB).length = (nextL s.data.toList).2 by rw [hv]] at C38
  have h1 : (⟨if kwB (s.data.toList.takeWhile letB) then 4 else 2, s.data.toList.takeWhile letB, 0⟩ : Tok) = (nextL s.data.toList).1 := by rw [hv]
  rw [h1] at C38
  clear h1
  clear hv hcons
  rw [h2] at C37
  clear h2
  unfold tokV at *
  generalize (nextL s.data.toList).2 = n at *
  generalize (nextL s.data.toList).1.kind = x at *
  generalize (nextL s.data.toList).1.text = y at *
  generalize (nextL s.data.toList).1.pos = z at *
  go_enter Tryd.func25, Tryd.ntmps25
  go_wp2_with (first
    | (go_at_call 37; refine (C37 _).mono ?_; rintro e w' ⟨rfl, rfl⟩)
    | (go_at_call 38; refine (C38 _).mono ?_; rintro e w' ⟨rfl, hk⟩; obtain ⟨hc0, hc1, hc2, hf, hz, hkp⟩ := box3 hk; have HK := Lib.hid hkp; clear hk hkp))
  refine bodyPost_ret (v := .tuple #[.agg #[.int .i64 x, .string ⟨y.toArray⟩, .int .i64 z], .int .i64 n]) ?_ rfl ⟨rfl, ?_⟩
  · simp [results, Tryd.results25, go_sem, *]
  · exact ((HK.out.setCell (Nat.le_refl _) _).setCell (Nat.le_refl _) _).setCell (Nat.le_refl _) _
end
end Go.Lx
