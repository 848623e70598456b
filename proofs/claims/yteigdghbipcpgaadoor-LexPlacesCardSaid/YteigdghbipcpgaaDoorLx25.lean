/- How a token is written, on both sides. -/
import Derived.Test.YteigdghbipcpgaaDoorLx24
namespace Go.Lx
open Go.Proofs Go.RowKit Go.Lib Go.Ev
set_option maxRecDepth 100000

def quoB (l : List UInt8) : Bool := kwB l || l == [124] || l == [35]
theorem quoB_iff (l : List UInt8) : quoB l = true ↔ (kwB l = true ∨ l = [124] ∨ l = [35]) := by
  unfold quoB
  simp [or_assoc]

theorem needsQuotes_ok (s : ByteArray) (w : World) : Calls Tryd.prog 52 #[.string s] w fun e w' => e = .returned (.bool (quoB s.data.toList)) ∧ w' = w := by
  unfold quoB
  rw [← toList_data s]
  have C20 := fun w => keyword_ok s w
  rw [← toList_data s] at C20
  generalize kwB s.toList = b at *
  cases b
  · go_enter Tryd.func52, Tryd.ntmps52
    go_wp2_with (go_at_call 20; refine (C20 _).mono ?_; rintro e w' ⟨rfl, rfl⟩)
    all_goals go_ret
    all_goals refine ⟨?_, rfl⟩
    all_goals simp_all
  · go_enter Tryd.func52, Tryd.ntmps52
    go_wp2_with (go_at_call 20; refine (C20 _).mono ?_; rintro e w' ⟨rfl, rfl⟩)
    all_goals go_ret
    all_goals exact ⟨rfl, rfl⟩

theorem cut_minus (l : List UInt8) : Lib.hasPrefix l [45] = true → (126 :: Lib.trimPrefix l [45]) = srcN l := by
  intro h
  rw [prefix_one] at h
  cases l with
  | nil => simp at h
  | cons c d =>
    obtain rfl : c = 45 := by simpa using h
    rfl
theorem cut_plain (l : List UInt8) : Lib.hasPrefix l [45] = false → srcN l = l := by
  intro h
  rw [prefix_one] at h
  cases l with
  | nil => rfl
  | cons c d =>
    have : c ≠ 45 := by simpa using h
    rw [srcN_cons, if_neg this]

set_option maxHeartbeats 1000000 in
theorem source_ok (k p : Int) (s : ByteArray) (hs : s.size ≤ 140737488355328) (w : World) :
    Calls Tryd.prog 29 #[.agg #[.int .i64 k, .string s, .int .i64 p]] w fun e w' => e = .returned (.string ⟨(srcL ⟨k, s.data.toList, p⟩).toArray⟩) ∧ Kp w.heap.size w w' := by
  by_cases h1 : k = 1
  · subst h1
    have hsrc : srcL ⟨1, s.data.toList, p⟩ = srcN s.data.toList := rfl
    rw [hsrc]
    have C51 := fun w => Tryd.strings_CutPrefix s ⟨#[45]⟩ w
    rw [show (⟨#[45]⟩ : ByteArray).data.toList = [45] from rfl] at C51
    have f1 := cut_minus s.data.toList
    have f2 := cut_plain s.data.toList
    cases hp : Lib.hasPrefix s.data.toList [45]
    · rw [hp] at C51
      have hq : (⟨(srcN s.data.toList).toArray⟩ : ByteArray) = s := by rw [f2 hp, mk_data]
      rw [hq]
      clear hp f1 f2 hsrc hq
      go_enter Tryd.func29, Tryd.ntmps29
      go_wp2_with (go_at_call 51; refine (C51 _).mono ?_; rintro e w' ⟨rfl, rfl⟩)
      go_ret
      exact ⟨rfl, (Kp.refl _ _).alloc (Nat.le_refl _) _⟩
    · rw [hp] at C51
      have hq : (⟨(srcN s.data.toList).toArray⟩ : ByteArray) = ⟨#[126]⟩ ++ ⟨(Lib.trimPrefix s.data.toList [45]).toArray⟩ := by
        rw [← f1 hp]
        apply ByteArray.ext
        simp
      rw [hq]
      have hz : (⟨(Lib.trimPrefix s.data.toList [45]).toArray⟩ : ByteArray).size ≤ 140737488355328 := by
        rw [Lib.size_eq]
        have := Lib.trimPrefix_le s.data.toList [45]
        rw [← Lib.size_eq s] at this
        simp only [List.toList_toArray]
        omega
      clear hp f1 f2 hsrc hq
      generalize (⟨(Lib.trimPrefix s.data.toList [45]).toArray⟩ : ByteArray) = z at *
      have hz2 : ((z.size : Nat) : Int) ≤ 140737488355328 := by omega
      go_enter Tryd.func29, Tryd.ntmps29
      go_wp2_with (go_at_call 51; refine (C51 _).mono ?_; rintro e w' ⟨rfl, rfl⟩)
      go_ret
      exact ⟨rfl, (Kp.refl _ _).alloc (Nat.le_refl _) _⟩
  have e1 : (k == 1) = false := by simpa using h1
  by_cases h2 : k = 2
  · subst h2
    have C52 := fun w => needsQuotes_ok s w
    cases hq : quoB s.data.toList
    · rw [hq] at C52
      have hsrc : srcL ⟨2, s.data.toList, p⟩ = s.data.toList := by
        unfold srcL
        simp only
        rw [if_neg h1, if_neg]
        rintro ⟨_, h⟩
        rw [← quoB_iff, hq] at h
        cases h
      rw [hsrc, mk_data]
      clear hsrc hq h1
      go_enter Tryd.func29, Tryd.ntmps29
      go_wp2_with (go_at_call 52; refine (C52 _).mono ?_; rintro e w' ⟨rfl, rfl⟩)
      go_ret
      exact ⟨rfl, (Kp.refl _ _).alloc (Nat.le_refl _) _⟩
    · rw [hq] at C52
      have hsrc : srcL ⟨2, s.data.toList, p⟩ = 39 :: (s.data.toList ++ [39]) := by
        unfold srcL
        simp only
        rw [if_neg h1, if_pos ⟨by simp, (quoB_iff _).1 hq⟩]
      have hy : (⟨(39 :: (s.data.toList ++ [39])).toArray⟩ : ByteArray) = ⟨#[39]⟩ ++ s ++ ⟨#[39]⟩ := by
        apply ByteArray.ext
        simp
      rw [hsrc, hy]
      clear hsrc hq h1 hy
      go_enter Tryd.func29, Tryd.ntmps29
      go_wp2_with (go_at_call 52; refine (C52 _).mono ?_; rintro e w' ⟨rfl, rfl⟩)
      go_ret
      exact ⟨rfl, (Kp.refl _ _).alloc (Nat.le_refl _) _⟩
  have e2 : (k == 2) = false := by simpa using h2
  have hsrc : srcL ⟨k, s.data.toList, p⟩ = s.data.toList := by
    unfold srcL
    simp only
    rw [if_neg h1, if_neg (fun h => h2 h.1)]
  rw [hsrc, mk_data]
  clear hsrc
  go_enter Tryd.func29, Tryd.ntmps29
  go_wp2_with fail
  go_ret
  exact ⟨rfl, (Kp.refl _ _).alloc (Nat.le_refl _) _⟩
end Go.Lx
