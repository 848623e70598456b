/- Tokens: the program's next. -/
import Derived.Test.YteigdghbipcpgaaDoorLx5
namespace Go.Lx
open Go.Proofs Go.RowKit Go.Lib Go.Ev
set_option maxRecDepth 100000

def tokV (t : Tok) : Value := .agg #[.int .i64 t.kind, .string ⟨t.text.toArray⟩, .int .i64 t.pos]

theorem symLen_ok (s : ByteArray) (hs : s.size ≤ 9223372036854775807) (w : World) :
    Calls Tryd.prog 41 #[.string s] w fun e w' => e = .returned (.int .i64 (symL s.data.toList)) ∧ w' = w := by
  have C := isSymbol_ok (s.extract 0 2) w
  rw [extract_data, List.drop_zero, show 2 - 0 = 2 from rfl] at C
  have hs1 : s.size = s.data.toList.length := Lib.size_eq s
  by_cases h1 : 1 < s.size
  · have hv : symL s.data.toList = if symB (s.data.toList.take 2) = true then 2 else 1 := by
      unfold symL
      rw [← hs1]
      simp only [h1, true_and]
    have HV := Lib.hid hv
    clear hv hs1
    generalize symB (s.data.toList.take 2) = b at C HV
    have h2 : decide (1 < (s.size : Int)) = true := by simp; omega
    go_enter Tryd.func41, Tryd.ntmps41
    go_wp2_with (go_at_call 44; refine C.mono ?_; rintro e w' ⟨rfl, rfl⟩)
    all_goals go_ret
    all_goals refine ⟨?_, rfl⟩
    all_goals rw [HV.out]
    all_goals simp_all
  · have hv : symL s.data.toList = 1 := by
      unfold symL
      rw [← hs1, if_neg (fun h => h1 h.1)]
    have HV := Lib.hid hv
    clear hv hs1
    have h2 : decide (1 < (s.size : Int)) = false := by simp; omega
    go_enter Tryd.func41, Tryd.ntmps41
    go_wp2_with (go_at_call 44; refine C.mono ?_; rintro e w' ⟨rfl, rfl⟩)
    all_goals go_ret
    all_goals refine ⟨?_, rfl⟩
    all_goals rw [HV.out]
    all_goals simp_all

theorem ext_take (s : ByteArray) (n : Nat) : s.extract 0 n = ⟨(s.data.toList.take n).toArray⟩ := by
  rw [extract_eq, List.drop_zero, Nat.sub_zero]
theorem ext_tw (s : ByteArray) (p : UInt8 → Bool) : s.extract 0 (s.data.toList.takeWhile p).length = ⟨(s.data.toList.takeWhile p).toArray⟩ := by
  rw [ext_take]
  congr 2
  conv => lhs; arg 2; rw [← List.takeWhile_append_dropWhile (p := p) (l := s.data.toList)]
  exact List.take_left

theorem box3 {w w' : World} {a b c : Value} {t : TypeId} (h : Kp (w.alloc (.cells #[a, b, c] t)).heap.size (w.alloc (.cells #[a, b, c] t)) w') :
    w'.cell? ⟨w.heap.size, 0, none⟩ = some a ∧ w'.cell? ⟨w.heap.size, 1, none⟩ = some b ∧ w'.cell? ⟨w.heap.size, 2, none⟩ = some c ∧ (∀ o, w'.frozen? ⟨w.heap.size, o, none⟩ = false) ∧ w.heap.size < w'.heap.size ∧ Kp w.heap.size w w' := by
  have hz : w.heap.size < (w.alloc (.cells #[a, b, c] t)).heap.size := by simp
  refine ⟨?_, ?_, ?_, fun o => ?_, Nat.lt_of_lt_of_le hz h.size, ((Kp.refl _ _).alloc (Nat.le_refl _) _).trans (h.mono (Nat.le_of_lt hz))⟩
  · rw [h.cell hz, World.cell?_alloc_new]; rfl
  · rw [h.cell hz, World.cell?_alloc_new]; rfl
  · rw [h.cell hz, World.cell?_alloc_new]; rfl
  · rw [h.frozen hz]; simp [go_sem]

theorem kw_ext (s : ByteArray) (w : World) : Calls Tryd.prog 20 #[.string (s.extract 0 (s.data.toList.takeWhile letB).length)] w fun e w' => e = .returned (.bool (kwB (s.data.toList.takeWhile letB))) ∧ w' = w := by
  have := keyword_ok (s.extract 0 (s.data.toList.takeWhile letB).length) w
  rwa [show (s.extract 0 (s.data.toList.takeWhile letB).length).data.toList = s.data.toList.takeWhile letB by rw [ext_tw]] at this

set_option maxHeartbeats 1000000 in
theorem smallWord_ok (s : ByteArray) (hs : s.size ≤ 9223372036854775807) (w : World) :
    Calls Tryd.prog 38 #[.string s] w fun e w' => e = .returned (.tuple #[tokV ⟨if kwB (s.data.toList.takeWhile letB) then 4 else 2, s.data.toList.takeWhile letB, 0⟩, .int .i64 (s.data.toList.takeWhile letB).length]) ∧ Kp w.heap.size w w' := by
  have C39 := fun w => wordRun_ok s hs w
  have C20 := fun w => kw_ext s w
  have hle := tw_le (p := letB) s.data.toList
  rw [← Lib.size_eq s] at hle
  have he := ext_tw s letB
  unfold tokV
  rw [← he]
  clear he
  generalize (s.data.toList.takeWhile letB).length = n at *
  generalize kwB (s.data.toList.takeWhile letB) = b at *
  go_enter Tryd.func38, Tryd.ntmps38
  go_wp2_with (first
    | (go_at_call 39; refine (C39 _).mono ?_; rintro e w' ⟨rfl, hk⟩; obtain ⟨hc0, hc1, hc2, hf, hz, hkp⟩ := box3 hk; have HK := Lib.hid hkp; clear hk hkp)
    | (go_at_call 20; refine (C20 _).mono ?_; rintro e w' ⟨rfl, rfl⟩))
  all_goals refine bodyPost_ret (v := .tuple #[.agg #[.int .i64 (if b = true then 4 else 2), .string (s.extract 0 n), .int .i64 0], .int .i64 n]) ?_ rfl ⟨?_, ?_⟩
  all_goals first
    | (simp only [*]; simp; done)
    | exact ((HK.out.setCell (Nat.le_refl _) _).setCell (Nat.le_refl _) _).setCell (Nat.le_refl _) _
    | (simp [results, Tryd.results38, go_sem, *]; done)
end Go.Lx
