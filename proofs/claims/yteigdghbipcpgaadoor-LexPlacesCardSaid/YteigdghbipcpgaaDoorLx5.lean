/- Gaps. -/
import Derived.Test.YteigdghbipcpgaaDoorLx4
import Derived.Deep.LoopGhost
namespace Go.Lx
open Go.Proofs Go.RowKit Go.Lib Go.Ev
set_option maxRecDepth 100000

theorem run_sp (s : ByteArray) (hs : s.size ≤ 9223372036854775807) (w : World) :
    Calls Tryd.prog 34 #[.string s, .slice (some ⟨w.heap.size, 0, none⟩) 1 1] (w.alloc (.cells #[.int .i64 1] 55)) fun e w' => e = .returned (.int .i64 (s.data.toList.takeWhile spB).length) ∧ w' = w.alloc (.cells #[.int .i64 1] 55) := by
  rw [spB_eq]
  exact run_ok s hs _ [1] _ (ints_new w [1] _ (by simp))
theorem run_dig (s : ByteArray) (hs : s.size ≤ 9223372036854775807) (w : World) :
    Calls Tryd.prog 34 #[.string s, .slice (some ⟨w.heap.size, 0, none⟩) 1 1] (w.alloc (.cells #[.int .i64 2] 55)) fun e w' => e = .returned (.int .i64 (s.data.toList.takeWhile digB).length) ∧ w' = w.alloc (.cells #[.int .i64 2] 55) := by
  rw [digB_eq]
  exact run_ok s hs _ [2] _ (ints_new w [2] _ (by simp))

set_option maxHeartbeats 2000000 in
theorem gap_ok (s : ByteArray) (hs : s.size ≤ 9223372036854775807) (w : World) :
    Calls Tryd.prog 24 #[.string s] w fun e w' => e = .returned (.int .i64 (gapL false s.data.toList)) ∧ Kp w.heap.size w w' := by
  have h0 := gapAt_start s.data.toList
  have C1 := run_sp s hs w
  generalize (s.data.toList.takeWhile spB).length = k0 at h0 C1
  have H0 := Lib.hid h0
  clear h0
  have hlen : s.data.toList.length = s.size := (Lib.size_eq s).symm
  have HLEN := Lib.hid hlen
  clear hlen
  go_enter Tryd.func24, Tryd.ntmps24
  go_wp2_with (go_at_call 34; refine C1.mono ?_; rintro e w' ⟨rfl, rfl⟩)
  go_loopg [3] s.size (fun gk i wr => ∃ k : Nat, i = .int .i64 k ∧ s.size - k ≤ gk ∧ GapAt s.data.toList k ∧ Kp w.heap.size w wr)
  case atStart => exact ⟨k0, rfl, by omega, H0.out, (Kp.refl _ _).alloc (Nat.le_refl _) _⟩
  case round =>
    obtain ⟨k, rfl, hgk, hga, hkp⟩ := hrel
    have hk : k ≤ s.size := by have := hga.1; rw [HLEN.out] at this; exact this
    have HGA := Lib.hid hga
    have HKP := Lib.hid hkp
    have hB := Lib.hid hkp.size
    have HDC := Lib.hid (ext_drop s k)
    have C35 := Tryd.strings_HasPrefix (s.extract k s.size) ⟨#[37]⟩ wr
    rw [show (⟨#[37]⟩ : ByteArray).data.toList = [37] from rfl, prefix_one, ext_drop] at C35
    have C36 := remark_ok (s.extract k s.size) wr
    rw [ext_drop] at C36
    clear hga hkp
    by_cases hh : (s.data.toList.drop k).head? = some 37
    · rw [show decide ((s.data.toList.drop k).head? = some 37) = true from decide_eq_true hh] at C35
      obtain ⟨m1, g1⟩ := gapAt_step HGA.out hh
      generalize ((s.data.toList.drop k).takeWhile (· != 10)).length = m at m1 g1 C36
      have C34 := run_sp (s.extract (k + m) s.size) (ext_size s _ hs) wr
      rw [ext_drop] at C34
      generalize ((s.data.toList.drop (k + m)).takeWhile spB).length = q at g1 C34
      have hle := g1.1
      rw [HLEN.out] at hle
      have G1 := Lib.hid g1
      clear g1 hh
      go_wp2_with (first
        | (go_at_call 35; refine C35.mono ?_; rintro e w' ⟨rfl, rfl⟩)
        | (go_at_call 36; refine C36.mono ?_; rintro e w' ⟨rfl, rfl⟩)
        | (go_at_call 34; refine C34.mono ?_; rintro e w' ⟨rfl, rfl⟩))
      go_roundg (s.size - (k + m + q))
      case measure => omega
      case rel => exact ⟨k + m + q, by go_num, Nat.le_refl _, G1.out, HKP.out.alloc hB.out _⟩
    · rw [show decide ((s.data.toList.drop k).head? = some 37) = false from decide_eq_false hh] at C35
      have hg := gapAt_end HGA.out hh
      have HG := Lib.hid hg
      clear hg hh C36
      go_wp2_with (go_at_call 35; refine C35.mono ?_; rintro e w' ⟨rfl, rfl⟩)
      go_ret
      rw [HG.out]
      exact ⟨rfl, HKP.out⟩
end Go.Lx
