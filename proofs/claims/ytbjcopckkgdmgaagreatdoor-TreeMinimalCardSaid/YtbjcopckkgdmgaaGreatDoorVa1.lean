import Derived.Test.YtbjcopckkgdmgaaGreatDoorProg
import Derived.WalkKit
import Derived.ProofKit
import Derived.RowKit3
/- The small functions of Valid. -/
namespace Go.Ev
open Go.Proofs Go.RowKit

set_option maxRecDepth 100000

theorem isIndex_ok (n c : Int) (w : World) : Calls Tryz.prog 41 #[.int .i64 n, .int .i64 c] w fun e w' => e = .returned (.bool (decide (0 ≤ n ∧ n < c))) ∧ w' = w := by
  go_enter Tryz.func41, Tryz.ntmps41
  go_wp2
  all_goals go_ret
  all_goals refine ⟨?_, rfl⟩
  · simp_all
  · simp_all; omega

def smallB (c : Int) : Bool := decide (97 ≤ c ∧ c ≤ 122)
def letterB (c : Int) : Bool := decide ((97 ≤ c ∧ c ≤ 122) ∨ (65 ≤ c ∧ c ≤ 90) ∨ (48 ≤ c ∧ c ≤ 57) ∨ c = 95)
theorem isSmall_ok (c : Int) (w : World) : Calls Tryz.prog 82 #[.int .u8 c] w fun e w' => e = .returned (.bool (smallB c)) ∧ w' = w := by
  go_enter Tryz.func82, Tryz.ntmps82
  go_wp2
  all_goals go_ret
  all_goals refine ⟨?_, rfl⟩
  · simp_all [smallB]
  · simp_all [smallB]; omega

theorem isWordByte_ok (c : Int) (w : World) : Calls Tryz.prog 83 #[.int .u8 c] w fun e w' => e = .returned (.bool (letterB c)) ∧ w' = w := by
  go_enter Tryz.func83, Tryz.ntmps83
  go_wp2
  all_goals go_ret
  all_goals refine ⟨?_, rfl⟩
  all_goals rw [show letterB c = decide ((97 ≤ c ∧ c ≤ 122) ∨ (65 ≤ c ∧ c ≤ 90) ∨ (48 ≤ c ∧ c ≤ 57) ∨ c = 95) from rfl]
  all_goals simp
  all_goals try rw [Bool.eq_iff_iff]
  all_goals try simp
  all_goals omega

theorem letter_ok (c : Int) (w : World) : Calls Tryz.prog 114 #[.int .u8 c] w fun e w' => e = .returned (.bool (letterB c)) ∧ w' = w := by
  go_enter Tryz.func114, Tryz.ntmps114
  go_wp2
  all_goals go_ret
  all_goals refine ⟨?_, rfl⟩
  all_goals rw [show letterB c = decide ((97 ≤ c ∧ c ≤ 122) ∨ (65 ≤ c ∧ c ≤ 90) ∨ (48 ≤ c ∧ c ≤ 57) ∨ c = 95) from rfl]
  all_goals simp
  all_goals try rw [Bool.eq_iff_iff]
  all_goals try simp
  all_goals omega

def nameB (s : ByteArray) : Bool := s.toList == [112, 114, 111, 99] || s.toList == [99, 101, 108, 108] || s.toList == [112, 111, 114, 116]
theorem isNameLabel_ok (s : ByteArray) (w : World) : Calls Tryz.prog 57 #[.string s] w fun e w' => e = .returned (.bool (nameB s)) ∧ w' = w := by
  go_enter Tryz.func57, Tryz.ntmps57
  go_wp2
  all_goals go_ret
  all_goals refine ⟨?_, rfl⟩
  all_goals simp_all [nameB]

end Go.Ev
