/- StoreNone. -/
import Derived.Test.YtcjcchidfinohaaGreatSn6
import Derived.Test.YtcjcchidfinohaaGreatSn1
namespace Go.Sn
open Go.Proofs Go.RowKit Go.Lib Go.Ev
set_option maxRecDepth 100000

set_option maxHeartbeats 1000000 in
theorem great_ok (B : Nat) (ab nb : Option Addr) (an ac nn nc : Nat) (w : World) (h4 : w.cell? ⟨B, 4, none⟩ = some (.slice ab an ac)) (h5 : w.cell? ⟨B, 5, none⟩ = some (.slice nb nn nc)) :
    Calls Tryz.prog 4 #[.slice (some ⟨B, 0, none⟩) 1 1] w fun e w' => (∃ g, e = .returned (.bool g)) ∧ Kp w.heap.size w w' := by
  go_enter Tryz.func4, Tryz.ntmps4
  go_wp2_with fail
  go_loopg [3] 1 (fun gk v wr => wr = w ∧ ((gk = 1 ∧ v = .int .i64 0) ∨ (gk = 0 ∧ v = .int .i64 1)))
  case atStart => exact ⟨rfl, .inl ⟨rfl, rfl⟩⟩
  case round =>
    obtain ⟨rfl, hv⟩ := hrel
    rcases hv with ⟨rfl, rfl⟩ | ⟨rfl, rfl⟩
    · by_cases hn : 40 < nn
      · have e1 : decide (40 < (nn : Int)) = true := by simp; omega
        go_wp2_with fail
        go_ret
        exact ⟨⟨_, rfl⟩, Kp.refl _ _⟩
      · have e1 : decide (40 < (nn : Int)) = false := by simp; omega
        by_cases ha : 40 < an
        · have e2 : decide (40 < (an : Int)) = true := by simp; omega
          go_wp2_with fail
          go_ret
          exact ⟨⟨_, rfl⟩, Kp.refl _ _⟩
        · have e2 : decide (40 < (an : Int)) = false := by simp; omega
          go_wp2_with fail
          go_roundg 0
          case measure => omega
          case rel => exact ⟨rfl, .inr ⟨rfl, rfl⟩⟩
    · go_wp2_with fail
      go_ret
      exact ⟨⟨_, rfl⟩, Kp.refl _ _⟩
end Go.Sn
