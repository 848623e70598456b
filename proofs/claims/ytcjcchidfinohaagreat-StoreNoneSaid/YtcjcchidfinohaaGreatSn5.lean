/- Calls of a store that nobody made, beside the document's own; the whole state. -/
import Derived.Test.YtcjcchidfinohaaGreatSn4
namespace Go.Sn
open Go.Proofs Go.RowKit Go.Lib Go.Ev
set_option maxRecDepth 100000

set_option maxHeartbeats 2000000 in
theorem same_ok (s : Value) (w : World) (h : Un w s) : Calls Tryz.prog 7 #[s, .pointer none] w fun e w' => e = .returned (.bool true) ∧ Kp w.heap.size w w' := by
  have HU := Lib.hid (show ∀ w', Kp w.heap.size w w' → Un w' s from fun w' hk => h.kp hk)
  clear h
  go_enter Tryz.func7, Tryz.ntmps7
  go_wp2_with (first
    | (go_at_call 18; refine (size_ok s _ (HU.out _ (Kp.refl _ _))).mono ?_; rintro e w1 ⟨rfl, hk⟩; have HK1 := Lib.hid hk; clear hk)
    | (go_at_call 30; refine (rsize_ok _).mono ?_; rintro e w2 ⟨rfl, hk⟩; have HK2 := Lib.hid (kp_then HK1.out hk); clear hk))
  go_loopg [5] 2 (fun gk v wr => Kp w.heap.size w wr ∧ ((gk = 2 ∧ v = .int .i64 (-1)) ∨ (gk = 1 ∧ v = .int .i64 0) ∨ (gk = 0 ∧ v = .int .i64 1)))
  case atStart => exact ⟨HK2.out, .inl ⟨rfl, rfl⟩⟩
  case round =>
    obtain ⟨hk, hv⟩ := hrel
    have HKR := Lib.hid hk
    clear hk
    rcases hv with ⟨rfl, rfl⟩ | ⟨rfl, rfl⟩ | ⟨rfl, rfl⟩
    · go_wp2_with (first
        | (go_at_call 30; refine (rsize_ok _).mono ?_; rintro e w3 ⟨rfl, hk⟩; have HK3 := Lib.hid (kp_then HKR.out hk); clear hk)
        | (go_at_call 8; refine (looks_ok s _ _ (HU.out _ HK3.out)).mono ?_; rintro e w4 ⟨rfl, hk⟩; have HK4 := Lib.hid (kp_then HK3.out hk); clear hk))
      go_roundg 1
      case measure => omega
      case rel => exact ⟨HK4.out, .inr (.inl ⟨rfl, rfl⟩)⟩
    · go_wp2_with (first
        | (go_at_call 30; refine (rsize_ok _).mono ?_; rintro e w3 ⟨rfl, hk⟩; have HK3 := Lib.hid (kp_then HKR.out hk); clear hk)
        | (go_at_call 8; refine (looks_ok s _ _ (HU.out _ HK3.out)).mono ?_; rintro e w4 ⟨rfl, hk⟩; have HK4 := Lib.hid (kp_then HK3.out hk); clear hk))
      go_roundg 0
      case measure => omega
      case rel => exact ⟨HK4.out, .inr (.inr ⟨rfl, rfl⟩)⟩
    · go_wp2_with (go_at_call 30; refine (rsize_ok _).mono ?_; rintro e w3 ⟨rfl, hk⟩; have HK3 := Lib.hid (kp_then HKR.out hk); clear hk)
      go_ret
      exact ⟨rfl, HK3.out⟩
end Go.Sn
