/- LexTexts. -/
import Derived.Test.YteigdghbipcpgaaDoorLx30
namespace Go.Lx
open Go.Proofs Go.RowKit Go.Lib Go.Ev
set_option maxRecDepth 100000

set_option maxHeartbeats 1000000 in
theorem lexTexts_true (v : Value) (ts : List Tok) (w : World) (hv : ToksV w v ts) (hsz : ∀ t ∈ ts, t.text.length ≤ 140737488355328) (hn : ts.length ≤ 4398046511104) (hg : Glb w) :
    Calls Tryd.prog 5 #[v] w fun e w' => e = .returned (.bool true) ∧ Kp w.heap.size w w' := by
  have HG := Lib.hid hg
  have C18 := text_ok v ts w hv hsz hn hg
  have C19 := fun w' hk => rtext_ok v ts w' (hv.kp (w' := w') hk) hsz hn
  obtain ⟨base, c, rfl⟩ := hv.len
  clear hg hv hsz
  generalize (⟨(tText (textL ts)).toArray⟩ : ByteArray) = z at *
  generalize tErr (textL ts) = q at *
  have hz : (z.toList == z.toList) = true := by simp
  have hq : (q == q) = true := by simp
  by_cases h1 : 400 < ts.length
  · have hx1 : decide (400 < (ts.length : Int)) = true := by simp; omega
    by_cases h2 : ts.length ≤ 1200
    · have hx2 : decide ((ts.length : Int) ≤ 1200) = true := by simp; omega
      go_enter Tryd.func5, Tryd.ntmps5
      go_wp2_with (go_at_call 14; refine (alive_ok _ HG.out).mono ?_; rintro e w4 ⟨rfl, hk⟩; have HK4 := Lib.hid hk; clear hk)
      go_ret
      exact ⟨rfl, HK4.out⟩
    · have hx2 : decide ((ts.length : Int) ≤ 1200) = false := by simp; omega
      go_enter Tryd.func5, Tryd.ntmps5
      go_wp2_with (first
        | (go_at_call 18; refine C18.mono ?_; rintro e w1 ⟨rfl, hk⟩; have HK1 := Lib.hid hk; have HG1 := Lib.hid (HG.out.kp hk); clear hk)
        | (go_at_call 19; refine (C19 _ HK1.out).mono ?_; rintro e w2 ⟨rfl, hk⟩; have HK2 := Lib.hid hk; have HG2 := Lib.hid (HG1.out.kp hk); clear hk)
        | (go_at_call 14; refine (alive_ok _ HG2.out).mono ?_; rintro e w4 ⟨rfl, hk⟩; have HK4 := Lib.hid hk; clear hk))
      go_ret
      exact ⟨rfl, kp_then HK1.out (kp_then HK2.out HK4.out)⟩
  · have hx1 : decide (400 < (ts.length : Int)) = false := by simp; omega
    go_enter Tryd.func5, Tryd.ntmps5
    go_wp2_with (first
      | (go_at_call 18; refine C18.mono ?_; rintro e w1 ⟨rfl, hk⟩; have HK1 := Lib.hid hk; have HG1 := Lib.hid (HG.out.kp hk); clear hk)
      | (go_at_call 19; refine (C19 _ HK1.out).mono ?_; rintro e w2 ⟨rfl, hk⟩; have HK2 := Lib.hid hk; have HG2 := Lib.hid (HG1.out.kp hk); clear hk)
      | (go_at_call 14; refine (alive_ok _ HG2.out).mono ?_; rintro e w4 ⟨rfl, hk⟩; have HK4 := Lib.hid hk; clear hk))
    go_ret
    exact ⟨rfl, kp_then HK1.out (kp_then HK2.out HK4.out)⟩
end Go.Lx
