/- All that can be asked of a node of a store that nobody made. -/
import Derived.Test.YtcjcchidfinohaaGreatSn3
namespace Go.Sn
open Go.Proofs Go.RowKit Go.Lib Go.Ev
set_option maxRecDepth 100000

theorem laid4 {w w3 w4 : World} {a b c d : Value} {t : TypeId} (h : Kp w.heap.size w w3) (hk : Kp (w3.alloc (.cells #[a, b, c, d] t)).heap.size (w3.alloc (.cells #[a, b, c, d] t)) w4) :
    At4 w4 w3.heap.size a b c d ∧ Kp w.heap.size w w4 :=
  let ⟨h0, h1, h2, h3, _, _, hk'⟩ := box4 hk
  ⟨⟨h0, h1, h2, h3⟩, kp_then h hk'⟩
theorem laid2 {w w3 w4 : World} {a b : Value} {t : TypeId} (h : Kp w.heap.size w w3) (hk : Kp (w3.alloc (.cells #[a, b] t)).heap.size (w3.alloc (.cells #[a, b] t)) w4) :
    At2 w4 w3.heap.size a b ∧ Kp w3.heap.size w3 w4 ∧ Kp w.heap.size w w4 :=
  let ⟨h0, h1, _, _, hk'⟩ := box2 hk
  ⟨⟨h0, h1⟩, hk', kp_then h hk'⟩

set_option maxHeartbeats 2000000 in
theorem looks_ok (s : Value) (n : Int) (w : World) (h : Un w s) : Calls Tryz.prog 8 #[s, .pointer none, .int .i64 n] w fun e w' => e = .returned (.bool true) ∧ Kp w.heap.size w w' := by
  have HU := Lib.hid (show ∀ w', Kp w.heap.size w w' → Un w' s from fun w' hk => h.kp hk)
  clear h
  go_enter Tryz.func8, Tryz.ntmps8
  go_wp2_with (first
    | (go_at_call 14; refine (rep_ok s n _ (HU.out _ (Kp.refl _ _))).mono ?_; rintro e w1 ⟨rfl, hk⟩; have HK1 := Lib.hid hk; clear hk)
    | (go_at_call 31; refine (rrep_ok n _).mono ?_; rintro e w2 ⟨rfl, hk⟩; have HK2 := Lib.hid (kp_then HK1.out hk); clear hk)
    | (go_at_call 32; refine (value_ok s n _ (HU.out _ HK2.out)).mono ?_; rintro e w3 ⟨rfl, hk⟩; have HK3 := Lib.hid (kp_then HK2.out hk); clear hk)
    | (go_at_call 33; refine (rvalue_ok n _).mono ?_; rintro e w4 ⟨rfl, hk⟩; have HC4 := Lib.hid (laid4 HK3.out hk).1; have HK4 := Lib.hid (laid4 HK3.out hk).2; clear hk)
    | (go_at_call 34; refine (tree_ok s n _ ?_).mono ?_; (exact (HU.out _ HK4.out).kp (kp_b1 _ _)); rintro e w5 ⟨rfl, hk⟩
       have HD5 := Lib.hid (laid4 HK4.out hk).1; have HC5 := Lib.hid (HC4.out.kp (kp_box1 hk)); have HK5 := Lib.hid (laid4 HK4.out hk).2; clear hk HC4)
    | (go_at_call 35; refine (rtree_ok n _).mono ?_; rintro e w6 ⟨rfl, hk⟩
       have HX6 := Lib.hid (laid2 HK5.out hk).1; have hk' := (laid2 HK5.out hk).2.1; have HC6 := Lib.hid (HC5.out.kp hk'); have HD6 := Lib.hid (HD5.out.kp hk'); have HK6 := Lib.hid (laid2 HK5.out hk).2.2; clear hk hk' HC5 HD5)
    | (go_at_call 36; refine (free_ok s n _ ?_).mono ?_; (exact (HU.out _ HK6.out).kp (kp_b1 _ _)); rintro e w7 ⟨rfl, hk⟩
       have HY7 := Lib.hid (laid2 HK6.out hk).1; have hk' := (laid2 HK6.out hk).2.1; have HC7 := Lib.hid (HC6.out.kp hk'); have HD7 := Lib.hid (HD6.out.kp hk'); have HX7 := Lib.hid (HX6.out.kp hk'); have HK7 := Lib.hid (laid2 HK6.out hk).2.2; clear hk hk' HC6 HD6 HX6)
    | (go_at_call 37; refine (rfree_ok n _).mono ?_; rintro e w8 ⟨rfl, hk⟩
       obtain ⟨c0, c1, c2, c3⟩ := HC7.out.kp hk; obtain ⟨d0, d1, d2, d3⟩ := HD7.out.kp hk; have HX8 := Lib.hid (HX7.out.kp hk); have HY8 := Lib.hid (HY7.out.kp hk); have HK8 := Lib.hid (kp_then HK7.out hk); clear hk HC7 HD7 HX7 HY7)
    | (go_at_call 38; refine (nodes_zero _).mono ?_; rintro e w9 ⟨rfl, hk⟩; obtain ⟨x0, x1⟩ := HX8.out.kp hk; obtain ⟨y0, y1⟩ := HY8.out.kp hk; have HK9 := Lib.hid (kp_then HK8.out hk); clear hk HX8 HY8)
    | (go_at_call 39; refine (equal_nil _).mono ?_; rintro e w10 ⟨rfl, hk⟩; have HK10 := Lib.hid (kp_then HK9.out hk); clear hk)
    | (go_at_call 17; refine (ints_nil _).mono ?_; rintro e w11 ⟨rfl, hk⟩; have HK11 := Lib.hid (kp_then HK10.out hk); clear hk))
  go_ret
  exact ⟨rfl, HK11.out⟩
end Go.Sn
