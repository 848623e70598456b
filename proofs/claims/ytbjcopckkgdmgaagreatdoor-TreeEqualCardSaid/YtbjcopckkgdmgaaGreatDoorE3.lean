import Derived.Test.YtbjcopckkgdmgaaGreatDoorE2
import Derived.Test.YtbjcopckkgdmgaaGreatDoorN14
import Derived.Test.YtbjcopckkgdmgaaGreatDoorE4
import Derived.Test.YtbjcopckkgdmgaaGreatDoorE4
import Derived.Deep.RegionHeld3
import Derived.BigRegion
import Derived.BigQuiet
import Derived.Deep.DeepCutAuto
/- TreeEqual, where all is asked. -/
namespace Go.Ev
open Go.Proofs Go.RowKit Go.Lib
set_option maxRecDepth 100000

set_option maxHeartbeats 16000000 in
theorem treeEqual_ok (va vb vc pv : Value) (A B C : List Nd) (ra rb rc : Nat) (Ps : List UInt8) (W : World) (ha : NodesV W va A) (hb : NodesV W vb B) (hc : NodesV W vc C) (hp : U8V W pv Ps) (hpl : Ps.length ≤ 9223372036854775807)
    (hga : A.length ≤ 60) (hgb : B.length ≤ 60) (hgc : C.length ≤ 60) (hva : validB A ra = true) (hvb : validB B rb = true) (hvc : validB C rc = true) (hfa : ∀ n ∈ A, FitN n) (hfb : ∀ n ∈ B, FitN n) :
    Calls Tryz.prog 10 #[.agg #[va, .int .i64 ra], .agg #[vb, .int .i64 rb], .agg #[vc, .int .i64 rc], pv] W fun e w' => e = .returned (.bool true) ∧ Kp W.heap.size W w' := by
  obtain ⟨ra', hra', hra, hA8, hA⟩ := valid_nodes hva
  obtain rfl : ra = ra' := by omega
  clear hra'
  obtain ⟨rb', hrb', hrb, hB8, hB⟩ := valid_nodes hvb
  obtain rfl : rb = rb' := by omega
  clear hrb'
  obtain ⟨rc', hrc', hrc, hC8, hC⟩ := valid_nodes hvc
  obtain rfl : rc = rc' := by omega
  clear hrc'
  obtain ⟨pa, pc, rfl⟩ := hp.form
  obtain ⟨ab, ao, ac, rfl⟩ := ha.shape (by omega)
  obtain ⟨bb, bo, bc, rfl⟩ := hb.shape (by omega)
  have GA := fun w (h : L3B W (.slice (some ⟨ab, ao, none⟩) A.length ac) (.slice (some ⟨bb, bo, none⟩) B.length bc) vc ra rb rc w) => with_stepB h (great_ok (.slice (some ⟨ab, ao, none⟩) A.length ac) A ra w (ha.kp h.l3.kp))
  have GB := fun w (h : L3B W (.slice (some ⟨ab, ao, none⟩) A.length ac) (.slice (some ⟨bb, bo, none⟩) B.length bc) vc ra rb rc w) => with_stepB h (great_ok (.slice (some ⟨bb, bo, none⟩) B.length bc) B rb w (hb.kp h.l3.kp))
  have GC := fun w (h : L3B W (.slice (some ⟨ab, ao, none⟩) A.length ac) (.slice (some ⟨bb, bo, none⟩) B.length bc) vc ra rb rc w) => with_stepB h (great_ok vc C rc w (hc.kp h.l3.kp))
  rw [decide_eq_false (by omega)] at GA GB GC
  have XA := fun w (h : L3B W (.slice (some ⟨ab, ao, none⟩) A.length ac) (.slice (some ⟨bb, bo, none⟩) B.length bc) vc ra rb rc w) => with_stepB h (rvalid_ok (.slice (some ⟨ab, ao, none⟩) A.length ac) A ra w (ha.kp h.l3.kp))
  have XB := fun w (h : L3B W (.slice (some ⟨ab, ao, none⟩) A.length ac) (.slice (some ⟨bb, bo, none⟩) B.length bc) vc ra rb rc w) => with_stepB h (rvalid_ok (.slice (some ⟨bb, bo, none⟩) B.length bc) B rb w (hb.kp h.l3.kp))
  have XC := fun w (h : L3B W (.slice (some ⟨ab, ao, none⟩) A.length ac) (.slice (some ⟨bb, bo, none⟩) B.length bc) vc ra rb rc w) => with_stepB h (rvalid_ok vc C rc w (hc.kp h.l3.kp))
  rw [hva] at XA
  rw [hvb] at XB
  rw [hvc] at XC
  have SAB := Lib.hid fun w (h : L3B W (.slice (some ⟨ab, ao, none⟩) A.length ac) (.slice (some ⟨bb, bo, none⟩) B.length bc) vc ra rb rc w) => same_b (.slice (some ⟨ab, ao, none⟩) A.length ac) (.slice (some ⟨bb, bo, none⟩) B.length bc) A B ra rb w (ha.kp h.l3.kp) (hb.kp h.l3.kp) hva hvb
  have SBA := Lib.hid fun w (h : L3B W (.slice (some ⟨ab, ao, none⟩) A.length ac) (.slice (some ⟨bb, bo, none⟩) B.length bc) vc ra rb rc w) => same_b (.slice (some ⟨bb, bo, none⟩) B.length bc) (.slice (some ⟨ab, ao, none⟩) A.length ac) B A rb ra w (hb.kp h.l3.kp) (ha.kp h.l3.kp) hvb hva
  have SBC := Lib.hid fun w (h : L3B W (.slice (some ⟨ab, ao, none⟩) A.length ac) (.slice (some ⟨bb, bo, none⟩) B.length bc) vc ra rb rc w) => same_b (.slice (some ⟨bb, bo, none⟩) B.length bc) vc B C rb rc w (hb.kp h.l3.kp) (hc.kp h.l3.kp) hvb hvc
  have SAC := Lib.hid fun w (h : L3B W (.slice (some ⟨ab, ao, none⟩) A.length ac) (.slice (some ⟨bb, bo, none⟩) B.length bc) vc ra rb rc w) => same_b (.slice (some ⟨ab, ao, none⟩) A.length ac) vc A C ra rc w (ha.kp h.l3.kp) (hc.kp h.l3.kp) hva hvc
  have SAA := Lib.hid fun w (h : L3B W (.slice (some ⟨ab, ao, none⟩) A.length ac) (.slice (some ⟨bb, bo, none⟩) B.length bc) vc ra rb rc w) => same_b (.slice (some ⟨ab, ao, none⟩) A.length ac) (.slice (some ⟨ab, ao, none⟩) A.length ac) A A ra ra w (ha.kp h.l3.kp) (ha.kp h.l3.kp) hva hva
  have TA := Lib.hid fun w (h : L3B W (.slice (some ⟨ab, ao, none⟩) A.length ac) (.slice (some ⟨bb, bo, none⟩) B.length bc) vc ra rb rc w) => tleast_ok (.slice (some ⟨ab, ao, none⟩) A.length ac) A ra w (ha.kp h.l3.kp) hva hfa
  have TB := Lib.hid fun w (h : L3B W (.slice (some ⟨ab, ao, none⟩) A.length ac) (.slice (some ⟨bb, bo, none⟩) B.length bc) vc ra rb rc w) => tleast_ok (.slice (some ⟨bb, bo, none⟩) B.length bc) B rb w (hb.kp h.l3.kp) hvb hfb
  have HA := Lib.hid ha
  have HB := Lib.hid hb
  have HP := Lib.hid hp
  have HVA := Lib.hid hva
  have HVB := Lib.hid hvb
  have HCA := Lib.hid hA
  have HCB := Lib.hid hB
  clear ha hb hc hp hva hvb hvc hfa hfb hA hB hC
  go_enter Tryz.func10, Tryz.ntmps10
  go_wp2_with fail
  obtain ⟨w0, hw0⟩ : ∃ w0, w0 = (((W.alloc (Obj.cells #[(.slice (some ⟨ab, ao, none⟩) A.length ac), .int .i64 (ra : Int)] 24)).alloc (Obj.cells #[(.slice (some ⟨bb, bo, none⟩) B.length bc), .int .i64 (rb : Int)] 24)).alloc (Obj.cells #[vc, .int .i64 (rc : Int)] 24)) := ⟨_, rfl⟩
  have S0 : L3B W (.slice (some ⟨ab, ao, none⟩) A.length ac) (.slice (some ⟨bb, bo, none⟩) B.length bc) vc (ra : Int) (rb : Int) (rc : Int) w0 := by rw [hw0]; exact ⟨⟨by go_simp, by go_simp, by go_simp, by go_simp, by go_simp, by go_simp, (((Kp.refl _ _).alloc (Nat.le_refl _) _).alloc (by simp) _).alloc (by simp; omega) _⟩, by rw [Below.heap_alloc _ _ _ (by simp; omega), Below.heap_alloc _ _ _ (by simp)]; exact heap_alloc_new _ _, by rw [Below.heap_alloc _ _ _ (by simp)]; exact (congrArg _ (by simp)).trans (heap_alloc_new (W.alloc _) _)⟩
  rw [← hw0]
  clear hw0
  refine (GA _ S0).mono ?_
  rintro e w1 ⟨rfl, S1⟩
  obtain ⟨a0, a1, b0, b1, c0, c1, -⟩ := id S1.l3
  go_wp2_with fail
  refine (GB _ S1).mono ?_
  rintro e w2 ⟨rfl, S2⟩
  clear a0 a1 b0 b1 c0 c1
  obtain ⟨a0, a1, b0, b1, c0, c1, -⟩ := id S2.l3
  go_wp2_with fail
  refine (GC _ S2).mono ?_
  rintro e w3 ⟨rfl, S3⟩
  clear a0 a1 b0 b1 c0 c1
  obtain ⟨a0, a1, b0, b1, c0, c1, -⟩ := id S3.l3
  go_wp2_with fail
  refine (XA _ S3).mono ?_
  rintro e w4 ⟨rfl, S4⟩
  clear a0 a1 b0 b1 c0 c1
  obtain ⟨a0, a1, b0, b1, c0, c1, -⟩ := id S4.l3
  go_wp2_with fail
  refine (XB _ S4).mono ?_
  rintro e w5 ⟨rfl, S5⟩
  clear a0 a1 b0 b1 c0 c1
  obtain ⟨a0, a1, b0, b1, c0, c1, -⟩ := id S5.l3
  go_wp2_with fail
  refine (XC _ S5).mono ?_
  rintro e w6 ⟨rfl, S6⟩
  clear a0 a1 b0 b1 c0 c1
  obtain ⟨a0, a1, b0, b1, c0, c1, -⟩ := id S6.l3
  go_wp2_with fail
  clear GA GB GC XA XB XC S1 S2 S3 S4 S5
  refine (SAB.out _ S6).mono ?_
  rintro e w7 ⟨x, rfl, hx, k7⟩
  have S7 := S6.step k7
  clear a0 a1 b0 b1 c0 c1
  obtain ⟨a0, a1, b0, b1, c0, c1, -⟩ := id S7.l3
  have HX := Lib.hid hx
  clear hx k7 S6 SAB
  go_wp2_with fail
  refine (SBA.out _ S7).mono ?_
  rintro e w8 ⟨y, rfl, hy, k8⟩
  have S8 := S7.step k8
  clear a0 a1 b0 b1 c0 c1
  obtain ⟨a0, a1, b0, b1, c0, c1, -⟩ := id S8.l3
  obtain rfl : y = x := by rw [Bool.eq_iff_iff, hy, HX.out]; exact ⟨Bis.symm, Bis.symm⟩
  clear hy k8 S7 SBA
  go_wp2_with fail
  refine (SBC.out _ S8).mono ?_
  rintro e w9 ⟨z, rfl, hz, k9⟩
  have S9 := S8.step k9
  clear a0 a1 b0 b1 c0 c1
  obtain ⟨a0, a1, b0, b1, c0, c1, -⟩ := id S9.l3
  have HZ := Lib.hid hz
  clear hz k9 S8 SBC
  go_wp2_with fail
  refine (SAC.out _ S9).mono ?_
  rintro e w10 ⟨u, rfl, hu, k10⟩
  have S10 := S9.step k10
  clear a0 a1 b0 b1 c0 c1
  obtain ⟨a0, a1, b0, b1, c0, c1, -⟩ := id S10.l3
  have HU := Lib.hid (show y = true → u = z from fun e => by
    have hb := HX.out.1 e
    rw [Bool.eq_iff_iff, hu, HZ.out]
    exact ⟨hb.symm.trans, hb.trans⟩)
  clear hu k10 S9 SAC HZ
  go_wp2_with fail
  refine (SAA.out _ S10).mono ?_
  rintro e w11 ⟨sl, rfl, hs, k11⟩
  have S11 := S10.step k11
  clear a0 a1 b0 b1 c0 c1
  obtain ⟨a0, a1, b0, b1, c0, c1, -⟩ := id S11.l3
  obtain rfl : sl = true := hs.2 (Bis.refl _ _)
  clear hs k11 S10 SAA
  go_wp2_with fail
  refine (TA.out _ S11).mono ?_
  rintro e w12 ⟨L, v, us, rfl, hon, hcan, hbis, hle, k12⟩
  have hL0 := hcan.some
  have hnod := hon.nodes
  obtain ⟨xb, xo, xc, rfl⟩ := hnod.shape hL0
  have S12 := Lib.hid (S11.step k12)
  obtain ⟨w13, hw13⟩ : ∃ w13, w13 = w12.alloc (Obj.cells #[.slice (some ⟨xb, xo, none⟩) L.length xc, Value.int IntKind.i64 0] 24) := ⟨_, rfl⟩
  have k13 : Kp w12.heap.size w12 w13 := by rw [hw13]; exact (Kp.refl _ _).alloc (Nat.le_refl _) _
  have S13 := S12.out.step k13
  obtain ⟨X, hX⟩ : ∃ X, X = w12.heap.size := ⟨_, rfl⟩
  have hbX := heap_top hw13 hX.symm
  have HKX := Lib.hid (show ∀ w, Kp w13.heap.size w13 w → w.cell? ⟨X, 0, none⟩ = some (.slice (some ⟨xb, xo, none⟩) L.length xc) ∧ w.cell? ⟨X, 1, none⟩ = some (.int .i64 0) ∧ NodesV w (.slice (some ⟨xb, xo, none⟩) L.length xc) L from fun w hk =>
    ⟨hk.cells (by unfold World.cell?; rw [hbX]; rfl), hk.cells (by unfold World.cell?; rw [hbX]; rfl), (hnod.kp k13).kp hk⟩)
  have HC1 := Lib.hid hcan
  have HB1 := Lib.hid hbis
  have HW := Lib.hid hw13
  have HX0 := Lib.hid hX
  have hL8 : L.length ≤ 8000 := by omega
  clear hon hcan hbis hnod hle k12 k13 hw13 hX hbX a0 a1 b0 b1 c0 c1 S11 TA
  obtain ⟨a0, a1, b0, b1, c0, c1, -⟩ := id S13.l3
  rw [HW.out] at a0 a1 b0 b1 c0 c1
  go_wp2_with fail
  rw [← HW.out, ← HX0.out]
  refine (TB.out _ S13).mono ?_
  rintro e w14 ⟨M, v, us, rfl, hon, hcan, hbis, hle, k14⟩
  have hM0 := hcan.some
  have hnod := hon.nodes
  obtain ⟨yb, yo, yc, rfl⟩ := hnod.shape hM0
  have S14 := Lib.hid (S13.step k14)
  obtain ⟨w15, hw15⟩ : ∃ w15, w15 = w14.alloc (Obj.cells #[.slice (some ⟨yb, yo, none⟩) M.length yc, Value.int IntKind.i64 0] 24) := ⟨_, rfl⟩
  have k15 : Kp w14.heap.size w14 w15 := by rw [hw15]; exact (Kp.refl _ _).alloc (Nat.le_refl _) _
  have S15 := S14.out.step k15
  obtain ⟨x0, x1, HNX⟩ := HKX.out _ (k14.trans (k15.mono k14.size))
  obtain ⟨Y, hY⟩ : ∃ Y, Y = w14.heap.size := ⟨_, rfl⟩
  have hbY := heap_top hw15 hY.symm
  have y0 : w15.cell? ⟨Y, 0, none⟩ = some (.slice (some ⟨yb, yo, none⟩) M.length yc) := by unfold World.cell?; rw [hbY]; rfl
  have y1 : w15.cell? ⟨Y, 1, none⟩ = some (.int .i64 0) := by unfold World.cell?; rw [hbY]; rfl
  have HW2 := Lib.hid hw15
  have HY0 := Lib.hid hY
  have hM8 : M.length ≤ 8000 := by omega
  have EQ := (rEqual_ok L M 0 0 w15 xb xo xc yb yo yc HC1.out.closed (by omega) (by omega) HNX (hnod.kp k15))
  have HEX := Lib.hid (show (y = true ↔ L = M) from by
    rw [HX.out]
    constructor
    · intro h
      exact HC1.out.unique hcan (by simpa using (HB1.out.trans (by simpa using h)).trans hbis.symm)
    · rintro rfl
      simpa using HB1.out.symm.trans hbis)
  have EQ2 : Hid (Calls Tryz.prog 27 #[.agg #[.slice (some ⟨xb, xo, none⟩) L.length xc, .int .i64 0], .agg #[.slice (some ⟨yb, yo, none⟩) M.length yc, .int .i64 0]] w15 fun e w' => e = .returned (.bool y) ∧ Kp w15.heap.size w15 w') :=
    Lib.hid (EQ.mono fun e w' ⟨r, h1, hr, hk⟩ => ⟨by rw [h1, show r = y from by rw [Bool.eq_iff_iff, hr, HEX.out]; simp], hk⟩)
  have HB0 := Lib.hid HX.out.1
  clear hon hcan hbis hnod hle k14 k15 hw15 hY hbY a0 a1 b0 b1 c0 c1 S13 TB HKX HNX EQ HEX HX
  have S15H := Lib.hid S15
  obtain ⟨a0, a1, b0, b1, c0, c1, -⟩ := id S15.l3
  rw [HW2.out] at a0 a1 b0 b1 c0 c1
  rw [HW2.out] at x0 x1
  rw [HW2.out, HY0.out] at y0 y1
  clear S15
  cases y
  · go_wp2_with fail
    rw [← HW2.out, ← HY0.out]
    refine EQ2.out.mono ?_
    rintro e w16 ⟨rfl, k16⟩
    have S16 := Lib.hid (S15H.out.step k16)
    clear a0 a1 b0 b1 c0 c1 x0 x1 y0 y1 k16
    go_wp2_with fail
    go_loopw [23, 24, 25, 26, 27, 28] (fun v23 _ _ _ _ _ wr => v23 = .int .i64 0 ∧ Kp w16.heap.size w16 wr) (fun _ _ _ _ _ _ _ => 0)
    case atStart => exact ⟨rfl, Kp.refl _ _⟩
    case round =>
      obtain ⟨rfl, hkr⟩ := hrel
      have S17 := Lib.hid (S16.out.step hkr)
      clear hkr
      go_wp2_with (go_at_call 19; refine (alive_kp _).mono ?_; rintro e w9 ⟨rfl, k9⟩; have S9 := Lib.hid (S17.out.step k9); clear k9)
      go_ret
      exact ⟨rfl, S9.out.l3.kp⟩
  · have hzu := HU.out rfl
    subst hzu
    clear HU
    all_goals
      go_wp2_with fail
      rw [← HW2.out, ← HY0.out]
      refine EQ2.out.mono ?_
      rintro e w16 ⟨rfl, k16⟩
      have S16 := Lib.hid (S15H.out.step k16)
      clear a0 a1 b0 b1 c0 c1 x0 x1 y0 y1 k16
      go_wp2_with fail
      have HBAB := Lib.hid (show Bis A ra B rb from by first | exact HB0.out | exact HB0.out rfl | exact HB0.out trivial)
      go_loopw [23, 24, 25, 26, 27, 28] (fun v23 _ _ _ _ _ wr => ∃ i qa qb : Nat, v23 = .int .i64 (i : Int) ∧ i ≤ Ps.length ∧ qa < A.length ∧ qb < B.length ∧ Bis A qa B qb ∧ L3B W (.slice (some ⟨ab, ao, none⟩) A.length ac) (.slice (some ⟨bb, bo, none⟩) B.length bc) vc (qa : Int) (qb : Int) rc wr) (fun v23 _ _ _ _ _ _ => Ps.length - (RowKit.intOf v23).toNat)
      case atStart => exact ⟨0, ra, rb, rfl, Nat.zero_le _, hra, hrb, HBAB.out, S16.out⟩
      case round =>
        obtain ⟨i, qa, qb, rfl, hi, hqa, hqb, hbq, hst⟩ := hrel
        have HBQ := Lib.hid hbq
        have HST := Lib.hid hst
        clear hbq hst S16 HBAB
        by_cases hil : i < Ps.length
        · by_cases hi4 : i < 40
          · have hil' : (i : Int) < ((Ps.length : Nat) : Int) := by omega
            have hi4' : (i : Int) < 40 := by omega
            obtain ⟨na, hna⟩ : ∃ na, A[qa]? = some na := ⟨_, List.getElem?_eq_getElem hqa⟩
            obtain ⟨nb, hnb⟩ : ∃ nb, B[qb]? = some nb := ⟨_, List.getElem?_eq_getElem hqb⟩
            obtain ⟨hac, hca⟩ := (HA.out.kp HST.out.l3.kp).at (by omega)
            obtain ⟨hbc, hcb⟩ := (HB.out.kp HST.out.l3.kp).at (by omega)
            obtain ⟨p1, p2, p3, _, vna, p4, hav⟩ := hca qa na hna
            obtain ⟨q1, q2, q3, _, vnb, q4, hbv⟩ := hcb qb nb hnb
            obtain ⟨aa, aac, rfl⟩ := hav.len
            obtain ⟨ba, bac, rfl⟩ := hbv.len
            obtain ⟨_, hcaW⟩ := HA.out.at (by omega)
            obtain ⟨_, hcbW⟩ := HB.out.at (by omega)
            obtain ⟨_, _, _, _, vW, e4, havW⟩ := hcaW qa na hna
            obtain ⟨_, _, _, _, vW', e4', hbvW⟩ := hcbW qb nb hnb
            obtain rfl := Option.some.inj (p4.symm.trans (HST.out.l3.kp.cells e4))
            obtain rfl := Option.some.inj (q4.symm.trans (HST.out.l3.kp.cells e4'))
            have HAW := Lib.hid havW
            have HBW := Lib.hid hbvW
            obtain ⟨hlen, hdown⟩ := HBQ.out.down HCA.out HCB.out hna hnb
            rw [← hlen] at q4 hbv
            obtain ⟨h8, hargs⟩ := HCA.out na (List.mem_of_getElem? hna)
            obtain ⟨_, hargsb⟩ := HCB.out nb (List.mem_of_getElem? hnb)
            obtain ⟨pb, po, rfl, hppc, x, hcx⟩ := (HP.out.kp HST.out.l3.kp).at hil
            have HARGS := Lib.hid (And.intro hargs hargsb)
            have HCX := Lib.hid hcx
            obtain ⟨a0, a1, b0, b1, c0, c1, -⟩ := HST.out.l3
            have HAV := Lib.hid hav
            have HBV := Lib.hid hbv
            have HLEN := Lib.hid hlen
            have HDN := Lib.hid hdown
            have HNA := Lib.hid hna
            have HNB := Lib.hid hnb
            clear e4 e4' hcaW hcbW havW hbvW hav hbv hlen hdown hna hnb hca hcb hargs hargsb hcx
            go_wp2_with fail
            obtain ⟨wo, hwo⟩ : ∃ wo : World, wo = wr := ⟨_, rfl⟩
            subst hwo
            have l0 : W.heap.size < wo.heap.size := block_lt_of_cell a0
            have l1 : W.heap.size + 1 < wo.heap.size := block_lt_of_cell b0
            have l2 : ab < wo.heap.size := block_lt_of_cell p1
            have l3 : bb < wo.heap.size := block_lt_of_cell q1
            go_cut [24, 25] (fun v24 v25 wx => ∃ X4 X5 : Nat, v24 = .pointer (some ⟨X4, 0, none⟩) ∧ v25 = .pointer (some ⟨X5, 0, none⟩) ∧ wo.heap.size ≤ X4 ∧ wo.heap.size ≤ X5 ∧ wx.cell? ⟨X4, 3, none⟩ = some (.slice aa na.args.length aac) ∧ wx.cell? ⟨X5, 3, none⟩ = some (.slice ba na.args.length bac) ∧ Kp wo.heap.size wo wx)
            case first =>
              have MK := (show ∀ w', Kp wo.heap.size wo w' → (fun w' => w'.cell? ⟨W.heap.size, 0, none⟩ = some (.slice (some ⟨ab, ao, none⟩) A.length ac) ∧ w'.cell? ⟨W.heap.size, 1, none⟩ = some (.int .i64 (qa : Int)) ∧ w'.cell? ⟨W.heap.size + 1, 0, none⟩ = some (.slice (some ⟨bb, bo, none⟩) B.length bc) ∧ w'.cell? ⟨W.heap.size + 1, 1, none⟩ = some (.int .i64 (qb : Int)) ∧ w'.cell? ⟨ab, ao + qa * 4, none⟩ = some (.int .i64 na.kind) ∧ w'.cell? ⟨ab, ao + qa * 4 + 1, none⟩ = some (.int .i64 na.num) ∧ w'.cell? ⟨ab, ao + qa * 4 + 2, none⟩ = some (.string na.label) ∧ w'.cell? ⟨ab, ao + qa * 4 + 3, none⟩ = some (.slice aa na.args.length aac) ∧ w'.cell? ⟨bb, bo + qb * 4, none⟩ = some (.int .i64 nb.kind) ∧ w'.cell? ⟨bb, bo + qb * 4 + 1, none⟩ = some (.int .i64 nb.num) ∧ w'.cell? ⟨bb, bo + qb * 4 + 2, none⟩ = some (.string nb.label) ∧ w'.cell? ⟨bb, bo + qb * 4 + 3, none⟩ = some (.slice ba na.args.length bac) ∧ Kp wo.heap.size wo w') w' from fun w' h =>
                ⟨h.cells a0, h.cells a1, h.cells b0, h.cells b1, h.cells p1, h.cells p2, h.cells p3, h.cells p4, h.cells q1, h.cells q2, h.cells q3, h.cells q4, h⟩)
              have HMK := Lib.hid MK
              clear MK
              go_region_held3 (fun w' => w'.cell? ⟨W.heap.size, 0, none⟩ = some (.slice (some ⟨ab, ao, none⟩) A.length ac) ∧ w'.cell? ⟨W.heap.size, 1, none⟩ = some (.int .i64 (qa : Int)) ∧ w'.cell? ⟨W.heap.size + 1, 0, none⟩ = some (.slice (some ⟨bb, bo, none⟩) B.length bc) ∧ w'.cell? ⟨W.heap.size + 1, 1, none⟩ = some (.int .i64 (qb : Int)) ∧ w'.cell? ⟨ab, ao + qa * 4, none⟩ = some (.int .i64 na.kind) ∧ w'.cell? ⟨ab, ao + qa * 4 + 1, none⟩ = some (.int .i64 na.num) ∧ w'.cell? ⟨ab, ao + qa * 4 + 2, none⟩ = some (.string na.label) ∧ w'.cell? ⟨ab, ao + qa * 4 + 3, none⟩ = some (.slice aa na.args.length aac) ∧ w'.cell? ⟨bb, bo + qb * 4, none⟩ = some (.int .i64 nb.kind) ∧ w'.cell? ⟨bb, bo + qb * 4 + 1, none⟩ = some (.int .i64 nb.num) ∧ w'.cell? ⟨bb, bo + qb * 4 + 2, none⟩ = some (.string nb.label) ∧ w'.cell? ⟨bb, bo + qb * 4 + 3, none⟩ = some (.slice ba na.args.length bac) ∧ Kp wo.heap.size wo w')
                ((refine HMK.out _ ?_; repeat (first | assumption | exact Kp.refl _ _ | refine Kp.drew ?_ | refine kpa3 ?_ _ | refine kps3 ?_ (by first | exact Nat.le_refl _ | exact Nat.le_succ _) _ _)))
                (first | fail)
              all_goals
                go_wp2_with fail
                go_meet
                exact ⟨_, _, rfl, rfl, by first | exact Nat.le_refl _ | exact Nat.le_succ _, by first | exact Nat.le_refl _ | exact Nat.le_succ _, by go_simp, by go_simp, (((Kp.refl _ _).alloc (Nat.le_refl _) _).alloc (by simp) _).drew⟩
            case rest =>
              obtain ⟨X4, X5, rfl, rfl, h4, h5, d4, d5, k2⟩ := hcut
              obtain ⟨w2, hw2⟩ : ∃ w2 : World, w2 = wc := ⟨_, rfl⟩
              subst hw2
              have ST2 := HST.out.step k2
              have HAV2 := Lib.hid (HAV.out.grown fun _ _ _ h => k2.cells h)
              have HBV2 := Lib.hid (HBV.out.grown fun _ _ _ h => k2.cells h)
              have HCX2 := Lib.hid (k2.cells HCX.out)
              have HS2 := Lib.hid ST2
              have hNw : W.heap.size + 1 < wo.heap.size := l1
              clear k2 a0 a1 b0 b1 c0 c1 p1 p2 p3 p4 q1 q2 q3 q4 l0 l1 l2 l3 ST2
              by_cases hn0 : na.args.length = 0
              · have hn0' : ((na.args.length : Nat) : Int) = 0 := by omega
                clear hn0
                go_wp2_with (go_at_call 19; refine (alive_kp _).mono ?_; rintro e w9 ⟨rfl, k9⟩; have S9 := Lib.hid (HS2.out.step k9); clear k9)
                go_ret
                exact ⟨rfl, S9.out.l3.kp⟩
              · have hn0' : ¬ ((na.args.length : Nat) : Int) = 0 := by omega
                obtain ⟨k, hk⟩ : ∃ k, k = x.toNat % na.args.length := ⟨_, rfl⟩
                have hkn : k < na.args.length := by rw [hk]; exact Nat.mod_lt _ (by omega)
                have hx8 : x.toNat < 256 := x.toNat_lt
                have htm : ((x.toNat : Nat) : Int).tmod ((na.args.length : Nat) : Int) = (k : Int) := by rw [hk]; exact (Int.ofNat_tmod _ _).symm
                have hcx := HCX2.out
                clear hk
                go_wp2_with fail
                go_quiet (fail)
                obtain ⟨w3, hw3⟩ : ∃ w3, w3 = w2.drewN nq := ⟨_, rfl⟩
                have k3 : Kp w2.heap.size w2 w3 := by rw [hw3]; exact (Kp.refl _ _).drewN
                rw [← hw3]
                have S3 := HS2.out.step k3
                have d4 := k3.cells d4
                have d5 := k3.cells d5
                obtain ⟨ea, eo, rfl, heac, -, hea⟩ := args_cellAt (HAV2.out.grown fun _ _ _ h => k3.cells h) hkn
                obtain ⟨eb, eo', rfl, hebc, hebl, heb⟩ := args_cellAt (HBV2.out.grown fun _ _ _ h => k3.cells h) (show k < nb.args.length by rw [← HLEN.out]; exact hkn)
                have hkb : k < nb.args.length := by rw [← HLEN.out]; exact hkn
                obtain ⟨ca, hca⟩ : ∃ c : Nat, na.args[k]? = some (c : Int) := ⟨(na.args[k]).toNat, by rw [List.getElem?_eq_getElem hkn, Int.toNat_of_nonneg (HARGS.out.1 _ (List.getElem_mem hkn)).1]⟩
                obtain ⟨cb, hcb⟩ : ∃ c : Nat, nb.args[k]? = some (c : Int) := ⟨(nb.args[k]).toNat, by rw [List.getElem?_eq_getElem hkb, Int.toNat_of_nonneg (HARGS.out.2 _ (List.getElem_mem hkb)).1]⟩
                have fa := hea k _ hca
                have fb := heb k _ hcb
                have HKID := Lib.hid (show ca < A.length ∧ cb < B.length ∧ Bis A ca B cb from ⟨by have := (HARGS.out.1 _ (List.mem_of_getElem? hca)).2; omega, by have := (HARGS.out.2 _ (List.mem_of_getElem? hcb)).2; omega, by simpa using HDN.out k _ _ hca hcb⟩)
                have HS3 := Lib.hid S3
                have hea0 : ea < W.heap.size := by
                  obtain ⟨_, _, e, _, _, h⟩ := args_cellAt HAW.out hkn
                  cases e
                  exact block_lt_of_cell (h k _ hca)
                have heb0 : eb < W.heap.size := by
                  obtain ⟨_, _, e, _, _, h⟩ := args_cellAt HBW.out hkb
                  cases e
                  exact block_lt_of_cell (h k _ hcb)
                have HD0 : Hid (X4 ≠ W.heap.size ∧ X5 ≠ W.heap.size ∧ ea ≠ W.heap.size ∧ eb ≠ W.heap.size) := Lib.hid ⟨by omega, by omega, by omega, by omega⟩
                have HD1 : Hid (X4 ≠ W.heap.size + 1 ∧ X5 ≠ W.heap.size + 1 ∧ ea ≠ W.heap.size + 1 ∧ eb ≠ W.heap.size + 1) := Lib.hid ⟨by omega, by omega, by omega, by omega⟩
                have HB2 := Lib.hid (show B20 W.heap.size (.slice (some ⟨ab, ao, none⟩) A.length ac) (.slice (some ⟨bb, bo, none⟩) B.length bc) ⟨X4, 3, none⟩ ⟨X5, 3, none⟩ ⟨ea, eo + k, none⟩ ⟨eb, eo' + k, none⟩ (.slice (some ⟨ea, eo, none⟩) na.args.length aac) (.slice (some ⟨eb, eo', none⟩) na.args.length bac) (.int .i64 (ca : Int)) (.int .i64 (cb : Int)) w3 w3 from ⟨Bx.of S3.h0 S3.h1, d4, d5, fa, fb, Kp.refl _ _⟩)
                have MK := Lib.hid (show ∀ w', B20 W.heap.size (.slice (some ⟨ab, ao, none⟩) A.length ac) (.slice (some ⟨bb, bo, none⟩) B.length bc) ⟨X4, 3, none⟩ ⟨X5, 3, none⟩ ⟨ea, eo + k, none⟩ ⟨eb, eo' + k, none⟩ (.slice (some ⟨ea, eo, none⟩) na.args.length aac) (.slice (some ⟨eb, eo', none⟩) na.args.length bac) (.int .i64 (ca : Int)) (.int .i64 (cb : Int)) w3 w' → (fun w' => w'.cell? ⟨W.heap.size, 0, none⟩ = some (.slice (some ⟨ab, ao, none⟩) A.length ac) ∧ w'.cell? ⟨W.heap.size, 1, none⟩ = some (.int .i64 (rootIn w' W.heap.size)) ∧ w'.cell? ⟨W.heap.size + 1, 0, none⟩ = some (.slice (some ⟨bb, bo, none⟩) B.length bc) ∧ w'.cell? ⟨W.heap.size + 1, 1, none⟩ = some (.int .i64 (rootIn w' (W.heap.size + 1))) ∧ (∀ o, w'.frozen? ⟨W.heap.size, o, none⟩ = false) ∧ (∀ o, w'.frozen? ⟨W.heap.size + 1, o, none⟩ = false) ∧ w'.cell? ⟨X4, 3, none⟩ = some (.slice (some ⟨ea, eo, none⟩) na.args.length aac) ∧ w'.cell? ⟨X5, 3, none⟩ = some (.slice (some ⟨eb, eo', none⟩) na.args.length bac) ∧ w'.cell? ⟨ea, eo + k, none⟩ = some (.int .i64 (ca : Int)) ∧ w'.cell? ⟨eb, eo' + k, none⟩ = some (.int .i64 (cb : Int)) ∧ Hid (B20 W.heap.size (.slice (some ⟨ab, ao, none⟩) A.length ac) (.slice (some ⟨bb, bo, none⟩) B.length bc) ⟨X4, 3, none⟩ ⟨X5, 3, none⟩ ⟨ea, eo + k, none⟩ ⟨eb, eo' + k, none⟩ (.slice (some ⟨ea, eo, none⟩) na.args.length aac) (.slice (some ⟨eb, eo', none⟩) na.args.length bac) (.int .i64 (ca : Int)) (.int .i64 (cb : Int)) w3 w')) w' from fun w' h => by
                  obtain ⟨h1, h2, h3, h4, h5, h6⟩ := h.bx.c
                  exact ⟨h1, h2, h3, h4, h5, h6, h.cp, h.cq, h.cr, h.cs, Lib.hid h⟩)
                clear k3 hw3 hcx htm hx8 hn0 hn0' hea heb hca hcb S3 HST d4 d5 fa fb
                have hkn' : (k : Int) < ((na.args.length : Nat) : Int) := by omega
                go_wp2_with fail
                go_cut [] (fun wx => L3B W (.slice (some ⟨ab, ao, none⟩) A.length ac) (.slice (some ⟨bb, bo, none⟩) B.length bc) vc (ca : Int) (cb : Int) rc wx)
                case first =>
                  have HST9 := Lib.hid (show ∀ w w' : World, (fun w' => L3B W (.slice (some ⟨ab, ao, none⟩) A.length ac) (.slice (some ⟨bb, bo, none⟩) B.length bc) vc (qa : Int) (qb : Int) rc w' ∧ w'.cell? ⟨X4, 3, none⟩ = some (.slice (some ⟨ea, eo, none⟩) na.args.length aac) ∧ w'.cell? ⟨X5, 3, none⟩ = some (.slice (some ⟨eb, eo', none⟩) na.args.length bac) ∧ w'.cell? ⟨ea, eo + k, none⟩ = some (.int .i64 (ca : Int)) ∧ w'.cell? ⟨eb, eo' + k, none⟩ = some (.int .i64 (cb : Int))) w → Kp w.heap.size w w' → (fun w' => L3B W (.slice (some ⟨ab, ao, none⟩) A.length ac) (.slice (some ⟨bb, bo, none⟩) B.length bc) vc (qa : Int) (qb : Int) rc w' ∧ w'.cell? ⟨X4, 3, none⟩ = some (.slice (some ⟨ea, eo, none⟩) na.args.length aac) ∧ w'.cell? ⟨X5, 3, none⟩ = some (.slice (some ⟨eb, eo', none⟩) na.args.length bac) ∧ w'.cell? ⟨ea, eo + k, none⟩ = some (.int .i64 (ca : Int)) ∧ w'.cell? ⟨eb, eo' + k, none⟩ = some (.int .i64 (cb : Int))) w' from fun w w' ⟨h1, h2, h3, h4, h5⟩ k => ⟨h1.step k, k.cells h2, k.cells h3, k.cells h4, k.cells h5⟩)
                  have s0 : (fun w' => L3B W (.slice (some ⟨ab, ao, none⟩) A.length ac) (.slice (some ⟨bb, bo, none⟩) B.length bc) vc (qa : Int) (qb : Int) rc w' ∧ w'.cell? ⟨X4, 3, none⟩ = some (.slice (some ⟨ea, eo, none⟩) na.args.length aac) ∧ w'.cell? ⟨X5, 3, none⟩ = some (.slice (some ⟨eb, eo', none⟩) na.args.length bac) ∧ w'.cell? ⟨ea, eo + k, none⟩ = some (.int .i64 (ca : Int)) ∧ w'.cell? ⟨eb, eo' + k, none⟩ = some (.int .i64 (cb : Int))) w3.drew := ⟨HS3.out.step (Kp.refl _ _).drew, HB2.out.cp, HB2.out.cq, HB2.out.cr, HB2.out.cs⟩
                  refine wp_region_late (fun w' => L3B W (.slice (some ⟨ab, ao, none⟩) A.length ac) (.slice (some ⟨bb, bo, none⟩) B.length bc) vc (qa : Int) (qb : Int) rc w' ∧ w'.cell? ⟨X4, 3, none⟩ = some (.slice (some ⟨ea, eo, none⟩) na.args.length aac) ∧ w'.cell? ⟨X5, 3, none⟩ = some (.slice (some ⟨eb, eo', none⟩) na.args.length bac) ∧ w'.cell? ⟨ea, eo + k, none⟩ = some (.int .i64 (ca : Int)) ∧ w'.cell? ⟨eb, eo' + k, none⟩ = some (.int .i64 (cb : Int))) [14, 15] (by kernel_rfl) ?_
                  refine wpAnyL_take (i := 0) (oi := { dst := some 162, op := Go.Op.load 24 (Go.Operand.tmp 4), type := 24, pos := "outright.go:68", after := #[], guard := none }) (v := ?v0) rfl (by kernel_rfl) (by kernel_rfl) (by kernel_rfl) (by kernel_rfl) (by kernel_rfl) (by kernel_rfl) (fun _ _ _ h => h) (Or.inl ⟨by rfl, ?h0⟩) s0 ?r0
                  case h0 =>
                    rintro w ⟨⟨⟨a0, a1, b0, b1, -, -, -⟩, -, -⟩, d4, d5, fa, fb⟩
                    go_simp
                    all_goals (with_reducible rfl)
                  try simp only [Act.put, List.setIfInBounds_toArray, List.set_cons_zero, List.set_cons_succ]
                  refine wpAnyL_take (i := 1) (oi := { dst := some 163, op := Go.Op.fieldAddr 48 (Go.Operand.tmp 24) 3, type := 0, pos := "outright.go:68", after := #[], guard := none }) (v := ?v1) rfl (by kernel_rfl) (by kernel_rfl) (by kernel_rfl) (by kernel_rfl) (by kernel_rfl) (by kernel_rfl) (fun _ _ _ h => h) (Or.inl ⟨by rfl, ?h1⟩) s0 ?r1
                  case h1 =>
                    rintro w ⟨⟨⟨a0, a1, b0, b1, -, -, -⟩, -, -⟩, d4, d5, fa, fb⟩
                    go_simp
                    all_goals (with_reducible rfl)
                  try simp only [Act.put, List.setIfInBounds_toArray, List.set_cons_zero, List.set_cons_succ]
                  refine wpAnyL_take (i := 2) (oi := { dst := some 164, op := Go.Op.load 43 (Go.Operand.tmp 163), type := 43, pos := "outright.go:68", after := #[{ on := 1, ground := Go.Ground.data }], guard := none }) (v := ?v2) rfl (by kernel_rfl) (by kernel_rfl) (by kernel_rfl) (by kernel_rfl) (by kernel_rfl) (by kernel_rfl) (fun _ _ _ h => h) (Or.inl ⟨by rfl, ?h2⟩) s0 ?r2
                  case h2 =>
                    rintro w ⟨⟨⟨a0, a1, b0, b1, -, -, -⟩, -, -⟩, d4, d5, fa, fb⟩
                    go_simp
                    all_goals (with_reducible rfl)
                  try simp only [Act.put, List.setIfInBounds_toArray, List.set_cons_zero, List.set_cons_succ]
                  refine wpAnyL_take (i := 3) (oi := { dst := some 165, op := Go.Op.move (Go.Operand.tmp 26), type := 3, pos := "outright.go:68", after := #[], guard := none }) (v := ?v3) rfl (by kernel_rfl) (by kernel_rfl) (by kernel_rfl) (by kernel_rfl) (by kernel_rfl) (by kernel_rfl) (fun _ _ _ h => h) (Or.inl ⟨by rfl, ?h3⟩) s0 ?r3
                  case h3 =>
                    rintro w ⟨⟨⟨a0, a1, b0, b1, -, -, -⟩, -, -⟩, d4, d5, fa, fb⟩
                    go_simp
                    all_goals (with_reducible rfl)
                  try simp only [Act.put, List.setIfInBounds_toArray, List.set_cons_zero, List.set_cons_succ]
                  refine wpAnyL_take (i := 4) (oi := { dst := some 166, op := Go.Op.indexAddr 43 (Go.Operand.tmp 164) (Go.Operand.tmp 165), type := 0, pos := "outright.go:68", after := #[{ on := 2, ground := Go.Ground.data }, { on := 3, ground := Go.Ground.data }], guard := none }) (v := ?v4) rfl (by kernel_rfl) (by kernel_rfl) (by kernel_rfl) (by kernel_rfl) (by kernel_rfl) (by kernel_rfl) (fun _ _ _ h => h) (Or.inl ⟨by rfl, ?h4⟩) s0 ?r4
                  case h4 =>
                    rintro w ⟨⟨⟨a0, a1, b0, b1, -, -, -⟩, -, -⟩, d4, d5, fa, fb⟩
                    go_simp
                    all_goals (with_reducible rfl)
                  try simp only [Act.put, List.setIfInBounds_toArray, List.set_cons_zero, List.set_cons_succ]
                  refine wpAnyL_take (i := 5) (oi := { dst := some 167, op := Go.Op.load 3 (Go.Operand.tmp 166), type := 3, pos := "outright.go:68", after := #[{ on := 4, ground := Go.Ground.data }], guard := none }) (v := ?v5) rfl (by kernel_rfl) (by kernel_rfl) (by kernel_rfl) (by kernel_rfl) (by kernel_rfl) (by kernel_rfl) (fun _ _ _ h => h) (Or.inl ⟨by rfl, ?h5⟩) s0 ?r5
                  case h5 =>
                    rintro w ⟨⟨⟨a0, a1, b0, b1, -, -, -⟩, -, -⟩, d4, d5, fa, fb⟩
                    go_simp
                    all_goals (with_reducible rfl)
                  try simp only [Act.put, List.setIfInBounds_toArray, List.set_cons_zero, List.set_cons_succ]
                  refine wpAnyL_take (i := 7) (oi := { dst := some 169, op := Go.Op.load 24 (Go.Operand.tmp 5), type := 24, pos := "outright.go:68", after := #[], guard := none }) (v := ?v7) rfl (by kernel_rfl) (by kernel_rfl) (by kernel_rfl) (by kernel_rfl) (by kernel_rfl) (by kernel_rfl) (fun _ _ _ h => h) (Or.inl ⟨by rfl, ?h7⟩) s0 ?r7
                  case h7 =>
                    rintro w ⟨⟨⟨a0, a1, b0, b1, -, -, -⟩, -, -⟩, d4, d5, fa, fb⟩
                    go_simp
                    all_goals (with_reducible rfl)
                  try simp only [Act.put, List.setIfInBounds_toArray, List.set_cons_zero, List.set_cons_succ]
                  refine wpAnyL_take (i := 8) (oi := { dst := some 170, op := Go.Op.fieldAddr 48 (Go.Operand.tmp 25) 3, type := 0, pos := "outright.go:68", after := #[], guard := none }) (v := ?v8) rfl (by kernel_rfl) (by kernel_rfl) (by kernel_rfl) (by kernel_rfl) (by kernel_rfl) (by kernel_rfl) (fun _ _ _ h => h) (Or.inl ⟨by rfl, ?h8⟩) s0 ?r8
                  case h8 =>
                    rintro w ⟨⟨⟨a0, a1, b0, b1, -, -, -⟩, -, -⟩, d4, d5, fa, fb⟩
                    go_simp
                    all_goals (with_reducible rfl)
                  try simp only [Act.put, List.setIfInBounds_toArray, List.set_cons_zero, List.set_cons_succ]
                  refine wpAnyL_take (i := 9) (oi := { dst := some 171, op := Go.Op.load 43 (Go.Operand.tmp 170), type := 43, pos := "outright.go:68", after := #[{ on := 8, ground := Go.Ground.data }], guard := none }) (v := ?v9) rfl (by kernel_rfl) (by kernel_rfl) (by kernel_rfl) (by kernel_rfl) (by kernel_rfl) (by kernel_rfl) (fun _ _ _ h => h) (Or.inl ⟨by rfl, ?h9⟩) s0 ?r9
                  case h9 =>
                    rintro w ⟨⟨⟨a0, a1, b0, b1, -, -, -⟩, -, -⟩, d4, d5, fa, fb⟩
                    go_simp
                    all_goals (with_reducible rfl)
                  try simp only [Act.put, List.setIfInBounds_toArray, List.set_cons_zero, List.set_cons_succ]
                  refine wpAnyL_take (i := 10) (oi := { dst := some 172, op := Go.Op.move (Go.Operand.tmp 26), type := 3, pos := "outright.go:68", after := #[], guard := none }) (v := ?v10) rfl (by kernel_rfl) (by kernel_rfl) (by kernel_rfl) (by kernel_rfl) (by kernel_rfl) (by kernel_rfl) (fun _ _ _ h => h) (Or.inl ⟨by rfl, ?h10⟩) s0 ?r10
                  case h10 =>
                    rintro w ⟨⟨⟨a0, a1, b0, b1, -, -, -⟩, -, -⟩, d4, d5, fa, fb⟩
                    go_simp
                    all_goals (with_reducible rfl)
                  try simp only [Act.put, List.setIfInBounds_toArray, List.set_cons_zero, List.set_cons_succ]
                  refine wpAnyL_take (i := 11) (oi := { dst := some 173, op := Go.Op.indexAddr 43 (Go.Operand.tmp 171) (Go.Operand.tmp 172), type := 0, pos := "outright.go:68", after := #[{ on := 9, ground := Go.Ground.data }, { on := 10, ground := Go.Ground.data }], guard := none }) (v := ?v11) rfl (by kernel_rfl) (by kernel_rfl) (by kernel_rfl) (by kernel_rfl) (by kernel_rfl) (by kernel_rfl) (fun _ _ _ h => h) (Or.inl ⟨by rfl, ?h11⟩) s0 ?r11
                  case h11 =>
                    rintro w ⟨⟨⟨a0, a1, b0, b1, -, -, -⟩, -, -⟩, d4, d5, fa, fb⟩
                    go_simp
                    all_goals (with_reducible rfl)
                  try simp only [Act.put, List.setIfInBounds_toArray, List.set_cons_zero, List.set_cons_succ]
                  refine wpAnyL_take (i := 12) (oi := { dst := some 174, op := Go.Op.load 3 (Go.Operand.tmp 173), type := 3, pos := "outright.go:68", after := #[{ on := 11, ground := Go.Ground.data }], guard := none }) (v := ?v12) rfl (by kernel_rfl) (by kernel_rfl) (by kernel_rfl) (by kernel_rfl) (by kernel_rfl) (by kernel_rfl) (fun _ _ _ h => h) (Or.inl ⟨by rfl, ?h12⟩) s0 ?r12
                  case h12 =>
                    rintro w ⟨⟨⟨a0, a1, b0, b1, -, -, -⟩, -, -⟩, d4, d5, fa, fb⟩
                    go_simp
                    all_goals (with_reducible rfl)
                  try simp only [Act.put, List.setIfInBounds_toArray, List.set_cons_zero, List.set_cons_succ]
                  refine wpAnyL_one (i := 6) (o := { dst := some 168, op := Go.Op.call { callee := Go.Callee.value (Go.Operand.func 39), args := #[Go.Operand.tmp 162, Go.Operand.tmp 167], argTypes := #[24, 3] }, type := 24, pos := "outright.go:68", after := #[{ on := 0, ground := Go.Ground.data }, { on := 5, ground := Go.Ground.data }], guard := none }) (by kernel_rfl) rfl (fun K hK => ?_)
                  go_simp
                  go_at_call 39
                  (with_reducible refine (at_ok _ _ _ ⟨_, _, _, rfl⟩ _).mono ?_)
                  rintro e w9 ⟨rfl, k6⟩
                  have s6 := HST9.out _ _ s0 k6
                  refine hK.out _ _ (fun _ => s6) ?_
                  clear hK K
                  try simp only [Act.put, List.setIfInBounds_toArray, List.set_cons_zero, List.set_cons_succ]
                  refine wpAnyL_one (i := 13) (o := { dst := some 175, op := Go.Op.call { callee := Go.Callee.value (Go.Operand.func 39), args := #[Go.Operand.tmp 169, Go.Operand.tmp 174], argTypes := #[24, 3] }, type := 24, pos := "outright.go:68", after := #[{ on := 7, ground := Go.Ground.data }, { on := 12, ground := Go.Ground.data }, { on := 6, ground := Go.Ground.chain }], guard := none }) (by kernel_rfl) rfl (fun K hK => ?_)
                  go_simp
                  go_at_call 39
                  (with_reducible refine (at_ok _ _ _ ⟨_, _, _, rfl⟩ _).mono ?_)
                  rintro e w10 ⟨rfl, k13⟩
                  have s13 := HST9.out _ _ s6 k13
                  refine hK.out _ _ (fun _ => s13) ?_
                  clear hK K
                  try simp only [Act.put, List.setIfInBounds_toArray, List.set_cons_zero, List.set_cons_succ]
                  obtain ⟨HB10, -, -, -, -⟩ := s13
                  have HBX := Lib.hid HB10
                  have z0 := fun o => fz_of HB10.h0 o
                  have z1 := fun o => fz_of HB10.h1 o
                  obtain ⟨⟨a0, a1, b0, b1, -, -, -⟩, -, -⟩ := HB10
                  clear s0 s6
                  refine wpAnyL_one (i := 14) (o := { dst := none, op := Go.Op.store 24 (Go.Operand.tmp 4) (Go.Operand.tmp 168), type := 0, pos := "outright.go:68", after := #[{ on := 6, ground := Go.Ground.data }, { on := 13, ground := Go.Ground.chain }, { on := 0, ground := Go.Ground.phase }, { on := 1, ground := Go.Ground.phase }, { on := 2, ground := Go.Ground.phase }, { on := 3, ground := Go.Ground.phase }, { on := 4, ground := Go.Ground.phase }, { on := 5, ground := Go.Ground.phase }, { on := 6, ground := Go.Ground.phase }, { on := 7, ground := Go.Ground.textOnly Go.Departure.lateStores }, { on := 8, ground := Go.Ground.textOnly Go.Departure.lateStores }, { on := 9, ground := Go.Ground.textOnly Go.Departure.lateStores }, { on := 10, ground := Go.Ground.textOnly Go.Departure.lateStores }, { on := 11, ground := Go.Ground.textOnly Go.Departure.lateStores }, { on := 12, ground := Go.Ground.textOnly Go.Departure.lateStores }, { on := 13, ground := Go.Ground.textOnly Go.Departure.lateStoresUnsure }], guard := none }) (by kernel_rfl) rfl (fun K hK => ?_)
                  go_simp
                  refine hK.out _ _ (fun h => absurd (by decide) h) ?_
                  clear hK K
                  try simp only [Act.put, List.setIfInBounds_toArray, List.set_cons_zero, List.set_cons_succ]
                  refine wpAnyL_one (i := 15) (o := { dst := none, op := Go.Op.store 24 (Go.Operand.tmp 5) (Go.Operand.tmp 175), type := 0, pos := "outright.go:68", after := #[{ on := 13, ground := Go.Ground.data }, { on := 14, ground := Go.Ground.chain }, { on := 0, ground := Go.Ground.phase }, { on := 1, ground := Go.Ground.phase }, { on := 2, ground := Go.Ground.phase }, { on := 3, ground := Go.Ground.phase }, { on := 4, ground := Go.Ground.phase }, { on := 5, ground := Go.Ground.phase }, { on := 6, ground := Go.Ground.phase }, { on := 7, ground := Go.Ground.phase }, { on := 8, ground := Go.Ground.phase }, { on := 9, ground := Go.Ground.phase }, { on := 10, ground := Go.Ground.phase }, { on := 11, ground := Go.Ground.phase }, { on := 12, ground := Go.Ground.phase }, { on := 13, ground := Go.Ground.phase }, { on := 14, ground := Go.Ground.phase }], guard := none }) (by kernel_rfl) rfl (fun K hK => ?_)
                  go_simp
                  refine hK.out _ _ (fun h => absurd (by decide) h) ?_
                  clear hK K
                  try simp only [Act.put, List.setIfInBounds_toArray, List.set_cons_zero, List.set_cons_succ]
                  refine wpAnyL_done (by kernel_rfl) ?_ _
                  have S9 := Lib.hid (HBX.out.store (ca : Int) (cb : Int))
                  go_wp2_with fail
                  go_meet
                  exact S9.out
                case rest =>
                  obtain ⟨w4, hw4⟩ : ∃ w4 : World, w4 = wc := ⟨_, rfl⟩
                  subst hw4
                  have SB4 := Lib.hid (same_b _ _ A B ca cb w4 (HA.out.kp hcut.l3.kp) (HB.out.kp hcut.l3.kp) (valid_at HVA.out HKID.out.1) (valid_at HVB.out HKID.out.2.1))
                  obtain ⟨a0, a1, b0, b1, -, -, -⟩ := hcut.l3
                  have HS4 := Lib.hid hcut
                  clear hcut
                  go_wp2_with fail
                  refine SB4.out.mono ?_
                  rintro e w5 ⟨b, rfl, hb, k5⟩
                  obtain rfl : b = true := hb.2 HKID.out.2.2
                  have HS5 := Lib.hid (HS4.out.step k5)
                  clear hb k5 a0 a1 b0 b1
                  go_wp2_with fail
                  go_roundw
                  case rel =>
                    exact ⟨i + 1, ca, cb, by go_num, by omega, HKID.out.1, HKID.out.2.1, HKID.out.2.2, HS5.out⟩
                  case measure => simp [RowKit.intOf]; omega
          · have hil' : (i : Int) < ((Ps.length : Nat) : Int) := by omega
            have hi4' : ¬ (i : Int) < 40 := by omega
            go_wp2_with (go_at_call 19; refine (alive_kp _).mono ?_; rintro e w9 ⟨rfl, k9⟩; have S9 := Lib.hid (HST.out.step k9); clear k9)
            go_ret
            exact ⟨rfl, S9.out.l3.kp⟩
        · have hil' : ¬ (i : Int) < ((Ps.length : Nat) : Int) := by omega
          go_wp2_with (go_at_call 19; refine (alive_kp _).mono ?_; rintro e w9 ⟨rfl, k9⟩; have S9 := Lib.hid (HST.out.step k9); clear k9)
          go_ret
          exact ⟨rfl, S9.out.l3.kp⟩

theorem treeEqual_true (va vb vc pv : Value) (A B C : List Nd) (za zb zc : Int) (Ps : List UInt8) (W : World) (ha : NodesV W va A) (hb : NodesV W vb B) (hc : NodesV W vc C) (hp : U8V W pv Ps) (hpl : Ps.length ≤ 9223372036854775807)
    (hfa : ∀ n ∈ A, FitN n) (hfb : ∀ n ∈ B, FitN n) :
    Calls Tryz.prog 10 #[.agg #[va, .int .i64 za], .agg #[vb, .int .i64 zb], .agg #[vc, .int .i64 zc], pv] W fun e w' => e = .returned (.bool true) ∧ Kp W.heap.size W w' := by
  by_cases h : A.length ≤ 60 ∧ B.length ≤ 60 ∧ C.length ≤ 60 ∧ validB A za = true ∧ validB B zb = true ∧ validB C zc = true
  · obtain ⟨h1, h2, h3, h4, h5, h6⟩ := h
    obtain ⟨ra, rfl, _, _, _⟩ := valid_nodes h4
    obtain ⟨rb, rfl, _, _, _⟩ := valid_nodes h5
    obtain ⟨rc, rfl, _, _, _⟩ := valid_nodes h6
    exact treeEqual_ok va vb vc pv A B C ra rb rc Ps W ha hb hc hp hpl h1 h2 h3 h4 h5 h6 hfa hfb
  · exact treeEqual_skip va vb vc pv A B C za zb zc W ha hb hc h
end Go.Ev
