import Derived.Test.YtbjcopckkgdmgaaGreatDoorE1
import Derived.Test.YtbjcopckkgdmgaaGreatDoorE1
/- TreeEqual, where nothing is asked. -/
namespace Go.Ev
open Go.Proofs Go.RowKit Go.Lib
set_option maxRecDepth 100000

set_option maxHeartbeats 2000000 in
theorem treeEqual_skip (va vb vc pv : Value) (A B C : List Nd) (za zb zc : Int) (W : World) (ha : NodesV W va A) (hb : NodesV W vb B) (hc : NodesV W vc C)
    (hno : ¬ (A.length ≤ 60 ∧ B.length ≤ 60 ∧ C.length ≤ 60 ∧ validB A za = true ∧ validB B zb = true ∧ validB C zc = true)) :
    Calls Tryz.prog 10 #[.agg #[va, .int .i64 za], .agg #[vb, .int .i64 zb], .agg #[vc, .int .i64 zc], pv] W fun e w' => e = .returned (.bool true) ∧ Kp W.heap.size W w' := by
  have GA := fun w (h : L3 W va vb vc za zb zc w) => with_step h (great_ok va A za w (ha.kp h.kp))
  have GB := fun w (h : L3 W va vb vc za zb zc w) => with_step h (great_ok vb B zb w (hb.kp h.kp))
  have GC := fun w (h : L3 W va vb vc za zb zc w) => with_step h (great_ok vc C zc w (hc.kp h.kp))
  have XA := fun w (h : L3 W va vb vc za zb zc w) => with_step h (rvalid_ok va A za w (ha.kp h.kp))
  have XB := fun w (h : L3 W va vb vc za zb zc w) => with_step h (rvalid_ok vb B zb w (hb.kp h.kp))
  have XC := fun w (h : L3 W va vb vc za zb zc w) => with_step h (rvalid_ok vc C zc w (hc.kp h.kp))
  have AL := fun w (h : L3 W va vb vc za zb zc w) => with_step h (alive_kp w)
  clear ha hb hc
  obtain ⟨ga, hga⟩ : ∃ g, decide (60 < (A.length : Int)) = g := ⟨_, rfl⟩
  obtain ⟨gb, hgb⟩ : ∃ g, decide (60 < (B.length : Int)) = g := ⟨_, rfl⟩
  obtain ⟨gc, hgc⟩ : ∃ g, decide (60 < (C.length : Int)) = g := ⟨_, rfl⟩
  obtain ⟨xa, hxa⟩ : ∃ x, validB A za = x := ⟨_, rfl⟩
  obtain ⟨xb, hxb⟩ : ∃ x, validB B zb = x := ⟨_, rfl⟩
  obtain ⟨xc, hxc⟩ : ∃ x, validB C zc = x := ⟨_, rfl⟩
  have hno' : ¬ (ga = false ∧ gb = false ∧ gc = false ∧ xa = true ∧ xb = true ∧ xc = true) := by
    rintro ⟨h1, h2, h3, h4, h5, h6⟩
    rw [h1, decide_eq_false_iff_not] at hga
    rw [h2, decide_eq_false_iff_not] at hgb
    rw [h3, decide_eq_false_iff_not] at hgc
    exact hno ⟨by omega, by omega, by omega, hxa.trans h4, hxb.trans h5, hxc.trans h6⟩
  rw [hga] at GA
  rw [hgb] at GB
  rw [hgc] at GC
  rw [hxa] at XA
  rw [hxb] at XB
  rw [hxc] at XC
  clear hno hga hgb hgc hxa hxb hxc
  have hall : ga = true ∨ (ga = false ∧ gb = true) ∨ (ga = false ∧ gb = false ∧ gc = true) ∨ (ga = false ∧ gb = false ∧ gc = false ∧ xa = false) ∨ (ga = false ∧ gb = false ∧ gc = false ∧ xa = true ∧ xb = false) ∨
      (ga = false ∧ gb = false ∧ gc = false ∧ xa = true ∧ xb = true ∧ xc = false) := by
    revert hno'
    cases ga <;> cases gb <;> cases gc <;> cases xa <;> cases xb <;> cases xc <;> simp
  clear hno'
  rcases hall with rfl | ⟨rfl, rfl⟩ | ⟨rfl, rfl, rfl⟩ | ⟨rfl, rfl, rfl, rfl⟩ | ⟨rfl, rfl, rfl, rfl, rfl⟩ | ⟨rfl, rfl, rfl, rfl, rfl, rfl⟩
  · go_enter Tryz.func10, Tryz.ntmps10
    go_wp2_with fail
    obtain ⟨w0, hw0⟩ : ∃ w0, w0 = (((W.alloc (Obj.cells #[va, .int .i64 za] 24)).alloc (Obj.cells #[vb, .int .i64 zb] 24)).alloc (Obj.cells #[vc, .int .i64 zc] 24)) := ⟨_, rfl⟩
    have S0 : L3 W va vb vc za zb zc w0 := by rw [hw0]; exact ⟨by go_simp, by go_simp, by go_simp, by go_simp, by go_simp, by go_simp, (((Kp.refl _ _).alloc (Nat.le_refl _) _).alloc (by simp) _).alloc (by simp; omega) _⟩
    rw [← hw0]
    clear hw0
    refine (GA _ S0).mono ?_
    rintro e w1 ⟨rfl, S1⟩
    obtain ⟨a0, a1, b0, b1, c0, c1, -⟩ := id S1
    go_wp2_with fail
    refine (AL _ S1).mono ?_
    rintro e w2 ⟨rfl, S2⟩
    go_wp2
    go_ret
    exact ⟨rfl, S2.kp⟩
  · go_enter Tryz.func10, Tryz.ntmps10
    go_wp2_with fail
    obtain ⟨w0, hw0⟩ : ∃ w0, w0 = (((W.alloc (Obj.cells #[va, .int .i64 za] 24)).alloc (Obj.cells #[vb, .int .i64 zb] 24)).alloc (Obj.cells #[vc, .int .i64 zc] 24)) := ⟨_, rfl⟩
    have S0 : L3 W va vb vc za zb zc w0 := by rw [hw0]; exact ⟨by go_simp, by go_simp, by go_simp, by go_simp, by go_simp, by go_simp, (((Kp.refl _ _).alloc (Nat.le_refl _) _).alloc (by simp) _).alloc (by simp; omega) _⟩
    rw [← hw0]
    clear hw0
    refine (GA _ S0).mono ?_
    rintro e w1 ⟨rfl, S1⟩
    obtain ⟨a0, a1, b0, b1, c0, c1, -⟩ := id S1
    go_wp2_with fail
    refine (GB _ S1).mono ?_
    rintro e w2 ⟨rfl, S2⟩
    obtain ⟨a0, a1, b0, b1, c0, c1, -⟩ := id S2
    go_wp2_with fail
    refine (AL _ S2).mono ?_
    rintro e w3 ⟨rfl, S3⟩
    go_wp2
    go_ret
    exact ⟨rfl, S3.kp⟩
  · go_enter Tryz.func10, Tryz.ntmps10
    go_wp2_with fail
    obtain ⟨w0, hw0⟩ : ∃ w0, w0 = (((W.alloc (Obj.cells #[va, .int .i64 za] 24)).alloc (Obj.cells #[vb, .int .i64 zb] 24)).alloc (Obj.cells #[vc, .int .i64 zc] 24)) := ⟨_, rfl⟩
    have S0 : L3 W va vb vc za zb zc w0 := by rw [hw0]; exact ⟨by go_simp, by go_simp, by go_simp, by go_simp, by go_simp, by go_simp, (((Kp.refl _ _).alloc (Nat.le_refl _) _).alloc (by simp) _).alloc (by simp; omega) _⟩
    rw [← hw0]
    clear hw0
    refine (GA _ S0).mono ?_
    rintro e w1 ⟨rfl, S1⟩
    obtain ⟨a0, a1, b0, b1, c0, c1, -⟩ := id S1
    go_wp2_with fail
    refine (GB _ S1).mono ?_
    rintro e w2 ⟨rfl, S2⟩
    obtain ⟨a0, a1, b0, b1, c0, c1, -⟩ := id S2
    go_wp2_with fail
    refine (GC _ S2).mono ?_
    rintro e w3 ⟨rfl, S3⟩
    obtain ⟨a0, a1, b0, b1, c0, c1, -⟩ := id S3
    go_wp2_with fail
    refine (AL _ S3).mono ?_
    rintro e w4 ⟨rfl, S4⟩
    go_wp2
    go_ret
    exact ⟨rfl, S4.kp⟩
  · go_enter Tryz.func10, Tryz.ntmps10
    go_wp2_with fail
    obtain ⟨w0, hw0⟩ : ∃ w0, w0 = (((W.alloc (Obj.cells #[va, .int .i64 za] 24)).alloc (Obj.cells #[vb, .int .i64 zb] 24)).alloc (Obj.cells #[vc, .int .i64 zc] 24)) := ⟨_, rfl⟩
    have S0 : L3 W va vb vc za zb zc w0 := by rw [hw0]; exact ⟨by go_simp, by go_simp, by go_simp, by go_simp, by go_simp, by go_simp, (((Kp.refl _ _).alloc (Nat.le_refl _) _).alloc (by simp) _).alloc (by simp; omega) _⟩
    rw [← hw0]
    clear hw0
    refine (GA _ S0).mono ?_
    rintro e w1 ⟨rfl, S1⟩
    obtain ⟨a0, a1, b0, b1, c0, c1, -⟩ := id S1
    go_wp2_with fail
    refine (GB _ S1).mono ?_
    rintro e w2 ⟨rfl, S2⟩
    obtain ⟨a0, a1, b0, b1, c0, c1, -⟩ := id S2
    go_wp2_with fail
    refine (GC _ S2).mono ?_
    rintro e w3 ⟨rfl, S3⟩
    obtain ⟨a0, a1, b0, b1, c0, c1, -⟩ := id S3
    go_wp2_with fail
    refine (XA _ S3).mono ?_
    rintro e w4 ⟨rfl, S4⟩
    obtain ⟨a0, a1, b0, b1, c0, c1, -⟩ := id S4
    go_wp2_with fail
    refine (AL _ S4).mono ?_
    rintro e w5 ⟨rfl, S5⟩
    go_wp2
    go_ret
    exact ⟨rfl, S5.kp⟩
  · go_enter Tryz.func10, Tryz.ntmps10
    go_wp2_with fail
    obtain ⟨w0, hw0⟩ : ∃ w0, w0 = (((W.alloc (Obj.cells #[va, .int .i64 za] 24)).alloc (Obj.cells #[vb, .int .i64 zb] 24)).alloc (Obj.cells #[vc, .int .i64 zc] 24)) := ⟨_, rfl⟩
    have S0 : L3 W va vb vc za zb zc w0 := by rw [hw0]; exact ⟨by go_simp, by go_simp, by go_simp, by go_simp, by go_simp, by go_simp, (((Kp.refl _ _).alloc (Nat.le_refl _) _).alloc (by simp) _).alloc (by simp; omega) _⟩
    rw [← hw0]
    clear hw0
    refine (GA _ S0).mono ?_
    rintro e w1 ⟨rfl, S1⟩
    obtain ⟨a0, a1, b0, b1, c0, c1, -⟩ := id S1
    go_wp2_with fail
    refine (GB _ S1).mono ?_
    rintro e w2 ⟨rfl, S2⟩
    obtain ⟨a0, a1, b0, b1, c0, c1, -⟩ := id S2
    go_wp2_with fail
    refine (GC _ S2).mono ?_
    rintro e w3 ⟨rfl, S3⟩
    obtain ⟨a0, a1, b0, b1, c0, c1, -⟩ := id S3
    go_wp2_with fail
    refine (XA _ S3).mono ?_
    rintro e w4 ⟨rfl, S4⟩
    obtain ⟨a0, a1, b0, b1, c0, c1, -⟩ := id S4
    go_wp2_with fail
    refine (XB _ S4).mono ?_
    rintro e w5 ⟨rfl, S5⟩
    obtain ⟨a0, a1, b0, b1, c0, c1, -⟩ := id S5
    go_wp2_with fail
    refine (AL _ S5).mono ?_
    rintro e w6 ⟨rfl, S6⟩
    go_wp2
    go_ret
    exact ⟨rfl, S6.kp⟩
  · go_enter Tryz.func10, Tryz.ntmps10
    go_wp2_with fail
    obtain ⟨w0, hw0⟩ : ∃ w0, w0 = (((W.alloc (Obj.cells #[va, .int .i64 za] 24)).alloc (Obj.cells #[vb, .int .i64 zb] 24)).alloc (Obj.cells #[vc, .int .i64 zc] 24)) := ⟨_, rfl⟩
    have S0 : L3 W va vb vc za zb zc w0 := by rw [hw0]; exact ⟨by go_simp, by go_simp, by go_simp, by go_simp, by go_simp, by go_simp, (((Kp.refl _ _).alloc (Nat.le_refl _) _).alloc (by simp) _).alloc (by simp; omega) _⟩
    rw [← hw0]
    clear hw0
    refine (GA _ S0).mono ?_
    rintro e w1 ⟨rfl, S1⟩
    obtain ⟨a0, a1, b0, b1, c0, c1, -⟩ := id S1
    go_wp2_with fail
    refine (GB _ S1).mono ?_
    rintro e w2 ⟨rfl, S2⟩
    obtain ⟨a0, a1, b0, b1, c0, c1, -⟩ := id S2
    go_wp2_with fail
    refine (GC _ S2).mono ?_
    rintro e w3 ⟨rfl, S3⟩
    obtain ⟨a0, a1, b0, b1, c0, c1, -⟩ := id S3
    go_wp2_with fail
    refine (XA _ S3).mono ?_
    rintro e w4 ⟨rfl, S4⟩
    obtain ⟨a0, a1, b0, b1, c0, c1, -⟩ := id S4
    go_wp2_with fail
    refine (XB _ S4).mono ?_
    rintro e w5 ⟨rfl, S5⟩
    obtain ⟨a0, a1, b0, b1, c0, c1, -⟩ := id S5
    go_wp2_with fail
    refine (XC _ S5).mono ?_
    rintro e w6 ⟨rfl, S6⟩
    obtain ⟨a0, a1, b0, b1, c0, c1, -⟩ := id S6
    go_wp2_with fail
    refine (AL _ S6).mono ?_
    rintro e w7 ⟨rfl, S7⟩
    go_wp2
    go_ret
    exact ⟨rfl, S7.kp⟩
end Go.Ev
