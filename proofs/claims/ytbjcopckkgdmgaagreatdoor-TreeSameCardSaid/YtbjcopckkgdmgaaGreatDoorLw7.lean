import Derived.Test.YtbjcopckkgdmgaaGreatDoorLw4
import Derived.Test.YtbjcopckkgdmgaaGreatDoorLw6
import Derived.Test.YtbjcopckkgdmgaaGreatDoorLa1
/- TreeSame: the law. -/
namespace Go.Ev
open Go.Proofs Go.RowKit Go.Lib
set_option maxRecDepth 100000

/-- What a law on two trees has in its memory. -/
structure L2 (W : World) (va vb : Value) (za zb : Int) (w : World) : Prop where
  a0 : w.cell? ⟨W.heap.size, 0, none⟩ = some va
  a1 : w.cell? ⟨W.heap.size, 1, none⟩ = some (.int .i64 za)
  b0 : w.cell? ⟨W.heap.size + 1, 0, none⟩ = some vb
  b1 : w.cell? ⟨W.heap.size + 1, 1, none⟩ = some (.int .i64 zb)
  kp : Kp W.heap.size W w
theorem L2.step {W : World} {va vb : Value} {za zb : Int} {w w' : World} (h : L2 W va vb za zb w) (k : Kp w.heap.size w w') : L2 W va vb za zb w' :=
  ⟨k.cells h.a0, k.cells h.a1, k.cells h.b0, k.cells h.b1, h.kp.trans (k.mono h.kp.size)⟩

theorem cmp_zero {A B : List Nd} {x y : Nat} {c : Int} (h : Cmp fcmp A x B y c) : c = 0 ↔ Bis A x B y := by
  constructor
  · intro hc
    rcases h with ⟨_, h⟩ | ⟨t, f, g, h1, h2, h3, h4⟩
    · exact h
    · exact absurd (h4.symm.trans hc) (Cmp.ne fcmp_order h1 h2 h3)
  · intro hb
    rcases h with ⟨h, _⟩ | ⟨t, f, g, ⟨_, h1⟩, _⟩
    · exact h
    · exact absurd (hb t) h1

set_option maxHeartbeats 4000000 in
theorem treeSame_true (va vb : Value) (A B : List Nd) (za zb : Int) (W : World) (ha : NodesV W va A) (hb : NodesV W vb B) :
    Calls Tryz.prog 5 #[.agg #[va, .int .i64 za], .agg #[vb, .int .i64 zb]] W fun e w' => e = .returned (.bool true) ∧ Kp W.heap.size W w' := by
  have GA := fun w (h : L2 W va vb za zb w) => great_ok va A za w (ha.kp h.kp)
  have GB := fun w (h : L2 W va vb za zb w) => great_ok vb B zb w (hb.kp h.kp)
  have s0 : L2 W va vb za zb ((W.alloc (Obj.cells #[va, Value.int IntKind.i64 za] 24)).alloc (Obj.cells #[vb, Value.int IntKind.i64 zb] 24)) := ⟨by go_simp, by go_simp, by go_simp, by go_simp, two_kp _ _ _⟩
  obtain ⟨W2, hW2⟩ : ∃ W2, W2 = (W.alloc (Obj.cells #[va, Value.int IntKind.i64 za] 24)).alloc (Obj.cells #[vb, Value.int IntKind.i64 zb] 24) := ⟨_, rfl⟩
  rw [← hW2] at s0
  cases hv : (validB A za && validB B zb) with
  | false =>
    have SB := fun w (h : L2 W va vb za zb w) => same_bad va vb A B za zb w (ha.kp h.kp) (hb.kp h.kp) hv
    have RB := fun w (h : L2 W va vb za zb w) => rsame_bad va vb A B za zb w (ha.kp h.kp) (hb.kp h.kp) hv
    have CB := fun w (h : L2 W va vb za zb w) => compare_bad va vb A B za zb w (ha.kp h.kp) (hb.kp h.kp) hv
    have DB := fun w (h : L2 W va vb za zb w) => rcompare_bad va vb A B za zb w (ha.kp h.kp) (hb.kp h.kp) hv
    clear ha hb hv
    generalize decide (60 < (A.length : Int)) = ga at GA
    generalize decide (60 < (B.length : Int)) = gb at GB
    go_enter Tryz.func5, Tryz.ntmps5
    go_wp2_with fail
    rw [← hW2]
    clear hW2
    refine (GA _ s0).mono ?_
    rintro e w1 ⟨rfl, k1⟩
    have S1 := Lib.hid (s0.step k1)
    obtain ⟨a0, a1, b0, b1, -⟩ := s0.step k1
    clear s0 k1 GA
    cases ga
    · go_wp2_with fail
      refine (GB _ S1.out).mono ?_
      rintro e w2 ⟨rfl, k2⟩
      have S2 := Lib.hid (S1.out.step k2)
      obtain ⟨a0, a1, b0, b1, -⟩ := S1.out.step k2
      clear k2 GB
      cases gb
      · go_wp2_with fail
        refine (SB _ S2.out).mono ?_
        rintro e w3 ⟨rfl, k3⟩
        have S3 := Lib.hid (S2.out.step k3)
        obtain ⟨a0, a1, b0, b1, -⟩ := S2.out.step k3
        clear k3 SB
        go_wp2_with fail
        refine (RB _ S3.out).mono ?_
        rintro e w4 ⟨rfl, k4⟩
        have S4 := Lib.hid (S3.out.step k4)
        obtain ⟨a0, a1, b0, b1, -⟩ := S3.out.step k4
        clear k4 RB
        go_wp2_with fail
        refine (CB _ S4.out).mono ?_
        rintro e w5 ⟨rfl, k5⟩
        have S5 := Lib.hid (S4.out.step k5)
        obtain ⟨a0, a1, b0, b1, -⟩ := S4.out.step k5
        clear k5 CB
        go_wp2_with fail
        refine (DB _ S5.out).mono ?_
        rintro e w6 ⟨rfl, k6⟩
        have S6 := Lib.hid (S5.out.step k6)
        clear k6 DB
        go_wp2_with (go_at_call 19; refine (alive_kp _).mono ?_; rintro e w7 ⟨rfl, k7⟩; have S7 := Lib.hid (S6.out.step k7); clear k7)
        go_ret
        exact ⟨rfl, S7.out.kp⟩
      · go_wp2_with (go_at_call 19; refine (alive_kp _).mono ?_; rintro e w7 ⟨rfl, k7⟩; have S7 := Lib.hid (S2.out.step k7); clear k7)
        go_ret
        exact ⟨rfl, S7.out.kp⟩
    · go_wp2_with (go_at_call 19; refine (alive_kp _).mono ?_; rintro e w7 ⟨rfl, k7⟩; have S7 := Lib.hid (S1.out.step k7); clear k7)
      go_ret
      exact ⟨rfl, S7.out.kp⟩
  | true =>
    simp only [Bool.and_eq_true] at hv
    have SB := fun w (h : L2 W va vb za zb w) => same_ok va vb A B za zb w (ha.kp h.kp) (hb.kp h.kp) hv.1 hv.2
    have RB := fun w (h : L2 W va vb za zb w) => rsame_good va vb A B za zb w (ha.kp h.kp) (hb.kp h.kp) hv.1 hv.2
    have CB := fun w (h : L2 W va vb za zb w) => compare_ok va vb A B za zb w (ha.kp h.kp) (hb.kp h.kp) hv.1 hv.2
    have DB := fun w (h : L2 W va vb za zb w) => rcompare_good va vb A B za zb w (ha.kp h.kp) (hb.kp h.kp) hv.1 hv.2
    clear ha hb hv
    generalize decide (60 < (A.length : Int)) = ga at GA
    generalize decide (60 < (B.length : Int)) = gb at GB
    go_enter Tryz.func5, Tryz.ntmps5
    go_wp2_with fail
    rw [← hW2]
    clear hW2
    refine (GA _ s0).mono ?_
    rintro e w1 ⟨rfl, k1⟩
    have S1 := Lib.hid (s0.step k1)
    obtain ⟨a0, a1, b0, b1, -⟩ := s0.step k1
    clear s0 k1 GA
    cases ga
    · go_wp2_with fail
      refine (GB _ S1.out).mono ?_
      rintro e w2 ⟨rfl, k2⟩
      have S2 := Lib.hid (S1.out.step k2)
      obtain ⟨a0, a1, b0, b1, -⟩ := S1.out.step k2
      clear k2 GB
      cases gb
      · go_wp2_with fail
        refine (SB _ S2.out).mono ?_
        rintro e w3 ⟨c, rfl, hc, k3⟩
        have S3 := Lib.hid (S2.out.step k3)
        obtain ⟨a0, a1, b0, b1, -⟩ := S2.out.step k3
        have HC := Lib.hid hc
        clear k3 SB hc
        go_wp2_with fail
        refine (RB _ S3.out).mono ?_
        rintro e w4 ⟨r, rfl, hr, k4⟩
        have S4 := Lib.hid (S3.out.step k4)
        obtain ⟨a0, a1, b0, b1, -⟩ := S3.out.step k4
        obtain rfl : r = (c == 0) := by
          rw [Bool.eq_iff_iff, hr, ← cmp_zero HC.out]
          simp
        clear k4 RB hr
        generalize (c == 0) = r at *
        go_wp2_with fail
        refine (CB _ S4.out).mono ?_
        rintro e w5 ⟨d, rfl, hd, k5⟩
        have S5 := Lib.hid (S4.out.step k5)
        obtain ⟨a0, a1, b0, b1, -⟩ := S4.out.step k5
        have HD := Lib.hid hd
        clear k5 CB hd
        go_wp2_with fail
        refine (DB _ S5.out).mono ?_
        rintro e w6 ⟨d', rfl, hd', k6⟩
        obtain rfl : d' = d := Cmp.unique fcmp_order hd' HD.out
        have S6 := Lib.hid (S5.out.step k6)
        clear k6 DB hd'
        have e1 : (r == r) = true := by simp
        have e2 : (d' == d') = true := by simp
        go_wp2_with (go_at_call 19; refine (alive_kp _).mono ?_; rintro e w7 ⟨rfl, k7⟩; have S7 := Lib.hid (S6.out.step k7); clear k7)
        go_ret
        exact ⟨rfl, S7.out.kp⟩
      · go_wp2_with (go_at_call 19; refine (alive_kp _).mono ?_; rintro e w7 ⟨rfl, k7⟩; have S7 := Lib.hid (S2.out.step k7); clear k7)
        go_ret
        exact ⟨rfl, S7.out.kp⟩
    · go_wp2_with (go_at_call 19; refine (alive_kp _).mono ?_; rintro e w7 ⟨rfl, k7⟩; have S7 := Lib.hid (S1.out.step k7); clear k7)
      go_ret
      exact ⟨rfl, S7.out.kp⟩
end Go.Ev
