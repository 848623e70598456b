import Derived.Test.YtbjcopckkgdmgaaGreatDoorOd2
import Derived.Test.YtbjcopckkgdmgaaGreatDoorLa1
/- TreeOrder. -/
namespace Go.Ev
open Go.Proofs Go.RowKit Go.Lib
set_option maxRecDepth 100000

/-- What a law on three trees has in its memory. -/
structure L3 (W : World) (va vb vc : Value) (za zb zc : Int) (w : World) : Prop where
  a0 : w.cell? ⟨W.heap.size, 0, none⟩ = some va
  a1 : w.cell? ⟨W.heap.size, 1, none⟩ = some (.int .i64 za)
  b0 : w.cell? ⟨W.heap.size + 1, 0, none⟩ = some vb
  b1 : w.cell? ⟨W.heap.size + 1, 1, none⟩ = some (.int .i64 zb)
  c0 : w.cell? ⟨W.heap.size + 1 + 1, 0, none⟩ = some vc
  c1 : w.cell? ⟨W.heap.size + 1 + 1, 1, none⟩ = some (.int .i64 zc)
  kp : Kp W.heap.size W w

theorem L3.step {W : World} {va vb vc : Value} {za zb zc : Int} {w w' : World} (h : L3 W va vb vc za zb zc w) (k : Kp w.heap.size w w') : L3 W va vb vc za zb zc w' :=
  ⟨k.cells h.a0, k.cells h.a1, k.cells h.b0, k.cells h.b1, k.cells h.c0, k.cells h.c1, h.kp.trans (k.mono h.kp.size)⟩

theorem with_step {n : FuncId} {args : Array Value} {W w : World} {va vb vc : Value} {za zb zc : Int} {x : Value} (h : L3 W va vb vc za zb zc w)
    (c : Calls Tryz.prog n args w fun e w' => e = .returned x ∧ Kp w.heap.size w w') : Calls Tryz.prog n args w fun e w' => e = .returned x ∧ L3 W va vb vc za zb zc w' :=
  c.mono fun _ _ ⟨h1, h2⟩ => ⟨h1, h.step h2⟩

def CompL (A B : List Nd) (ra rb : Nat) (S : World → Prop) (e : Ending) (w' : World) : Prop := ∃ c : Int, e = .returned (.tuple #[.int .i64 c, .int .i64 0]) ∧ Cmp fcmp A ra B rb c ∧ S w'
def SameL (A B : List Nd) (ra rb : Nat) (S : World → Prop) (e : Ending) (w' : World) : Prop := ∃ c : Int, e = .returned (.tuple #[.bool (c == 0), .int .i64 0]) ∧ Cmp fcmp A ra B rb c ∧ S w'

set_option maxHeartbeats 2000000 in
theorem treeOrder_true (va vb vc : Value) (A B C : List Nd) (za zb zc : Int) (W : World) (ha : NodesV W va A) (hb : NodesV W vb B) (hc : NodesV W vc C) :
    Calls Tryz.prog 14 #[.agg #[va, .int .i64 za], .agg #[vb, .int .i64 zb], .agg #[vc, .int .i64 zc]] W fun e w' => e = .returned (.bool true) ∧ Kp W.heap.size W w' := by
  have GA := fun w (h : L3 W va vb vc za zb zc w) => with_step h (great_ok va A za w (ha.kp h.kp))
  have GB := fun w (h : L3 W va vb vc za zb zc w) => with_step h (great_ok vb B zb w (hb.kp h.kp))
  have GC := fun w (h : L3 W va vb vc za zb zc w) => with_step h (great_ok vc C zc w (hc.kp h.kp))
  have XA := fun w (h : L3 W va vb vc za zb zc w) => with_step h (rvalid_ok va A za w (ha.kp h.kp))
  have XB := fun w (h : L3 W va vb vc za zb zc w) => with_step h (rvalid_ok vb B zb w (hb.kp h.kp))
  have XC := fun w (h : L3 W va vb vc za zb zc w) => with_step h (rvalid_ok vc C zc w (hc.kp h.kp))
  have AL := fun w (h : L3 W va vb vc za zb zc w) => with_step h (alive_kp w)
  have CAB := fun (h1 : validB A za = true) (h2 : validB B zb = true) w (h : L3 W va vb vc za zb zc w) => (compare_ok va vb A B za zb w (ha.kp h.kp) (hb.kp h.kp) h1 h2).mono fun e w' (hp : CompPost A B za.toNat zb.toNat w e w') => (show CompL A B za.toNat zb.toNat (L3 W va vb vc za zb zc) e w' by obtain ⟨c, p1, p2, p3⟩ := hp; exact ⟨c, p1, p2, h.step p3⟩)
  have CBA := fun (h1 : validB B zb = true) (h2 : validB A za = true) w (h : L3 W va vb vc za zb zc w) => (compare_ok vb va B A zb za w (hb.kp h.kp) (ha.kp h.kp) h1 h2).mono fun e w' (hp : CompPost B A zb.toNat za.toNat w e w') => (show CompL B A zb.toNat za.toNat (L3 W va vb vc za zb zc) e w' by obtain ⟨c, p1, p2, p3⟩ := hp; exact ⟨c, p1, p2, h.step p3⟩)
  have CBC := fun (h1 : validB B zb = true) (h2 : validB C zc = true) w (h : L3 W va vb vc za zb zc w) => (compare_ok vb vc B C zb zc w (hb.kp h.kp) (hc.kp h.kp) h1 h2).mono fun e w' (hp : CompPost B C zb.toNat zc.toNat w e w') => (show CompL B C zb.toNat zc.toNat (L3 W va vb vc za zb zc) e w' by obtain ⟨c, p1, p2, p3⟩ := hp; exact ⟨c, p1, p2, h.step p3⟩)
  have CAC := fun (h1 : validB A za = true) (h2 : validB C zc = true) w (h : L3 W va vb vc za zb zc w) => (compare_ok va vc A C za zc w (ha.kp h.kp) (hc.kp h.kp) h1 h2).mono fun e w' (hp : CompPost A C za.toNat zc.toNat w e w') => (show CompL A C za.toNat zc.toNat (L3 W va vb vc za zb zc) e w' by obtain ⟨c, p1, p2, p3⟩ := hp; exact ⟨c, p1, p2, h.step p3⟩)
  have SAB := fun (h1 : validB A za = true) (h2 : validB B zb = true) w (h : L3 W va vb vc za zb zc w) => (same_ok va vb A B za zb w (ha.kp h.kp) (hb.kp h.kp) h1 h2).mono fun e w' (hp : SamePost A B za.toNat zb.toNat w e w') => (show SameL A B za.toNat zb.toNat (L3 W va vb vc za zb zc) e w' by obtain ⟨c, p1, p2, p3⟩ := hp; exact ⟨c, p1, p2, h.step p3⟩)
  clear ha hb hc
  generalize decide (60 < (A.length : Int)) = ga at GA
  generalize decide (60 < (B.length : Int)) = gb at GB
  generalize decide (60 < (C.length : Int)) = gc at GC
  obtain ⟨xa, hxa⟩ : ∃ x, validB A za = x := ⟨_, rfl⟩
  rw [hxa] at XA
  have HXA := Lib.hid hxa
  clear hxa
  obtain ⟨xb, hxb⟩ : ∃ x, validB B zb = x := ⟨_, rfl⟩
  rw [hxb] at XB
  have HXB := Lib.hid hxb
  clear hxb
  obtain ⟨xc, hxc⟩ : ∃ x, validB C zc = x := ⟨_, rfl⟩
  rw [hxc] at XC
  have HXC := Lib.hid hxc
  clear hxc
  have hall : ga = true ∨ (ga = false ∧ gb = true) ∨ (ga = false ∧ gb = false ∧ gc = true) ∨ (ga = false ∧ gb = false ∧ gc = false ∧ xa = false) ∨ (ga = false ∧ gb = false ∧ gc = false ∧ xa = true ∧ xb = false) ∨
      (ga = false ∧ gb = false ∧ gc = false ∧ xa = true ∧ xb = true ∧ xc = false) ∨ (ga = false ∧ gb = false ∧ gc = false ∧ xa = true ∧ xb = true ∧ xc = true) := by
    cases ga <;> cases gb <;> cases gc <;> cases xa <;> cases xb <;> cases xc <;> simp
  rcases hall with rfl | ⟨rfl, rfl⟩ | ⟨rfl, rfl, rfl⟩ | ⟨rfl, rfl, rfl, rfl⟩ | ⟨rfl, rfl, rfl, rfl, rfl⟩ | ⟨rfl, rfl, rfl, rfl, rfl, rfl⟩ | ⟨rfl, rfl, rfl, rfl, rfl, rfl⟩
  · go_enter Tryz.func14, Tryz.ntmps14
    go_wp2_with fail
    obtain ⟨w0, hw0⟩ : ∃ w0, w0 = (((W.alloc (Obj.cells #[va, .int .i64 za] 24)).alloc (Obj.cells #[vb, .int .i64 zb] 24)).alloc (Obj.cells #[vc, .int .i64 zc] 24)) := ⟨_, rfl⟩
    have S0 : L3 W va vb vc za zb zc w0 := by rw [hw0]; exact ⟨by go_simp, by go_simp, by go_simp, by go_simp, by go_simp, by go_simp, (((Kp.refl _ _).alloc (Nat.le_refl _) _).alloc (by simp) _).alloc (by simp; omega) _⟩
    rw [← hw0]
    clear hw0
    refine (GA _ S0).mono ?_
    rintro e w1 ⟨rfl, S1⟩
    obtain ⟨a0, a1, b0, b1, c0, c1, -⟩ := id S1
    go_wp2_with fail
    refine (AL _ S1).mono ?_
    rintro e w2 ⟨rfl, S2⟩
    go_wp2
    go_ret
    exact ⟨rfl, S2.kp⟩
  · go_enter Tryz.func14, Tryz.ntmps14
    go_wp2_with fail
    obtain ⟨w0, hw0⟩ : ∃ w0, w0 = (((W.alloc (Obj.cells #[va, .int .i64 za] 24)).alloc (Obj.cells #[vb, .int .i64 zb] 24)).alloc (Obj.cells #[vc, .int .i64 zc] 24)) := ⟨_, rfl⟩
    have S0 : L3 W va vb vc za zb zc w0 := by rw [hw0]; exact ⟨by go_simp, by go_simp, by go_simp, by go_simp, by go_simp, by go_simp, (((Kp.refl _ _).alloc (Nat.le_refl _) _).alloc (by simp) _).alloc (by simp; omega) _⟩
    rw [← hw0]
    clear hw0
    refine (GA _ S0).mono ?_
    rintro e w1 ⟨rfl, S1⟩
    obtain ⟨a0, a1, b0, b1, c0, c1, -⟩ := id S1
    go_wp2_with fail
    refine (GB _ S1).mono ?_
    rintro e w2 ⟨rfl, S2⟩
    obtain ⟨a0, a1, b0, b1, c0, c1, -⟩ := id S2
    go_wp2_with fail
    refine (AL _ S2).mono ?_
    rintro e w3 ⟨rfl, S3⟩
    go_wp2
    go_ret
    exact ⟨rfl, S3.kp⟩
  · go_enter Tryz.func14, Tryz.ntmps14
    go_wp2_with fail
    obtain ⟨w0, hw0⟩ : ∃ w0, w0 = (((W.alloc (Obj.cells #[va, .int .i64 za] 24)).alloc (Obj.cells #[vb, .int .i64 zb] 24)).alloc (Obj.cells #[vc, .int .i64 zc] 24)) := ⟨_, rfl⟩
    have S0 : L3 W va vb vc za zb zc w0 := by rw [hw0]; exact ⟨by go_simp, by go_simp, by go_simp, by go_simp, by go_simp, by go_simp, (((Kp.refl _ _).alloc (Nat.le_refl _) _).alloc (by simp) _).alloc (by simp; omega) _⟩
    rw [← hw0]
    clear hw0
    refine (GA _ S0).mono ?_
    rintro e w1 ⟨rfl, S1⟩
    obtain ⟨a0, a1, b0, b1, c0, c1, -⟩ := id S1
    go_wp2_with fail
    refine (GB _ S1).mono ?_
    rintro e w2 ⟨rfl, S2⟩
    obtain ⟨a0, a1, b0, b1, c0, c1, -⟩ := id S2
    go_wp2_with fail
    refine (GC _ S2).mono ?_
    rintro e w3 ⟨rfl, S3⟩
    obtain ⟨a0, a1, b0, b1, c0, c1, -⟩ := id S3
    go_wp2_with fail
    refine (AL _ S3).mono ?_
    rintro e w4 ⟨rfl, S4⟩
    go_wp2
    go_ret
    exact ⟨rfl, S4.kp⟩
  · go_enter Tryz.func14, Tryz.ntmps14
    go_wp2_with fail
    obtain ⟨w0, hw0⟩ : ∃ w0, w0 = (((W.alloc (Obj.cells #[va, .int .i64 za] 24)).alloc (Obj.cells #[vb, .int .i64 zb] 24)).alloc (Obj.cells #[vc, .int .i64 zc] 24)) := ⟨_, rfl⟩
    have S0 : L3 W va vb vc za zb zc w0 := by rw [hw0]; exact ⟨by go_simp, by go_simp, by go_simp, by go_simp, by go_simp, by go_simp, (((Kp.refl _ _).alloc (Nat.le_refl _) _).alloc (by simp) _).alloc (by simp; omega) _⟩
    rw [← hw0]
    clear hw0
    refine (GA _ S0).mono ?_
    rintro e w1 ⟨rfl, S1⟩
    obtain ⟨a0, a1, b0, b1, c0, c1, -⟩ := id S1
    go_wp2_with fail
    refine (GB _ S1).mono ?_
    rintro e w2 ⟨rfl, S2⟩
    obtain ⟨a0, a1, b0, b1, c0, c1, -⟩ := id S2
    go_wp2_with fail
    refine (GC _ S2).mono ?_
    rintro e w3 ⟨rfl, S3⟩
    obtain ⟨a0, a1, b0, b1, c0, c1, -⟩ := id S3
    go_wp2_with fail
    refine (XA _ S3).mono ?_
    rintro e w4 ⟨rfl, S4⟩
    obtain ⟨a0, a1, b0, b1, c0, c1, -⟩ := id S4
    go_wp2_with fail
    refine (AL _ S4).mono ?_
    rintro e w5 ⟨rfl, S5⟩
    go_wp2
    go_ret
    exact ⟨rfl, S5.kp⟩
  · go_enter Tryz.func14, Tryz.ntmps14
    go_wp2_with fail
    obtain ⟨w0, hw0⟩ : ∃ w0, w0 = (((W.alloc (Obj.cells #[va, .int .i64 za] 24)).alloc (Obj.cells #[vb, .int .i64 zb] 24)).alloc (Obj.cells #[vc, .int .i64 zc] 24)) := ⟨_, rfl⟩
    have S0 : L3 W va vb vc za zb zc w0 := by rw [hw0]; exact ⟨by go_simp, by go_simp, by go_simp, by go_simp, by go_simp, by go_simp, (((Kp.refl _ _).alloc (Nat.le_refl _) _).alloc (by simp) _).alloc (by simp; omega) _⟩
    rw [← hw0]
    clear hw0
    refine (GA _ S0).mono ?_
    rintro e w1 ⟨rfl, S1⟩
    obtain ⟨a0, a1, b0, b1, c0, c1, -⟩ := id S1
    go_wp2_with fail
    refine (GB _ S1).mono ?_
    rintro e w2 ⟨rfl, S2⟩
    obtain ⟨a0, a1, b0, b1, c0, c1, -⟩ := id S2
    go_wp2_with fail
    refine (GC _ S2).mono ?_
    rintro e w3 ⟨rfl, S3⟩
    obtain ⟨a0, a1, b0, b1, c0, c1, -⟩ := id S3
    go_wp2_with fail
    refine (XA _ S3).mono ?_
    rintro e w4 ⟨rfl, S4⟩
    obtain ⟨a0, a1, b0, b1, c0, c1, -⟩ := id S4
    go_wp2_with fail
    refine (XB _ S4).mono ?_
    rintro e w5 ⟨rfl, S5⟩
    obtain ⟨a0, a1, b0, b1, c0, c1, -⟩ := id S5
    go_wp2_with fail
    refine (AL _ S5).mono ?_
    rintro e w6 ⟨rfl, S6⟩
    go_wp2
    go_ret
    exact ⟨rfl, S6.kp⟩
  · go_enter Tryz.func14, Tryz.ntmps14
    go_wp2_with fail
    obtain ⟨w0, hw0⟩ : ∃ w0, w0 = (((W.alloc (Obj.cells #[va, .int .i64 za] 24)).alloc (Obj.cells #[vb, .int .i64 zb] 24)).alloc (Obj.cells #[vc, .int .i64 zc] 24)) := ⟨_, rfl⟩
    have S0 : L3 W va vb vc za zb zc w0 := by rw [hw0]; exact ⟨by go_simp, by go_simp, by go_simp, by go_simp, by go_simp, by go_simp, (((Kp.refl _ _).alloc (Nat.le_refl _) _).alloc (by simp) _).alloc (by simp; omega) _⟩
    rw [← hw0]
    clear hw0
    refine (GA _ S0).mono ?_
    rintro e w1 ⟨rfl, S1⟩
    obtain ⟨a0, a1, b0, b1, c0, c1, -⟩ := id S1
    go_wp2_with fail
    refine (GB _ S1).mono ?_
    rintro e w2 ⟨rfl, S2⟩
    obtain ⟨a0, a1, b0, b1, c0, c1, -⟩ := id S2
    go_wp2_with fail
    refine (GC _ S2).mono ?_
    rintro e w3 ⟨rfl, S3⟩
    obtain ⟨a0, a1, b0, b1, c0, c1, -⟩ := id S3
    go_wp2_with fail
    refine (XA _ S3).mono ?_
    rintro e w4 ⟨rfl, S4⟩
    obtain ⟨a0, a1, b0, b1, c0, c1, -⟩ := id S4
    go_wp2_with fail
    refine (XB _ S4).mono ?_
    rintro e w5 ⟨rfl, S5⟩
    obtain ⟨a0, a1, b0, b1, c0, c1, -⟩ := id S5
    go_wp2_with fail
    refine (XC _ S5).mono ?_
    rintro e w6 ⟨rfl, S6⟩
    obtain ⟨a0, a1, b0, b1, c0, c1, -⟩ := id S6
    go_wp2_with fail
    refine (AL _ S6).mono ?_
    rintro e w7 ⟨rfl, S7⟩
    go_wp2
    go_ret
    exact ⟨rfl, S7.kp⟩
  · go_enter Tryz.func14, Tryz.ntmps14
    go_wp2_with fail
    obtain ⟨w0, hw0⟩ : ∃ w0, w0 = (((W.alloc (Obj.cells #[va, .int .i64 za] 24)).alloc (Obj.cells #[vb, .int .i64 zb] 24)).alloc (Obj.cells #[vc, .int .i64 zc] 24)) := ⟨_, rfl⟩
    have S0 : L3 W va vb vc za zb zc w0 := by rw [hw0]; exact ⟨by go_simp, by go_simp, by go_simp, by go_simp, by go_simp, by go_simp, (((Kp.refl _ _).alloc (Nat.le_refl _) _).alloc (by simp) _).alloc (by simp; omega) _⟩
    rw [← hw0]
    clear hw0
    refine (GA _ S0).mono ?_
    rintro e w1 ⟨rfl, S1⟩
    obtain ⟨a0, a1, b0, b1, c0, c1, -⟩ := id S1
    go_wp2_with fail
    refine (GB _ S1).mono ?_
    rintro e w2 ⟨rfl, S2⟩
    obtain ⟨a0, a1, b0, b1, c0, c1, -⟩ := id S2
    go_wp2_with fail
    refine (GC _ S2).mono ?_
    rintro e w3 ⟨rfl, S3⟩
    obtain ⟨a0, a1, b0, b1, c0, c1, -⟩ := id S3
    go_wp2_with fail
    refine (XA _ S3).mono ?_
    rintro e w4 ⟨rfl, S4⟩
    obtain ⟨a0, a1, b0, b1, c0, c1, -⟩ := id S4
    go_wp2_with fail
    refine (XB _ S4).mono ?_
    rintro e w5 ⟨rfl, S5⟩
    obtain ⟨a0, a1, b0, b1, c0, c1, -⟩ := id S5
    go_wp2_with fail
    refine (XC _ S5).mono ?_
    rintro e w6 ⟨rfl, S6⟩
    obtain ⟨a0, a1, b0, b1, c0, c1, -⟩ := id S6
    go_wp2_with fail
    refine (CAB HXA.out HXB.out _ S6).mono ?_
    rintro e w7 ⟨x, rfl, hx, S7⟩
    obtain ⟨a0, a1, b0, b1, c0, c1, -⟩ := id S7
    have HX := Lib.hid hx
    clear hx
    go_wp2_with fail
    refine (CBA HXB.out HXA.out _ S7).mono ?_
    rintro e w8 ⟨y, rfl, hy, S8⟩
    obtain ⟨a0, a1, b0, b1, c0, c1, -⟩ := id S8
    have HY := Lib.hid hy
    clear hy
    go_wp2_with fail
    refine (CBC HXB.out HXC.out _ S8).mono ?_
    rintro e w9 ⟨z, rfl, hz, S9⟩
    obtain ⟨a0, a1, b0, b1, c0, c1, -⟩ := id S9
    have HZ := Lib.hid hz
    clear hz
    go_wp2_with fail
    refine (CAC HXA.out HXC.out _ S9).mono ?_
    rintro e w10 ⟨u, rfl, hu, S10⟩
    obtain ⟨a0, a1, b0, b1, c0, c1, -⟩ := id S10
    have HU := Lib.hid hu
    clear hu
    go_wp2_with fail
    refine (SAB HXA.out HXB.out _ S10).mono ?_
    rintro e w11 ⟨x', rfl, hx', S11⟩
    obtain rfl : x' = x := hx'.unique fcmp_order HX.out
    obtain rfl : y = - x' := HY.out.unique fcmp_order (HX.out.swap fcmp_order)
    have h3 := HX.out.three fcmp_order
    have h4 := HZ.out.three fcmp_order
    have h5 := HU.out.three fcmp_order
    have ht := HX.out.trans fcmp_order HZ.out
    have ht1 : x' = 0 → u = z := fun e => HU.out.unique fcmp_order (ht.1 e)
    have ht2 : z = 0 → u = x' := fun e => HU.out.unique fcmp_order (ht.2.1 e)
    have ht3 : x' = -1 → z = -1 → u = -1 := fun e e' => HU.out.unique fcmp_order (ht.2.2.1 e e')
    have ht4 : x' = 1 → z = 1 → u = 1 := fun e e' => HU.out.unique fcmp_order (ht.2.2.2 e e')
    clear ht hx' HX HY HZ HU CAB CBA CBC CAC SAB XA XB XC GA GB GC
    have HF : Hid ((x' = -1 ∨ x' = 0 ∨ x' = 1) ∧ (z = -1 ∨ z = 0 ∨ z = 1) ∧ (u = -1 ∨ u = 0 ∨ u = 1) ∧ (x' = 0 → u = z) ∧ (z = 0 → u = x') ∧ (x' = -1 → z = -1 → u = -1) ∧ (x' = 1 → z = 1 → u = 1)) := ⟨h3, h4, h5, ht1, ht2, ht3, ht4⟩
    clear h3 h4 h5 ht1 ht2 ht3 ht4
    obtain ⟨h3, h4, h5, ht1, ht2, ht3, ht4⟩ := HF.out
    clear HF
    rcases h3 with rfl | rfl | rfl <;> rcases h4 with rfl | rfl | rfl <;> rcases h5 with rfl | rfl | rfl
    all_goals first
      | (exfalso; omega)
      | (clear ht1 ht2 ht3 ht4
         go_wp2_with fail
         refine (AL _ S11).mono ?_
         rintro e w12 ⟨rfl, S12⟩
         go_wp2
         go_ret
         exact ⟨rfl, S12.kp⟩)
end Go.Ev
