import Derived.Test.YtbjcopckkgdmgaaGreatDoorCm
import Derived.Test.YtbjcopckkgdmgaaGreatDoorLgA
/- The document's own comparison of two nodes. -/
namespace Go.Ev
open Go.Proofs Go.RowKit Go.Lib
set_option maxRecDepth 100000

set_option maxHeartbeats 1000000 in
theorem kinds_ok (k : Int) (h0 : 0 ≤ k) (h4 : k ≤ 4) (w : World) : Calls Tryz.prog 67 #[.int .i64 k] w fun e w' => e = .returned (.int .i64 k) ∧ w' = w := by
  have hk : k = 0 ∨ k = 1 ∨ k = 2 ∨ k = 3 ∨ k = 4 := by omega
  rcases hk with rfl | rfl | rfl | rfl | rfl
  all_goals (go_enter Tryz.func67, Tryz.ntmps67; go_wp2_with fail; go_ret; exact ⟨rfl, rfl⟩)

def signV (l m : Bool) : Int := if l = true then -1 else if m = true then 1 else 0
set_option maxHeartbeats 1000000 in
theorem sign_ok (l m : Bool) (w : World) : Calls Tryz.prog 68 #[.bool l, .bool m] w fun e w' => e = .returned (.int .i64 (signV l m)) ∧ w' = w := by
  cases l <;> cases m
  all_goals (go_enter Tryz.func68, Tryz.ntmps68; go_wp2_with fail; go_ret; exact ⟨rfl, rfl⟩)

theorem sign_cmpI (x y : Int) : signV (decide (x < y)) (decide (y < x)) = cmpI x y := by
  unfold signV cmpI
  simp

set_option maxHeartbeats 4000000 in
theorem rorder_ok (x y : Nd) (va vb : Value) (W : World) (ha : ArgsV W va x.args) (hb : ArgsV W vb y.args) (hx0 : 0 ≤ x.kind) (hx4 : x.kind ≤ 4) (hy0 : 0 ≤ y.kind) (hy4 : y.kind ≤ 4) :
    Calls Tryz.prog 48 #[.agg #[.int .i64 x.kind, .int .i64 x.num, .string x.label, va], .agg #[.int .i64 y.kind, .int .i64 y.num, .string y.label, vb]] W fun e w' =>
      e = .returned (.int .i64 (fcmp x.face y.face)) ∧ Kp W.heap.size W w' := by
  obtain ⟨ab, ac, rfl⟩ := ha.len
  obtain ⟨bb, bc, rfl⟩ := hb.len
  have HV := Lib.hid (first_face x y)
  have KX := fun w => kinds_ok x.kind hx0 hx4 w
  have KY := fun w => kinds_ok y.kind hy0 hy4 w
  have SG := fun l m w => sign_ok l m w
  clear ha hb hx0 hx4 hy0 hy4
  go_enter Tryz.func48, Tryz.ntmps48
  go_wp2_with fail
  go_region_held3 (fun w' => w'.cell? ⟨W.heap.size, 0, none⟩ = some (.int .i64 x.kind) ∧ w'.cell? ⟨W.heap.size, 1, none⟩ = some (.int .i64 x.num) ∧ w'.cell? ⟨W.heap.size, 2, none⟩ = some (.string x.label) ∧ w'.cell? ⟨W.heap.size, 3, none⟩ = some (.slice ab x.args.length ac) ∧
      w'.cell? ⟨W.heap.size + 1, 0, none⟩ = some (.int .i64 y.kind) ∧ w'.cell? ⟨W.heap.size + 1, 1, none⟩ = some (.int .i64 y.num) ∧ w'.cell? ⟨W.heap.size + 1, 2, none⟩ = some (.string y.label) ∧ w'.cell? ⟨W.heap.size + 1, 3, none⟩ = some (.slice bb y.args.length bc) ∧ Kp W.heap.size W w')
    (first
      | exact ⟨by go_simp, by go_simp, by go_simp, by go_simp, by go_simp, by go_simp, by go_simp, by go_simp, (((Kp.refl _ _).alloc (Nat.le_refl _) _).alloc (by simp) _).drew⟩
      | assumption)
    (first
      | (go_at_call 67; (with_reducible refine (KX _).mono ?_); rintro e w' ⟨rfl, rfl⟩)
      | (go_at_call 67; (with_reducible refine (KY _).mono ?_); rintro e w' ⟨rfl, rfl⟩))
  rename (_ ∧ _ ∧ _ ∧ _ ∧ _ ∧ _ ∧ _ ∧ _ ∧ Kp W.heap.size W _) => hS
  obtain ⟨s0, s1, s2, s3, s4, s5, s6, s7, hk⟩ := hS
  have HS := Lib.hid hk
  clear hk
  by_cases h1 : x.kind = y.kind
  · have e1 : (x.kind != y.kind) = false := by simpa using h1
    by_cases h2 : x.args.length = y.args.length
    · have e2 : ((x.args.length : Int) != (y.args.length : Int)) = false := by simp; omega
      by_cases h3 : x.label.toList = y.label.toList
      · have e3 : (x.label.toList == y.label.toList) = true := by simpa using h3
        have HH := Lib.hid (And.intro h1 (And.intro h2 h3))
        clear h1 h2 h3
        go_wp2_with (go_at_call 68; refine (SG _ _ _).mono ?_; rintro e w' ⟨rfl, rfl⟩)
        go_ret
        refine ⟨?_, HS.out⟩
        change Ending.returned (Value.int .i64 (signV (decide (x.num < y.num)) (decide (y.num < x.num)))) = _
        obtain ⟨h1, h2, h3⟩ := HH.out
        rw [← HV.out, sign_cmpI]
        have z1 : cmpI x.kind y.kind = 0 := (cmpI_cp.eq _ _).2 h1
        have z2 : cmpI (x.args.length : Int) (y.args.length : Int) = 0 := (cmpI_cp.eq _ _).2 (by omega)
        have z3 : cmpS x.label y.label = 0 := (cmpS_cp.eq _ _).2 (bytes_inj h3)
        simp only [firstI, z1, z2, z3, if_true]
        split
        · rename_i h; rw [h]
        · rfl
      · have HH := Lib.hid (And.intro h1 (And.intro h2 h3))
        have e3 : (x.label.toList == y.label.toList) = false := by simpa using h3
        clear h1 h2 h3
        go_wp2_with (go_at_call 68; refine (SG _ _ _).mono ?_; rintro e w' ⟨rfl, rfl⟩)
        go_ret
        refine ⟨?_, HS.out⟩
        change Ending.returned (Value.int .i64 (signV (Op.bytesLess x.label.toList y.label.toList) true)) = _
        obtain ⟨h1, h2, h3⟩ := HH.out
        rw [← HV.out]
        have z1 : cmpI x.kind y.kind = 0 := (cmpI_cp.eq _ _).2 h1
        have z2 : cmpI (x.args.length : Int) (y.args.length : Int) = 0 := (cmpI_cp.eq _ _).2 (by omega)
        have z3 : cmpS x.label y.label = signV (Op.bytesLess x.label.toList y.label.toList) true := by unfold cmpS signV; simp [h3]
        have z4 : cmpS x.label y.label ≠ 0 := fun e => h3 (by rw [(cmpS_cp.eq _ _).1 e])
        simp only [firstI, z1, z2, if_true, if_neg z4]
        rw [z3]
    · have HH := Lib.hid (And.intro h1 h2)
      have e2 : ((x.args.length : Int) != (y.args.length : Int)) = true := by simp; omega
      clear h1 h2
      go_wp2_with (go_at_call 68; refine (SG _ _ _).mono ?_; rintro e w' ⟨rfl, rfl⟩)
      go_ret
      refine ⟨?_, HS.out⟩
      change Ending.returned (Value.int .i64 (signV (decide (x.args.length < y.args.length)) true)) = _
      obtain ⟨h1, h2⟩ := HH.out
      rw [← HV.out]
      have z1 : cmpI x.kind y.kind = 0 := (cmpI_cp.eq _ _).2 h1
      have z3 : cmpI (x.args.length : Int) (y.args.length : Int) = signV (decide (x.args.length < y.args.length)) true := by
        unfold cmpI signV
        by_cases hl : x.args.length < y.args.length
        · simp [hl]
        · have : y.args.length < x.args.length := by omega
          simp [hl, this]
      have z4 : cmpI (x.args.length : Int) (y.args.length : Int) ≠ 0 := fun e => h2 (by have := (cmpI_cp.eq _ _).1 e; omega)
      simp only [firstI, z1, if_true, if_neg z4]
      rw [z3]
  · have HH := Lib.hid h1
    have e1 : (x.kind != y.kind) = true := by simpa using h1
    clear h1
    go_wp2_with (go_at_call 68; refine (SG _ _ _).mono ?_; rintro e w' ⟨rfl, rfl⟩)
    go_ret
    refine ⟨?_, HS.out⟩
    change Ending.returned (Value.int .i64 (signV (decide (x.kind < y.kind)) (decide (y.kind < x.kind)))) = _
    rw [← HV.out, sign_cmpI]
    have z4 : cmpI x.kind y.kind ≠ 0 := fun e => HH.out ((cmpI_cp.eq _ _).1 e)
    simp only [firstI, if_neg z4]
end Go.Ev
