import Derived.Test.YtbjcopckkgdmgaaGreatDoorE2
import Derived.Test.YtbjcopckkgdmgaaGreatDoorN14
import Derived.BigRegion
import Derived.BigQuiet
import Derived.Deep.DeepCutAuto
import Derived.OrdersHeld
import Derived.Deep.RegionHeld
/- Two boxes that are written to. -/
namespace Go.Ev
open Go.Proofs Go.RowKit Go.Lib
set_option maxRecDepth 100000

/-- As L3; the boxes that are written to are the call's own. -/
structure L3B (W : World) (va vb vc : Value) (za zb zc : Int) (w : World) : Prop where
  l3 : L3 W va vb vc za zb zc w
  h0 : w.heap[W.heap.size]? = some (.cells #[va, .int .i64 za] 24 (0, 0))
  h1 : w.heap[W.heap.size + 1]? = some (.cells #[vb, .int .i64 zb] 24 (0, 0))
theorem L3B.step {W : World} {va vb vc : Value} {za zb zc : Int} {w w' : World} (h : L3B W va vb vc za zb zc w) (k : Kp w.heap.size w w') : L3B W va vb vc za zb zc w' :=
  ⟨h.l3.step k, (k.block _ (block_lt_of_cell h.l3.a0)).trans h.h0, (k.block _ (block_lt_of_cell h.l3.b0)).trans h.h1⟩
theorem with_stepB {n : FuncId} {args : Array Value} {W w : World} {va vb vc : Value} {za zb zc : Int} {x : Value} (h : L3B W va vb vc za zb zc w)
    (c : Calls Tryz.prog n args w fun e w' => e = .returned x ∧ Kp w.heap.size w w') : Calls Tryz.prog n args w fun e w' => e = .returned x ∧ L3B W va vb vc za zb zc w' :=
  c.mono fun _ _ ⟨h1, h2⟩ => ⟨h1, h.step h2⟩
theorem fz_of {w : World} {b : Nat} {cs : Array Value} {t : TypeId} (h : w.heap[b]? = some (.cells cs t (0, 0))) (o : Nat) : w.frozen? ⟨b, o, none⟩ = false := by
  simp [World.frozen?, h]

/-- The root that a box of a tree holds. -/
def rootIn (w : World) (b : Nat) : Int := match w.heap[b]? with
  | some (.cells cs _ _) => match cs[1]? with
    | some (Value.int _ z) => z
    | _ => 0
  | _ => 0
/-- What is so of the boxes of two trees, whatever their roots are. -/
structure Bx (N : Nat) (va vb : Value) (w : World) : Prop where
  h0 : w.heap[N]? = some (.cells #[va, .int .i64 (rootIn w N)] 24 (0, 0))
  h1 : w.heap[N + 1]? = some (.cells #[vb, .int .i64 (rootIn w (N + 1))] 24 (0, 0))
theorem rootIn_of {w : World} {b : Nat} {v : Value} {z : Int} {t : TypeId} (h : w.heap[b]? = some (.cells #[v, .int .i64 z] t (0, 0))) : rootIn w b = z := by
  simp [rootIn, h]
theorem Bx.of {N : Nat} {va vb : Value} {za zb : Int} {w : World} (h0 : w.heap[N]? = some (.cells #[va, .int .i64 za] 24 (0, 0))) (h1 : w.heap[N + 1]? = some (.cells #[vb, .int .i64 zb] 24 (0, 0))) : Bx N va vb w :=
  ⟨by rw [rootIn_of h0]; exact h0, by rw [rootIn_of h1]; exact h1⟩
theorem Bx.same {N : Nat} {va vb : Value} {w w' : World} (h : Bx N va vb w) (e0 : w'.heap[N]? = w.heap[N]?) (e1 : w'.heap[N + 1]? = w.heap[N + 1]?) : Bx N va vb w' :=
  Bx.of (e0.trans h.h0) (e1.trans h.h1)
theorem Bx.kp {N : Nat} {va vb : Value} {w w' : World} (h : Bx N va vb w) (k : Kp w.heap.size w w') : Bx N va vb w' :=
  h.same (k.block _ (Array.getElem?_eq_some_iff.1 h.h0).1) (k.block _ (Array.getElem?_eq_some_iff.1 h.h1).1)
theorem heap_set_box {w : World} {b : Nat} {v : Value} {z : Int} {t : TypeId} (h : w.heap[b]? = some (.cells #[v, .int .i64 z] t (0, 0))) (y : Int) :
    ((w.setCell ⟨b, 0, none⟩ v).setCell ⟨b, 1, none⟩ (.int .i64 y)).heap[b]? = some (.cells #[v, .int .i64 y] t (0, 0)) := by
  simp [World.setCell, Array.getElem?_modify, h]
theorem Bx.set0 {N : Nat} {va vb : Value} {w : World} (h : Bx N va vb w) : Bx N va vb (w.setCell ⟨N, 0, none⟩ va) :=
  Bx.of (za := rootIn w N) (zb := rootIn w (N + 1)) (by simp [World.setCell, Array.getElem?_modify, h.h0]) (by simp [World.setCell, Array.getElem?_modify, h.h1])
theorem Bx.set1 {N : Nat} {va vb : Value} {w : World} (h : Bx N va vb w) (y : Int) : Bx N va vb (w.setCell ⟨N, 1, none⟩ (.int .i64 y)) :=
  Bx.of (za := y) (zb := rootIn w (N + 1)) (by simp [World.setCell, Array.getElem?_modify, h.h0]) (by simp [World.setCell, Array.getElem?_modify, h.h1])
theorem Bx.set2 {N : Nat} {va vb : Value} {w : World} (h : Bx N va vb w) : Bx N va vb (w.setCell ⟨N + 1, 0, none⟩ vb) :=
  Bx.of (za := rootIn w N) (zb := rootIn w (N + 1)) (by simp [World.setCell, Array.getElem?_modify, h.h0]) (by simp [World.setCell, Array.getElem?_modify, h.h1])
theorem Bx.set3 {N : Nat} {va vb : Value} {w : World} (h : Bx N va vb w) (y : Int) : Bx N va vb (w.setCell ⟨N + 1, 1, none⟩ (.int .i64 y)) :=
  Bx.of (za := rootIn w N) (zb := y) (by simp [World.setCell, Array.getElem?_modify, h.h0]) (by simp [World.setCell, Array.getElem?_modify, h.h1])
theorem Bx.c {N : Nat} {va vb : Value} {w : World} (h : Bx N va vb w) : w.cell? ⟨N, 0, none⟩ = some va ∧ w.cell? ⟨N, 1, none⟩ = some (.int .i64 (rootIn w N)) ∧ w.cell? ⟨N + 1, 0, none⟩ = some vb ∧ w.cell? ⟨N + 1, 1, none⟩ = some (.int .i64 (rootIn w (N + 1))) ∧ (∀ o, w.frozen? ⟨N, o, none⟩ = false) ∧ ∀ o, w.frozen? ⟨N + 1, o, none⟩ = false :=
  ⟨by rw [cell_of h.h0]; rfl, by rw [cell_of h.h0]; rfl, by rw [cell_of h.h1]; rfl, by rw [cell_of h.h1]; rfl, fun o => fz_of h.h0 o, fun o => fz_of h.h1 o⟩
/-- Two boxes, and four cells of other blocks, as they were. -/
structure B20 (N : Nat) (va vb : Value) (p q r s : Addr) (x y z u : Value) (w0 w : World) : Prop where
  bx : Bx N va vb w
  cp : w.cell? p = some x
  cq : w.cell? q = some y
  cr : w.cell? r = some z
  cs : w.cell? s = some u
  kp : Kp N w0 w
theorem B20.step {N : Nat} {va vb : Value} {p q r s : Addr} {x y z u : Value} {w0 w w' : World} (h : B20 N va vb p q r s x y z u w0 w) (hp : p.spot = none ∧ q.spot = none ∧ r.spot = none ∧ s.spot = none) (k : Kp w.heap.size w w') : B20 N va vb p q r s x y z u w0 w' := by
  have hN : N ≤ w.heap.size := Nat.le_of_lt (Array.getElem?_eq_some_iff.1 h.bx.h0).1
  obtain ⟨pb, po, ps⟩ := p
  obtain ⟨qb, qo, qs⟩ := q
  obtain ⟨rb, ro, rs⟩ := r
  obtain ⟨sb, so, ss⟩ := s
  obtain ⟨rfl, rfl, rfl, rfl⟩ := hp
  exact ⟨h.bx.kp k, k.cells h.cp, k.cells h.cq, k.cells h.cr, k.cells h.cs, h.kp.trans (k.mono hN)⟩

theorem kpa3 {a w : World} (h : Kp a.heap.size a w) (o : Obj) : Kp a.heap.size a (w.alloc o) := h.alloc h.size _
theorem kps3 {a w : World} {X : Nat} (h : Kp a.heap.size a w) (hX : a.heap.size ≤ X) (o : Nat) (v : Value) : Kp a.heap.size a (w.setCell ⟨X, o, none⟩ v) := h.setCell (p := ⟨X, o, none⟩) hX v
theorem cell_far {w : World} {a q : Addr} (v : Value) (h : q.block ≠ a.block) : (w.setCell a v).cell? q = w.cell? q := by
  simp [World.cell?, World.setCell, Array.getElem?_modify, Ne.symm h]
theorem B20.drew {N : Nat} {va vb : Value} {p q r s : Addr} {x y z u : Value} {w0 w : World} (h : B20 N va vb p q r s x y z u w0 w) : B20 N va vb p q r s x y z u w0 w.drew :=
  ⟨h.bx.same rfl rfl, h.cp, h.cq, h.cr, h.cs, h.kp.drew⟩
theorem B20.store0 {N : Nat} {va vb : Value} {p q r s : Addr} {x y z u : Value} {w0 w : World} (hd : p.block ≠ N ∧ q.block ≠ N ∧ r.block ≠ N ∧ s.block ≠ N) (h : B20 N va vb p q r s x y z u w0 w) (k : Int) :
    B20 N va vb p q r s x y z u w0 ((w.setCell ⟨N, 0, none⟩ va).setCell ⟨N, 1, none⟩ (.int .i64 k)) :=
  ⟨h.bx.set0.set1 k, by rw [cell_far _ hd.1, cell_far _ hd.1]; exact h.cp, by rw [cell_far _ hd.2.1, cell_far _ hd.2.1]; exact h.cq, by rw [cell_far _ hd.2.2.1, cell_far _ hd.2.2.1]; exact h.cr, by rw [cell_far _ hd.2.2.2, cell_far _ hd.2.2.2]; exact h.cs,
   (h.kp.setCell (p := ⟨N, 0, none⟩) (Nat.le_refl _) _).setCell (p := ⟨N, 1, none⟩) (Nat.le_refl _) _⟩
theorem B20.store1 {N : Nat} {va vb : Value} {p q r s : Addr} {x y z u : Value} {w0 w : World} (hd : p.block ≠ N + 1 ∧ q.block ≠ N + 1 ∧ r.block ≠ N + 1 ∧ s.block ≠ N + 1) (h : B20 N va vb p q r s x y z u w0 w) (k : Int) :
    B20 N va vb p q r s x y z u w0 ((w.setCell ⟨N + 1, 0, none⟩ vb).setCell ⟨N + 1, 1, none⟩ (.int .i64 k)) :=
  ⟨h.bx.set2.set3 k, by rw [cell_far _ hd.1, cell_far _ hd.1]; exact h.cp, by rw [cell_far _ hd.2.1, cell_far _ hd.2.1]; exact h.cq, by rw [cell_far _ hd.2.2.1, cell_far _ hd.2.2.1]; exact h.cr, by rw [cell_far _ hd.2.2.2, cell_far _ hd.2.2.2]; exact h.cs,
   (h.kp.setCell (p := ⟨N + 1, 0, none⟩) (Nat.le_succ _) _).setCell (p := ⟨N + 1, 1, none⟩) (Nat.le_succ _) _⟩
/-- Both boxes get other roots. -/
theorem L3B.store {W w : World} {va vb vc : Value} {za zb zc : Int} (h : L3B W va vb vc za zb zc w) (ya yb : Int) :
    L3B W va vb vc ya yb zc ((((w.setCell ⟨W.heap.size, 0, none⟩ va).setCell ⟨W.heap.size, 1, none⟩ (.int .i64 ya)).setCell ⟨W.heap.size + 1, 0, none⟩ vb).setCell ⟨W.heap.size + 1, 1, none⟩ (.int .i64 yb)) := by
  have hb := (((Bx.of h.h0 h.h1).set0.set1 ya).set2.set3 yb)
  have e0 : ((((w.setCell ⟨W.heap.size, 0, none⟩ va).setCell ⟨W.heap.size, 1, none⟩ (.int .i64 ya)).setCell ⟨W.heap.size + 1, 0, none⟩ vb).setCell ⟨W.heap.size + 1, 1, none⟩ (.int .i64 yb)).heap[W.heap.size]? = some (.cells #[va, .int .i64 ya] 24 (0, 0)) := by
    simp [World.setCell, Array.getElem?_modify, h.h0]
  have e1 : ((((w.setCell ⟨W.heap.size, 0, none⟩ va).setCell ⟨W.heap.size, 1, none⟩ (.int .i64 ya)).setCell ⟨W.heap.size + 1, 0, none⟩ vb).setCell ⟨W.heap.size + 1, 1, none⟩ (.int .i64 yb)).heap[W.heap.size + 1]? = some (.cells #[vb, .int .i64 yb] 24 (0, 0)) := by
    simp [World.setCell, Array.getElem?_modify, h.h1]
  refine ⟨⟨by rw [cell_of e0]; rfl, by rw [cell_of e0]; rfl, by rw [cell_of e1]; rfl, by rw [cell_of e1]; rfl, ?_, ?_, ?_⟩, e0, e1⟩
  · rw [cell_far _ (show W.heap.size + 1 + 1 ≠ W.heap.size + 1 by omega), cell_far _ (show W.heap.size + 1 + 1 ≠ W.heap.size + 1 by omega), cell_far _ (show W.heap.size + 1 + 1 ≠ W.heap.size by omega), cell_far _ (show W.heap.size + 1 + 1 ≠ W.heap.size by omega)]; exact h.l3.c0
  · rw [cell_far _ (show W.heap.size + 1 + 1 ≠ W.heap.size + 1 by omega), cell_far _ (show W.heap.size + 1 + 1 ≠ W.heap.size + 1 by omega), cell_far _ (show W.heap.size + 1 + 1 ≠ W.heap.size by omega), cell_far _ (show W.heap.size + 1 + 1 ≠ W.heap.size by omega)]; exact h.l3.c1
  · exact (((h.l3.kp.setCell (p := ⟨W.heap.size, 0, none⟩) (Nat.le_refl _) _).setCell (p := ⟨W.heap.size, 1, none⟩) (Nat.le_refl _) _).setCell (p := ⟨W.heap.size + 1, 0, none⟩) (Nat.le_succ _) _).setCell (p := ⟨W.heap.size + 1, 1, none⟩) (Nat.le_succ _) _
end Go.Ev

/- A region that draws its order, whose last stores write what its loads have read: a condition that holds until the stores. No program in this text. -/
namespace Go.Ev
open Go
section
variable {P : Program} {ops : Array Oper} {Q : Exit → Act → World → Prop} {md : Region.Mode} {S : World → Prop} {late : List Nat}

/-- Whatever order is picked from here on, and S holds behind every operation that is carried out, but for those that come late. -/
def wpAnyL (P : Program) (md : Region.Mode) (ops : Array Oper) (Q : Exit → Act → World → Prop) (S : World → Prop) (late : List Nat) : Nat → Array Bool → Act → World → Prop
  | 0, listed, a, w => Region.ready md ops listed = [] ∧ Q .normal a w
  | fuel + 1, listed, a, w =>
    (Region.ready md ops listed = [] → Q .normal a w) ∧
    ∀ i ∈ Region.ready md ops listed, wpOp P ops Q i (fun a' w' => (i ∉ late → S w') ∧ wpAnyL P md ops Q S late fuel (listed.setIfInBounds i true) a' w') a w

theorem wpAny_of_late : ∀ (fuel : Nat) (listed : Array Bool) (a : Act) (w : World), wpAnyL P md ops Q S late fuel listed a w → wpAny P md ops Q fuel listed a w
  | 0, _, _, _, h => h
  | fuel + 1, _, _, _, h => ⟨h.1, fun i hi => wpOp_mono (fun a' w' h' => wpAny_of_late fuel _ a' w' h'.2) (h.2 i hi)⟩

/-- What has come up has come up behind all that it waits for. -/
def ClosedL (md : Region.Mode) (ops : Array Oper) (listed : Array Bool) : Prop :=
  ∀ (j : Nat) (oj : Oper), ops[j]? = some oj → listed.getD j false = true → ∀ e ∈ oj.after, Region.binds md e = true → listed.getD e.on false = true
def closedB (md : Region.Mode) (ops : Array Oper) (listed : Array Bool) : Bool :=
  (List.range ops.size).all fun j => !(listed.getD j false) || match ops[j]? with
    | some oj => oj.after.toList.all fun e => !(Region.binds md e) || listed.getD e.on false
    | none => true
theorem closedB_spec {listed : Array Bool} (h : closedB md ops listed = true) : ClosedL md ops listed := fun j oj hj hl e he hb => by
  have hlt : j < ops.size := (Array.getElem?_eq_some_iff.1 hj).1
  have hx := List.all_eq_true.1 h j (by simpa using hlt)
  rw [hj, hl, Bool.not_true, Bool.false_or] at hx
  have hy := List.all_eq_true.1 hx e (by simpa using he)
  rw [hb, Bool.not_true, Bool.false_or] at hy
  exact hy
theorem ClosedL.set {listed : Array Bool} {j : Nat} (h : ClosedL md ops listed) (hj : j ∈ Region.ready md ops listed) : ClosedL md ops (listed.setIfInBounds j true) := fun k ok hk hl e he hb => by
  by_cases hjk : j = k
  · subst hjk
    obtain ⟨_, o, ho, hall⟩ := mem_ready.1 hj
    rw [hk] at ho
    obtain rfl := Option.some.inj ho
    exact getD_set_true (hall e he hb)
  · rw [getD_set_ne false hjk] at hl
    exact getD_set_true (h k ok hk hl e he hb)
/-- Number j waits for number i, or for what waits for it. -/
def reachB (md : Region.Mode) (ops : Array Oper) : Nat → Nat → Nat → Bool
  | 0, _, _ => false
  | f + 1, j, i => match ops[j]? with
    | some oj => oj.after.toList.any fun e => Region.binds md e && (e.on == i || reachB md ops f e.on i)
    | none => false
theorem reachB_listed {listed : Array Bool} {i : Nat} (h : ClosedL md ops listed) : ∀ (f j : Nat), (∀ oj, ops[j]? = some oj → ∀ e ∈ oj.after, Region.binds md e = true → listed.getD e.on false = true) → reachB md ops f j i = true → listed.getD i false = true
  | 0, _, _, hr => by cases hr
  | f + 1, j, hj, hr => by
    unfold reachB at hr
    cases ho : ops[j]? with
    | none => rw [ho] at hr; cases hr
    | some oj =>
      rw [ho] at hr
      obtain ⟨e, he, hb⟩ := List.any_eq_true.1 hr
      rw [Bool.and_eq_true, Bool.or_eq_true] at hb
      have hl := hj oj ho e (by simpa using he) hb.1
      rcases hb.2 with h1 | h1
      · have : e.on = i := by simpa using h1
        rw [← this]; exact hl
      · exact reachB_listed h f e.on (fun oe hoe => h e.on oe hoe hl) h1
def waitsB (md : Region.Mode) (ops : Array Oper) (late : List Nat) (i : Nat) : Bool := late.all fun j => reachB md ops ops.size j i

theorem wpAnyL_first {i : Nat} {oi : Oper} {v : Value} (hi : ops[i]? = some oi) (hsel : ∀ (j : Nat) (o : Oper) cs b, ops[j]? = some o → o.op ≠ .select cs b)
    (hQ : ∀ c a w, Q (.panic c) (a.put oi.dst v) w → Q (.panic c) a w) (hil : i ∉ late) (hw : waitsB md ops late i = true) :
    ∀ (fuel : Nat) (listed : Array Bool) (a : Act) (w : World),
      (∀ j oj, ops[j]? = some oj → j ≠ i → listed.getD j true = false → (∀ e ∈ oj.after, Region.binds md e = true → e.on ≠ i) → oi.apart ops oj = true) →
      ClosedL md ops listed → i ∈ Region.ready md ops listed → YieldsIf P ops S oi v a → S w →
      wpAnyL P md ops Q S late fuel (listed.setIfInBounds i true) (a.put oi.dst v) w → wpAnyL P md ops Q S late (fuel + 1) listed a w := by
  intro fuel
  induction fuel with
  | zero =>
    intro listed a w _ _ hr hy hS H
    refine ⟨fun h => (by rw [h] at hr; cases hr), fun j hj => ?_⟩
    by_cases hji : j = i
    · subst hji; exact hy.wpOp hi hS ⟨fun _ => hS, H⟩
    · have := ready_mono hj hji
      rw [H.1] at this
      cases this
  | succ fuel ih =>
    intro listed a w hfree hcl hr hy hS H
    refine ⟨fun h => (by rw [h] at hr; cases hr), fun j hj => ?_⟩
    by_cases hji : j = i
    · subst hji; exact hy.wpOp hi hS ⟨fun _ => hS, H⟩
    · have h1 := H.2 j (ready_mono hj hji)
      obtain ⟨hjun, oj, hoj, hall⟩ := mem_ready.1 hj
      have hnot : ∀ e ∈ oj.after, Region.binds md e = true → e.on ≠ i := fun e he hb heq => by
        have h1 := hall e he hb
        have h0 := (mem_ready.1 hr).1
        rw [heq] at h1
        rcases Nat.lt_or_ge i listed.size with h' | h'
        · simp [h'] at h0 h1; rw [h0] at h1; cases h1
        · simp [Array.getElem?_eq_none h'] at h1
      have hjl : j ∉ late := fun hl => by
        have hx := reachB_listed hcl _ _ (fun ok hok => by rw [hoj] at hok; obtain rfl := Option.some.inj hok; exact hall) (List.all_eq_true.1 hw j hl)
        have h0 := (mem_ready.1 hr).1
        rcases Nat.lt_or_ge i listed.size with h' | h'
        · simp [h'] at h0 hx; rw [h0] at hx; cases hx
        · simp [Array.getElem?_eq_none h'] at hx
      have h2 := wpOp_putIf hoj (hfree j oj hoj hji hjun hnot) (fun cs b => hsel i oi cs b hi) (fun cs b => hsel j oj cs b hoj) hQ hy h1
      have hfree' : ∀ k ok, ops[k]? = some ok → k ≠ i → (listed.setIfInBounds j true).getD k true = false →
          (∀ e ∈ ok.after, Region.binds md e = true → e.on ≠ i) → oi.apart ops ok = true := fun k ok hk hki hun hno => by
        refine hfree k ok hk hki ?_ hno
        by_cases hjk : j = k
        · subst hjk; exact hjun
        · rw [getD_set_ne true hjk] at hun; exact hun
      refine wpOp_mono (fun a' w' h3 => ⟨fun _ => h3.2.1 hjl, ih (listed.setIfInBounds j true) a' w' hfree' (hcl.set hj) (ready_mono hr (Ne.symm hji)) h3.1 (h3.2.1 hjl) ?_⟩) h2
      rw [Array.setIfInBounds_comm _ _ hji]
      exact h3.2.2

/-- Take number i first. -/
theorem wpAnyL_take {i : Nat} {oi : Oper} {v : Value} {fuel : Nat} {listed : Array Bool} {a : Act} {w : World} (hi : ops[i]? = some oi)
    (hs : Region.noSelect ops = true) (hf : Region.free md ops listed i = true) (hr : (Region.ready md ops listed).contains i = true) (hl : late.contains i = false) (hw : waitsB md ops late i = true) (hcl : closedB md ops listed = true)
    (hQ : ∀ c a w, Q (.panic c) (a.put oi.dst v) w → Q (.panic c) a w) (hy : YieldsIf P ops S oi v a) (hS : S w)
    (h : wpAnyL P md ops Q S late fuel (listed.setIfInBounds i true) (a.put oi.dst v) w) : wpAnyL P md ops Q S late (fuel + 1) listed a w :=
  wpAnyL_first hi (Region.noSelect_spec hs) hQ (by simpa using hl) hw fuel listed a w (Region.free_spec hi hf) (closedB_spec hcl) (by simpa using hr) hy hS h

/-- One operation alone may come up. -/
theorem wpAnyL_one {i : Nat} {o : Oper} {fuel : Nat} {listed : Array Bool} {a : Act} {w : World} (hr : Region.ready md ops listed = [i]) (ho : ops[i]? = some o)
    (h : ∀ K' : Act → World → Prop, Shut (∀ a w, (i ∉ late → S w) → wpAnyL P md ops Q S late fuel (listed.setIfInBounds i true) a w → K' a w) → if Region.wanted o (yielded ops a.tmps) = true then Oper.wp P o a w K' Q else K' (a.put o.dst undef) w) :
    wpAnyL P md ops Q S late (fuel + 1) listed a w :=
  ⟨fun h0 => (by rw [hr] at h0; cases h0), fun j hj => by
    rw [hr, List.mem_singleton] at hj
    subst hj
    exact wpOp_step ho fun K' hK => h K' fun a w hS hW => hK a w ⟨hS, hW⟩⟩

theorem wpAnyL_done {listed : Array Bool} {a : Act} {w : World} (hr : Region.ready md ops listed = []) (h : Q .normal a w) :
    ∀ fuel, wpAnyL P md ops Q S late fuel listed a w
  | 0 => ⟨hr, h⟩
  | _ + 1 => ⟨fun _ => h, by rw [hr]; simp⟩

theorem wp_region_late {id : Nat} {a : Act} {w : World} (S : World → Prop) (late : List Nat) (hm : P.follows .mixedOrders = true)
    (h : wpAnyL P .any ops Q S late ops.size (Array.replicate ops.size false) a w.drew) : (Code.region id ops true).wp P Q a w :=
  wp_region_any hm (wpAny_of_late _ _ _ _ h)
end
end Go.Ev
