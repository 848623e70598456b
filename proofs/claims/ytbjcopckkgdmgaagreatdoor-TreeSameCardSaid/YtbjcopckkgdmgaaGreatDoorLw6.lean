import Derived.Test.YtbjcopckkgdmgaaGreatDoorLw5
/- The document's own Same. -/
namespace Go.Ev
open Go.Proofs Go.RowKit Go.Lib
set_option maxRecDepth 100000

theorem cl_al {w : World} {b o : Nat} {u : Value} (h : w.cell? ⟨b, o, none⟩ = some u) (ob : Obj) : (w.alloc ob).cell? ⟨b, o, none⟩ = some u := by
  rw [World.cell?_alloc_past _ _ _ (block_lt_of_cell h)]; exact h
/-- What Least hands back, of a tree that may be malformed: the second result is m. -/
theorem rleast_any (va : Value) (A : List Nd) (za : Int) (W : World) (ha : NodesV W va A) :
    Calls Tryz.prog 22 #[.agg #[va, .int .i64 za]] W fun e w' => ∃ a n c, e = .returned (.tuple #[.agg #[.slice a n c, .int .i64 0], .int .i64 (if validB A za then 0 else 2)]) ∧ Kp W.heap.size W w' := by
  cases h : validB A za with
  | false =>
    refine (rleast_bad va A za W ha h).mono ?_
    rintro e w' ⟨rfl, hk⟩
    exact ⟨_, _, _, rfl, hk⟩
  | true =>
    refine (rleast_good va A za W ha h).mono ?_
    rintro e w' ⟨L, v, rfl, hn, hc, _, _, hk⟩
    obtain ⟨b, o, c, rfl⟩ := hn.shape hc.some
    exact ⟨_, _, _, rfl, hk⟩

set_option maxHeartbeats 2000000 in
theorem rsame_bad (va vb : Value) (A B : List Nd) (za zb : Int) (W : World) (ha : NodesV W va A) (hb : NodesV W vb B) (h : (validB A za && validB B zb) = false) :
    Calls Tryz.prog 29 #[.agg #[va, .int .i64 za], .agg #[vb, .int .i64 zb]] W (BadSame W) := by
  have CA := fun w (hk : Kp W.heap.size W w) => rleast_any va A za w (ha.kp hk)
  have CB := fun w (hk : Kp W.heap.size W w) => rleast_any vb B zb w (hb.kp hk)
  clear ha hb
  generalize validB A za = xa at *
  generalize validB B zb = xb at *
  go_enter Tryz.func29, Tryz.ntmps29
  go_wp2_with fail
  obtain ⟨W2, hW2⟩ : ∃ W2, W2 = (W.alloc (Obj.cells #[va, Value.int IntKind.i64 za] 24)).alloc (Obj.cells #[vb, Value.int IntKind.i64 zb] 24) := ⟨_, rfl⟩
  have hk2 : Kp W.heap.size W W2 := by rw [hW2]; exact two_kp _ _ _
  have b0 : W2.cell? ⟨W.heap.size + 1, 0, none⟩ = some vb := by rw [hW2]; go_simp
  have b1 : W2.cell? ⟨W.heap.size + 1, 1, none⟩ = some (.int .i64 zb) := by rw [hW2]; go_simp
  rw [← hW2]
  clear hW2
  refine (CA _ hk2).mono ?_
  rintro e w1 ⟨a1, n1, c1, rfl, k1⟩
  have HK1 := Lib.hid (hk2.trans (k1.mono hk2.size))
  have hb0 := fun o => cl_al (k1.cells b0) o
  have hb1 := fun o => cl_al (k1.cells b1) o
  clear k1 hk2 CA b0 b1
  cases xa <;> cases xb <;> first | (simp at h; done) | skip
  all_goals
    simp only [if_true, if_false, Bool.false_eq_true, reduceCtorEq] at *
    go_wp2_with (go_at_call 22; refine (CB _ (HK1.out.alloc HK1.out.size _)).mono ?_; rintro e w2 ⟨a2, n2, c2, rfl, k2⟩; have HK2 := Lib.hid ((HK1.out.alloc HK1.out.size _).trans (k2.mono (HK1.out.alloc HK1.out.size _).size)); clear k2)
    go_ret2
    exact ⟨rfl, HK2.out.alloc HK2.out.size _⟩

def RSamePost (A B : List Nd) (ra rb : Nat) (W : World) (e : Ending) (w' : World) : Prop := ∃ r : Bool, e = .returned (.tuple #[.bool r, .int .i64 0]) ∧ (r = true ↔ Bis A ra B rb) ∧ Kp W.heap.size W w'

set_option maxHeartbeats 2000000 in
theorem rsame_good (va vb : Value) (A B : List Nd) (za zb : Int) (W : World) (ha : NodesV W va A) (hb : NodesV W vb B) (hva : validB A za = true) (hvb : validB B zb = true) :
    Calls Tryz.prog 29 #[.agg #[va, .int .i64 za], .agg #[vb, .int .i64 zb]] W (RSamePost A B za.toNat zb.toNat W) := by
  have CA := fun w (hk : Kp W.heap.size W w) => rleast_good va A za w (ha.kp hk) hva
  have CB := fun w (hk : Kp W.heap.size W w) => rleast_good vb B zb w (hb.kp hk) hvb
  obtain ⟨ra, rfl, hra, hA8, hA⟩ := valid_nodes hva
  obtain ⟨rb, rfl, hrb, hB8, hB⟩ := valid_nodes hvb
  clear ha hb hva hvb hA hB
  go_enter Tryz.func29, Tryz.ntmps29
  go_wp2_with fail
  obtain ⟨W2, hW2⟩ : ∃ W2, W2 = (W.alloc (Obj.cells #[va, Value.int IntKind.i64 ra] 24)).alloc (Obj.cells #[vb, Value.int IntKind.i64 rb] 24) := ⟨_, rfl⟩
  have hk2 : Kp W.heap.size W W2 := by rw [hW2]; exact two_kp _ _ _
  have b0 : W2.cell? ⟨W.heap.size + 1, 0, none⟩ = some vb := by rw [hW2]; go_simp
  have b1 : W2.cell? ⟨W.heap.size + 1, 1, none⟩ = some (.int .i64 rb) := by rw [hW2]; go_simp
  rw [← hW2]
  clear hW2
  refine (CA _ hk2).mono ?_
  rintro e w1 ⟨L1, v1, rfl, hn1, hc1, hb1, hl1, k1⟩
  obtain ⟨xb, xo, xc, rfl⟩ := hn1.shape hc1.some
  have HK1 := Lib.hid (hk2.trans (k1.mono hk2.size))
  have hb0 := fun o => cl_al (k1.cells b0) o
  have hb1' := fun o => cl_al (k1.cells b1) o
  have HN1 := Lib.hid hn1
  have HC1 := Lib.hid hc1
  have HB1 := Lib.hid hb1
  clear k1 hk2 CA b0 b1 hn1 hc1 hb1
  go_wp2_with fail
  obtain ⟨w2, hw2⟩ : ∃ w2, w2 = w1.alloc (Obj.cells #[Value.slice (some ⟨xb, xo, none⟩) L1.length xc, Value.int IntKind.i64 0] 24) := ⟨_, rfl⟩
  obtain ⟨X, hX⟩ : ∃ X, w1.heap.size = X := ⟨_, rfl⟩
  have hk12 : Kp w1.heap.size w1 w2 := by rw [hw2]; exact (Kp.refl _ _).alloc (Nat.le_refl _) _
  have x0 : w2.cell? ⟨X, 0, none⟩ = some (.slice (some ⟨xb, xo, none⟩) L1.length xc) := by rw [hw2, ← hX, World.cell?_alloc_new]; rfl
  have x1 : w2.cell? ⟨X, 1, none⟩ = some (.int .i64 0) := by rw [hw2, ← hX, World.cell?_alloc_new]; rfl
  have HN12 := Lib.hid (HN1.out.kp hk12)
  have HK2 := Lib.hid (HK1.out.trans (hk12.mono HK1.out.size))
  rw [← hw2]
  rw [hX]
  clear hw2 hX hk12 hb0 hb1' HN1
  refine (CB _ HK2.out).mono ?_
  rintro e w3 ⟨L2, v2, rfl, hn2, hc2, hb2, hl2, k2⟩
  obtain ⟨yb, yo, yc, rfl⟩ := hn2.shape hc2.some
  have x0' := fun o => cl_al (k2.cells x0) o
  have x1' := fun o => cl_al (k2.cells x1) o
  have HN13 := Lib.hid (HN12.out.kp k2)
  have HN2 := Lib.hid hn2
  have HC2 := Lib.hid hc2
  have HB2 := Lib.hid hb2
  have HK3 := Lib.hid (HK2.out.trans (k2.mono HK2.out.size))
  clear k2 x0 x1 CB hn2 hc2 hb2 HN12
  have hal : ∀ o, Kp w3.heap.size w3 (w3.alloc o) := fun o => (Kp.refl _ _).alloc (Nat.le_refl _) _
  have CE := fun o => rEqual_ok L1 L2 0 0 (w3.alloc o) xb xo xc yb yo yc HC1.out.closed (by omega) (by omega) (HN13.out.kp (hal o)) (HN2.out.kp (hal o))
  have HAL := Lib.hid hal
  clear hal
  go_wp2_with (go_at_call 27; refine (CE _).mono ?_; rintro e w4 ⟨r, rfl, hr, k4⟩; have HR := Lib.hid hr; have HK4 := Lib.hid ((HK3.out.trans ((HAL.out _).mono HK3.out.size)).trans (k4.mono (Nat.le_trans HK3.out.size (HAL.out _).size))); clear hr k4)
  go_ret2
  refine ⟨r, rfl, HR.out.trans ⟨fun ⟨_, h⟩ => ?_, fun h => ⟨by simp, HC1.out.unique HC2.out ((HB1.out.trans h).trans HB2.out.symm)⟩⟩, HK4.out⟩
  subst h
  exact HB1.out.symm.trans HB2.out
end Go.Ev
