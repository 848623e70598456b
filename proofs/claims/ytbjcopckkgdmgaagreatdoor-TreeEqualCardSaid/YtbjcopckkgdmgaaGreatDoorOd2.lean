import Derived.Test.YtbjcopckkgdmgaaGreatDoorOd1
/- Compare and Same. -/
namespace Go.Ev
open Go.Proofs Go.RowKit Go.Lib
set_option maxRecDepth 100000

/-- A valid tree: its root's number, and what its nodes are. -/
theorem valid_nodes {ns : List Nd} {root : Int} (h : validB ns root = true) : ∃ r : Nat, root = r ∧ r < ns.length ∧ ns.length ≤ 8000 ∧ GClosed ns := by
  unfold validB at h
  simp only [Bool.and_eq_true, decide_eq_true_eq] at h
  obtain ⟨⟨⟨h1, h2⟩, h3, h4⟩, h5⟩ := h
  refine ⟨root.toNat, by omega, by omega, h2, fun n hn => ?_⟩
  have hg := List.all_eq_true.1 h5 n hn
  unfold goodNode nodeB at hg
  have hz : n.args.length = 0 → n.args.length ≤ 8 ∧ ∀ a ∈ n.args, 0 ≤ a ∧ a < (ns.length : Int) := fun e => by
    rw [List.length_eq_zero_iff.1 e]; simp
  repeat' split at hg
  · simp only [Bool.and_eq_true, decide_eq_true_eq] at hg; exact hz hg.2
  · simp only [Bool.and_eq_true, decide_eq_true_eq] at hg; exact hz hg.2
  · simp only [Bool.and_eq_true, decide_eq_true_eq] at hg; exact hz hg.2
  · simp only [Bool.and_eq_true, argsB, decide_eq_true_eq] at hg
    refine ⟨hg.2.1.2, fun a ha => ?_⟩
    have := List.all_eq_true.1 hg.2.2 a ha
    simpa using this
  · simp only [Bool.and_eq_true, decide_eq_true_eq] at hg; exact hz hg.2
  · cases hg

theorem NodesV.shape {w : World} {v : Value} {ns : List Nd} (h : NodesV w v ns) (hn : 0 < ns.length) : ∃ b o c, v = .slice (some ⟨b, o, none⟩) ns.length c := by
  cases h with
  | empty => simp at hn
  | row b o c _ _ _ _ => exact ⟨b, o, c, rfl⟩

def CompPost (A B : List Nd) (ra rb : Nat) (W : World) (e : Ending) (w' : World) : Prop := ∃ c : Int, e = .returned (.tuple #[.int .i64 c, .int .i64 0]) ∧ Cmp fcmp A ra B rb c ∧ Kp W.heap.size W w'
def SamePost (A B : List Nd) (ra rb : Nat) (W : World) (e : Ending) (w' : World) : Prop := ∃ c : Int, e = .returned (.tuple #[.bool (c == 0), .int .i64 0]) ∧ Cmp fcmp A ra B rb c ∧ Kp W.heap.size W w'

set_option maxHeartbeats 2000000 in
theorem compare_ok (va vb : Value) (A B : List Nd) (za zb : Int) (W : World) (ha : NodesV W va A) (hb : NodesV W vb B) (hva : validB A za = true) (hvb : validB B zb = true) :
    Calls Tryz.prog 30 #[.agg #[va, .int .i64 za], .agg #[vb, .int .i64 zb]] W (CompPost A B za.toNat zb.toNat W) := by
  obtain ⟨ra, rfl, hra, hA8, hA⟩ := valid_nodes hva
  obtain ⟨rb, rfl, hrb, hB8, hB⟩ := valid_nodes hvb
  obtain ⟨ab, ao, ac, rfl⟩ := ha.shape (by omega)
  obtain ⟨bb, bo, bc, rfl⟩ := hb.shape (by omega)
  have CA := fun w (hk : Kp W.heap.size W w) => valid_ok _ A ra w (ha.kp hk)
  have CB := fun w (hk : Kp W.heap.size W w) => valid_ok _ B rb w (hb.kp hk)
  rw [hva] at CA
  rw [hvb] at CB
  have CO := fun w (hk : Kp W.heap.size W w) => order_ok A B ra rb w ab ao ac bb bo bc hA hB hra hrb hA8 hB8 (ha.kp hk) (hb.kp hk)
  clear ha hb hva hvb hA hB
  go_enter Tryz.func30, Tryz.ntmps30
  go_wp2_with fail
  obtain ⟨W2, hW2⟩ : ∃ W2, W2 = (W.alloc (Obj.cells #[Value.slice (some ⟨ab, ao, none⟩) A.length ac, Value.int IntKind.i64 ra] 24)).alloc (Obj.cells #[Value.slice (some ⟨bb, bo, none⟩) B.length bc, Value.int IntKind.i64 rb] 24) := ⟨_, rfl⟩
  have hs2 : W.heap.size ≤ W2.heap.size := by rw [hW2]; simp; omega
  have hk2 : Kp W.heap.size W W2 := by rw [hW2]; exact ((Kp.refl _ _).alloc (Nat.le_refl _) _).alloc (by simp) _
  have a0 : W2.cell? ⟨W.heap.size, 0, none⟩ = some (.slice (some ⟨ab, ao, none⟩) A.length ac) := by rw [hW2]; go_simp
  have a1 : W2.cell? ⟨W.heap.size, 1, none⟩ = some (.int .i64 ra) := by rw [hW2]; go_simp
  have b0 : W2.cell? ⟨W.heap.size + 1, 0, none⟩ = some (.slice (some ⟨bb, bo, none⟩) B.length bc) := by rw [hW2]; go_simp
  have b1 : W2.cell? ⟨W.heap.size + 1, 1, none⟩ = some (.int .i64 rb) := by rw [hW2]; go_simp
  rw [← hW2]
  clear hW2
  refine (CA _ hk2).mono ?_
  rintro e w1 ⟨rfl, k1⟩
  have hk1 := hk2.trans (k1.mono hs2)
  replace a0 := k1.cells a0
  replace a1 := k1.cells a1
  replace b0 := k1.cells b0
  replace b1 := k1.cells b1
  have hs1 := Nat.le_trans hs2 k1.size
  have HK1 := Lib.hid hk1
  clear k1 hk1 hk2
  go_wp2_with fail
  refine (CB _ HK1.out).mono ?_
  rintro e w3 ⟨rfl, k3⟩
  have hk3 := HK1.out.trans (k3.mono hs1)
  replace a0 := k3.cells a0
  replace a1 := k3.cells a1
  replace b0 := k3.cells b0
  replace b1 := k3.cells b1
  have hs3 := Nat.le_trans hs1 k3.size
  have HK3 := Lib.hid hk3
  clear k3 hk3
  go_wp2_with fail
  refine (CO _ HK3.out).mono ?_
  rintro e w4 ⟨c, rfl, hcmp, k4⟩
  have HK4 := Lib.hid (HK3.out.trans (k4.mono hs3))
  have HC := Lib.hid hcmp
  clear k4 hcmp
  go_wp2
  go_ret2
  exact ⟨c, rfl, HC.out, HK4.out⟩

set_option maxHeartbeats 2000000 in
theorem same_ok (va vb : Value) (A B : List Nd) (za zb : Int) (W : World) (ha : NodesV W va A) (hb : NodesV W vb B) (hva : validB A za = true) (hvb : validB B zb = true) :
    Calls Tryz.prog 28 #[.agg #[va, .int .i64 za], .agg #[vb, .int .i64 zb]] W (SamePost A B za.toNat zb.toNat W) := by
  obtain ⟨ra, rfl, hra, hA8, hA⟩ := valid_nodes hva
  obtain ⟨rb, rfl, hrb, hB8, hB⟩ := valid_nodes hvb
  obtain ⟨ab, ao, ac, rfl⟩ := ha.shape (by omega)
  obtain ⟨bb, bo, bc, rfl⟩ := hb.shape (by omega)
  have CA := fun w (hk : Kp W.heap.size W w) => valid_ok _ A ra w (ha.kp hk)
  have CB := fun w (hk : Kp W.heap.size W w) => valid_ok _ B rb w (hb.kp hk)
  rw [hva] at CA
  rw [hvb] at CB
  have CO := fun w (hk : Kp W.heap.size W w) => order_ok A B ra rb w ab ao ac bb bo bc hA hB hra hrb hA8 hB8 (ha.kp hk) (hb.kp hk)
  clear ha hb hva hvb hA hB
  go_enter Tryz.func28, Tryz.ntmps28
  go_wp2_with fail
  obtain ⟨W2, hW2⟩ : ∃ W2, W2 = (W.alloc (Obj.cells #[Value.slice (some ⟨ab, ao, none⟩) A.length ac, Value.int IntKind.i64 ra] 24)).alloc (Obj.cells #[Value.slice (some ⟨bb, bo, none⟩) B.length bc, Value.int IntKind.i64 rb] 24) := ⟨_, rfl⟩
  have hs2 : W.heap.size ≤ W2.heap.size := by rw [hW2]; simp; omega
  have hk2 : Kp W.heap.size W W2 := by rw [hW2]; exact ((Kp.refl _ _).alloc (Nat.le_refl _) _).alloc (by simp) _
  have a0 : W2.cell? ⟨W.heap.size, 0, none⟩ = some (.slice (some ⟨ab, ao, none⟩) A.length ac) := by rw [hW2]; go_simp
  have a1 : W2.cell? ⟨W.heap.size, 1, none⟩ = some (.int .i64 ra) := by rw [hW2]; go_simp
  have b0 : W2.cell? ⟨W.heap.size + 1, 0, none⟩ = some (.slice (some ⟨bb, bo, none⟩) B.length bc) := by rw [hW2]; go_simp
  have b1 : W2.cell? ⟨W.heap.size + 1, 1, none⟩ = some (.int .i64 rb) := by rw [hW2]; go_simp
  rw [← hW2]
  clear hW2
  refine (CA _ hk2).mono ?_
  rintro e w1 ⟨rfl, k1⟩
  have hk1 := hk2.trans (k1.mono hs2)
  replace a0 := k1.cells a0
  replace a1 := k1.cells a1
  replace b0 := k1.cells b0
  replace b1 := k1.cells b1
  have hs1 := Nat.le_trans hs2 k1.size
  have HK1 := Lib.hid hk1
  clear k1 hk1 hk2
  go_wp2_with fail
  refine (CB _ HK1.out).mono ?_
  rintro e w3 ⟨rfl, k3⟩
  have hk3 := HK1.out.trans (k3.mono hs1)
  replace a0 := k3.cells a0
  replace a1 := k3.cells a1
  replace b0 := k3.cells b0
  replace b1 := k3.cells b1
  have hs3 := Nat.le_trans hs1 k3.size
  have HK3 := Lib.hid hk3
  clear k3 hk3
  go_wp2_with fail
  refine (CO _ HK3.out).mono ?_
  rintro e w4 ⟨c, rfl, hcmp, k4⟩
  have HK4 := Lib.hid (HK3.out.trans (k4.mono hs3))
  have HC := Lib.hid hcmp
  clear k4 hcmp
  go_wp2
  go_ret2
  exact ⟨c, rfl, HC.out, HK4.out⟩

theorem great_ok (v : Value) (ns : List Nd) (z : Int) (W : World) (h : NodesV W v ns) :
    Calls Tryz.prog 20 #[.agg #[v, .int .i64 z]] W fun e w' => e = .returned (.bool (decide (60 < (ns.length : Int)))) ∧ Kp W.heap.size W w' := by
  obtain ⟨b, c, rfl⟩ : ∃ b c, v = .slice b ns.length c := by
    cases h with
    | empty => exact ⟨_, _, rfl⟩
    | row => exact ⟨_, _, rfl⟩
  clear h
  go_enter Tryz.func20, Tryz.ntmps20
  go_wp2
  go_ret
  exact ⟨rfl, (Kp.refl _ _).alloc (Nat.le_refl _) _⟩
end Go.Ev
