import Derived.Test.YtbjcopckkgdmgaaGreatDoorLw2
import Derived.Test.YtbjcopckkgdmgaaGreatDoorLw3
import Derived.Test.YtbjcopckkgdmgaaGreatDoorRe1
import Derived.Test.YtbjcopckkgdmgaaGreatDoorSa
import Derived.LoopN
/- The document's own Compare. -/
namespace Go.Ev
open Go.Proofs Go.RowKit Go.Lib
set_option maxRecDepth 100000

/-- An empty tree's box, laid before. -/
structure Old (B : Nat) (w : World) (X : Nat) : Prop where
  ge : B ≤ X
  blk : w.heap[X]? = some (Obj.cells #[Value.slice none 0 0, Value.int IntKind.i64 0] 24 (0, 0))
abbrev bxO : Obj := Obj.cells #[Value.slice none 0 0, Value.int IntKind.i64 0] 24
section
variable {B X : Nat} {u w w' : World}
theorem Old.lt (h : Old B w X) : X < w.heap.size := (Array.getElem?_eq_some_iff.1 h.blk).1
theorem Old.kp (h : Old B w X) (k : Kp w.heap.size w w') : Old B w' X := ⟨h.ge, (k.block X h.lt).trans h.blk⟩
theorem Old.new (hB : B ≤ w.heap.size) : Old B (w.alloc bxO) w.heap.size := ⟨hB, Array.getElem?_push_size⟩
theorem kp_one {o : Obj} (h : Kp (w.alloc o).heap.size (w.alloc o) w') : Kp w.heap.size w w' := ((Kp.refl _ _).alloc (Nat.le_refl _) _).trans (h.mono (by simp))
theorem kp_two {o o' : Obj} (h : Kp ((w.alloc o).alloc o').heap.size ((w.alloc o).alloc o') w') : Kp w.heap.size w w' := kp_one (kp_one h)
theorem old1 (hB : B ≤ w.heap.size) (h : Kp (w.alloc bxO).heap.size (w.alloc bxO) w') : Old B w' w.heap.size := (Old.new hB).kp h
theorem old2a (hB : B ≤ w.heap.size) {o : Obj} (h : Kp ((w.alloc bxO).alloc o).heap.size ((w.alloc bxO).alloc o) w') : Old B w' w.heap.size := (Old.new hB).kp (kp_one h)
theorem old2b (hB : B ≤ w.heap.size) {o : Obj} (h : Kp ((w.alloc o).alloc bxO).heap.size ((w.alloc o).alloc bxO) w') : Old B w' (w.heap.size + 1) := by
  have := (Old.new (w := w.alloc o) (B := B) (by simp; omega)).kp h
  simpa using this
theorem kp_undrew (h : Kp w.drew.heap.size w.drew w') : Kp w.heap.size w w' := ⟨h.os, h.output, h.size, h.block⟩
theorem Old.c0 (h : Old B w X) : w.cell? ⟨X, 0, none⟩ = some (.slice none 0 0) := by rw [cell_of h.blk]; rfl
theorem Old.c1 (h : Old B w X) : w.cell? ⟨X, 1, none⟩ = some (.int .i64 0) := by rw [cell_of h.blk]; rfl
theorem Old.fz (h : Old B w X) (o : Nat) : w.frozen? ⟨X, o, none⟩ = false := by simp [World.frozen?, h.blk]
theorem Old.al (h : Old B w X) (o : Obj) : Old B (w.alloc o) X := h.kp ((Kp.refl _ _).alloc (Nat.le_refl _) _)
theorem kpa {a : World} (h : Kp a.heap.size a w) (o : Obj) : Kp a.heap.size a (w.alloc o) := h.alloc h.size _
theorem kps {a : World} (h : Kp a.heap.size a w) (hX : a.heap.size ≤ X) (o : Nat) (v : Value) : Kp a.heap.size a (w.setCell ⟨X, o, none⟩ v) := h.setCell (p := ⟨X, o, none⟩) hX v
/-- All that a walk asks of it. -/
theorem Old.facts (h : Old B w X) : w.cell? ⟨X, 0, none⟩ = some (.slice none 0 0) ∧ w.cell? ⟨X, 1, none⟩ = some (.int .i64 0) ∧ (∀ o, w.frozen? ⟨X, o, none⟩ = false) ∧
    (∀ ob, (w.alloc ob).cell? ⟨X, 0, none⟩ = some (.slice none 0 0)) ∧ (∀ ob, (w.alloc ob).cell? ⟨X, 1, none⟩ = some (.int .i64 0)) ∧ (∀ ob o, (w.alloc ob).frozen? ⟨X, o, none⟩ = false) ∧ X ≠ w.heap.size ∧ w.heap.size ≠ X :=
  ⟨h.c0, h.c1, h.fz, fun ob => (h.al ob).c0, fun ob => (h.al ob).c1, fun ob => (h.al ob).fz, Nat.ne_of_lt h.lt, fun e => Nat.ne_of_lt h.lt e.symm⟩
end

section
variable {w : World} {b o b' o' : Nat} {u v : Value}
theorem cl_new {x : Value} {t : TypeId} (hb : b = w.heap.size) : (w.alloc (.cells #[u, x] t)).cell? ⟨b, 0, none⟩ = some u := by
  subst hb
  rw [World.cell?_alloc_new]; rfl
theorem cl_alloc (h : w.cell? ⟨b, o, none⟩ = some u) (ob : Obj) : (w.alloc ob).cell? ⟨b, o, none⟩ = some u := by
  rw [World.cell?_alloc_past _ _ _ (block_lt_of_cell h)]; exact h
theorem cl_blk (h : w.cell? ⟨b, o, none⟩ = some u) (hn : b ≠ b') : (w.setCell ⟨b', o', none⟩ v).cell? ⟨b, o, none⟩ = some u :=
  Chg.cell ((Chg.refl b' w).setCell o' v) hn h
theorem cl_off (h : w.cell? ⟨b, o, none⟩ = some u) (hn : o ≠ o') : (w.setCell ⟨b', o', none⟩ v).cell? ⟨b, o, none⟩ = some u := by
  have e := World.cell?_setCell_other (w := w) (a := ⟨b', o', none⟩) (b := ⟨b, o, none⟩) (v := v) (h := fun e => hn (by injection e with _ e2; exact e2.symm))
  exact e.trans h
theorem cl_same (h : w.cell? ⟨b, o, none⟩ = some (.slice none 0 0)) : (w.setCell ⟨b, o, none⟩ v).cell? ⟨b, o, none⟩ = some v := by
  exact World.cell?_setCell_same' _ _ _ (by rw [h]; rfl)
end
/-- Of what there was, two blocks alone may have changed. -/
structure Chg2 (X Y : Nat) (w w' : World) : Prop where
  size : w.heap.size ≤ w'.heap.size
  block : ∀ g, g < w.heap.size → g ≠ X → g ≠ Y → w'.heap[g]? = w.heap[g]?
theorem Chg2.refl (X Y : Nat) (w : World) : Chg2 X Y w w := ⟨Nat.le_refl _, fun _ _ _ _ => rfl⟩
theorem Chg2.kp {X Y : Nat} {w w' w'' : World} (h : Chg2 X Y w w') (k : Kp w'.heap.size w' w'') : Chg2 X Y w w'' :=
  ⟨Nat.le_trans h.size k.size, fun g hg h1 h2 => (k.block g (Nat.lt_of_lt_of_le hg h.size)).trans (h.block g hg h1 h2)⟩
theorem Chg2.alloc {X Y : Nat} {w w' : World} (h : Chg2 X Y w w') (o : Obj) : Chg2 X Y w (w'.alloc o) := h.kp ((Kp.refl _ _).alloc (Nat.le_refl _) _)
theorem Chg2.setX {X Y : Nat} {w w' : World} (h : Chg2 X Y w w') (o : Nat) (v : Value) : Chg2 X Y w (w'.setCell ⟨X, o, none⟩ v) :=
  ⟨by simp [World.setCell]; exact h.size, fun g hg h1 h2 => (Below.heap_setCell _ _ _ _ h1).trans (h.block g hg h1 h2)⟩
theorem Chg2.setY {X Y : Nat} {w w' : World} (h : Chg2 X Y w w') (o : Nat) (v : Value) : Chg2 X Y w (w'.setCell ⟨Y, o, none⟩ v) :=
  ⟨by simp [World.setCell]; exact h.size, fun g hg h1 h2 => (Below.heap_setCell _ _ _ _ h2).trans (h.block g hg h1 h2)⟩
theorem OwnN.safe {B X Y : Nat} {w wf : World} {v : Value} {ns : List Nd} {us : List Value} (h : OwnN B w v ns us) (hc : Chg2 X Y w wf) (hX : X < B ∨ w.heap.size ≤ X) (hY : Y < B ∨ w.heap.size ≤ Y) : NodesV wf v ns := by
  have key : ∀ (z : Value) (n size : Nat) (xs : List Value), Own B size w z n xs → Own B size wf z n xs := fun z n size xs hz => hz.of_same fun g hg hl => by
    have := (hz.lt hg).1
    exact hc.block g hl (by omega) (by omega)
  exact (OwnN.mk (key _ _ _ _ h.own) h.len (fun j x u hj hu => key _ _ _ _ (h.args j x u hj hu)) h.off h.apart h.size).nodes

theorem valid_kinds {ns : List Nd} {root : Int} (h : validB ns root = true) : ∀ n ∈ ns, 0 ≤ n.kind ∧ n.kind ≤ 4 := by
  unfold validB at h
  simp only [Bool.and_eq_true] at h
  intro n hn
  have hg := List.all_eq_true.1 h.2 n hn
  unfold goodNode nodeB at hg
  repeat' split at hg
  all_goals first | omega | (cases hg)
theorem face_kinds {ns : List Nd} {root : Int} (h : validB ns root = true) {x t : Nat} {f : Face} (hf : faceAt ns x t = some f) : 0 ≤ f.1 ∧ f.1 ≤ 4 := by
  unfold faceAt at hf
  cases hn : nodeAt ns x t with
  | none => rw [hn] at hf; cases hf
  | some y =>
    rw [hn] at hf
    have hf : faceOf ns y = some f := hf
    unfold faceOf at hf
    cases hy : ns[y]? with
    | none => rw [hy] at hf; cases hf
    | some n =>
      rw [hy] at hf
      have e : n.face = f := Option.some.inj hf
      have := valid_kinds h n (List.mem_of_getElem? hy)
      rw [← e]
      exact this
theorem Cmp.bis {A B A' B' : List Nd} {x y x' y' : Nat} {c : Int} (h : Cmp fcmp A x B y c) (ha : Bis A x A' x') (hb : Bis B y B' y') : Cmp fcmp A' x' B' y' c := by
  rcases h with ⟨h1, h2⟩ | ⟨t, f, g, ⟨h1, h2⟩, h3, h4, h5⟩
  · exact .inl ⟨h1, fun t => by rw [← ha t, ← hb t]; exact h2 t⟩
  · exact .inr ⟨t, f, g, ⟨fun u hu => by rw [← ha u, ← hb u]; exact h1 u hu, by rw [← ha t, ← hb t]; exact h2⟩, by rw [← ha t]; exact h3, by rw [← hb t]; exact h4, h5⟩
theorem count_set : ∀ (bs : List Bool) (i : Nat), bs[i]? = some false → (bs.set i true).count false + 1 = bs.count false
  | [], i, h => by simp at h
  | b :: bs, 0, h => by
    obtain rfl : b = false := by simpa using h
    simp
  | b :: bs, i + 1, h => by
    have := count_set bs i (by simpa using h)
    simp only [List.set_cons_succ, List.count_cons]
    omega

/-- The two are linked from now on. -/
def link (ρ : Nat → Nat) (a b : Nat) : Nat → Nat := fun u => if ρ u = ρ a then ρ b else ρ u
theorem link_split {ρ : Nat → Nat} {a b u v : Nat} (h : link ρ a b u = link ρ a b v) : ρ u = ρ v ∨ (ρ u = ρ a ∧ ρ v = ρ b) ∨ (ρ u = ρ b ∧ ρ v = ρ a) := by
  unfold link at h
  split at h <;> split at h
  · rename_i h1 h2; exact .inl (h1.trans h2.symm)
  · rename_i h1 h2; exact .inr (.inl ⟨h1, h.symm⟩)
  · rename_i h1 h2; exact .inr (.inr ⟨h, h2⟩)
  · exact .inl h
theorem link_mono {ρ : Nat → Nat} {a b u v : Nat} (h : ρ u = ρ v) : link ρ a b u = link ρ a b v := by unfold link; rw [h]
theorem link_here (ρ : Nat → Nat) (a b : Nat) : link ρ a b a = link ρ a b b := by unfold link; rw [if_pos rfl]; split <;> rfl

def Links (n1 n2 : Nat) (ρ : Nat → Nat) (bs : List Bool) : Prop := ∀ x y, x < n1 → y < n2 → bs.getD (x * n2 + y) false = true → ρ x = ρ (n1 + y)
theorem pair_inj {n2 x y x' y' : Nat} (hy : y < n2) (hy' : y' < n2) (h : x * n2 + y = x' * n2 + y') : x = x' ∧ y = y' := by
  have h1 : (x * n2 + y) / n2 = x := by rw [Nat.mul_comm, Nat.mul_add_div (by omega)]; rw [Nat.div_eq_of_lt hy]; rfl
  have h2 : (x' * n2 + y') / n2 = x' := by rw [Nat.mul_comm, Nat.mul_add_div (by omega)]; rw [Nat.div_eq_of_lt hy']; rfl
  rw [h] at h1
  have : x = x' := h1.symm.trans h2
  subst this
  exact ⟨rfl, by omega⟩
theorem Links.step {n1 n2 : Nat} {ρ : Nat → Nat} {bs : List Bool} (h : Links n1 n2 ρ bs) {x y : Nat} (hx : x < n1) (hy : y < n2) : Links n1 n2 (link ρ x (n1 + y)) (bs.set (x * n2 + y) true) := by
  intro x' y' hx' hy' hb
  by_cases he : x * n2 + y = x' * n2 + y'
  · obtain ⟨rfl, rfl⟩ := pair_inj hy hy' he
    exact link_here _ _ _
  · rw [List.getD, List.getElem?_set_ne he] at hb
    exact link_mono (h x' y' hx' hy' hb)
theorem pair_lt {n1 n2 x y : Nat} (hx : x < n1) (hy : y < n2) : x * n2 + y < n1 * n2 := by
  have : (x + 1) * n2 ≤ n1 * n2 := Nat.mul_le_mul_right _ hx
  rw [Nat.add_mul, Nat.one_mul] at this
  omega

/-- What holds while two least graphs are compared. -/
structure CSt (L1 L2 : List Nd) (w5 : World) (mb pb po q cap gk : Nat) (wr : World) : Prop where
  st : ∃ Q now ρ bs, OInv L1 L2 0 0 ρ Q now ∧ Seg w5.heap.size 2 wr pb po q cap (qCells Q) ∧ Q.length = q ∧ RowB wr mb bs ∧ bs.length = L1.length * L2.length ∧ Links L1.length L2.length ρ bs ∧ 9 * bs.count false + q ≤ gk
  ne : pb ≠ mb
  lo : w5.heap.size ≤ mb
  kp : Kp w5.heap.size w5 wr
  big : gk ≤ 600000000

set_option maxHeartbeats 8000000 in
theorem rcompare_good (va vb : Value) (A B : List Nd) (za zb : Int) (W : World) (ha : NodesV W va A) (hb : NodesV W vb B) (hva : validB A za = true) (hvb : validB B zb = true) :
    Calls Tryz.prog 31 #[.agg #[va, .int .i64 za], .agg #[vb, .int .i64 zb]] W (CompPost A B za.toNat zb.toNat W) := by
  obtain ⟨ra, rfl, hra, hA8, hA⟩ := valid_nodes hva
  obtain ⟨rb, rfl, hrb, hB8, hB⟩ := valid_nodes hvb
  obtain ⟨ab, ao, ac, rfl⟩ := ha.shape (by omega)
  obtain ⟨bb, bo, bc, rfl⟩ := hb.shape (by omega)
  have CA := fun w (hk : Kp W.heap.size W w) => rvalid_ok _ A ra w (ha.kp hk)
  have CB := fun w (hk : Kp W.heap.size W w) => rvalid_ok _ B rb w (hb.kp hk)
  rw [hva] at CA
  rw [hvb] at CB
  have KA := Lib.hid (fun (t : Nat) (f : Face) (hf : faceAt A ra t = some f) => face_kinds hva hf)
  have KB := Lib.hid (fun (t : Nat) (f : Face) (hf : faceAt B rb t = some f) => face_kinds hvb hf)
  have LA := fun w (hk : Kp W.heap.size W w) => least_ok A ra w ab ao ac hA hra (by omega) (ha.kp hk)
  have LB := fun w (hk : Kp W.heap.size W w) => least_ok B rb w bb bo bc hB hrb (by omega) (hb.kp hk)
  clear ha hb hva hvb
  go_enter Tryz.func31, Tryz.ntmps31
  go_wp2_with fail
  obtain ⟨W2, hW2⟩ : ∃ W2, W2 = (W.alloc (Obj.cells #[Value.slice (some ⟨ab, ao, none⟩) A.length ac, Value.int IntKind.i64 ra] 24)).alloc (Obj.cells #[Value.slice (some ⟨bb, bo, none⟩) B.length bc, Value.int IntKind.i64 rb] 24) := ⟨_, rfl⟩
  have hk2 : Kp W.heap.size W W2 := by rw [hW2]; exact ((Kp.refl _ _).alloc (Nat.le_refl _) _).alloc (by simp) _
  have a0 : W2.cell? ⟨W.heap.size, 0, none⟩ = some (.slice (some ⟨ab, ao, none⟩) A.length ac) := by rw [hW2]; go_simp
  have a1 : W2.cell? ⟨W.heap.size, 1, none⟩ = some (.int .i64 ra) := by rw [hW2]; go_simp
  have b0 : W2.cell? ⟨W.heap.size + 1, 0, none⟩ = some (.slice (some ⟨bb, bo, none⟩) B.length bc) := by rw [hW2]; go_simp
  have b1 : W2.cell? ⟨W.heap.size + 1, 1, none⟩ = some (.int .i64 rb) := by rw [hW2]; go_simp
  rw [← hW2]
  clear hW2
  refine (CA _ hk2).mono ?_
  rintro e w1 ⟨rfl, k1⟩
  have hk1 := hk2.trans (k1.mono hk2.size)
  replace a0 := k1.cells a0
  replace a1 := k1.cells a1
  replace b0 := k1.cells b0
  replace b1 := k1.cells b1
  have HK1 := Lib.hid hk1
  clear k1 hk1 hk2
  go_wp2_with fail
  refine (CB _ HK1.out).mono ?_
  rintro e w3 ⟨rfl, k3⟩
  have hk3 := HK1.out.trans (k3.mono HK1.out.size)
  replace a0 := k3.cells a0
  replace a1 := k3.cells a1
  replace b0 := k3.cells b0
  replace b1 := k3.cells b1
  have HK3 := Lib.hid hk3
  clear k3 hk3 CA CB
  go_wp2_with fail
  rename_i K hK
  have REST : ∀ (X Y xb xo xc yb yo yc : Nat) (L1 L2 : List Nd) (w5 : World), w5.cell? ⟨X, 0, none⟩ = some (.slice (some ⟨xb, xo, none⟩) L1.length xc) → w5.cell? ⟨Y, 0, none⟩ = some (.slice (some ⟨yb, yo, none⟩) L2.length yc) →
      NodesV w5 (.slice (some ⟨xb, xo, none⟩) L1.length xc) L1 → NodesV w5 (.slice (some ⟨yb, yo, none⟩) L2.length yc) L2 → Canon L1 → Canon L2 → Bis L1 0 A ra → Bis L2 0 B rb → L1.length ≤ 8000 → L2.length ≤ 8000 → Kp W.heap.size W w5 →
      K { tmps := #[Value.agg #[Value.slice (some ⟨ab, ao, none⟩) A.length ac, Value.int IntKind.i64 ra], Value.agg #[Value.slice (some ⟨bb, bo, none⟩) B.length bc, Value.int IntKind.i64 rb], Value.pointer (some ⟨W.heap.size, 0, none⟩), Value.pointer (some ⟨W.heap.size + 1, 0, none⟩), Value.int IntKind.i64 0, Value.int IntKind.i64 0, Value.pointer (some ⟨X, 0, none⟩), Value.pointer (some ⟨Y, 0, none⟩), undef, undef, undef, undef, undef, undef, Value.agg #[Value.slice (some ⟨ab, ao, none⟩) A.length ac, Value.int IntKind.i64 ra], Value.bool true, Value.bool false, Value.bool false, Value.agg #[Value.slice (some ⟨bb, bo, none⟩) B.length bc, Value.int IntKind.i64 rb], Value.bool true, Value.bool false, Value.bool false, Value.pointer (some ⟨W.heap.size, 0, none⟩), Value.slice (some ⟨ab, ao, none⟩) A.length ac, Value.pointer (some ⟨W.heap.size, 1, none⟩), Value.int IntKind.i64 ra, Value.agg #[Value.slice (some ⟨xb, xo, none⟩) L1.length xc, Value.int IntKind.i64 0], Value.pointer (some ⟨W.heap.size + 1, 0, none⟩), Value.slice (some ⟨bb, bo, none⟩) B.length bc, Value.pointer (some ⟨W.heap.size + 1, 1, none⟩), Value.int IntKind.i64 rb, Value.agg #[Value.slice (some ⟨yb, yo, none⟩) L2.length yc, Value.int IntKind.i64 0], undef, undef, undef, undef, undef, undef, undef, undef, undef, undef, undef, undef, undef, undef, undef, undef, undef, undef, undef, undef, undef, undef, undef, undef, undef, undef, undef, undef, undef, undef, undef, undef, undef, undef, undef, undef, undef, undef, undef, undef, undef, undef, undef, undef, undef, undef, undef, undef, undef, undef, undef, undef, undef, undef, undef, undef, undef, undef, undef, undef, undef, undef, undef, undef, undef, undef, undef, undef, undef, undef, undef, undef, undef, undef, undef, undef, undef, undef, undef, undef, undef, undef, undef, undef, undef, undef], defers := [] } w5 := by
    intro X Y xb xo xc yb yo yc L1 L2 w5 x0 y0 hn1 hn2 hc1 hc2 hb1 hb2 hl1 hl2 hkp
    have HN1 := Lib.hid hn1
    have HN2 := Lib.hid hn2
    have HC1 := Lib.hid hc1
    have HC2 := Lib.hid hc2
    have HB1 := Lib.hid hb1
    have HB2 := Lib.hid hb2
    have HKW := Lib.hid hkp
    have hp1 := hc1.some
    have hp2 := hc2.some
    clear hn1 hn2 hc1 hc2 hb1 hb2 hkp
    refine hK _ _ ?_
    clear hK
    obtain ⟨m, hm⟩ : ∃ m, L1.length * L2.length = m := ⟨_, rfl⟩
    have hm8 : m ≤ 64000000 := by rw [← hm]; exact Nat.mul_le_mul hl1 hl2
    have HM := Lib.hid hm
    have hw0 : IntKind.i64.wrap ((L1.length : Int) * (L2.length : Int)) = (m : Int) := by
      have e : (L1.length : Int) * (L2.length : Int) = (m : Int) := by rw [← hm]; simp
      rw [e]
      exact wrap_of _ (by omega) (by omega)
    clear hm
    obtain ⟨i4, hi0, hz0, hz1, hz2⟩ := info_parts Tryz.info4
    have hb4 : i4.bytes * m ≤ 281474976710656 := by rw [hz2]; omega
    go_wp2_with (first
      | (refine wpList_make_full _ rfl _ _ 57 rfl w5.heap.size 4 i4 _ 1 Tryz.underlying57 hi0 hz0 hz1 .i64 .i64 m m m rfl rfl rfl rfl hb4 (by unfold maxLen; omega) (Nat.le_refl _) ?_; intro w6 hown6 hgr6))
    have hrow := RowB.made hown6
    have k6 : Kp w5.heap.size w5 w6 := (Kp.refl _ _).grownBy hgr6 (Nat.le_refl _) (fun k hk => by cases hk)
    have hal : Kp w6.heap.size w6 (w6.alloc (Obj.cells #[Value.int IntKind.i64 0, Value.int IntKind.i64 0] 60)) := (Kp.refl _ _).alloc (Nat.le_refl _) _
    have hml := hrow.lt
    have H0 := Lib.hid (show CSt L1 L2 w5 w5.heap.size w6.heap.size 0 1 1 (9 * m + 1) (w6.alloc (Obj.cells #[Value.int IntKind.i64 0, Value.int IntKind.i64 0] 60)) from
      ⟨⟨[(0, 0, 0)], 0, id, List.replicate m false, OInv.start (fun u v _ _ h => h), ⟨k6.size, rfl, Nat.le_refl _, by unfold maxLen; omega, #[Value.int .i64 0, Value.int .i64 0], 60, heap_alloc_new _ _, by simp, fun j u hj => by rw [Nat.zero_add]; simpa [qCells] using hj⟩, rfl, hrow.kp hal, by rw [List.length_replicate, HM.out], (fun x y hx hy hb => by
        rw [List.getD, List.getElem?_replicate] at hb
        split at hb <;> cases hb), by simp⟩, by omega, Nat.le_refl _, k6.trans (hal.mono k6.size), by omega⟩)
    clear hrow k6 hal hml hown6 hgr6 hb4 hi0 hz0 hz1 hz2
    go_loopg [9] (9 * m + 1) (fun gk v wr => ∃ pb po q cap, v = .slice (some ⟨pb, po, none⟩) q cap ∧ CSt L1 L2 w5 w5.heap.size pb po q cap gk wr)
    case atStart => exact ⟨_, _, _, _, rfl, H0.out⟩
    case round =>
      obtain ⟨pb, po, q, cap, rfl, hst⟩ := hrel
      clear H0
      obtain ⟨F, hFF⟩ : ∃ F, F = gk := ⟨_, rfl⟩
      subst hFF
      obtain ⟨⟨Q, now, ρ, bs, hinv, hseg, hQ, hrow, hbl, hlk, hgk⟩, hne, hlo, hkp, hbig⟩ := hst
      have hfit := hseg.fit
      have hmaxc : cap ≤ 9223372036854775807 := by have := hseg.max; unfold maxLen at this; omega
      have HK := Lib.hid hkp
      have HLO := Lib.hid hlo
      have HNE := Lib.hid hne
      have hmbl := hrow.lt
      match Q, hQ, hinv, hseg with
      | [], hQ, hinv, hseg =>
        have HI := Lib.hid hinv
        obtain rfl : q = 0 := hQ.symm
        clear hinv hseg hrow hkp hlo hne hQ hlk hbl
        go_wp2
        go_ret2
        exact ⟨0, rfl, Cmp.bis (.inl ⟨rfl, fun t => HI.out.none t⟩) HB1.out HB2.out, HKW.out.trans (HK.out.mono HKW.out.size)⟩
      | (x, y, p) :: Q', hQ, hinv, hseg =>
        have hq : 1 ≤ q := by rw [← hQ]; simp
        have c0 : wr.cell? ⟨pb, po, none⟩ = some (.int .i64 x) := hseg.cell (j := 0) rfl
        have c1 : wr.cell? ⟨pb, po + 1, none⟩ = some (.int .i64 y) := hseg.cell (j := 1) rfl
        have HI := Lib.hid hinv
        have HS := Lib.hid hseg
        have HR := Lib.hid hrow
        have HQ := Lib.hid hQ
        have HG := Lib.hid hgk
        have HBL := Lib.hid hbl
        have HLK := Lib.hid hlk
        obtain ⟨n1, n2, _, _⟩ := hinv.at_ _ (List.mem_cons_self ..)
        have hx : x < L1.length := nodeAt_lt HC1.out.closed hp1 n1
        have hy : y < L2.length := nodeAt_lt HC2.out.closed hp2 n2
        obtain ⟨at_, hat⟩ : ∃ at_, x * L2.length + y = at_ := ⟨_, rfl⟩
        have hatm : at_ < m := by rw [← hat, ← HM.out]; exact pair_lt hx hy
        obtain ⟨b, hb⟩ : ∃ b, bs.getD at_ false = b := ⟨_, rfl⟩
        have hmet : wr.cell? ⟨w5.heap.size, at_, none⟩ = some (.bool b) := by rw [← hb]; exact hrow.cell (by rw [hbl, HM.out]; exact hatm)
        have hmf : wr.frozen? ⟨w5.heap.size, at_, none⟩ = false := hrow.frozen at_
        have x0' := HK.out.cells x0
        have y0' := HK.out.cells y0
        have hmet' : ∀ o, (wr.alloc o).cell? ⟨w5.heap.size, at_, none⟩ = some (.bool b) := fun o => by rw [World.cell?_alloc_past _ _ _ hmbl]; exact hmet
        have y0'' : ∀ o, (wr.alloc o).cell? ⟨Y, 0, none⟩ = some (.slice (some ⟨yb, yo, none⟩) L2.length yc) := fun o => by rw [World.cell?_alloc_past _ _ _ (block_lt_of_cell y0')]; exact y0'
        have hw1 : IntKind.i64.wrap ((x : Int) * (L2.length : Int)) = (x : Int) * (L2.length : Int) := by
          have e : (x : Int) * (L2.length : Int) = ((x * L2.length : Nat) : Int) := by simp
          rw [e]
          exact wrap_of _ (by omega) (by omega)
        have hw2 : IntKind.i64.wrap ((x : Int) * (L2.length : Int) + (y : Int)) = (at_ : Int) := by
          have e : (x : Int) * (L2.length : Int) + (y : Int) = (at_ : Int) := by rw [← hat]; simp
          rw [e]
          exact wrap_of _ (by omega) (by omega)
        have HAT := Lib.hid hat
        have HB := Lib.hid hb
        clear hinv n1 n2 hseg hrow hkp hlo hne hQ hgk hbl hlk hat hb
        obtain ⟨na, hna⟩ : ∃ na, L1[x]? = some na := ⟨_, List.getElem?_eq_getElem hx⟩
        obtain ⟨nb, hnb⟩ : ∃ nb, L2[y]? = some nb := ⟨_, List.getElem?_eq_getElem hy⟩
        have HNA := Lib.hid hna
        have HNB := Lib.hid hnb
        clear hna hnb
        have HT : Hid (Seg w5.heap.size 2 wr pb (if cap = 1 then po else po + 2) (q - 1) (cap - 1) (qCells Q')) := by
          have h1 := HS.out
          have h2 := HQ.out
          obtain ⟨q', rfl⟩ : ∃ q', q = q' + 1 := ⟨q - 1, by omega⟩
          have hl : Q'.length = q' := by simpa using h2
          split
          · rename_i e
            subst e
            obtain rfl : q' = 0 := by omega
            obtain rfl : Q' = [] := List.length_eq_zero_iff.1 hl
            exact h1.nothing 0 (by omega)
          · exact Seg.tail (ys := [Value.int .i64 x, Value.int .i64 y]) h1 rfl
        by_cases hcap : cap = 1
        all_goals
          have HT2 := Lib.hid (HT.out)
          simp only [hcap, if_pos, if_neg, not_false_eq_true] at HT2
          cases b
          · go_wp2_with fail
            obtain ⟨w7, hw7⟩ : ∃ w7, w7 = (wr.setCell ⟨w5.heap.size, at_, none⟩ (.bool true)).alloc (Obj.cells #[Value.int IntKind.i64 x, Value.int IntKind.i64 y] 60) := ⟨_, rfl⟩
            obtain ⟨bx, hbx⟩ : ∃ bx, wr.heap.size = bx := ⟨_, rfl⟩
            have hz7 : w7.heap.size = bx + 1 := by rw [hw7, ← hbx]; simp [World.setCell]
            have hC7 : Chg w5.heap.size wr w7 := by rw [hw7]; exact ((Chg.refl _ _).setCell _ _).trans ⟨rfl, rfl, by simp, fun k hk _ => Below.heap_alloc _ _ _ hk⟩
            have HR7 := Lib.hid (show RowB w7 w5.heap.size (bs.set at_ true) by rw [hw7]; exact (HR.out.set at_ true).of_heap (Below.heap_alloc _ _ _ (by simpa [World.setCell] using hmbl)))
            have p0 : w7.cell? ⟨bx, 0, none⟩ = some (.int .i64 (x : Int)) := by
              rw [hw7, ← hbx, show wr.heap.size = (wr.setCell ⟨w5.heap.size, at_, none⟩ (.bool true)).heap.size by simp [World.setCell], World.cell?_alloc_new]; rfl
            have p1 : w7.cell? ⟨bx, 1, none⟩ = some (.int .i64 (y : Int)) := by
              rw [hw7, ← hbx, show wr.heap.size = (wr.setCell ⟨w5.heap.size, at_, none⟩ (.bool true)).heap.size by simp [World.setCell], World.cell?_alloc_new]; rfl
            have K7 := Lib.hid (HK.out.chg hC7 HK.out.size (Nat.le_refl _))
            have x7 := K7.out.cells x0
            have y7 := K7.out.cells y0
            have HT7 := Lib.hid (HT2.out.chg hC7 HNE.out)
            obtain ⟨n1, n2, _, _⟩ := HI.out.at_ _ (List.mem_cons_self ..)
            have f1 : faceOf L1 x = some na.face := by unfold faceOf; rw [HNA.out]; rfl
            have f2 : faceOf L2 y = some nb.face := by unfold faceOf; rw [HNB.out]; rfl
            have hka := KA.out p na.face (by rw [← HB1.out p, faceAt_node n1]; exact f1)
            have hkb := KB.out p nb.face (by rw [← HB2.out p, faceAt_node n2]; exact f2)
            have HFD := Lib.hid (fun hne => HI.out.differ HC1.out.closed HC2.out.closed hp1 hp2 (show faceOf L1 x ≠ faceOf L2 y from hne))
            have HF1 := Lib.hid ((faceAt_node n1).trans f1)
            have HF2 := Lib.hid ((faceAt_node n2).trans f2)
            have HE1 := Lib.hid f1
            have HE2 := Lib.hid f2
            have nA := HN1.out.at_ HNA.out
            have nB := HN2.out.at_ HNB.out
            obtain ⟨g0, g1, g2, _, va, g3, hav⟩ := nA
            obtain ⟨k0, k1, k2, _, vb, k3, hbv⟩ := nB
            obtain ⟨vab, vac, rfl⟩ := hav.len
            obtain ⟨vbb, vbc, rfl⟩ := hbv.len
            have HAV := Lib.hid hav
            have HBV := Lib.hid hbv
            have G3 := Lib.hid g3
            have K3 := Lib.hid k3
            replace g0 := K7.out.cells g0
            replace g1 := K7.out.cells g1
            replace g2 := K7.out.cells g2
            replace g3 := K7.out.cells g3
            replace k0 := K7.out.cells k0
            replace k1 := K7.out.cells k1
            replace k2 := K7.out.cells k2
            replace k3 := K7.out.cells k3
            have CO := fun w h h' => rorder_ok na nb (.slice vab na.args.length vac) (.slice vbb nb.args.length vbc) w h h' hka.1 hka.2 hkb.1 hkb.2
            have hav7 := hav.grown fun _ _ _ h => K7.out.cells h
            have hbv7 := hbv.grown fun _ _ _ h => K7.out.cells h
            have HAV7 := Lib.hid hav7
            have HBV7 := Lib.hid hbv7
            have hmb7 : w5.heap.size < bx := by omega
            have hpbl : pb < bx := by have := HS.out.lt; omega
            rw [← hw7]
            rw [hbx]
            clear hw7 hbx hC7 n1 n2 f1 f2 hka hkb hav hbv hav7 hbv7 c0 c1 x0' y0' y0'' hmet hmet' hmf HT HT2 HK HR
            by_cases hc : fcmp na.face nb.face = 0
            · rw [hc] at CO
              have HC := Lib.hid hc
              clear hc
              go_still_tail 12, (by kernel_rfl)
              change wpList _ _ _ _ _ w7.drew
              go_wp2_with fail
              refine (CO _ ?_ ?_).mono ?_
              · exact HAV7.out.grown fun _ _ _ h => h
              · exact HBV7.out.grown fun _ _ _ h => h
              rintro e w8 ⟨rfl, hk8⟩
              have hk8 : Kp w7.heap.size w7 w8 := ⟨hk8.os, hk8.output, hk8.size, hk8.block⟩
              have p0' := hk8.cells p0
              have p1' := hk8.cells p1
              have HT8 := Lib.hid (HT7.out.kp hk8)
              have HR8 := Lib.hid (HR7.out.kp hk8)
              have K8 := Lib.hid (K7.out.trans (hk8.mono K7.out.size))
              have x8 := K8.out.cells x0
              have y8 := K8.out.cells y0
              have g8 := K8.out.cells G3.out
              clear p0 p1 g0 g1 g2 g3 k0 k1 k2 k3 x7 y7 HT7 HR7 K7 HAV7 HBV7 hk8 CO
              have hff := (fcmp_cp.eq _ _).1 HC.out
              have hlen : na.args.length = nb.args.length := by
                unfold Nd.face at hff
                injection hff with _ h2
                injection h2 with h3 _
              have h8 := (HC1.out.closed na (List.mem_of_getElem? HNA.out)).1
              have HLEN := Lib.hid hlen
              have HFF := Lib.hid hff
              have hlQ : Q'.length = q - 1 := by have := HQ.out; simp only [List.length_cons] at this; omega
              have HLQ := Lib.hid hlQ
              have hcnt : (bs.set at_ true).count false + 1 = bs.count false := count_set bs at_ (by
                have h1 := HB.out
                have h2 : at_ < bs.length := by rw [HBL.out, HM.out]; exact hatm
                rw [List.getD, List.getElem?_eq_getElem h2, Option.getD_some] at h1
                rw [List.getElem?_eq_getElem h2, h1])
              have HCNT := Lib.hid hcnt
              have hqF : q ≤ 600000000 := by have := HG.out; omega
              clear hff hlen hlQ hcnt
              go_wp2_with fail
              go_loopg [9, 13] na.args.length (fun g2 v9 i wi => ∃ k pb' po' cap', k + g2 = na.args.length ∧ i = .int .i64 k ∧ v9 = .slice (some ⟨pb', po', none⟩) (q - 1 + k) cap' ∧
                Seg w5.heap.size 2 wi pb' po' (q - 1 + k) cap' (qCells Q' ++ qCells ((under na.args nb.args p).take k)) ∧ pb' ≠ w5.heap.size ∧ pb' ≠ bx ∧ RowB wi w5.heap.size (bs.set at_ true) ∧ Kp w5.heap.size w5 wi ∧
                wi.cell? ⟨bx, 0, none⟩ = some (.int .i64 (x : Int)) ∧ wi.cell? ⟨bx, 1, none⟩ = some (.int .i64 (y : Int)))
              case atStart =>
                refine ⟨0, pb, _, _, by omega, rfl, rfl, ?_, HNE.out, by omega, HR8.out, K8.out, p0', p1'⟩
                simpa [qCells] using HT8.out
              case round =>
                obtain ⟨k, pb', po', cap', hkg, rfl, rfl, hseg, hne, hneb, hrow, hkp, p0, p1⟩ := hrel
                have hfit := hseg.fit
                have hmaxc' : cap' ≤ 9223372036854775807 := by have := hseg.max; unfold maxLen at this; omega
                have x9 := hkp.cells x0
                have y9 := hkp.cells y0
                have g9 := hkp.cells G3.out
                by_cases hlt : k < na.args.length
                · obtain ⟨b1', o1', rfl, hca⟩ := HAV.out.some hlt
                  obtain ⟨b2', o2', hvbb, hcb⟩ := HBV.out.some (k := k) (by rw [← HLEN.out]; exact hlt)
                  have K3 : Hid (w5.cell? ⟨yb, yo + y * 4 + 3, none⟩ = some (.slice (some ⟨b2', o2', none⟩) nb.args.length vbc)) := Lib.hid (by have h := K3.out; rwa [hvbb] at h)
                  have k9 := hkp.cells K3.out
                  clear hvbb
                  have hlt2 : k < nb.args.length := by rw [← HLEN.out]; exact hlt
                  obtain ⟨z1, hz1e⟩ : ∃ z, na.args.getD k 0 = z := ⟨_, rfl⟩
                  obtain ⟨z2, hz2e⟩ : ∃ z, nb.args.getD k 0 = z := ⟨_, rfl⟩
                  rw [hz1e] at hca
                  rw [hz2e] at hcb
                  have HZ1 := Lib.hid hz1e
                  have HZ2 := Lib.hid hz2e
                  clear hz1e hz2e
                  have hca0 := Lib.hid hca
                  have hcb0 := Lib.hid hcb
                  replace hca := hkp.cells hca
                  replace hcb := hkp.cells hcb
                  obtain ⟨i60, hi0, hz0, hz1, hz2⟩ := info_parts Tryz.info60
                  have HS5 := Lib.hid hseg
                  have HR5 := Lib.hid hrow
                  have HK5 := Lib.hid hkp
                  have HNE5 := Lib.hid (And.intro hne hneb)
                  have hx0 := Lib.hid (fun a ha => ((HC1.out.closed na (List.mem_of_getElem? HNA.out)).2 a ha).1)
                  have hy0 := Lib.hid (fun a ha => ((HC2.out.closed nb (List.mem_of_getElem? HNB.out)).2 a ha).1)
                  have hqk : q - 1 + k + 1 ≤ 600000010 := by omega
                  have hszw : w5.heap.size ≤ wr.heap.size := hkp.size
                  have hrl := hrow.lt
                  have hbxl := block_lt_of_cell p0
                  clear hseg hrow hkp hne hneb
                  have HPX := Lib.hid (show PX w5 bx (x : Int) (y : Int) wr from ⟨HK5.out, p0, p1⟩)
                  have MK2 : ∀ w', PX w5 bx (x : Int) (y : Int) w' → w'.cell? ⟨X, 0, none⟩ = some (.slice (some ⟨xb, xo, none⟩) L1.length xc) ∧ w'.cell? ⟨Y, 0, none⟩ = some (.slice (some ⟨yb, yo, none⟩) L2.length yc) ∧
                      w'.cell? ⟨bx, 0, none⟩ = some (.int .i64 (x : Int)) ∧ w'.cell? ⟨bx, 1, none⟩ = some (.int .i64 (y : Int)) ∧ w'.cell? ⟨xb, xo + x * 4 + 3, none⟩ = some (.slice (some ⟨b1', o1', none⟩) na.args.length vac) ∧
                      w'.cell? ⟨yb, yo + y * 4 + 3, none⟩ = some (.slice (some ⟨b2', o2', none⟩) nb.args.length vbc) ∧ w'.cell? ⟨b1', o1' + k, none⟩ = some (.int .i64 z1) ∧ w'.cell? ⟨b2', o2' + k, none⟩ = some (.int .i64 z2) ∧ PX w5 bx (x : Int) (y : Int) w' :=
                    fun w' h => ⟨h.kp.cells x0, h.kp.cells y0, h.p0, h.p1, h.kp.cells G3.out, h.kp.cells K3.out, h.kp.cells hca0.out, h.kp.cells hcb0.out, h⟩
                  have hpx := HPX.out
                  go_wp2_with fail
                  go_region_held3 (fun w' => w'.cell? ⟨X, 0, none⟩ = some (.slice (some ⟨xb, xo, none⟩) L1.length xc) ∧ w'.cell? ⟨Y, 0, none⟩ = some (.slice (some ⟨yb, yo, none⟩) L2.length yc) ∧
                      w'.cell? ⟨bx, 0, none⟩ = some (.int .i64 (x : Int)) ∧ w'.cell? ⟨bx, 1, none⟩ = some (.int .i64 (y : Int)) ∧ w'.cell? ⟨xb, xo + x * 4 + 3, none⟩ = some (.slice (some ⟨b1', o1', none⟩) na.args.length vac) ∧
                      w'.cell? ⟨yb, yo + y * 4 + 3, none⟩ = some (.slice (some ⟨b2', o2', none⟩) nb.args.length vbc) ∧ w'.cell? ⟨b1', o1' + k, none⟩ = some (.int .i64 z1) ∧ w'.cell? ⟨b2', o2' + k, none⟩ = some (.int .i64 z2) ∧ PX w5 bx (x : Int) (y : Int) w')
                    ((refine MK2 _ ?_; repeat (first | assumption | refine PX.drew ?_ | refine PX.alloc ?_ _)))
                    (first
                      | (refine step_append_mine rfl (.tmp 94) (.tmp 116) 61 rfl w5.heap.size 60 i60 (.agg #[.int .i64 0, .int .i64 0]) 2 16 Tryz.underlying61 hi0 hz0 hz1 hz2 rfl (by decide) (.slice (some ⟨pb', po', none⟩) (q - 1 + k) cap') (q - 1 + k) _ rfl ((HS5.out.kp (((Kp.refl _ _).alloc (Nat.le_refl _) _).drew)).own) ⟨wr.heap.size, 0, none⟩ 1 1 [.int .i64 z1, .int .i64 z2] rfl rfl (news_alloc wr.drew [.int .i64 z1, .int .i64 z2] 60) (by simp [Value.oneCell']) (by unfold maxLen; omega) (by omega) (by simp; omega) ?_
                         intro v' w4 hown4 hgrow4 hblk4
                         obtain ⟨b4, o4, c4, rfl, hs4⟩ := hown4.seg (by omega)
                         have hC4 := Chg.of_grownBy hgrow4
                         have hpx4 := (hpx.drew.alloc _).chg hC4 HS5.out.lo HNE5.out.2))
                  have hlo4 := HS5.out.lo
                  have hsz4 := hgrow4.size
                  have hne4 : b4 ≠ w5.heap.size ∧ b4 ≠ bx := by
                    rcases hblk4 with e | ⟨g, e, hg⟩
                    · obtain rfl : b4 = pb' := Option.some.inj e
                      exact HNE5.out
                    · obtain rfl : b4 = g := Option.some.inj e
                      have hg' : wr.heap.size + 1 ≤ b4 := by simpa using hg
                      omega
                  have hcells : qCells Q' ++ qCells ((under na.args nb.args p).take k) ++ [Value.int .i64 z1, Value.int .i64 z2] = qCells Q' ++ qCells ((under na.args nb.args p).take (k + 1)) := by
                    rw [← HZ1.out, ← HZ2.out]
                    exact qCells_step hlt hx0.out hy0.out hlt2
                  rw [hcells] at hs4
                  have HS4 := Lib.hid hs4
                  have HR4 := Lib.hid (((HR5.out.kp (((Kp.refl _ _).alloc (Nat.le_refl _) (Obj.cells #[Value.int .i64 z1, Value.int .i64 z2] 60)).drew)).chg hC4 (Ne.symm HNE5.out.1)))
                  have HPX4 := Lib.hid hpx4
                  clear hs4 hcells hpx4 hpx hgrow4 hown4 hblk4 hC4 MK2
                  go_wp2_with fail
                  go_roundg (gk - 1)
                  case measure => omega
                  case rel => exact ⟨k + 1, b4, o4, c4, by omega, by go_num, rfl, HS4.out, hne4.1, hne4.2, HR4.out, HPX4.out.kp, HPX4.out.p0, HPX4.out.p1⟩
                · obtain rfl : k = na.args.length := by omega
                  have hG := HG.out
                  have hlQ := HLQ.out
                  have hcnt := HCNT.out
                  have hres := HI.out.go HC1.out.closed HC2.out.closed hp1 hp2 HNA.out HNB.out HFF.out (ρ' := link ρ x (L1.length + y)) (fun u v _ _ h => link_split h)
                  rw [List.take_of_length_le (by rw [under_length]; exact Nat.le_refl _), ← qCells_append] at hseg
                  go_wp2_with fail
                  go_roundg (9 * (bs.set at_ true).count false + (q - 1 + na.args.length))
                  case measure => omega
                  case rel =>
                    exact ⟨pb', po', q - 1 + na.args.length, cap', rfl, ⟨_, p + 1, _, bs.set at_ true, hres, hseg, by rw [List.length_append, under_length, hlQ], hrow, by rw [List.length_set]; exact HBL.out, by rw [← HAT.out]; exact HLK.out.step hx hy, Nat.le_refl _⟩, hne, HLO.out, hkp, by omega⟩
            · have hcne : (fcmp na.face nb.face != 0) = true := by simpa using hc
              have HC := Lib.hid hc
              clear hc
              go_still_tail 12, (by kernel_rfl)
              change wpList _ _ _ _ _ w7.drew
              go_wp2_with fail
              refine (CO _ ?_ ?_).mono ?_
              · exact HAV7.out.grown fun _ _ _ h => h
              · exact HBV7.out.grown fun _ _ _ h => h
              rintro e w8 ⟨rfl, hk8⟩
              have HK8 := Lib.hid (K7.out.drew.trans (hk8.mono K7.out.size))
              clear hk8 CO
              have HCMP := Lib.hid (show Cmp fcmp L1 0 L2 0 (fcmp na.face nb.face) from .inr ⟨p, _, _, HFD.out (fun e => HC.out (by rw [HE1.out, HE2.out] at e; rw [Option.some.inj e]; exact (fcmp_cp.eq _ _).2 rfl)), HF1.out, HF2.out, rfl⟩)
              go_wp2
              go_ret2
              exact ⟨_, rfl, HCMP.out.bis HB1.out HB2.out, HKW.out.trans (HK8.out.mono HKW.out.size)⟩
          · go_wp2_with fail
            have hQ : Q'.length = q - 1 := by have := HQ.out; simp only [List.length_cons] at this; omega
            have hG := HG.out
            have hal : Kp wr.heap.size wr (wr.alloc (Obj.cells #[Value.int IntKind.i64 x, Value.int IntKind.i64 y] 60)) := (Kp.refl _ _).alloc (Nat.le_refl _) _
            have hln : ρ x = ρ (L1.length + y) := HLK.out x y hx hy (by rw [HAT.out]; exact HB.out)
            go_roundg (F - 1)
            case measure => omega
            case rel => exact ⟨pb, _, q - 1, _, rfl, ⟨Q', p + 1, ρ, bs, HI.out.skip HC1.out.closed HC2.out.closed hp1 hp2 hln, HT2.out.kp hal, hQ, HR.out.kp hal, HBL.out, HLK.out, by omega⟩, HNE.out, HLO.out, HK.out.trans (hal.mono HK.out.size), by omega⟩
  have REST2 : ∀ (X Y xb xo xc yb yo yc : Nat) (L1 L2 : List Nd) (us1 us2 : List Value) (B1 B2 : Nat) (w1 w2 w5 : World), w5.cell? ⟨X, 0, none⟩ = some (.slice (some ⟨xb, xo, none⟩) L1.length xc) → w5.cell? ⟨Y, 0, none⟩ = some (.slice (some ⟨yb, yo, none⟩) L2.length yc) →
      OwnN B1 w1 (.slice (some ⟨xb, xo, none⟩) L1.length xc) L1 us1 → OwnN B2 w2 (.slice (some ⟨yb, yo, none⟩) L2.length yc) L2 us2 → Chg2 X Y w1 w5 → Chg2 X Y w2 w5 → (X < B1 ∨ w1.heap.size ≤ X) → (Y < B1 ∨ w1.heap.size ≤ Y) → (X < B2 ∨ w2.heap.size ≤ X) → (Y < B2 ∨ w2.heap.size ≤ Y) →
      Canon L1 → Canon L2 → Bis L1 0 A ra → Bis L2 0 B rb → L1.length ≤ 8000 → L2.length ≤ 8000 → Kp w3.heap.size w3 w5 →
      K { tmps := #[Value.agg #[Value.slice (some ⟨ab, ao, none⟩) A.length ac, Value.int IntKind.i64 ra], Value.agg #[Value.slice (some ⟨bb, bo, none⟩) B.length bc, Value.int IntKind.i64 rb], Value.pointer (some ⟨W.heap.size, 0, none⟩), Value.pointer (some ⟨W.heap.size + 1, 0, none⟩), Value.int IntKind.i64 0, Value.int IntKind.i64 0, Value.pointer (some ⟨X, 0, none⟩), Value.pointer (some ⟨Y, 0, none⟩), undef, undef, undef, undef, undef, undef, Value.agg #[Value.slice (some ⟨ab, ao, none⟩) A.length ac, Value.int IntKind.i64 ra], Value.bool true, Value.bool false, Value.bool false, Value.agg #[Value.slice (some ⟨bb, bo, none⟩) B.length bc, Value.int IntKind.i64 rb], Value.bool true, Value.bool false, Value.bool false, Value.pointer (some ⟨W.heap.size, 0, none⟩), Value.slice (some ⟨ab, ao, none⟩) A.length ac, Value.pointer (some ⟨W.heap.size, 1, none⟩), Value.int IntKind.i64 ra, Value.agg #[Value.slice (some ⟨xb, xo, none⟩) L1.length xc, Value.int IntKind.i64 0], Value.pointer (some ⟨W.heap.size + 1, 0, none⟩), Value.slice (some ⟨bb, bo, none⟩) B.length bc, Value.pointer (some ⟨W.heap.size + 1, 1, none⟩), Value.int IntKind.i64 rb, Value.agg #[Value.slice (some ⟨yb, yo, none⟩) L2.length yc, Value.int IntKind.i64 0], undef, undef, undef, undef, undef, undef, undef, undef, undef, undef, undef, undef, undef, undef, undef, undef, undef, undef, undef, undef, undef, undef, undef, undef, undef, undef, undef, undef, undef, undef, undef, undef, undef, undef, undef, undef, undef, undef, undef, undef, undef, undef, undef, undef, undef, undef, undef, undef, undef, undef, undef, undef, undef, undef, undef, undef, undef, undef, undef, undef, undef, undef, undef, undef, undef, undef, undef, undef, undef, undef, undef, undef, undef, undef, undef, undef, undef, undef, undef, undef, undef, undef, undef, undef, undef, undef], defers := [] } w5 := fun X Y xb xo xc yb yo yc L1 L2 us1 us2 B1 B2 w1 w2 w5 hx hy h1 h5 c1 c2 a1 a2 a3 a4 h2 h6 h3 h7 h4 h8 hk =>
    REST X Y xb xo xc yb yo yc L1 L2 w5 hx hy (h1.safe c1 a1 a2) (h5.safe c2 a3 a4) h2 h6 h3 h7 h4 h8 (HK3.out.trans (hk.mono HK3.out.size))
  clear REST hK
  have MK : ∀ w', Kp w3.heap.size w3 w' → w'.cell? ⟨W.heap.size, 0, none⟩ = some (.slice (some ⟨ab, ao, none⟩) A.length ac) ∧ w'.cell? ⟨W.heap.size, 1, none⟩ = some (.int .i64 ra) ∧ w'.cell? ⟨W.heap.size + 1, 0, none⟩ = some (.slice (some ⟨bb, bo, none⟩) B.length bc) ∧ w'.cell? ⟨W.heap.size + 1, 1, none⟩ = some (.int .i64 rb) ∧ Kp w3.heap.size w3 w' :=
    fun w' h => ⟨h.cells a0, h.cells a1, h.cells b0, h.cells b1, h⟩
  have LA' := fun w (hk : Kp w3.heap.size w3 w) => LA w (HK3.out.trans (hk.mono HK3.out.size))
  have LB' := fun w (hk : Kp w3.heap.size w3 w) => LB w (HK3.out.trans (hk.mono HK3.out.size))
  clear LA LB
  go_region_held3 (fun w' => w'.cell? ⟨W.heap.size, 0, none⟩ = some (.slice (some ⟨ab, ao, none⟩) A.length ac) ∧ w'.cell? ⟨W.heap.size, 1, none⟩ = some (.int .i64 ra) ∧ w'.cell? ⟨W.heap.size + 1, 0, none⟩ = some (.slice (some ⟨bb, bo, none⟩) B.length bc) ∧ w'.cell? ⟨W.heap.size + 1, 1, none⟩ = some (.int .i64 rb) ∧ Kp w3.heap.size w3 w')
    ((refine MK _ ?_; repeat (first | assumption | exact Kp.refl _ _ | refine Kp.drew ?_ | refine kpa ?_ _ | refine kps ?_ (by first | assumption | exact Kp.size (by assumption) | (have := Kp.size (by assumption : Kp w3.heap.size w3 _); omega)) _ _)))
    (first
      | (rename (_ ∧ _ ∧ _ ∧ _ ∧ Kp _ _ _) => hS; go_at_call 44; (with_reducible refine (LA' _ hS.2.2.2.2).mono ?_); rintro e w' ⟨L1, v1, us1, rfl, h1, h2, h3, h4, hk1⟩; obtain ⟨xb, xo, xc, rfl⟩ := h1.nodes.shape h2.some
         have hR := hS.2.2.2.2.trans (hk1.mono hS.2.2.2.2.size)
         first
           | (have hOa := old2a (B := w3.heap.size) (w := w3) (Nat.le_refl _) (kp_undrew hk1); have hOb := old2b (B := w3.heap.size) (w := w3) (Nat.le_refl _) (kp_undrew hk1); have h1' := h1.mono (B' := w3.heap.size + 2) (by simp); have hz1 : w3.heap.size + 2 ≤ w'.heap.size := by (have hz := hk1.size; simpa using hz))
           | (have hOa := old1 (B := w3.heap.size) (w := w3) (Nat.le_refl _) (kp_undrew hk1); have h1' := h1.mono (B' := w3.heap.size + 1) (by simp); have hz1 : w3.heap.size + 1 ≤ w'.heap.size := by (have hz := hk1.size; simpa using hz))
           | (have h1' := h1.mono (B' := w3.heap.size) (by simp); have hz1 : w3.heap.size ≤ w'.heap.size := by (have hz := hk1.size; simpa using hz)))
      | (rename (_ ∧ _ ∧ _ ∧ _ ∧ Kp _ _ _) => hS; go_at_call 44; (with_reducible refine (LB' _ hS.2.2.2.2).mono ?_); rintro e wz ⟨L2, v2, us2, rfl, h5, h6, h7, h8, hk2⟩; obtain ⟨yb, yo, yc, rfl⟩ := h5.nodes.shape h6.some
         have hR2 := hS.2.2.2.2.trans (hk2.mono hS.2.2.2.2.size)
         first
           | (have hPa := old2a (B := w3.heap.size) hR.size hk2; have hPb := old2b (B := w3.heap.size) hR.size hk2; (obtain ⟨p0, p1, p2, p3, p4, p5, p6, p7⟩ := hPa.facts; have hGa := hPa.ge); (obtain ⟨q0, q1, q2, q3, q4, q5, q6, q7⟩ := hPb.facts; have hGb := hPb.ge); have h5' := h5.mono (B' := w'.heap.size + 2) (by simp); have hz2 : w'.heap.size + 2 ≤ wz.heap.size := by (have hz := hk2.size; simpa using hz))
           | (have hPa := old1 (B := w3.heap.size) hR.size hk2; have hPb := hOa.kp (kp_one hk2); have hn1 := Nat.ne_of_lt hOa.lt; have hn2 := Ne.symm hn1; (obtain ⟨p0, p1, p2, p3, p4, p5, p6, p7⟩ := hPa.facts; have hGa := hPa.ge); (obtain ⟨q0, q1, q2, q3, q4, q5, q6, q7⟩ := hPb.facts; have hGb := hPb.ge); have h5' := h5.mono (B' := w'.heap.size + 1) (by simp); have hz2 : w'.heap.size + 1 ≤ wz.heap.size := by (have hz := hk2.size; simpa using hz))
           | (have hPa := old1 (B := w3.heap.size) hR.size hk2; (obtain ⟨p0, p1, p2, p3, p4, p5, p6, p7⟩ := hPa.facts; have hGa := hPa.ge); have h5' := h5.mono (B' := w'.heap.size + 1) (by simp); have hz2 : w'.heap.size + 1 ≤ wz.heap.size := by (have hz := hk2.size; simpa using hz))
           | (have hPa := hOa.kp hk2; have hPb := hOb.kp hk2; (obtain ⟨p0, p1, p2, p3, p4, p5, p6, p7⟩ := hPa.facts; have hGa := hPa.ge); (obtain ⟨q0, q1, q2, q3, q4, q5, q6, q7⟩ := hPb.facts; have hGb := hPb.ge); have h5' := h5.mono (B' := w'.heap.size) (by simp); have hz2 : w'.heap.size ≤ wz.heap.size := hk2.size)
           | (have hPa := hOa.kp hk2; (obtain ⟨p0, p1, p2, p3, p4, p5, p6, p7⟩ := hPa.facts; have hGa := hPa.ge); have h5' := h5.mono (B' := w'.heap.size) (by simp); have hz2 : w'.heap.size ≤ wz.heap.size := hk2.size)
           | (have h5' := h5.mono (B' := w'.heap.size) (by simp); have hz2 : w'.heap.size ≤ wz.heap.size := hk2.size)
         have hc1 : ∀ X Y, Chg2 X Y w' wz := fun X Y => by first | exact (Chg2.refl X Y w').kp hk2 | exact ((Chg2.refl X Y w').alloc _).kp hk2 | exact (((Chg2.refl X Y w').alloc _).alloc _).kp hk2))
  all_goals change K _ _
  all_goals refine REST2 _ _ xb xo xc yb yo yc L1 L2 us1 us2 _ _ w' wz _ ?_ ?_ h1' h5' ?_ ?_ (by omega) (by omega) (by omega) (by omega) h2 h6 h3 h7 (by omega) (by omega) ?_
  all_goals clear REST2 MK LA' LB'
  all_goals try with_reducible
    (repeat (first | exact hc1 _ _ | exact Chg2.refl _ _ _ | refine Chg2.alloc ?_ _ | refine Chg2.setX ?_ _ _ | refine Chg2.setY ?_ _ _)
     done)
  all_goals try with_reducible
    (repeat (first | exact hR2 | refine kpa ?_ _ | refine kps ?_ (by omega) _ _)
     done)
  all_goals try
    (repeat (first
      | (with_reducible refine cl_new (by simp [World.setCell]))
      | (with_reducible exact p0)
      | (with_reducible exact q0)
      | (with_reducible apply cl_same)
      | (with_reducible refine cl_off ?_ (by decide))
      | (with_reducible refine cl_blk ?_ (by omega))
      | (with_reducible refine cl_alloc ?_ _))
     done)
end Go.Ev
