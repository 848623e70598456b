import Derived.Test.YtbjcopckkgdmgaaGreatDoorCsB
import Derived.Test.YtbjcopckkgdmgaaGreatDoorLgA
/- Nodes in memory of the call's own: a slice of nodes, each with arguments in a block of its own. -/
namespace Go.Ev
open Go.Proofs Go.RowKit Go.Lib

def nodeCells (x : Nd) (u : Value) : List Value := [.int .i64 x.kind, .int .i64 x.num, .string x.label, u]
def nodesCells : List Nd → List Value → List Value
  | x :: ns, u :: us => nodeCells x u ++ nodesCells ns us
  | _, _ => []
theorem nodesCells_at : ∀ {ns : List Nd} {us : List Value} {j i : Nat} {x : Nd} {u : Value}, ns[j]? = some x → us[j]? = some u → i < 4 → (nodesCells ns us)[j * 4 + i]? = (nodeCells x u)[i]?
  | [], _, j, _, _, _, h, _, _ => by simp at h
  | _ :: _, [], j, _, _, _, _, h, _ => by simp at h
  | y :: ns, v :: us, 0, i, x, u, h, h', hi => by
    simp only [List.getElem?_cons_zero, Option.some.injEq] at h h'
    subst h h'
    simp only [nodesCells, Nat.zero_mul, Nat.zero_add]
    rw [List.getElem?_append_left (by simpa [nodeCells] using hi)]
  | y :: ns, v :: us, j + 1, i, x, u, h, h', hi => by
    simp only [List.getElem?_cons_succ] at h h'
    simp only [nodesCells]
    rw [List.getElem?_append_right (by simp [nodeCells]; omega)]
    have e : (j + 1) * 4 + i - (nodeCells y v).length = j * 4 + i := by simp [nodeCells]; omega
    rw [e]
    exact nodesCells_at h h' hi
theorem nodesCells_snoc : ∀ {ns : List Nd} {us : List Value} {x : Nd} {u : Value}, us.length = ns.length → nodesCells (ns ++ [x]) (us ++ [u]) = nodesCells ns us ++ nodeCells x u
  | [], [], _, _, _ => by simp [nodesCells]
  | [], _ :: _, _, _, h => by simp at h
  | _ :: _, [], _, _, h => by simp at h
  | y :: ns, v :: us, x, u, h => by
    simp only [List.cons_append, nodesCells, List.append_assoc]
    rw [nodesCells_snoc (by simpa using h)]
/-- The arguments are no part of the cells. -/
theorem nodesCells_args {f : Nat → Nd → List Int} : ∀ {ns : List Nd} {us : List Value} {k : Nat}, nodesCells (ns.mapIdx fun i n => { n with args := f (i + k) n }) us = nodesCells ns us
  | [], _, _ => by simp [nodesCells]
  | _ :: _, [], _ => by simp [nodesCells]
  | y :: ns, v :: us, k => by
    rw [List.mapIdx_cons]
    simp only [nodesCells]
    have h := nodesCells_args (f := f) (ns := ns) (us := us) (k := k + 1)
    have e : (fun i (n : Nd) => ({ n with args := f (i + 1 + k) n } : Nd)) = fun i n => { n with args := f (i + (k + 1)) n } := by
      funext i n; rw [show i + 1 + k = i + (k + 1) by omega]
    rw [e, h]
    rfl

theorem own_args {B : Nat} {w : World} {u : Value} {xs : List Int} (h : Own B 1 w u xs.length (xs.map (Value.int .i64))) : ArgsV w u xs := by
  rcases h.2 with ⟨rfl, h0⟩ | ⟨b, off, cap, cs, t, rfl, hb, hh, hf, hm, hs, hx⟩
  · obtain rfl : xs = [] := List.length_eq_zero_iff.1 h0
    exact .empty _ _
  · refine .row b off cap xs hf (Nat.le_trans hf (Nat.le_trans hm (by unfold maxLen; omega))) fun j x hj => ?_
    rw [cell_of hh]
    exact hx j _ (by rw [List.getElem?_map, hj]; rfl)

/-- A slice of nodes of the call's own. -/
structure OwnN (B : Nat) (w : World) (v : Value) (ns : List Nd) (us : List Value) : Prop where
  own : Own B 4 w v ns.length (nodesCells ns us)
  len : us.length = ns.length
  args : ∀ (j : Nat) (x : Nd) (u : Value), ns[j]? = some x → us[j]? = some u → Own B 1 w u x.args.length (x.args.map (Value.int .i64))
  off : ∀ u ∈ us, ∀ g, u.ownBlock = some g → v.ownBlock ≠ some g
  apart : us.Pairwise fun u u' => ∀ g, u.ownBlock = some g → u'.ownBlock ≠ some g
  size : ∀ x ∈ ns, x.label.size ≤ 9223372036854775807

section
variable {B : Nat} {w w' : World} {v : Value} {ns : List Nd} {us : List Value}
theorem OwnN.nodes (h : OwnN B w v ns us) : NodesV w v ns := by
  rcases h.own.2 with ⟨rfl, h0⟩ | ⟨b, off, cap, cs, t, rfl, hb, hh, hf, hm, hs, hx⟩
  · obtain rfl : ns = [] := List.length_eq_zero_iff.1 h0
    exact .empty _ _
  · refine .row b off cap ns hf (Nat.le_trans hf (Nat.le_trans hm (by unfold maxLen; omega))) fun j x hj => ?_
    have hjl := (List.getElem?_eq_some_iff.1 hj).1
    obtain ⟨u, hu⟩ : ∃ u, us[j]? = some u := ⟨_, List.getElem?_eq_getElem (by rw [h.len]; exact hjl)⟩
    have hc : ∀ i, i < 4 → w.cell? ⟨b, off + j * 4 + i, none⟩ = (nodeCells x u)[i]? := fun i hi => by
      obtain ⟨z, hz⟩ : ∃ z, (nodeCells x u)[i]? = some z := ⟨_, List.getElem?_eq_getElem (by simpa [nodeCells] using hi)⟩
      rw [cell_of hh, hz, Nat.add_assoc]
      exact hx (j * 4 + i) _ ((nodesCells_at hj hu hi).trans hz)
    exact ⟨hc 0 (by omega), hc 1 (by omega), hc 2 (by omega), h.size x (List.mem_of_getElem? hj), u, hc 3 (by omega), own_args (h.args j x u hj hu)⟩
theorem OwnN.kp (h : OwnN B w v ns us) (hk : Kp w.heap.size w w') : OwnN B w' v ns us :=
  ⟨h.own.kp hk, h.len, fun j x u hj hu => (h.args j x u hj hu).kp hk, h.off, h.apart, h.size⟩
theorem OwnN.chg {c : Nat} (h : OwnN B w v ns us) (hk : Chg c w w') (hv : v.ownBlock ≠ some c) (hu : ∀ u ∈ us, u.ownBlock ≠ some c) : OwnN B w' v ns us :=
  ⟨h.own.chg hk hv, h.len, fun j x u hj hu' => (h.args j x u hj hu').chg hk (hu u (List.mem_of_getElem? hu')), h.off, h.apart, h.size⟩
theorem OwnN.nil : OwnN B w (.slice none 0 0) [] [] :=
  ⟨⟨rfl, .inl ⟨rfl, rfl⟩⟩, rfl, fun j x u hj => by simp at hj, fun u hu => (by cases hu), .nil, fun x hx => by cases hx⟩

/-- A node more: its arguments in a block that is none of the others. -/
theorem OwnN.snoc {wa w8 : World} {v' u : Value} {x : Nd} (h : OwnN B w v ns us) (hu : Own B 1 w u x.args.length (x.args.map (Value.int .i64))) (hsz : x.label.size ≤ 9223372036854775807)
    (huv : ∀ g, u.ownBlock = some g → v.ownBlock ≠ some g ∧ ∀ u' ∈ us, u'.ownBlock ≠ some g) (hal : Kp w.heap.size w wa)
    (hown : Own B 4 w8 v' (ns.length + 1) (nodesCells ns us ++ nodeCells x u)) (hgr : wa.grownBy w8 v.ownBlock) (hblk : v'.ownBlock = v.ownBlock ∨ ∃ g, v'.ownBlock = some g ∧ wa.heap.size ≤ g) : OwnN B w8 v' (ns ++ [x]) (us ++ [u]) := by
  have hs := hal.size
  have keep : ∀ (z : Value) (n : Nat) (xs : List Value), Own B 1 w z n xs → (∀ g, z.ownBlock = some g → v.ownBlock ≠ some g) → Own B 1 w8 z n xs := fun z n xs hz hzv =>
    (hz.kp hal).of_same fun g hg hl => grown_other hgr hl (hzv g hg)
  have hlt : ∀ z ∈ us ++ [u], ∀ g, z.ownBlock = some g → g < w.heap.size := by
    intro z hz g hg
    rcases List.mem_append.1 hz with hz | hz
    · obtain ⟨j, hj, rfl⟩ := List.getElem_of_mem hz
      have hjn : j < ns.length := by rw [← h.len]; exact hj
      exact ((h.args j _ _ (List.getElem?_eq_getElem hjn) (List.getElem?_eq_getElem hj)).lt hg).2
    · obtain rfl : z = u := by simpa using hz
      exact (hu.lt hg).2
  refine ⟨?_, by simp [h.len], fun j y z hj hz => ?_, fun z hz g hg => ?_, ?_, fun y hy => ?_⟩
  · rw [nodesCells_snoc h.len]; simpa using hown
  · rcases Nat.lt_or_ge j ns.length with hl | hl
    · rw [List.getElem?_append_left hl] at hj
      rw [List.getElem?_append_left (by rw [h.len]; exact hl)] at hz
      exact keep _ _ _ (h.args j y z hj hz) (h.off z (List.mem_of_getElem? hz))
    · rw [List.getElem?_append_right hl] at hj
      rw [List.getElem?_append_right (by rw [h.len]; exact hl)] at hz
      rw [h.len] at hz
      have e : j - ns.length = 0 := by
        have := (List.getElem?_eq_some_iff.1 hj).1
        simp at this
        omega
      rw [e] at hj hz
      simp only [List.getElem?_cons_zero, Option.some.injEq] at hj hz
      subst hj hz
      exact keep _ _ _ hu fun g hg => (huv g hg).1
  · have hgl := hlt z hz g hg
    rcases hblk with e | ⟨g', e, hg'⟩
    · rw [e]
      rcases List.mem_append.1 hz with hz | hz
      · exact h.off z hz g hg
      · obtain rfl : z = u := by simpa using hz
        exact (huv g hg).1
    · rw [e]
      intro e'
      have := Option.some.inj e'
      omega
  · rw [List.pairwise_append]
    refine ⟨h.apart, by simp, fun a ha b hb g hg => ?_⟩
    obtain rfl : b = u := by simpa using hb
    intro e
    exact (huv g e).2 a ha hg
  · rcases List.mem_append.1 hy with hy | hy
    · exact h.size y hy
    · obtain rfl : y = x := by simpa using hy
      exact hsz
end
end Go.Ev

/- Nodes of the call's own: their arguments replaced one by one, in place. -/
namespace Go.Ev
open Go.Proofs Go.RowKit Go.Lib

theorem Seg.setOne {B b off n cap : Nat} {w : World} {xs : List Value} (h : Seg B 1 w b off n cap xs) {i : Nat} (hi : i < n) (v : Value) : Seg B 1 (w.setCell ⟨b, off + i, none⟩ v) b off n cap (xs.set i v) := by
  obtain ⟨cs, t, h1, h2, h3⟩ := h.blk
  refine ⟨h.lo, by rw [List.length_set]; exact h.len, h.fit, h.max, cs.setIfInBounds (off + i) v, t, ?_, by simpa using h2, fun j u hj => ?_⟩
  · simp [World.setCell, Array.getElem?_modify, h1]
  · have hfit := h.fit
    by_cases hij : i = j
    · subst hij
      have hl : i < xs.length := by rw [h.len]; omega
      rw [List.getElem?_set_self hl] at hj
      rw [Array.getElem?_setIfInBounds_self_of_lt (by omega)]
      exact hj
    · rw [List.getElem?_set_ne hij] at hj
      rw [Array.getElem?_setIfInBounds_ne (by omega)]
      exact h3 j u hj

/-- The first k arguments are replaced. -/
def mixA (c : Nat → Nat) (k : Nat) (xs : List Int) : List Int := xs.mapIdx fun q a => if q < k then ((c a.toNat : Nat) : Int) else a
theorem mixA_length (c : Nat → Nat) (k : Nat) (xs : List Int) : (mixA c k xs).length = xs.length := by simp [mixA]
theorem mixA_zero (c : Nat → Nat) (xs : List Int) : mixA c 0 xs = xs := by
  apply List.ext_getElem?
  intro j
  simp [mixA]
theorem mixA_all (c : Nat → Nat) (xs : List Int) : mixA c xs.length xs = xs.map fun a => ((c a.toNat : Nat) : Int) := by
  apply List.ext_getElem?
  intro j
  simp only [mixA, List.getElem?_mapIdx, List.getElem?_map]
  cases h : xs[j]? with
  | none => rfl
  | some a => simp [(List.getElem?_eq_some_iff.1 h).1]
theorem mixA_at {c : Nat → Nat} {k : Nat} {xs : List Int} {a : Int} (h : xs[k]? = some a) : (mixA c k xs)[k]? = some a := by simp [mixA, h]
theorem mixA_next {c : Nat → Nat} {k : Nat} {xs : List Int} {a : Int} (h : xs[k]? = some a) : mixA c (k + 1) xs = (mixA c k xs).set k ((c a.toNat : Nat) : Int) := by
  apply List.ext_getElem?
  intro j
  have hk := (List.getElem?_eq_some_iff.1 h).1
  by_cases hj : k = j
  · subst hj
    rw [List.getElem?_set_self (by rw [mixA_length]; exact hk)]
    simp [mixA, h]
  · rw [List.getElem?_set_ne hj]
    simp only [mixA, List.getElem?_mapIdx]
    cases xs[j]? with
    | none => rfl
    | some b =>
      simp only [Option.map_some, Option.some.injEq]
      by_cases h1 : j < k
      · rw [if_pos h1, if_pos (by omega)]
      · rw [if_neg h1, if_neg (by omega)]

/-- All arguments of the first i nodes are replaced, and the first k of the next one. -/
def mixN (c : Nat → Nat) (i k : Nat) (N : List Nd) : List Nd := N.mapIdx fun j n => { n with args := if j < i then mixA c n.args.length n.args else if j = i then mixA c k n.args else n.args }
theorem mixN_length (c : Nat → Nat) (i k : Nat) (N : List Nd) : (mixN c i k N).length = N.length := by simp [mixN]
theorem mixN_get {c : Nat → Nat} {i k : Nat} {N : List Nd} {j : Nat} {n : Nd} (h : N[j]? = some n) : (mixN c i k N)[j]? = some { n with args := if j < i then mixA c n.args.length n.args else if j = i then mixA c k n.args else n.args } := by
  simp [mixN, h]
theorem mixN_zero (c : Nat → Nat) (N : List Nd) : mixN c 0 0 N = N := by
  apply List.ext_getElem?
  intro j
  simp only [mixN, List.getElem?_mapIdx]
  cases N[j]? with
  | none => rfl
  | some n =>
    simp only [Option.map_some, Nat.not_lt_zero, if_false, mixA_zero, Option.some.injEq]
    split <;> rfl
theorem mixN_row {c : Nat → Nat} {i : Nat} {N : List Nd} {n : Nd} (h : N[i]? = some n) : mixN c i n.args.length N = mixN c (i + 1) 0 N := by
  apply List.ext_getElem?
  intro j
  cases hj : N[j]? with
  | none => simp [mixN, hj]
  | some m =>
    rw [mixN_get hj, mixN_get hj]
    by_cases h1 : j < i
    · rw [if_pos h1, if_pos (by omega)]
    · by_cases h2 : j = i
      · subst h2
        obtain rfl : m = n := Option.some.inj (hj.symm.trans h)
        rw [if_neg h1, if_pos rfl, if_pos (by omega)]
      · rw [if_neg h1, if_neg h2, if_neg (by omega), mixA_zero]
        split <;> rfl
theorem mixN_all (c : Nat → Nat) (N : List Nd) : mixN c N.length 0 N = quot N c := by
  apply List.ext_getElem?
  intro j
  cases hj : N[j]? with
  | none => simp [mixN, quot, hj]
  | some n => rw [mixN_get hj, quot_get hj, if_pos (List.getElem?_eq_some_iff.1 hj).1, mixA_all]
theorem mixN_cells (c : Nat → Nat) (i k : Nat) (N : List Nd) (us : List Value) : nodesCells (mixN c i k N) us = nodesCells N us :=
  nodesCells_args (f := fun j n => if j < i then mixA c n.args.length n.args else if j = i then mixA c k n.args else n.args) (k := 0)

section
variable {B : Nat} {w : World} {v : Value} {N : List Nd} {us : List Value} {c : Nat → Nat} {i k : Nat} {n : Nd}
/-- A node's cell that holds its arguments. -/
theorem OwnN.argCell (h : OwnN B w v N us) {u : Value} (hi : N[i]? = some n) (hu : us[i]? = some u) : ∃ pb po pc, v = .slice (some ⟨pb, po, none⟩) N.length pc ∧ B ≤ pb ∧ w.cell? ⟨pb, po + i * 4 + 3, none⟩ = some u := by
  have hl := (List.getElem?_eq_some_iff.1 hi).1
  obtain ⟨b, off, cap, rfl, hs⟩ := h.own.seg (by omega)
  obtain ⟨cs, t, h1, h2, h3⟩ := hs.blk
  refine ⟨b, off, cap, rfl, hs.lo, ?_⟩
  rw [cell_of h1, Nat.add_assoc]
  exact h3 (i * 4 + 3) _ (nodesCells_at hi hu (by omega))

theorem OwnN.argCell' {pb po m pc : Nat} (h : OwnN B w (.slice (some ⟨pb, po, none⟩) m pc) N us) {u : Value} (hi : N[i]? = some n) (hu : us[i]? = some u) : w.cell? ⟨pb, po + i * 4 + 3, none⟩ = some u := by
  obtain ⟨b, o, cap, e, _, hc⟩ := h.argCell hi hu
  injection e with e1 e2 e3
  injection e1 with e1
  injection e1 with e4 e5
  subst e4 e5
  exact hc
theorem OwnN.argSlice (h : OwnN B w v (mixN c i k N) us) {u : Value} (hi : N[i]? = some n) (hu : us[i]? = some u) : ∃ a cap, u = .slice a n.args.length cap := by
  have hget := mixN_get (c := c) (i := i) (k := k) hi
  rw [if_neg (Nat.lt_irrefl i), if_pos rfl] at hget
  have ha := h.args i _ u hget hu
  simp only [mixA_length] at ha
  obtain ⟨a, cap, e, _⟩ := own_slice ha
  exact ⟨a, cap, e⟩

/-- One argument replaced. -/
theorem OwnN.setArg (h : OwnN B w v (mixN c i k N) us) {u : Value} (hi : N[i]? = some n) (hu : us[i]? = some u) {a : Int} (hk : n.args[k]? = some a) :
    ∃ b off cap, u = .slice (some ⟨b, off, none⟩) n.args.length cap ∧ B ≤ b ∧ b < w.heap.size ∧ w.cell? ⟨b, off + k, none⟩ = some (.int .i64 a) ∧ (∀ o, w.frozen? ⟨b, o, none⟩ = false) ∧
      OwnN B (w.setCell ⟨b, off + k, none⟩ (.int .i64 ((c a.toNat : Nat) : Int))) v (mixN c i (k + 1) N) us := by
  have hkl := (List.getElem?_eq_some_iff.1 hk).1
  have hget := mixN_get (c := c) (i := i) (k := k) hi
  rw [if_neg (Nat.lt_irrefl i), if_pos rfl] at hget
  have ha := h.args i _ u hget hu
  simp only [mixA_length] at ha
  obtain ⟨b, off, cap, rfl, hs⟩ := ha.seg (by omega)
  obtain ⟨cs, t, h1, h2, h3⟩ := hs.blk
  have hC : Chg b w (w.setCell ⟨b, off + k, none⟩ (.int .i64 ((c a.toNat : Nat) : Int))) := (Chg.refl _ _).setCell _ _
  have hub : (Value.slice (some ⟨b, off, none⟩) n.args.length cap).ownBlock = some b := rfl
  have hmem := List.mem_of_getElem? hu
  refine ⟨b, off, cap, rfl, hs.lo, (Array.getElem?_eq_some_iff.1 h1).1, ?_, fun o => by simp [World.frozen?, h1], ?_, h.len.trans (by simp [mixN_length]), fun j x u' hj hu' => ?_, h.off, h.apart, fun x hx => ?_⟩
  · rw [cell_of h1]
    exact h3 k _ (by rw [List.getElem?_map, mixA_at hk]; rfl)
  · have ho := h.own.chg hC (h.off _ hmem b hub)
    rw [mixN_cells] at ho ⊢
    rwa [mixN_length] at ho ⊢
  · by_cases hji : j = i
    · subst hji
      obtain rfl : u' = _ := Option.some.inj (hu'.symm.trans hu)
      have hget' := mixN_get (c := c) (i := j) (k := k + 1) hi
      rw [if_neg (Nat.lt_irrefl j), if_pos rfl] at hget'
      obtain rfl := Option.some.inj (hget'.symm.trans hj)
      have := (hs.setOne hkl (.int .i64 ((c a.toNat : Nat) : Int))).own
      simp only [mixA_length]
      rw [mixA_next hk, List.map_set]
      exact this
    · have hjl : j < N.length := by have := (List.getElem?_eq_some_iff.1 hj).1; rwa [mixN_length] at this
      have hg1 := mixN_get (c := c) (i := i) (k := k) (List.getElem?_eq_getElem hjl)
      have hg2 := mixN_get (c := c) (i := i) (k := k + 1) (List.getElem?_eq_getElem hjl)
      rw [if_neg hji] at hg1 hg2
      obtain rfl := Option.some.inj (hg2.symm.trans hj)
      refine (h.args j _ u' hg1 hu').chg hC ?_
      intro e
      have hp := List.pairwise_iff_getElem.1 h.apart
      obtain ⟨hj1, hj2⟩ := List.getElem?_eq_some_iff.1 hu'
      obtain ⟨hi1, hi2⟩ := List.getElem?_eq_some_iff.1 hu
      rcases Nat.lt_or_gt_of_ne hji with hlt | hgt
      · have := hp j i hj1 hi1 hlt b (by rw [hj2]; exact e)
        rw [hi2] at this
        exact this hub
      · have := hp i j hi1 hj1 hgt b (by rw [hi2]; exact hub)
        rw [hj2] at this
        exact this e
  · obtain ⟨j, hj, rfl⟩ := List.getElem_of_mem hx
    have hjl : j < N.length := by rwa [mixN_length] at hj
    have hg := mixN_get (c := c) (i := i) (k := k + 1) (List.getElem?_eq_getElem hjl)
    have hg1 := mixN_get (c := c) (i := i) (k := k) (List.getElem?_eq_getElem hjl)
    rw [List.getElem?_eq_getElem hj] at hg
    have h1 := h.size _ (List.mem_of_getElem? hg1)
    rw [Option.some.inj hg]
    exact h1
end
end Go.Ev

/- Classes refined until nothing changes: the mathematics. -/
namespace Go.Ev

/-- The classes of a node's arguments. -/
def sgn (G : List Nd) (c : Nat → Nat) (x : Nat) : List Nat := (argsAt G x).map c

/-- Nodes divided into K classes: nodes that denote the same are of one class, and those of one class look alike. -/
structure Dv (G : List Nd) (c : Nat → Nat) (K : Nat) : Prop where
  lt : ∀ x, x < G.length → c x < K
  onto : ∀ k, k < K → ∃ x, x < G.length ∧ c x = k
  bis : ∀ x y, x < G.length → y < G.length → Bis G x G y → c x = c y
  face : ∀ x y, x < G.length → y < G.length → c x = c y → faceOf G x = faceOf G y

/-- Within a class only these nodes have another signature than the rest, and they all do so. -/
structure Touched (G : List Nd) (c : Nat → Nat) (T : List Nat) : Prop where
  lt : ∀ x ∈ T, x < G.length
  nodup : T.Nodup
  same : ∀ x y, x < G.length → y < G.length → c x = c y → x ∉ T → y ∉ T → sgn G c x = sgn G c y
  diff : ∀ x y, x < G.length → y < G.length → c x = c y → x ∈ T → y ∉ T → sgn G c x ≠ sgn G c y

/-- What dividing does. -/
structure Divided (G : List Nd) (c : Nat → Nat) (K : Nat) (c' : Nat → Nat) (K' : Nat) (moved : List Nat) : Prop where
  iff : ∀ x y, x < G.length → y < G.length → (c' x = c' y ↔ c x = c y ∧ sgn G c x = sgn G c y)
  old : ∀ x, x < G.length → x ∉ moved → c' x = c x
  new : ∀ x ∈ moved, x < G.length ∧ K ≤ c' x
  lt : ∀ x, x < G.length → c' x < K'
  onto : ∀ k, k < K' → ∃ x, x < G.length ∧ c' x = k
  le : K ≤ K'
  more : moved ≠ [] → K < K'

theorem Two.map_eq {l m : List Nat} {c : Nat → Nat} {R : Nat → Nat → Prop} (h : Two R l m) (hs : ∀ a b, a ∈ l → b ∈ m → R a b → c a = c b) : l.map c = m.map c := by
  induction h with
  | nil => rfl
  | cons hr _ ih => rw [List.map_cons, List.map_cons, hs _ _ (List.mem_cons_self ..) (List.mem_cons_self ..) hr, ih fun a b ha hb => hs a b (List.mem_cons_of_mem _ ha) (List.mem_cons_of_mem _ hb)]

theorem Two.of_map_eq {c : Nat → Nat} : ∀ {l m : List Nat}, l.map c = m.map c → Two (fun a b => a ∈ l ∧ b ∈ m ∧ c a = c b) l m
  | [], [], _ => .nil
  | [], _ :: _, h => by simp at h
  | _ :: _, [], h => by simp at h
  | a :: l, b :: m, h => by
    simp only [List.map_cons, List.cons.injEq] at h
    exact .cons ⟨List.mem_cons_self .., List.mem_cons_self .., h.1⟩ ((Two.of_map_eq h.2).mono fun _ _ h => ⟨List.mem_cons_of_mem _ h.1, List.mem_cons_of_mem _ h.2.1, h.2.2⟩)

theorem Dv.step {G : List Nd} (hG : GClosed G) {c c' : Nat → Nat} {K K' : Nat} {moved : List Nat} (h : Dv G c K) (hd : Divided G c K c' K' moved) : Dv G c' K' where
  lt := hd.lt
  onto := hd.onto
  bis x y hx hy hb := (hd.iff x y hx hy).2 ⟨h.bis x y hx hy hb, (hb.args hG hG hx hy).map_eq fun a b ha hb' hab => h.bis a b (argsAt_lt hG ha) (argsAt_lt hG hb') hab⟩
  face x y hx hy he := h.face x y hx hy ((hd.iff x y hx hy).1 he).1

theorem Touched.step {G : List Nd} (hG : GClosed G) {c c' : Nat → Nat} {K K' : Nat} {moved T : List Nat} (h : Dv G c K) (hd : Divided G c K c' K' moved) (hn : T.Nodup)
    (hT : ∀ x, x ∈ T ↔ x < G.length ∧ ∃ a ∈ argsAt G x, a ∈ moved) : Touched G c' T where
  lt x hx := ((hT x).1 hx).1
  nodup := hn
  same x y hx hy he hxT hyT := by
    have key : ∀ z, z < G.length → z ∉ T → sgn G c' z = sgn G c z := fun z hz hzT => by
      refine List.map_congr_left fun a ha => hd.old a (argsAt_lt hG ha) fun hm => hzT ((hT z).2 ⟨hz, a, ha, hm⟩)
    rw [key x hx hxT, key y hy hyT]
    exact ((hd.iff x y hx hy).1 he).2
  diff x y hx hy he hxT hyT hs := by
    obtain ⟨_, a, ha, hm⟩ := (hT x).1 hxT
    obtain ⟨i, hi⟩ := List.getElem?_of_mem ha
    have h1 : (sgn G c' x)[i]? = some (c' a) := by unfold sgn; rw [List.getElem?_map, hi]; rfl
    rw [hs] at h1
    unfold sgn at h1
    rw [List.getElem?_map] at h1
    cases hb : (argsAt G y)[i]? with
    | none => rw [hb] at h1; cases h1
    | some b =>
      rw [hb] at h1
      have h2 : c' b = c' a := Option.some.inj h1
      have hbm := List.mem_of_getElem? hb
      have hbl := argsAt_lt hG hbm
      rw [hd.old b hbl fun hm' => hyT ((hT y).2 ⟨hy, b, hbm, hm'⟩)] at h2
      have := h.lt b hbl
      have := (hd.new a hm).2
      omega

theorem Dv.le {G : List Nd} {c : Nat → Nat} {K : Nat} (h : Dv G c K) : K ≤ G.length := by
  have ch : ∀ k, ∃ x, k < K → x < G.length ∧ c x = k := fun k => by
    by_cases hk : k < K
    · obtain ⟨x, hx⟩ := h.onto k hk; exact ⟨x, fun _ => hx⟩
    · exact ⟨0, fun h => absurd h hk⟩
  obtain ⟨f, hf'⟩ : ∃ f : Nat → Nat, ∀ k, k < K → f k < G.length ∧ c (f k) = k := ⟨fun k => (ch k).choose, fun k => (ch k).choose_spec⟩
  have := nodup_le G.length ((List.range K).map f) ?_ ?_
  · simpa using this
  · rw [List.nodup_iff_pairwise_ne, List.pairwise_map]
    refine List.Pairwise.imp_of_mem ?_ (List.nodup_range (n := K))
    intro a b ha hb hne e
    have h1 := hf' a (by simpa using ha)
    have h2 := hf' b (by simpa using hb)
    rw [e] at h1
    exact hne (h1.2.symm.trans h2.2)
  · intro x hx
    obtain ⟨k, hk, rfl⟩ := List.mem_map.1 hx
    exact (hf' k (by simpa using hk)).1

/-- The nodes of one class denote the same, once no node is touched. -/
theorem Dv.done {G : List Nd} {c : Nat → Nat} {K : Nat} (hG : GClosed G) (h : Dv G c K) (ht : Touched G c []) {x y : Nat} (hx : x < G.length) (hy : y < G.length) (he : c x = c y) : Bis G x G y := by
  refine bis_of (R := fun x y => x < G.length ∧ y < G.length ∧ c x = c y) ?_ ?_ ⟨hx, hy, he⟩
  · rintro x y ⟨h1, h2, h3⟩; exact h.face x y h1 h2 h3
  · rintro x y ⟨h1, h2, h3⟩
    have := ht.same x y h1 h2 h3 (by simp) (by simp)
    exact (Two.of_map_eq this).mono fun a b ⟨ha, hb, hab⟩ => ⟨argsAt_lt hG ha, argsAt_lt hG hb, hab⟩

/-- Of each class one node, with the classes of its arguments. -/
def quotK (G : List Nd) (c : Nat → Nat) (K : Nat) (m : Nat → Nat) : List Nd := (List.range K).map fun k => { G.getD (m k) ⟨0, 0, ⟨#[]⟩, []⟩ with args := (sgn G c (m k)).map fun a => ((a : Nat) : Int) }

theorem quotK_length (G : List Nd) (c : Nat → Nat) (K : Nat) (m : Nat → Nat) : (quotK G c K m).length = K := by simp [quotK]
theorem quotK_get (G : List Nd) (c : Nat → Nat) (m : Nat → Nat) {K k : Nat} (h : k < K) : (quotK G c K m)[k]? = some { G.getD (m k) ⟨0, 0, ⟨#[]⟩, []⟩ with args := (sgn G c (m k)).map fun a => ((a : Nat) : Int) } := by
  unfold quotK; rw [List.getElem?_map, List.getElem?_range h]; rfl
theorem quotK_args (G : List Nd) (c : Nat → Nat) (m : Nat → Nat) {K k : Nat} (h : k < K) : argsAt (quotK G c K m) k = sgn G c (m k) := by
  unfold argsAt
  rw [quotK_get G c m h]
  simp [Function.comp_def]

theorem quotK_closed {G : List Nd} (hG : GClosed G) {c : Nat → Nat} {K : Nat} {m : Nat → Nat} (h : Dv G c K) : GClosed (quotK G c K m) := by
  intro n hn
  unfold quotK at hn
  obtain ⟨k, hk, rfl⟩ := List.mem_map.1 hn
  refine ⟨by simpa [sgn] using argsAt_le hG (m k), fun a ha => ?_⟩
  obtain ⟨b, hb, rfl⟩ := List.mem_map.1 ha
  obtain ⟨z, hz, rfl⟩ := List.mem_map.1 hb
  have := h.lt z (argsAt_lt hG hz)
  rw [quotK_length]
  omega

theorem quotK_bis {G : List Nd} (hG : GClosed G) {c : Nat → Nat} {K : Nat} {m : Nat → Nat} (h : Dv G c K) (ht : Touched G c []) (hm : ∀ k, k < K → m k < G.length ∧ c (m k) = k) {x : Nat} (hx : x < G.length) : Bis (quotK G c K m) (c x) G x := by
  refine bis_of (R := fun k y => ∃ z, z < G.length ∧ y < G.length ∧ k = c z ∧ Bis G z G y) ?_ ?_ ⟨x, hx, hx, rfl, Bis.refl _ _⟩
  · rintro k y ⟨z, hz, hy, rfl, hb⟩
    obtain ⟨h1, h2⟩ := hm (c z) (h.lt z hz)
    have hb' : Bis G (m (c z)) G y := (h.done hG ht h1 hz h2).trans hb
    have h0 := hb' 0
    rw [faceAt_zero, faceAt_zero] at h0
    rw [← h0]
    unfold faceOf
    rw [quotK_get G c m (h.lt z hz), List.getElem?_eq_getElem h1]
    simp only [Option.map_some, Nd.face, sgn, argsAt, List.getElem?_eq_getElem h1, List.length_map, List.getD_eq_getElem?_getD, Option.getD_some]
  · rintro k y ⟨z, hz, hy, rfl, hb⟩
    obtain ⟨h1, h2⟩ := hm (c z) (h.lt z hz)
    rw [quotK_args G c m (h.lt z hz)]
    have hb' : Bis G (m (c z)) G y := (h.done hG ht h1 hz h2).trans hb
    exact (hb'.args hG hG h1 hy).map_left c fun a b ha hb'' hab => ⟨a, argsAt_lt hG ha, argsAt_lt hG hb'', rfl, hab⟩

/-- THE PROGRAM's LEAST GRAPH IS THE LEAST GRAPH. -/
theorem quotK_canon {G : List Nd} (hG : GClosed G) {c : Nat → Nat} {K : Nat} {m : Nat → Nat} (h : Dv G c K) (ht : Touched G c []) (hm : ∀ k, k < K → m k < G.length ∧ c (m k) = k) {r : Nat} (hr : r < G.length) :
    Canon (renum (quotK G c K m) (reach (quotK G c K m) (c r))) ∧ Bis (renum (quotK G c K m) (reach (quotK G c K m) (c r))) 0 G r := by
  have hQ := quotK_closed hG (m := m) h
  have hrl : c r < (quotK G c K m).length := by rw [quotK_length]; exact h.lt r hr
  have hre := reach_ok hQ hrl
  obtain ⟨l, hl⟩ := hre.first
  have h0 : Bis (renum (quotK G c K m) (reach (quotK G c K m) (c r))) 0 (quotK G c K m) (c r) := by
    have := renum_bis hre (x := c r) (by rw [hl]; simp)
    rw [show (reach (quotK G c K m) (c r)).idxOf (c r) = 0 by rw [hl]; simp] at this
    exact this.symm
  refine ⟨⟨renum_closed hQ hre, by rw [renum_length, hl]; simp, renum_order hQ hrl, ?_⟩, h0.trans (quotK_bis hG h ht hm hr)⟩
  intro x y hx hy hb
  rw [renum_length] at hx hy
  have key : ∀ z (hz : z < (reach (quotK G c K m) (c r)).length), ∃ k, (reach (quotK G c K m) (c r))[z] = k ∧ k < K ∧ Bis (renum (quotK G c K m) (reach (quotK G c K m) (c r))) z G (m k) := by
    intro z hz
    have hzm := List.getElem_mem hz
    have h1 := renum_bis hre hzm
    rw [List.Nodup.idxOf_getElem hre.nodup z hz] at h1
    have hlt := hre.lt _ hzm
    rw [quotK_length] at hlt
    refine ⟨_, rfl, hlt, h1.symm.trans ?_⟩
    have := quotK_bis hG h ht hm (hm _ hlt).1
    rwa [(hm _ hlt).2] at this
  obtain ⟨k1, e1, l1, b1⟩ := key x hx
  obtain ⟨k2, e2, l2, b2⟩ := key y hy
  have h3 := h.bis _ _ (hm k1 l1).1 (hm k2 l2).1 (b1.symm.trans (hb.trans b2))
  rw [(hm k1 l1).2, (hm k2 l2).2] at h3
  have f1 := List.Nodup.idxOf_getElem hre.nodup x hx
  have f2 := List.Nodup.idxOf_getElem hre.nodup y hy
  rw [← f1, ← f2, e1, e2, h3]
end Go.Ev

/- Classes refined until nothing changes: what is moved into new classes. -/
namespace Go.Ev

/-- The class of a node once each of these lists is a class of its own, numbered from K on. -/
def moveAll (c : Nat → Nat) (K : Nat) (outs : List (List Nat)) (x : Nat) : Nat := match outs.findIdx? (fun o => o.contains x) with
  | some i => K + i
  | none => c x

theorem moveAll_nil (c : Nat → Nat) (K x : Nat) : moveAll c K [] x = c x := rfl
theorem moveAll_out {c : Nat → Nat} {K : Nat} {outs : List (List Nat)} {x : Nat} (h : x ∉ outs.flatten) : moveAll c K outs x = c x := by
  unfold moveAll
  have : outs.findIdx? (fun o => o.contains x) = none := by
    rw [List.findIdx?_eq_none_iff]
    intro o ho
    simpa using fun hx => h (List.mem_flatten.2 ⟨o, ho, hx⟩)
  rw [this]
theorem moveAll_snoc_in {c : Nat → Nat} {K : Nat} {outs : List (List Nat)} {g : List Nat} {x : Nat} (h : x ∉ outs.flatten) (hx : x ∈ g) : moveAll c K (outs ++ [g]) x = K + outs.length := by
  unfold moveAll
  have h1 : outs.findIdx? (fun o => o.contains x) = none := by
    rw [List.findIdx?_eq_none_iff]
    intro o ho
    simpa using fun hx => h (List.mem_flatten.2 ⟨o, ho, hx⟩)
  rw [List.findIdx?_append, h1]
  simp [hx]
theorem moveAll_snoc_out {c : Nat → Nat} {K : Nat} {outs : List (List Nat)} {g : List Nat} {x : Nat} (hx : x ∉ g) : moveAll c K (outs ++ [g]) x = moveAll c K outs x := by
  unfold moveAll
  rw [List.findIdx?_append]
  have : ([g].findIdx? fun o => o.contains x) = none := by
    rw [List.findIdx?_eq_none_iff]
    intro o ho
    simp at ho; subst ho; simpa using hx
  rw [this]
  simp
theorem moveAll_in {c : Nat → Nat} {K : Nat} {outs : List (List Nat)} {x : Nat} (h : x ∈ outs.flatten) : ∃ i o, outs[i]? = some o ∧ x ∈ o ∧ moveAll c K outs x = K + i := by
  obtain ⟨o, ho, hx⟩ := List.mem_flatten.1 h
  have hs : (outs.findIdx? (fun o => o.contains x)).isSome := by
    rw [List.findIdx?_isSome]
    simp only [List.any_eq_true]
    exact ⟨o, ho, by simpa using hx⟩
  obtain ⟨i, hi⟩ := Option.isSome_iff_exists.1 hs
  have h2 := List.findIdx?_eq_some_iff_getElem.1 hi
  obtain ⟨hlt, hp, _⟩ := h2
  exact ⟨i, outs[i], by simp [hlt], by simpa using hp, by unfold moveAll; rw [hi]⟩

/-- What leaves a class: all parts of it but one. -/
structure Leaves (G : List Nd) (c : Nat → Nat) (k : Nat) (out : List (List Nat)) : Prop where
  ne : ∀ o ∈ out, o ≠ []
  nodup : ∀ o ∈ out, o.Nodup
  cls : ∀ o ∈ out, ∀ x ∈ o, x < G.length ∧ c x = k
  all : ∀ o ∈ out, ∀ x ∈ o, ∀ y, y < G.length → c y = k → (y ∈ o ↔ sgn G c y = sgn G c x)
  apart : out.Pairwise (fun o o' => ∀ x ∈ o, x ∉ o')
  stays : ∃ z, z < G.length ∧ c z = k ∧ ∀ o ∈ out, z ∉ o
  rest : ∀ x y, x < G.length → y < G.length → c x = k → c y = k → (∀ o ∈ out, x ∉ o) → (∀ o ∈ out, y ∉ o) → sgn G c x = sgn G c y

theorem pairwise_flat {oss : List (Nat × List (List Nat))} {G : List Nd} {c : Nat → Nat} (h : ∀ p ∈ oss, Leaves G c p.1 p.2) (hk : (oss.map (·.1)).Nodup) : (oss.flatMap (·.2)).Pairwise (fun o o' => ∀ x ∈ o, x ∉ o') := by
  induction oss with
  | nil => simp
  | cons p r ih =>
    simp only [List.map_cons, List.nodup_cons] at hk
    rw [List.flatMap_cons, List.pairwise_append]
    refine ⟨(h p (List.mem_cons_self ..)).apart, ih (fun q hq => h q (List.mem_cons_of_mem _ hq)) hk.2, ?_⟩
    intro o ho o' ho' x hx hx'
    obtain ⟨q, hq, hoq⟩ := List.mem_flatMap.1 ho'
    have h1 := ((h p (List.mem_cons_self ..)).cls o ho x hx).2
    have h2 := ((h q (List.mem_cons_of_mem _ hq)).cls o' hoq x hx').2
    exact hk.1 (List.mem_map.2 ⟨q, hq, h2.symm.trans h1⟩)

theorem apart_index {outs : List (List Nat)} (h : outs.Pairwise (fun o o' => ∀ x ∈ o, x ∉ o')) {i j : Nat} {o o' : List Nat} (hi : outs[i]? = some o) (hj : outs[j]? = some o') {x : Nat} (hx : x ∈ o) (hx' : x ∈ o') : i = j := by
  obtain ⟨hi1, rfl⟩ := List.getElem?_eq_some_iff.1 hi
  obtain ⟨hj1, rfl⟩ := List.getElem?_eq_some_iff.1 hj
  rcases Nat.lt_trichotomy i j with hlt | rfl | hlt
  · exact absurd hx' (List.pairwise_iff_getElem.1 h i j hi1 hj1 hlt x hx)
  · rfl
  · exact absurd hx (List.pairwise_iff_getElem.1 h j i hj1 hi1 hlt x hx')

/-- WHAT DIVIDING DOES, class by class. -/
theorem divided_of {G : List Nd} {c : Nat → Nat} {K : Nat} {T : List Nat} (h : Dv G c K) (ht : Touched G c T) {oss : List (Nat × List (List Nat))} (hl : ∀ p ∈ oss, Leaves G c p.1 p.2) (hk : (oss.map (·.1)).Nodup)
    (hT : ∀ x ∈ T, c x ∈ oss.map (·.1)) : Divided G c K (moveAll c K (oss.flatMap (·.2))) (K + (oss.flatMap (·.2)).length) (oss.flatMap (·.2)).flatten := by
  have hap := pairwise_flat hl hk
  have hmem : ∀ o ∈ oss.flatMap (·.2), ∃ p ∈ oss, o ∈ p.2 := fun o ho => List.mem_flatMap.1 ho
  have hin : ∀ x, x ∈ (oss.flatMap (·.2)).flatten → ∃ i o p, (oss.flatMap (·.2))[i]? = some o ∧ x ∈ o ∧ moveAll c K (oss.flatMap (·.2)) x = K + i ∧ p ∈ oss ∧ o ∈ p.2 ∧ x < G.length ∧ c x = p.1 := by
    intro x hx
    obtain ⟨i, o, h1, h2, h3⟩ := moveAll_in (c := c) (K := K) hx
    obtain ⟨p, hp, ho⟩ := hmem o (List.mem_of_getElem? h1)
    obtain ⟨h4, h5⟩ := (hl p hp).cls o ho x h2
    exact ⟨i, o, p, h1, h2, h3, hp, ho, h4, h5⟩
  refine ⟨?_, fun x _ hx => moveAll_out hx, ?_, ?_, ?_, Nat.le_add_right _ _, ?_⟩
  · intro x y hx hy
    by_cases hxm : x ∈ (oss.flatMap (·.2)).flatten
    · obtain ⟨i, o, p, h1, h2, h3, h4, h5, _, h7⟩ := hin x hxm
      rw [h3]
      constructor
      · intro he
        by_cases hym : y ∈ (oss.flatMap (·.2)).flatten
        · obtain ⟨j, o', p', g1, g2, g3, g4, g5, _, g7⟩ := hin y hym
          rw [g3] at he
          obtain rfl : i = j := by omega
          rw [h1] at g1
          obtain rfl := Option.some.inj g1
          have g8 := ((hl p h4).cls o h5 y g2).2
          exact ⟨h7.trans g8.symm, (((hl p h4).all o h5 x h2 y hy g8).1 g2).symm⟩
        · rw [moveAll_out hym] at he
          have := h.lt y hy
          omega
      · rintro ⟨e1, e2⟩
        have hyo := ((hl p h4).all o h5 x h2 y hy (e1.symm.trans h7)).2 e2.symm
        obtain ⟨j, o', p', g1, g2, g3, _⟩ := hin y (List.mem_flatten.2 ⟨o, List.mem_of_getElem? h1, hyo⟩)
        rw [g3, apart_index hap h1 g1 hyo g2]
    · rw [moveAll_out hxm]
      by_cases hym : y ∈ (oss.flatMap (·.2)).flatten
      · obtain ⟨j, o', p', g1, g2, g3, g4, g5, _, g7⟩ := hin y hym
        rw [g3]
        constructor
        · intro he; have := h.lt x hx; omega
        · rintro ⟨e1, e2⟩
          have hxo := ((hl p' g4).all o' g5 y g2 x hx (e1.trans g7)).2 e2
          exact absurd (List.mem_flatten.2 ⟨o', List.mem_of_getElem? g1, hxo⟩) hxm
      · rw [moveAll_out hym]
        constructor
        · intro he
          refine ⟨he, ?_⟩
          by_cases hc : c x ∈ oss.map (·.1)
          · obtain ⟨p, hp, hpx⟩ := List.mem_map.1 hc
            exact (hl p hp).rest x y hx hy hpx.symm (he.symm.trans hpx.symm) (fun o ho hxo => hxm (List.mem_flatten.2 ⟨o, List.mem_flatMap.2 ⟨p, hp, ho⟩, hxo⟩)) (fun o ho hyo => hym (List.mem_flatten.2 ⟨o, List.mem_flatMap.2 ⟨p, hp, ho⟩, hyo⟩))
          · exact ht.same x y hx hy he (fun hxT => hc (hT x hxT)) (fun hyT => hc (he ▸ hT y hyT))
        · exact fun h => h.1
  · intro x hx
    obtain ⟨i, o, p, _, _, h3, _, _, h6, _⟩ := hin x hx
    exact ⟨h6, by omega⟩
  · intro x hx
    by_cases hxm : x ∈ (oss.flatMap (·.2)).flatten
    · obtain ⟨i, o, p, h1, _, h3, _⟩ := hin x hxm
      have := (List.getElem?_eq_some_iff.1 h1).1
      omega
    · rw [moveAll_out hxm]; have := h.lt x hx; omega
  · intro k hkk
    by_cases hlt : k < K
    · by_cases hc : k ∈ oss.map (·.1)
      · obtain ⟨p, hp, rfl⟩ := List.mem_map.1 hc
        obtain ⟨z, hz, hzk, hzo⟩ := (hl p hp).stays
        refine ⟨z, hz, ?_⟩
        rw [moveAll_out]
        · exact hzk
        · intro hzm
          obtain ⟨i, o, q, h1, h2, h3, h4, h5, _, h7⟩ := hin z hzm
          have hpq : p = q := by
            obtain ⟨a, ha⟩ := List.getElem?_of_mem hp
            obtain ⟨b, hb⟩ := List.getElem?_of_mem h4
            have ha' : (oss.map (·.1))[a]? = some p.1 := by rw [List.getElem?_map, ha]; rfl
            have hb' : (oss.map (·.1))[b]? = some p.1 := by rw [List.getElem?_map, hb, ← hzk, h7]; rfl
            obtain ⟨ha1, ha2⟩ := List.getElem?_eq_some_iff.1 ha'
            obtain ⟨hb1, hb2⟩ := List.getElem?_eq_some_iff.1 hb'
            have : a = b := (List.getElem_inj hk).1 (ha2.trans hb2.symm)
            subst this
            rw [ha] at hb
            exact Option.some.inj hb
          subst hpq
          exact hzo o h5 h2
      · obtain ⟨z, hz, rfl⟩ := h.onto k hlt
        refine ⟨z, hz, moveAll_out fun hzm => ?_⟩
        obtain ⟨i, o, q, _, _, _, h4, _, _, h7⟩ := hin z hzm
        exact hc (List.mem_map.2 ⟨q, h4, h7.symm⟩)
    · have hi : k - K < (oss.flatMap (·.2)).length := by omega
      obtain ⟨p, hp, ho⟩ := hmem _ (List.getElem_mem hi)
      obtain ⟨x, hx⟩ := List.exists_mem_of_ne_nil _ ((hl p hp).ne _ ho)
      obtain ⟨j, o', q, g1, g2, g3, _, _, g6, _⟩ := hin x (List.mem_flatten.2 ⟨_, List.getElem_mem hi, hx⟩)
      refine ⟨x, g6, ?_⟩
      have := apart_index hap (List.getElem?_eq_getElem hi) g1 hx g2
      omega
  · intro hne
    obtain ⟨x, hx⟩ := List.exists_mem_of_ne_nil _ hne
    obtain ⟨o, ho, _⟩ := List.mem_flatten.1 hx
    have : 0 < (oss.flatMap (·.2)).length := List.length_pos_of_mem ho
    omega
end Go.Ev

/- Classes refined until nothing changes: groups, and what the program keeps of its classes. -/
namespace Go.Ev

theorem snocInd {α : Type} {p : List α → Prop} (h0 : p []) (h1 : ∀ l x, p l → p (l ++ [x])) (l : List α) : p l := by
  have : ∀ m : List α, p m.reverse := fun m => by
    induction m with
    | nil => exact h0
    | cons a m ih => rw [List.reverse_cons]; exact h1 _ _ ih
  have h := this l.reverse
  rwa [List.reverse_reverse] at h

theorem nodup_flat {α : Type} : ∀ {L : List (List α)}, (∀ g ∈ L, g.Nodup) → L.Pairwise (fun o o' => ∀ x ∈ o, x ∉ o') → L.flatten.Nodup
  | [], _, _ => by simp
  | g :: L, h, hp => by
    obtain ⟨h1, h2⟩ := List.pairwise_cons.1 hp
    rw [List.flatten_cons, List.nodup_append]
    refine ⟨h g (List.mem_cons_self ..), nodup_flat (fun g' hg' => h g' (List.mem_cons_of_mem _ hg')) h2, ?_⟩
    intro a ha b hb e
    subst e
    obtain ⟨o, ho, hao⟩ := List.mem_flatten.1 hb
    exact h1 o ho a ha hao

section
variable {α : Type} [DecidableEq α] (κ : Nat → α)

/-- Keys in the order in which they are met. -/
def keysOf (l : List Nat) : List α := l.foldl (fun ks x => if κ x ∈ ks then ks else ks ++ [κ x]) []
/-- Nodes grouped by their keys. -/
def groupsOf (l : List Nat) : List (List Nat) := (keysOf κ l).map fun k => l.filter fun x => decide (κ x = k)

theorem keysOf_snoc (l : List Nat) (x : Nat) : keysOf κ (l ++ [x]) = if κ x ∈ keysOf κ l then keysOf κ l else keysOf κ l ++ [κ x] := by
  unfold keysOf; rw [List.foldl_append]; rfl
theorem keysOf_mem (l : List Nat) (k : α) : k ∈ keysOf κ l ↔ ∃ x ∈ l, κ x = k := by
  induction l using snocInd with
  | h0 => simp [keysOf]
  | h1 l x ih =>
    rw [keysOf_snoc]
    split
    · rename_i h
      rw [ih]
      constructor
      · rintro ⟨y, hy, rfl⟩; exact ⟨y, by simp [hy], rfl⟩
      · rintro ⟨y, hy, rfl⟩
        rcases List.mem_append.1 hy with hy | hy
        · exact ⟨y, hy, rfl⟩
        · simp at hy; subst hy; exact ih.1 h
    · rw [List.mem_append, ih]
      constructor
      · rintro (⟨y, hy, rfl⟩ | h)
        · exact ⟨y, by simp [hy], rfl⟩
        · simp at h; exact ⟨x, by simp, h.symm⟩
      · rintro ⟨y, hy, rfl⟩
        rcases List.mem_append.1 hy with hy | hy
        · exact .inl ⟨y, hy, rfl⟩
        · simp at hy; subst hy; simp
theorem keysOf_nodup (l : List Nat) : (keysOf κ l).Nodup := by
  induction l using snocInd with
  | h0 => simp [keysOf]
  | h1 l x ih =>
    rw [keysOf_snoc]
    split
    · exact ih
    · rename_i h
      rw [List.nodup_append]
      refine ⟨ih, by simp, ?_⟩
      intro a ha b hb e
      simp at hb; subst hb; subst e; exact h ha
theorem groupsOf_length (l : List Nat) : (groupsOf κ l).length = (keysOf κ l).length := by simp [groupsOf]
theorem groupsOf_new {l : List Nat} {x : Nat} (h : κ x ∉ keysOf κ l) : groupsOf κ (l ++ [x]) = groupsOf κ l ++ [[x]] := by
  unfold groupsOf
  rw [keysOf_snoc, if_neg h, List.map_append]
  congr 1
  · refine List.map_congr_left fun k hk => ?_
    rw [List.filter_append]
    have : κ x ≠ k := fun e => h (e ▸ hk)
    simp [this]
  · simp only [List.map_cons, List.map_nil, List.cons.injEq, and_true]
    rw [List.filter_append, List.filter_eq_nil_iff.2]
    · simp
    · intro y hy
      simpa using fun e => h ((keysOf_mem κ l (κ x)).2 ⟨y, hy, e⟩)
theorem groupsOf_old {l : List Nat} {x g : Nat} (h : (keysOf κ l)[g]? = some (κ x)) : groupsOf κ (l ++ [x]) = (groupsOf κ l).set g ((groupsOf κ l).getD g [] ++ [x]) := by
  unfold groupsOf
  obtain ⟨hg, he⟩ := List.getElem?_eq_some_iff.1 h
  have hm : κ x ∈ keysOf κ l := List.mem_of_getElem? h
  rw [keysOf_snoc, if_pos hm]
  apply List.ext_getElem?
  intro i
  rw [List.getElem?_map, List.getElem?_set]
  by_cases hi : g = i
  · subst hi
    simp only [if_pos, List.length_map, hg, h, Option.map_some, List.getD_eq_getElem?_getD, List.getElem?_map, Option.getD_some]
    simp
  · rw [if_neg hi, List.getElem?_map]
    cases hk : (keysOf κ l)[i]? with
    | none => rfl
    | some k =>
      have hne : κ x ≠ k := by
        rintro rfl
        obtain ⟨h1, h2⟩ := List.getElem?_eq_some_iff.1 hk
        exact hi ((List.getElem_inj (keysOf_nodup κ l)).1 (he.trans h2.symm))
      simp [List.filter_append, hne]

theorem groupsOf_mem {l : List Nat} {g : List Nat} (h : g ∈ groupsOf κ l) : ∃ k ∈ keysOf κ l, g = l.filter fun x => decide (κ x = k) := by
  obtain ⟨k, hk, rfl⟩ := List.mem_map.1 h
  exact ⟨k, hk, rfl⟩
theorem groupsOf_ne {l : List Nat} {g : List Nat} (h : g ∈ groupsOf κ l) : g ≠ [] := by
  obtain ⟨k, hk, rfl⟩ := groupsOf_mem κ h
  obtain ⟨x, hx, rfl⟩ := (keysOf_mem κ l _).1 hk
  exact List.ne_nil_of_mem (List.mem_filter.2 ⟨hx, by simp⟩)
theorem groupsOf_nodup {l : List Nat} (hl : l.Nodup) {g : List Nat} (h : g ∈ groupsOf κ l) : g.Nodup := by
  obtain ⟨k, hk, rfl⟩ := groupsOf_mem κ h
  exact List.Pairwise.filter _ hl
theorem groupsOf_sub {l : List Nat} {g : List Nat} (h : g ∈ groupsOf κ l) {x : Nat} (hx : x ∈ g) : x ∈ l := by
  obtain ⟨k, hk, rfl⟩ := groupsOf_mem κ h
  exact (List.mem_filter.1 hx).1
theorem groupsOf_all {l : List Nat} {g : List Nat} (h : g ∈ groupsOf κ l) {x y : Nat} (hx : x ∈ g) (hy : y ∈ l) : y ∈ g ↔ κ y = κ x := by
  obtain ⟨k, hk, rfl⟩ := groupsOf_mem κ h
  have h1 := (List.mem_filter.1 hx).2
  simp at h1
  rw [List.mem_filter, h1]
  simp [hy]
theorem groupsOf_flat {l : List Nat} {x : Nat} : x ∈ (groupsOf κ l).flatten ↔ x ∈ l := by
  constructor
  · intro h
    obtain ⟨g, hg, hx⟩ := List.mem_flatten.1 h
    exact groupsOf_sub κ hg hx
  · intro h
    exact List.mem_flatten.2 ⟨_, List.mem_map.2 ⟨κ x, (keysOf_mem κ l _).2 ⟨x, h, rfl⟩, rfl⟩, List.mem_filter.2 ⟨h, by simp⟩⟩
theorem groupsOf_apart (l : List Nat) : (groupsOf κ l).Pairwise (fun o o' => ∀ x ∈ o, x ∉ o') := by
  unfold groupsOf
  rw [List.pairwise_map]
  refine List.Pairwise.imp ?_ (keysOf_nodup κ l)
  intro a b hab x hx hx'
  have h1 := (List.mem_filter.1 hx).2
  have h2 := (List.mem_filter.1 hx').2
  simp at h1 h2
  exact hab (h1.symm.trans h2)
theorem groupsOf_nodup_flat {l : List Nat} (hl : l.Nodup) : (groupsOf κ l).flatten.Nodup := by
  exact nodup_flat (fun g hg => groupsOf_nodup κ hl hg) (groupsOf_apart κ l)
theorem groupsOf_sum {l : List Nat} (hl : l.Nodup) : ((groupsOf κ l).map List.length).sum = l.length := by
  rw [← List.length_flatten]
  exact List.Perm.length_eq ((List.perm_ext_iff_of_nodup (groupsOf_nodup_flat κ hl) hl).2 fun x => groupsOf_flat κ)
end

/-- How many nodes a class has. -/
def cnt (n : Nat) (c : Nat → Nat) (k : Nat) : Nat := ((List.range n).filter fun x => c x == k).length

theorem cnt_le (n : Nat) (c : Nat → Nat) (k : Nat) : cnt n c k ≤ n := by
  unfold cnt; have := List.length_filter_le (fun x => c x == k) (List.range n); simpa using this

/-- Of a class there are some nodes that are none of these just if it has more nodes. -/
theorem cnt_split {n : Nat} {c : Nat → Nat} {k : Nat} {l : List Nat} (hl : l.Nodup) (hs : ∀ x ∈ l, x < n ∧ c x = k) : cnt n c k = l.length + ((List.range n).filter fun x => c x == k && !l.contains x).length := by
  have h1 : ((List.range n).filter fun x => c x == k && l.contains x).Perm l := by
    refine (List.perm_ext_iff_of_nodup (List.Pairwise.filter _ List.nodup_range) hl).2 fun x => ?_
    simp only [List.mem_filter, List.mem_range, Bool.and_eq_true, beq_iff_eq, List.contains_iff_mem]
    exact ⟨fun h => h.2.2, fun h => ⟨(hs x h).1, (hs x h).2, h⟩⟩
  unfold cnt
  rw [← h1.length_eq]
  generalize List.range n = r
  induction r with
  | nil => rfl
  | cons a r ih =>
    simp only [List.filter_cons]
    by_cases h2 : c a = k
    · by_cases h3 : l.contains a = true
      · simp only [h2, h3, beq_self_eq_true, Bool.true_and, Bool.not_true, if_true, List.length_cons, Bool.false_eq_true, if_false]
        omega
      · simp only [Bool.not_eq_true] at h3
        simp only [h2, h3, beq_self_eq_true, Bool.true_and, Bool.not_false, if_true, List.length_cons, Bool.false_eq_true, if_false]
        omega
    · have h2' : (c a == k) = false := by simpa using h2
      simp only [h2', Bool.false_and, Bool.false_eq_true, if_false]
      exact ih

theorem cnt_move {n : Nat} {c : Nat → Nat} {k K : Nat} {g : List Nat} (hg : g.Nodup) (hs : ∀ x ∈ g, x < n ∧ c x = k) (hk : k ≠ K) : cnt n (fun x => if x ∈ g then K else c x) k + g.length = cnt n c k := by
  rw [cnt_split hg hs]
  unfold cnt
  rw [Nat.add_comm]
  congr 2
  refine List.filter_congr fun x _ => ?_
  by_cases h : x ∈ g
  · have h1 : (K == k) = false := by simpa using Ne.symm hk
    simp [h, h1]
  · simp [h]
theorem cnt_other {n : Nat} {c : Nat → Nat} {k K j : Nat} {g : List Nat} (hs : ∀ x ∈ g, c x = k) (hj : j ≠ k) (hK : j ≠ K) : cnt n (fun x => if x ∈ g then K else c x) j = cnt n c j := by
  unfold cnt
  congr 1
  refine List.filter_congr fun x _ => ?_
  by_cases h : x ∈ g
  · have h1 : (K == j) = false := by simpa using Ne.symm hK
    have h2 : (k == j) = false := by simpa using Ne.symm hj
    simp [h, hs x h, h1, h2]
  · simp [h]
theorem cnt_new {n : Nat} {c : Nat → Nat} {K : Nat} {g : List Nat} (hg : g.Nodup) (hs : ∀ x ∈ g, x < n) (hK : ∀ x, x < n → c x < K) : cnt n (fun x => if x ∈ g then K else c x) K = g.length := by
  unfold cnt
  refine List.Perm.length_eq ((List.perm_ext_iff_of_nodup (List.Pairwise.filter _ List.nodup_range) hg).2 fun x => ?_)
  simp only [List.mem_filter, List.mem_range, beq_iff_eq]
  constructor
  · rintro ⟨h1, h2⟩
    split at h2
    · assumption
    · have := hK x h1; omega
  · intro h; exact ⟨hs x h, by simp [h]⟩

/-- What the program keeps of its classes: how many nodes each has, and which ones (but for some that are about to leave). -/
structure Kept (n : Nat) (c : Nat → Nat) (K : Nat) (sizes : List Nat) (mem : List (List Nat)) (ex : List Nat) : Prop where
  lt : ∀ x, x < n → c x < K
  sl : sizes.length = K
  ml : mem.length = K
  size : ∀ k, k < K → sizes.getD k 0 = cnt n c k
  nodup : ∀ m ∈ mem, m.Nodup ∧ ∀ x ∈ m, x < n
  all : ∀ x, x < n → x ∉ ex → x ∈ mem.getD (c x) []

theorem Kept.found {n : Nat} {c : Nat → Nat} {K : Nat} {sizes : List Nat} {mem : List (List Nat)} {ex g : List Nat} {k : Nat} (h : Kept n c K sizes mem (g ++ ex)) (hk : k < K) (hg : g.Nodup) (hs : ∀ x ∈ g, x < n ∧ c x = k) (hd : ∀ x ∈ g, x ∉ ex) :
    Kept n (fun x => if x ∈ g then K else c x) (K + 1) (sizes.set k (sizes.getD k 0 - g.length) ++ [g.length]) (mem ++ [g]) ex where
  lt x hx := by
    split
    · omega
    · have := h.lt x hx; omega
  sl := by simp [h.sl]
  ml := by simp [h.ml]
  size j hj := by
    have hsl := h.sl
    by_cases h1 : j = K
    · subst h1
      rw [cnt_new hg (fun x hx => (hs x hx).1) h.lt]
      simp [List.getD_eq_getElem?_getD, ← hsl]
    · have h2 : j < K := by omega
      have h3 : j < sizes.length := by omega
      rw [List.getD_eq_getElem?_getD, List.getElem?_append_left (by simpa using h3), List.getElem?_set]
      by_cases h4 : k = j
      · subst h4
        have h5 := cnt_move (K := K) hg hs (by omega)
        have h6 := h.size k hk
        simp only [if_pos, h3, Option.getD_some]
        omega
      · rw [if_neg h4, cnt_other (fun x hx => (hs x hx).2) (Ne.symm h4) h1, ← h.size j h2, List.getD_eq_getElem?_getD]
  nodup m hm := by
    rcases List.mem_append.1 hm with hm | hm
    · exact h.nodup m hm
    · simp at hm; subst hm; exact ⟨hg, fun x hx => (hs x hx).1⟩
  all x hx hex := by
    by_cases hxg : x ∈ g
    · simp only [hxg, if_true]
      rw [List.getD_eq_getElem?_getD, ← h.ml]
      simpa using hxg
    · simp only [hxg, if_false]
      have h1 := h.all x hx (by simp [hxg, hex])
      have h2 : c x < mem.length := by rw [h.ml]; exact h.lt x hx
      rw [List.getD_eq_getElem?_getD, List.getElem?_append_left h2, ← List.getD_eq_getElem?_getD]
      exact h1

/-- The nodes of a class that are not in any group. -/
def restOfClass (c : Nat → Nat) (k : Nat) (m : List Nat) (gs : List (List Nat)) : List Nat := m.filter fun x => c x == k && !gs.flatten.contains x

/-- What leaves a class, and which nodes it is said to have from then on. -/
inductive Left (c : Nat → Nat) (k size : Nat) (m : List Nat) (gs : List (List Nat)) : List (List Nat) → List Nat → Prop where
  | all (b : Nat) (g : List Nat) (hb : gs[b]? = some g) (h : g.length + (gs.map List.length).sum ≤ size) : Left c k size m gs gs m
  | swap (b : Nat) (g : List Nat) (hb : gs[b]? = some g) (h : (gs.map List.length).sum < size) : Left c k size m gs (gs.set b (restOfClass c k m gs)) g
  | drop (b : Nat) (g : List Nat) (hb : gs[b]? = some g) (h : size ≤ (gs.map List.length).sum) : Left c k size m gs (gs.eraseIdx b) g
end Go.Ev
