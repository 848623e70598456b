import Derived.Test.YtbjcopckkgdmgaaGreatDoorNw
/- Nodes of the call's own: their arguments replaced one by one, in place. -/
namespace Go.Ev
open Go.Proofs Go.RowKit Go.Lib

theorem Seg.setOne {B b off n cap : Nat} {w : World} {xs : List Value} (h : Seg B 1 w b off n cap xs) {i : Nat} (hi : i < n) (v : Value) : Seg B 1 (w.setCell ⟨b, off + i, none⟩ v) b off n cap (xs.set i v) := by
  obtain ⟨cs, t, h1, h2, h3⟩ := h.blk
  refine ⟨h.lo, by rw [List.length_set]; exact h.len, h.fit, h.max, cs.setIfInBounds (off + i) v, t, ?_, by simpa using h2, fun j u hj => ?_⟩
  · simp [World.setCell, Array.getElem?_modify, h1]
  · have hfit := h.fit
    by_cases hij : i = j
    · subst hij
      have hl : i < xs.length := by rw [h.len]; omega
      rw [List.getElem?_set_self hl] at hj
      rw [Array.getElem?_setIfInBounds_self_of_lt (by omega)]
      exact hj
    · rw [List.getElem?_set_ne hij] at hj
      rw [Array.getElem?_setIfInBounds_ne (by omega)]
      exact h3 j u hj

/-- The first k arguments are replaced. -/
def mixA (c : Nat → Nat) (k : Nat) (xs : List Int) : List Int := xs.mapIdx fun q a => if q < k then ((c a.toNat : Nat) : Int) else a
theorem mixA_length (c : Nat → Nat) (k : Nat) (xs : List Int) : (mixA c k xs).length = xs.length := by simp [mixA]
theorem mixA_zero (c : Nat → Nat) (xs : List Int) : mixA c 0 xs = xs := by
  apply List.ext_getElem?
  intro j
  simp [mixA]
theorem mixA_all (c : Nat → Nat) (xs : List Int) : mixA c xs.length xs = xs.map fun a => ((c a.toNat : Nat) : Int) := by
  apply List.ext_getElem?
  intro j
  simp only [mixA, List.getElem?_mapIdx, List.getElem?_map]
  cases h : xs[j]? with
  | none => rfl
  | some a => simp [(List.getElem?_eq_some_iff.1 h).1]
theorem mixA_at {c : Nat → Nat} {k : Nat} {xs : List Int} {a : Int} (h : xs[k]? = some a) : (mixA c k xs)[k]? = some a := by simp [mixA, h]
theorem mixA_next {c : Nat → Nat} {k : Nat} {xs : List Int} {a : Int} (h : xs[k]? = some a) : mixA c (k + 1) xs = (mixA c k xs).set k ((c a.toNat : Nat) : Int) := by
  apply List.ext_getElem?
  intro j
  have hk := (List.getElem?_eq_some_iff.1 h).1
  by_cases hj : k = j
  · subst hj
    rw [List.getElem?_set_self (by rw [mixA_length]; exact hk)]
    simp [mixA, h]
  · rw [List.getElem?_set_ne hj]
    simp only [mixA, List.getElem?_mapIdx]
    cases xs[j]? with
    | none => rfl
    | some b =>
      simp only [Option.map_some, Option.some.injEq]
      by_cases h1 : j < k
      · rw [if_pos h1, if_pos (by omega)]
      · rw [if_neg h1, if_neg (by omega)]

/-- All arguments of the first i nodes are replaced, and the first k of the next one. -/
def mixN (c : Nat → Nat) (i k : Nat) (N : List Nd) : List Nd := N.mapIdx fun j n => { n with args := if j < i then mixA c n.args.length n.args else if j = i then mixA c k n.args else n.args }
theorem mixN_length (c : Nat → Nat) (i k : Nat) (N : List Nd) : (mixN c i k N).length = N.length := by simp [mixN]
theorem mixN_get {c : Nat → Nat} {i k : Nat} {N : List Nd} {j : Nat} {n : Nd} (h : N[j]? = some n) : (mixN c i k N)[j]? = some { n with args := if j < i then mixA c n.args.length n.args else if j = i then mixA c k n.args else n.args } := by
  simp [mixN, h]
theorem mixN_zero (c : Nat → Nat) (N : List Nd) : mixN c 0 0 N = N := by
  apply List.ext_getElem?
  intro j
  simp only [mixN, List.getElem?_mapIdx]
  cases N[j]? with
  | none => rfl
  | some n =>
    simp only [Option.map_some, Nat.not_lt_zero, if_false, mixA_zero, Option.some.injEq]
    split <;> rfl
theorem mixN_row {c : Nat → Nat} {i : Nat} {N : List Nd} {n : Nd} (h : N[i]? = some n) : mixN c i n.args.length N = mixN c (i + 1) 0 N := by
  apply List.ext_getElem?
  intro j
  cases hj : N[j]? with
  | none => simp [mixN, hj]
  | some m =>
    rw [mixN_get hj, mixN_get hj]
    by_cases h1 : j < i
    · rw [if_pos h1, if_pos (by omega)]
    · by_cases h2 : j = i
      · subst h2
        obtain rfl : m = n := Option.some.inj (hj.symm.trans h)
        rw [if_neg h1, if_pos rfl, if_pos (by omega)]
      · rw [if_neg h1, if_neg h2, if_neg (by omega), mixA_zero]
        split <;> rfl
theorem mixN_all (c : Nat → Nat) (N : List Nd) : mixN c N.length 0 N = quot N c := by
  apply List.ext_getElem?
  intro j
  cases hj : N[j]? with
  | none => simp [mixN, quot, hj]
  | some n => rw [mixN_get hj, quot_get hj, if_pos (List.getElem?_eq_some_iff.1 hj).1, mixA_all]
theorem mixN_cells (c : Nat → Nat) (i k : Nat) (N : List Nd) (us : List Value) : nodesCells (mixN c i k N) us = nodesCells N us :=
  nodesCells_args (f := fun j n => if j < i then mixA c n.args.length n.args else if j = i then mixA c k n.args else n.args) (k := 0)

section
variable {B : Nat} {w : World} {v : Value} {N : List Nd} {us : List Value} {c : Nat → Nat} {i k : Nat} {n : Nd}
/-- A node's cell that holds its arguments. -/
theorem OwnN.argCell (h : OwnN B w v N us) {u : Value} (hi : N[i]? = some n) (hu : us[i]? = some u) : ∃ pb po pc, v = .slice (some ⟨pb, po, none⟩) N.length pc ∧ B ≤ pb ∧ w.cell? ⟨pb, po + i * 4 + 3, none⟩ = some u := by
  have hl := (List.getElem?_eq_some_iff.1 hi).1
  obtain ⟨b, off, cap, rfl, hs⟩ := h.own.seg (by omega)
  obtain ⟨cs, t, h1, h2, h3⟩ := hs.blk
  refine ⟨b, off, cap, rfl, hs.lo, ?_⟩
  rw [cell_of h1, Nat.add_assoc]
  exact h3 (i * 4 + 3) _ (nodesCells_at hi hu (by omega))

theorem OwnN.argCell' {pb po m pc : Nat} (h : OwnN B w (.slice (some ⟨pb, po, none⟩) m pc) N us) {u : Value} (hi : N[i]? = some n) (hu : us[i]? = some u) : w.cell? ⟨pb, po + i * 4 + 3, none⟩ = some u := by
  obtain ⟨b, o, cap, e, _, hc⟩ := h.argCell hi hu
  injection e with e1 e2 e3
  injection e1 with e1
  injection e1 with e4 e5
  subst e4 e5
  exact hc
theorem OwnN.argSlice (h : OwnN B w v (mixN c i k N) us) {u : Value} (hi : N[i]? = some n) (hu : us[i]? = some u) : ∃ a cap, u = .slice a n.args.length cap := by
  have hget := mixN_get (c := c) (i := i) (k := k) hi
  rw [if_neg (Nat.lt_irrefl i), if_pos rfl] at hget
  have ha := h.args i _ u hget hu
  simp only [mixA_length] at ha
  obtain ⟨a, cap, e, _⟩ := own_slice ha
  exact ⟨a, cap, e⟩

/-- One argument replaced. -/
theorem OwnN.setArg (h : OwnN B w v (mixN c i k N) us) {u : Value} (hi : N[i]? = some n) (hu : us[i]? = some u) {a : Int} (hk : n.args[k]? = some a) :
    ∃ b off cap, u = .slice (some ⟨b, off, none⟩) n.args.length cap ∧ B ≤ b ∧ b < w.heap.size ∧ w.cell? ⟨b, off + k, none⟩ = some (.int .i64 a) ∧ (∀ o, w.frozen? ⟨b, o, none⟩ = false) ∧
      OwnN B (w.setCell ⟨b, off + k, none⟩ (.int .i64 ((c a.toNat : Nat) : Int))) v (mixN c i (k + 1) N) us := by
  have hkl := (List.getElem?_eq_some_iff.1 hk).1
  have hget := mixN_get (c := c) (i := i) (k := k) hi
  rw [if_neg (Nat.lt_irrefl i), if_pos rfl] at hget
  have ha := h.args i _ u hget hu
  simp only [mixA_length] at ha
  obtain ⟨b, off, cap, rfl, hs⟩ := ha.seg (by omega)
  obtain ⟨cs, t, h1, h2, h3⟩ := hs.blk
  have hC : Chg b w (w.setCell ⟨b, off + k, none⟩ (.int .i64 ((c a.toNat : Nat) : Int))) := (Chg.refl _ _).setCell _ _
  have hub : (Value.slice (some ⟨b, off, none⟩) n.args.length cap).ownBlock = some b := rfl
  have hmem := List.mem_of_getElem? hu
  refine ⟨b, off, cap, rfl, hs.lo, (Array.getElem?_eq_some_iff.1 h1).1, ?_, fun o => by simp [World.frozen?, h1], ?_, h.len.trans (by simp [mixN_length]), fun j x u' hj hu' => ?_, h.off, h.apart, fun x hx => ?_⟩
  · rw [cell_of h1]
    exact h3 k _ (by rw [List.getElem?_map, mixA_at hk]; rfl)
  · have ho := h.own.chg hC (h.off _ hmem b hub)
    rw [mixN_cells] at ho ⊢
    rwa [mixN_length] at ho ⊢
  · by_cases hji : j = i
    · subst hji
      obtain rfl : u' = _ := Option.some.inj (hu'.symm.trans hu)
      have hget' := mixN_get (c := c) (i := j) (k := k + 1) hi
      rw [if_neg (Nat.lt_irrefl j), if_pos rfl] at hget'
      obtain rfl := Option.some.inj (hget'.symm.trans hj)
      have := (hs.setOne hkl (.int .i64 ((c a.toNat : Nat) : Int))).own
      simp only [mixA_length]
      rw [mixA_next hk, List.map_set]
      exact this
    · have hjl : j < N.length := by have := (List.getElem?_eq_some_iff.1 hj).1; rwa [mixN_length] at this
      have hg1 := mixN_get (c := c) (i := i) (k := k) (List.getElem?_eq_getElem hjl)
      have hg2 := mixN_get (c := c) (i := i) (k := k + 1) (List.getElem?_eq_getElem hjl)
      rw [if_neg hji] at hg1 hg2
      obtain rfl := Option.some.inj (hg2.symm.trans hj)
      refine (h.args j _ u' hg1 hu').chg hC ?_
      intro e
      have hp := List.pairwise_iff_getElem.1 h.apart
      obtain ⟨hj1, hj2⟩ := List.getElem?_eq_some_iff.1 hu'
      obtain ⟨hi1, hi2⟩ := List.getElem?_eq_some_iff.1 hu
      rcases Nat.lt_or_gt_of_ne hji with hlt | hgt
      · have := hp j i hj1 hi1 hlt b (by rw [hj2]; exact e)
        rw [hi2] at this
        exact this hub
      · have := hp i j hi1 hj1 hgt b (by rw [hi2]; exact hub)
        rw [hj2] at this
        exact this e
  · obtain ⟨j, hj, rfl⟩ := List.getElem_of_mem hx
    have hjl : j < N.length := by rwa [mixN_length] at hj
    have hg := mixN_get (c := c) (i := i) (k := k + 1) (List.getElem?_eq_getElem hjl)
    have hg1 := mixN_get (c := c) (i := i) (k := k) (List.getElem?_eq_getElem hjl)
    rw [List.getElem?_eq_getElem hj] at hg
    have h1 := h.size _ (List.mem_of_getElem? hg1)
    rw [Option.some.inj hg]
    exact h1
end
end Go.Ev
