import Derived.Test.YtbjcopckkgdmgaaGreatDoorOd1
/- A block of Booleans of the call's own; slices that lose their last element. -/
namespace Go.Ev
open Go.Proofs Go.RowKit

/-- Block b holds these Booleans, and nothing else; it may be written. -/
def RowB (w : World) (b : Nat) (bs : List Bool) : Prop := ∃ t, w.heap[b]? = some (.cells (bs.map Value.bool).toArray t (0, 0))

variable {w w' : World} {b : Nat} {bs : List Bool}
theorem RowB.cell (h : RowB w b bs) {i : Nat} (hi : i < bs.length) : w.cell? ⟨b, i, none⟩ = some (.bool (bs.getD i false)) := by
  obtain ⟨t, h⟩ := h
  rw [cell_of h]
  simp [List.getD, hi]
theorem RowB.frozen (h : RowB w b bs) (i : Nat) : w.frozen? ⟨b, i, none⟩ = false := by
  obtain ⟨t, h⟩ := h
  simp [World.frozen?, h]
theorem RowB.lt (h : RowB w b bs) : b < w.heap.size := by
  obtain ⟨t, h⟩ := h
  exact (Array.getElem?_eq_some_iff.1 h).1
theorem RowB.set (h : RowB w b bs) (i : Nat) (v : Bool) : RowB (w.setCell ⟨b, i, none⟩ (.bool v)) b (bs.set i v) := by
  obtain ⟨t, h⟩ := h
  refine ⟨t, ?_⟩
  simp only [World.setCell, Array.getElem?_modify, h, if_pos]
  simp only [Option.map_some, Option.some.injEq, Obj.cells.injEq, and_true]
  apply Array.ext_getElem?
  intro j
  by_cases hj : i = j
  · subst hj
    by_cases hl : i < bs.length
    · simp [hl]
    · simp [hl]
  · simp [hj]
theorem RowB.of_heap (h : RowB w b bs) (e : w'.heap[b]? = w.heap[b]?) : RowB w' b bs := by
  obtain ⟨t, h⟩ := h
  exact ⟨t, e.trans h⟩
theorem RowB.chg {c : Nat} (h : RowB w b bs) (hk : Chg c w w') (hb : b ≠ c) : RowB w' b bs := h.of_heap (hk.block b h.lt hb)
theorem RowB.kp (h : RowB w b bs) (hk : Kp w.heap.size w w') : RowB w' b bs := h.of_heap (hk.block b h.lt)

theorem madeBools (n : Nat) : (madeCells (Value.bool false).cells (n * 1)).toList = (List.replicate n false).map Value.bool := by
  apply List.ext_getElem?
  intro j
  by_cases hj : j < n
  · simp [madeCells, Value.cells, hj, Nat.mod_one]
  · simp [madeCells, Value.cells, hj]
theorem RowB.made {base e n : Nat} {g : Nat} (h : w.ownsRow base e 1 (.slice (some ⟨g, 0, none⟩) n n) n (madeCells (Value.bool false).cells (n * 1)).toList) : RowB w g (List.replicate n false) := by
  obtain ⟨_, h⟩ := h
  rcases h with ⟨h, _⟩ | ⟨g', cap, cur, hv, _, hh, _, _, hs, hx⟩
  · cases h
  · simp only [Value.slice.injEq, Option.some.injEq, Addr.mk.injEq] at hv
    obtain ⟨⟨rfl, _⟩, _, rfl⟩ := hv
    rw [List.take_of_length_le (by simp [hs]), madeBools] at hx
    refine ⟨e, ?_⟩
    rw [hh]
    congr 2
    rw [← hx]

theorem Seg.init {B size off n cap : Nat} {xs ys : List Value} (h : Seg B size w b off (n + 1) cap (xs ++ ys)) (hy : ys.length = size) : Seg B size w b off n cap xs := by
  obtain ⟨cs, t, h1, h2, h3⟩ := h.blk
  have hl := h.len
  have hf := h.fit
  rw [List.length_append, Nat.add_mul] at hl
  refine ⟨h.lo, by omega, by omega, h.max, cs, t, h1, h2, fun j u hj => ?_⟩
  exact h3 j u (by rw [List.getElem?_append_left (List.getElem?_eq_some_iff.1 hj).1]; exact hj)

theorem Own.of_same {B size n : Nat} {v : Value} {xs : List Value} (h : Own B size w v n xs) (hb : ∀ g, v.ownBlock = some g → g < w.heap.size → w'.heap[g]? = w.heap[g]?) : Own B size w' v n xs := by
  obtain ⟨h1, h2⟩ := h
  refine ⟨h1, ?_⟩
  rcases h2 with h2 | ⟨b, off, cap, cs, t, rfl, hb', hh, r⟩
  · exact .inl h2
  · exact .inr ⟨b, off, cap, cs, t, rfl, hb', (hb b rfl (Array.getElem?_eq_some_iff.1 hh).1).trans hh, r⟩
theorem Own.kp {B size n : Nat} {v : Value} {xs : List Value} (h : Own B size w v n xs) (hk : Kp w.heap.size w w') : Own B size w' v n xs := h.of_same fun g _ hg => hk.block g hg
theorem Own.chg {B size n c : Nat} {v : Value} {xs : List Value} (h : Own B size w v n xs) (hk : Chg c w w') (hv : v.ownBlock ≠ some c) : Own B size w' v n xs := h.of_same fun g hg hl => hk.block g hl (fun e => hv (by rw [hg, e]))
theorem Own.lt {B size n : Nat} {v : Value} {xs : List Value} (h : Own B size w v n xs) {g : Nat} (hg : v.ownBlock = some g) : B ≤ g ∧ g < w.heap.size := by
  obtain ⟨_, h2⟩ := h
  rcases h2 with ⟨rfl, _⟩ | ⟨b, off, cap, cs, t, rfl, hb', hh, r⟩
  · cases hg
  · obtain rfl : b = g := Option.some.inj hg
    exact ⟨hb', (Array.getElem?_eq_some_iff.1 hh).1⟩
/-- What an append may have changed. -/
theorem grown_other {v : Value} {k : Nat} (h : w.grownBy w' v.ownBlock) (hk : k < w.heap.size) (hv : v.ownBlock ≠ some k) : w'.heap[k]? = w.heap[k]? := h.block k hk (Ne.symm hv)
theorem Kp.of_grown_mine {B : Nat} {a : World} {v : Value} {size n : Nat} {xs : List Value} (hk : Kp B a w) (ho : Own B size w v n xs) (h : w.grownBy w' v.ownBlock) (hB : B ≤ w.heap.size) : Kp B a w' :=
  hk.trans ⟨h.os, h.output, h.size, fun k hk' => grown_other h (by omega) (fun e => by have := (ho.lt e).1; omega)⟩
end Go.Ev
