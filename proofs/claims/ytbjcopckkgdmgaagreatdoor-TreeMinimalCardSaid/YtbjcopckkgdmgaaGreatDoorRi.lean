import Derived.Test.YtbjcopckkgdmgaaGreatDoorSg
import Derived.OwnWalk
/- A block of integers of the call's own. -/
namespace Go.Ev
open Go.RowKit

/-- Block b holds these integers, and nothing else; it may be written. -/
def RowI (w : World) (b : Nat) (ls : List Int) : Prop := ∃ t, w.heap[b]? = some (.cells (ls.map (Value.int .i64)).toArray t (0, 0))

variable {w w' : World} {b : Nat} {ls : List Int}
theorem RowI.cell (h : RowI w b ls) {i : Nat} (hi : i < ls.length) : w.cell? ⟨b, i, none⟩ = some (.int .i64 (ls.getD i 0)) := by
  obtain ⟨t, h⟩ := h
  rw [cell_of h]
  simp [List.getD, hi]
theorem RowI.frozen (h : RowI w b ls) (i : Nat) : w.frozen? ⟨b, i, none⟩ = false := by
  obtain ⟨t, h⟩ := h
  simp [World.frozen?, h]
theorem RowI.lt (h : RowI w b ls) : b < w.heap.size := by
  obtain ⟨t, h⟩ := h
  exact (Array.getElem?_eq_some_iff.1 h).1
theorem RowI.set (h : RowI w b ls) (i : Nat) (v : Int) : RowI (w.setCell ⟨b, i, none⟩ (.int .i64 v)) b (ls.set i v) := by
  obtain ⟨t, h⟩ := h
  refine ⟨t, ?_⟩
  simp only [World.setCell, Array.getElem?_modify, h, if_pos]
  simp only [Option.map_some, Option.some.injEq, Obj.cells.injEq, and_true]
  apply Array.ext_getElem?
  intro j
  by_cases hj : i = j
  · subst hj
    by_cases hl : i < ls.length
    · simp [hl]
    · simp [hl]
  · simp [Array.getElem?_setIfInBounds, hj, List.getElem?_set]
theorem RowI.of_heap (h : RowI w b ls) (e : w'.heap[b]? = w.heap[b]?) : RowI w' b ls := by
  obtain ⟨t, h⟩ := h
  exact ⟨t, e.trans h⟩
theorem RowI.kp {B : Nat} (h : RowI w b ls) (hk : Kp B w w') (hb : b < B) : RowI w' b ls := h.of_heap (hk.block b hb)
theorem RowI.setCell_other (h : RowI w b ls) {a : Addr} (ha : a.block ≠ b) (v : Value) : RowI (w.setCell a v) b ls := h.of_heap (Below.heap_setCell _ _ _ _ (Ne.symm ha))
theorem RowI.alloc (h : RowI w b ls) (o : Obj) : RowI (w.alloc o) b ls := h.of_heap (Below.heap_alloc _ _ _ h.lt)

/-- Of the blocks that there were, only block b may have changed. -/
structure Chg (b : Nat) (w w' : World) : Prop where
  os : w'.os = w.os
  output : w'.output = w.output
  size : w.heap.size ≤ w'.heap.size
  block : ∀ k, k < w.heap.size → k ≠ b → w'.heap[k]? = w.heap[k]?
theorem Chg.refl (b : Nat) (w : World) : Chg b w w := ⟨rfl, rfl, Nat.le_refl _, fun _ _ _ => rfl⟩
theorem Chg.trans {w'' : World} (h : Chg b w w') (k : Chg b w' w'') : Chg b w w'' :=
  ⟨k.os.trans h.os, k.output.trans h.output, Nat.le_trans h.size k.size, fun i hi hb => (k.block i (Nat.lt_of_lt_of_le hi h.size) hb).trans (h.block i hi hb)⟩
theorem Chg.setCell (h : Chg b w w') (o : Nat) (v : Value) : Chg b w (w'.setCell ⟨b, o, none⟩ v) :=
  h.trans ⟨rfl, rfl, by simp [World.setCell], fun k _ hb => Below.heap_setCell _ _ _ _ hb⟩
theorem Chg.drew (h : Chg b w w') : Chg b w w'.drew := ⟨h.os, h.output, h.size, h.block⟩
theorem Chg.kp {B : Nat} (h : Chg b w w') (hB : B ≤ w.heap.size) (hb : B ≤ b) : Kp B w w' := ⟨h.os, h.output, h.size, fun k hk => h.block k (by omega) (by omega)⟩
theorem Kp.chg {B : Nat} {a : World} (h : Kp B a w) (k : Chg b w w') (hB : B ≤ w.heap.size) (hb : B ≤ b) : Kp B a w' := h.trans (k.kp hB hb)
theorem Chg.cell (h : Chg b w w') {x : Value} {k o : Nat} (hb : k ≠ b) (hx : w.cell? ⟨k, o, none⟩ = some x) : w'.cell? ⟨k, o, none⟩ = some x := by
  have : w'.cell? ⟨k, o, none⟩ = w.cell? ⟨k, o, none⟩ := by simp only [World.cell?, h.block k (block_lt_of_cell hx) hb]
  rw [this]; exact hx
theorem RowI.chg {c : Nat} (h : RowI w c ls) (hk : Chg b w w') (hb : c ≠ b) : RowI w' c ls := h.of_heap (hk.block c h.lt hb)

/-- A slice of the call's own that is not nil. -/
structure Seg (B size : Nat) (w : World) (b off n cap : Nat) (xs : List Value) : Prop where
  lo : B ≤ b
  len : xs.length = n * size
  fit : n ≤ cap
  max : cap ≤ maxLen
  blk : ∃ cs t, w.heap[b]? = some (.cells cs t (0, 0)) ∧ off + cap * size ≤ cs.size ∧ ∀ j u, xs[j]? = some u → cs[off + j]? = some u

theorem Seg.own {B size off n cap : Nat} {xs : List Value} (h : Seg B size w b off n cap xs) : Own B size w (.slice (some ⟨b, off, none⟩) n cap) n xs := by
  obtain ⟨cs, t, h1, h2, h3⟩ := h.blk
  exact ⟨h.len, .inr ⟨b, off, cap, cs, t, rfl, h.lo, h1, h.fit, h.max, h2, h3⟩⟩
theorem Own.seg {B size n : Nat} {v : Value} {xs : List Value} (h : Own B size w v n xs) (hn : 0 < n) : ∃ b off cap, v = .slice (some ⟨b, off, none⟩) n cap ∧ Seg B size w b off n cap xs := by
  obtain ⟨h1, h2⟩ := h
  rcases h2 with ⟨_, h2⟩ | ⟨b, off, cap, cs, t, rfl, hb, hh, hf, hm, hs, hc⟩
  · omega
  · exact ⟨b, off, cap, rfl, hb, h1, hf, hm, cs, t, hh, hs, hc⟩
theorem Seg.lt {B size off n cap : Nat} {xs : List Value} (h : Seg B size w b off n cap xs) : b < w.heap.size := by
  obtain ⟨cs, t, h1, _⟩ := h.blk
  exact (Array.getElem?_eq_some_iff.1 h1).1
theorem Seg.of_heap {B size off n cap : Nat} {xs : List Value} (h : Seg B size w b off n cap xs) (e : w'.heap[b]? = w.heap[b]?) : Seg B size w' b off n cap xs := by
  obtain ⟨cs, t, h1, h2⟩ := h.blk
  exact ⟨h.lo, h.len, h.fit, h.max, cs, t, e.trans h1, h2⟩
theorem Seg.cell {B size off n cap : Nat} {xs : List Value} (h : Seg B size w b off n cap xs) {j : Nat} {u : Value} (hj : xs[j]? = some u) : w.cell? ⟨b, off + j, none⟩ = some u := by
  obtain ⟨cs, t, h1, _, h2⟩ := h.blk
  rw [cell_of h1]
  exact h2 j u hj
theorem Seg.tail {B size off n cap : Nat} {xs ys : List Value} (h : Seg B size w b off (n + 1) cap (ys ++ xs)) (hy : ys.length = size) : Seg B size w b (off + size) n (cap - 1) xs := by
  obtain ⟨cs, t, h1, h2, h3⟩ := h.blk
  have hl := h.len
  have hf := h.fit
  have hm := h.max
  have e : cap = (cap - 1) + 1 := by omega
  rw [e, Nat.add_mul] at h2
  rw [List.length_append, Nat.add_mul] at hl
  refine ⟨h.lo, by omega, by omega, by omega, cs, t, h1, by omega, fun j u hj => ?_⟩
  have := h3 (size + j) u (by rw [List.getElem?_append_right (by omega), show size + j - ys.length = j by omega]; exact hj)
  rwa [← Nat.add_assoc] at this
theorem Seg.nothing {B size off n cap : Nat} {xs : List Value} (h : Seg B size w b off n cap xs) (cap' : Nat) (hc : cap' ≤ cap) : Seg B size w b off 0 cap' [] := by
  obtain ⟨cs, t, h1, h2, h3⟩ := h.blk
  exact ⟨h.lo, by simp, Nat.zero_le _, Nat.le_trans hc h.max, cs, t, h1, Nat.le_trans (Nat.add_le_add_left (Nat.mul_le_mul_right _ hc) _) h2, fun j u hj => by simp at hj⟩
theorem Seg.chg {B size off n cap c : Nat} {xs : List Value} (h : Seg B size w b off n cap xs) (hk : Chg c w w') (hb : b ≠ c) : Seg B size w' b off n cap xs := h.of_heap (hk.block b h.lt hb)
theorem Seg.kp {B size off n cap : Nat} {xs : List Value} (h : Seg B size w b off n cap xs) (hk : Kp w.heap.size w w') : Seg B size w' b off n cap xs := h.of_heap (hk.block b h.lt)

theorem madeInts (n : Nat) : (madeCells (Value.int .i64 0).cells (n * 1)).toList = (List.replicate n (0 : Int)).map (Value.int .i64) := by
  apply List.ext_getElem?
  intro j
  by_cases hj : j < n
  · simp [madeCells, Value.cells, hj, Array.getElem?_range, Nat.mod_one]
  · simp [madeCells, Value.cells, hj]

/-- A slice of zeros that the call has made is a block of zeros. -/
theorem RowI.made {base e n : Nat} {g : Nat} (h : w.ownsRow base e 1 (.slice (some ⟨g, 0, none⟩) n n) n (madeCells (Value.int .i64 0).cells (n * 1)).toList) : RowI w g (List.replicate n 0) := by
  obtain ⟨_, h⟩ := h
  rcases h with ⟨h, _⟩ | ⟨g', cap, cur, hv, _, hh, _, _, hs, hx⟩
  · cases h
  · simp only [Value.slice.injEq, Option.some.injEq, Addr.mk.injEq] at hv
    obtain ⟨⟨rfl, _⟩, _, rfl⟩ := hv
    rw [List.take_of_length_le (by simp [hs]), madeInts] at hx
    refine ⟨e, ?_⟩
    rw [hh]
    congr 2
    rw [← hx]
end Go.Ev
