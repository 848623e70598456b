import Derived.Test.YtbjcopckkgdmgaaGreatDoorKp
import Derived.Test.YtbjcopckkgdmgaaGreatDoorEvC
import Derived.ArgAppend
import Derived.Laws.AppendOwn
import Derived.OwnWalk
/- Slices of the call's own, appended to. -/
namespace Go.Ev
open Go.RowKit

/-- A slice of the call's own, in a block from B on: n elements of some cells each. -/
def Own (B size : Nat) (w : World) (v : Value) (n : Nat) (xs : List Value) : Prop :=
  xs.length = n * size ∧ ((v = .slice none 0 0 ∧ n = 0) ∨ ∃ b off cap cs t, v = .slice (some ⟨b, off, none⟩) n cap ∧ B ≤ b ∧ w.heap[b]? = some (.cells cs t (0, 0)) ∧ n ≤ cap ∧ cap ≤ maxLen ∧ off + cap * size ≤ cs.size ∧ ∀ j u, xs[j]? = some u → cs[off + j]? = some u)

theorem setCells_heap' {b : Nat} {t : TypeId} {fr : Nat × Nat} : ∀ (vs : List Value) (o : Nat) (c : Array Value) (w : World), w.heap[b]? = some (.cells c t fr) →
    (w.setCells b o vs).heap[b]? = some (.cells (sets c o vs) t fr) ∧ (∀ k : Nat, k ≠ b → (w.setCells b o vs).heap[k]? = w.heap[k]?) ∧ (w.setCells b o vs).heap.size = w.heap.size ∧ (w.setCells b o vs).os = w.os ∧ (w.setCells b o vs).tape = w.tape ∧ (w.setCells b o vs).output = w.output
  | [], o, c, w, h => ⟨h, fun _ _ => rfl, rfl, rfl, rfl, rfl⟩
  | v :: vs, o, c, w, h => by
    have hset : (w.setCell ⟨b, o, none⟩ v).heap[b]? = some (.cells (c.setIfInBounds o v) t fr) := by
      simp [World.setCell, Array.getElem?_modify, h]
    obtain ⟨h1, h2, h3, h4⟩ := setCells_heap' vs (o + 1) _ _ hset
    refine ⟨h1, fun k hk => (h2 k hk).trans ?_, h3.trans ?_, h4⟩
    · simp [World.setCell, Array.getElem?_modify, Ne.symm hk]
    · simp [World.setCell]

variable {P : Program}

theorem Own.of_row {B size e : Nat} {w : World} {v : Value} {n : Nat} {xs : List Value} (h : w.ownsRow B e size v n xs) : Own B size w v n xs := by
  obtain ⟨h1, h2⟩ := h
  refine ⟨h1, ?_⟩
  rcases h2 with h2 | ⟨g, cap, cur, rfl, hg, hh, hn, hm, hs, hx⟩
  · exact .inl h2
  · refine .inr ⟨g, 0, cap, cur, e, rfl, hg, hh, hn, hm, by omega, fun j u hj => ?_⟩
    rw [← hx, List.getElem?_take] at hj
    split at hj
    · rw [Nat.zero_add]; simpa using hj
    · cases hj

/-- append, at a slice of the call's own. -/
theorem wpList_append_mine {w : World} {ops : Array Oper} {rest : List Oper} {o : Oper} {a : Act} {Q : Exit → Act → World → Prop} (hgd : o.guard = none) (s x : Operand) (t : TypeId)
    (ho : o.op = .call { callee := .builtin .append, args := #[s, x], argTypes := #[t, t] })
    (B : Nat) (e : TypeId) (i : TypeInfo) (z : Value) (size bytes : Nat) (ht : P.underlying t = some (.slice e)) (hi : P.info? e = some i) (hz : i.zero = some z)
    (hsize : i.size = size) (hby : i.bytes = bytes) (hzs : z.cells.size = size) (hsz : 0 < size)
    (v : Value) (n : Nat) (xs : List Value) (hs : a.eval s = v) (hown : Own B size w v n xs)
    (ad : Addr) (m c : Nat) (news : List Value) (hx : a.eval x = .slice (some ad) m c) (hl : news.length = m * size) (hnews : ∀ j u, news[j]? = some u → w.cell? (ad.add j) = some u) (h1 : ∀ u ∈ news, u.oneCell' = true)
    (h63 : n + m ≤ maxLen) (hbytes : (n + m) * bytes ≤ 140737488355328) (hB : B ≤ w.heap.size)
    (h : ∀ v' w', Own B size w' v' (n + m) (xs ++ news) → w.grownBy w' v.ownBlock → (v'.ownBlock = v.ownBlock ∨ ∃ g, v'.ownBlock = some g ∧ w.heap.size ≤ g) → wpList P ops Q rest (a.put o.dst v') w') : wpList P ops Q (o :: rest) a w := by
  obtain ⟨hlen, hcase⟩ := hown
  rcases hcase with ⟨rfl, rfl⟩ | ⟨b, off, cap, cs, ty, rfl, hb, hh, hn, hm, hfit, hcell⟩
  · refine wpList_append_own w hgd s x t ho w.heap.size e i z size bytes ht hi hz hsize hby hzs hsz _ 0 xs hs ⟨hlen, .inl ⟨rfl, rfl⟩⟩ ad m c news hx hl hnews h1 h63 hbytes (Nat.le_refl _) fun v' w' r1 r2 r3 => ?_
    have hown' := Own.of_row r1
    refine h v' w' ⟨hown'.1, ?_⟩ r2 ?_
    · rcases hown'.2 with h2 | ⟨g, off, cap, cur, ty, rfl, hg, r⟩
      · exact .inl h2
      · exact .inr ⟨g, off, cap, cur, ty, rfl, by omega, r⟩
    · rcases r1.2 with ⟨rfl, _⟩ | ⟨g, cap, cur, rfl, hg, _⟩
      · exact .inl rfl
      · exact .inr ⟨g, rfl, hg⟩
  · refine wpList_append_arg w hgd s x t ho e i z size bytes ht hi hz hsize hby hzs hsz b off n cap xs hs hlen (fun j u hj => by rw [cell_of hh]; exact hcell j u hj) ad m c news hx hl hnews h1 ?_ h63 hbytes ?_ ?_
    · intro hr j hj
      have hle : n * size + m * size ≤ cap * size := by rw [← Nat.add_mul]; exact Nat.mul_le_mul_right _ hr
      refine ⟨?_, ?_⟩
      · rw [cell_of hh, Array.getElem?_eq_getElem (by omega)]; rfl
      · simp only [World.frozen?, hh]; simp
    · intro hr
      obtain ⟨k1, k2, k3, k4, k5, k6⟩ := setCells_heap' news (off + n * size) cs w hh
      have hle : n * size + m * size ≤ cap * size := by rw [← Nat.add_mul]; exact Nat.mul_le_mul_right _ hr
      refine h _ _ ⟨by rw [List.length_append, hlen, hl, Nat.add_mul], .inr ⟨b, off, cap, _, ty, rfl, hb, k1, hr, hm, by rw [sets_size]; exact hfit, fun j u hj => ?_⟩⟩ ⟨k4, k5, k6, Nat.le_of_eq k3.symm, fun k _ hk => k2 k (fun e => hk (by rw [e]; rfl))⟩ (.inl rfl)
      rw [sets_get _ _ _ (by omega)]
      by_cases hj2 : j < xs.length
      · rw [if_neg (by omega)]
        rw [List.getElem?_append_left hj2] at hj
        exact hcell j u hj
      · rw [List.getElem?_append_right (by omega)] at hj
        have := (List.getElem?_eq_some_iff.1 hj).1
        rw [if_pos (by omega), show off + j - (off + n * size) = j - xs.length by omega]
        exact hj
    · intro hr v' w' r1 r2
      have hown' := Own.of_row r1
      refine h v' w' ⟨hown'.1, ?_⟩ ⟨r2.os, r2.tape, r2.output, r2.size, fun k hk _ => r2.block k hk (by simp)⟩ ?_
      · rcases hown'.2 with h2 | ⟨g, off, cap, cur, ty, rfl, hg, r⟩
        · exact .inl h2
        · exact .inr ⟨g, off, cap, cur, ty, rfl, by omega, r⟩
      · rcases r1.2 with ⟨_, h0⟩ | ⟨g, cap, cur, rfl, hg, _⟩
        · omega
        · exact .inr ⟨g, rfl, hg⟩
end Go.Ev

/- A block of integers of the call's own. -/
namespace Go.Ev
open Go.RowKit

/-- Block b holds these integers, and nothing else; it may be written. -/
def RowI (w : World) (b : Nat) (ls : List Int) : Prop := ∃ t, w.heap[b]? = some (.cells (ls.map (Value.int .i64)).toArray t (0, 0))

variable {w w' : World} {b : Nat} {ls : List Int}
theorem RowI.cell (h : RowI w b ls) {i : Nat} (hi : i < ls.length) : w.cell? ⟨b, i, none⟩ = some (.int .i64 (ls.getD i 0)) := by
  obtain ⟨t, h⟩ := h
  rw [cell_of h]
  simp [List.getD, hi]
theorem RowI.frozen (h : RowI w b ls) (i : Nat) : w.frozen? ⟨b, i, none⟩ = false := by
  obtain ⟨t, h⟩ := h
  simp [World.frozen?, h]
theorem RowI.lt (h : RowI w b ls) : b < w.heap.size := by
  obtain ⟨t, h⟩ := h
  exact (Array.getElem?_eq_some_iff.1 h).1
theorem RowI.set (h : RowI w b ls) (i : Nat) (v : Int) : RowI (w.setCell ⟨b, i, none⟩ (.int .i64 v)) b (ls.set i v) := by
  obtain ⟨t, h⟩ := h
  refine ⟨t, ?_⟩
  simp only [World.setCell, Array.getElem?_modify, h, if_pos]
  simp only [Option.map_some, Option.some.injEq, Obj.cells.injEq, and_true]
  apply Array.ext_getElem?
  intro j
  by_cases hj : i = j
  · subst hj
    by_cases hl : i < ls.length
    · simp [hl]
    · simp [hl]
  · simp [hj]
theorem RowI.of_heap (h : RowI w b ls) (e : w'.heap[b]? = w.heap[b]?) : RowI w' b ls := by
  obtain ⟨t, h⟩ := h
  exact ⟨t, e.trans h⟩
theorem RowI.kp {B : Nat} (h : RowI w b ls) (hk : Kp B w w') (hb : b < B) : RowI w' b ls := h.of_heap (hk.block b hb)
theorem RowI.setCell_other (h : RowI w b ls) {a : Addr} (ha : a.block ≠ b) (v : Value) : RowI (w.setCell a v) b ls := h.of_heap (Below.heap_setCell _ _ _ _ (Ne.symm ha))
theorem RowI.alloc (h : RowI w b ls) (o : Obj) : RowI (w.alloc o) b ls := h.of_heap (Below.heap_alloc _ _ _ h.lt)

/-- Of the blocks that there were, only block b may have changed. -/
structure Chg (b : Nat) (w w' : World) : Prop where
  os : w'.os = w.os
  output : w'.output = w.output
  size : w.heap.size ≤ w'.heap.size
  block : ∀ k, k < w.heap.size → k ≠ b → w'.heap[k]? = w.heap[k]?
theorem Chg.refl (b : Nat) (w : World) : Chg b w w := ⟨rfl, rfl, Nat.le_refl _, fun _ _ _ => rfl⟩
theorem Chg.trans {w'' : World} (h : Chg b w w') (k : Chg b w' w'') : Chg b w w'' :=
  ⟨k.os.trans h.os, k.output.trans h.output, Nat.le_trans h.size k.size, fun i hi hb => (k.block i (Nat.lt_of_lt_of_le hi h.size) hb).trans (h.block i hi hb)⟩
theorem Chg.setCell (h : Chg b w w') (o : Nat) (v : Value) : Chg b w (w'.setCell ⟨b, o, none⟩ v) :=
  h.trans ⟨rfl, rfl, by simp [World.setCell], fun k _ hb => Below.heap_setCell _ _ _ _ hb⟩
theorem Chg.drew (h : Chg b w w') : Chg b w w'.drew := ⟨h.os, h.output, h.size, h.block⟩
theorem Chg.kp {B : Nat} (h : Chg b w w') (hB : B ≤ w.heap.size) (hb : B ≤ b) : Kp B w w' := ⟨h.os, h.output, h.size, fun k hk => h.block k (by omega) (by omega)⟩
theorem Kp.chg {B : Nat} {a : World} (h : Kp B a w) (k : Chg b w w') (hB : B ≤ w.heap.size) (hb : B ≤ b) : Kp B a w' := h.trans (k.kp hB hb)
theorem Chg.cell (h : Chg b w w') {x : Value} {k o : Nat} (hb : k ≠ b) (hx : w.cell? ⟨k, o, none⟩ = some x) : w'.cell? ⟨k, o, none⟩ = some x := by
  have : w'.cell? ⟨k, o, none⟩ = w.cell? ⟨k, o, none⟩ := by simp only [World.cell?, h.block k (block_lt_of_cell hx) hb]
  rw [this]; exact hx
theorem RowI.chg {c : Nat} (h : RowI w c ls) (hk : Chg b w w') (hb : c ≠ b) : RowI w' c ls := h.of_heap (hk.block c h.lt hb)

/-- A slice of the call's own that is not nil. -/
structure Seg (B size : Nat) (w : World) (b off n cap : Nat) (xs : List Value) : Prop where
  lo : B ≤ b
  len : xs.length = n * size
  fit : n ≤ cap
  max : cap ≤ maxLen
  blk : ∃ cs t, w.heap[b]? = some (.cells cs t (0, 0)) ∧ off + cap * size ≤ cs.size ∧ ∀ j u, xs[j]? = some u → cs[off + j]? = some u

theorem Seg.own {B size off n cap : Nat} {xs : List Value} (h : Seg B size w b off n cap xs) : Own B size w (.slice (some ⟨b, off, none⟩) n cap) n xs := by
  obtain ⟨cs, t, h1, h2, h3⟩ := h.blk
  exact ⟨h.len, .inr ⟨b, off, cap, cs, t, rfl, h.lo, h1, h.fit, h.max, h2, h3⟩⟩
theorem Own.seg {B size n : Nat} {v : Value} {xs : List Value} (h : Own B size w v n xs) (hn : 0 < n) : ∃ b off cap, v = .slice (some ⟨b, off, none⟩) n cap ∧ Seg B size w b off n cap xs := by
  obtain ⟨h1, h2⟩ := h
  rcases h2 with ⟨_, h2⟩ | ⟨b, off, cap, cs, t, rfl, hb, hh, hf, hm, hs, hc⟩
  · omega
  · exact ⟨b, off, cap, rfl, hb, h1, hf, hm, cs, t, hh, hs, hc⟩
theorem Seg.lt {B size off n cap : Nat} {xs : List Value} (h : Seg B size w b off n cap xs) : b < w.heap.size := by
  obtain ⟨cs, t, h1, _⟩ := h.blk
  exact (Array.getElem?_eq_some_iff.1 h1).1
theorem Seg.of_heap {B size off n cap : Nat} {xs : List Value} (h : Seg B size w b off n cap xs) (e : w'.heap[b]? = w.heap[b]?) : Seg B size w' b off n cap xs := by
  obtain ⟨cs, t, h1, h2⟩ := h.blk
  exact ⟨h.lo, h.len, h.fit, h.max, cs, t, e.trans h1, h2⟩
theorem Seg.cell {B size off n cap : Nat} {xs : List Value} (h : Seg B size w b off n cap xs) {j : Nat} {u : Value} (hj : xs[j]? = some u) : w.cell? ⟨b, off + j, none⟩ = some u := by
  obtain ⟨cs, t, h1, _, h2⟩ := h.blk
  rw [cell_of h1]
  exact h2 j u hj
theorem Seg.tail {B size off n cap : Nat} {xs ys : List Value} (h : Seg B size w b off (n + 1) cap (ys ++ xs)) (hy : ys.length = size) : Seg B size w b (off + size) n (cap - 1) xs := by
  obtain ⟨cs, t, h1, h2, h3⟩ := h.blk
  have hl := h.len
  have hf := h.fit
  have hm := h.max
  have e : cap = (cap - 1) + 1 := by omega
  rw [e, Nat.add_mul] at h2
  rw [List.length_append, Nat.add_mul] at hl
  refine ⟨h.lo, by omega, by omega, by omega, cs, t, h1, by omega, fun j u hj => ?_⟩
  have := h3 (size + j) u (by rw [List.getElem?_append_right (by omega), show size + j - ys.length = j by omega]; exact hj)
  rwa [← Nat.add_assoc] at this
theorem Seg.nothing {B size off n cap : Nat} {xs : List Value} (h : Seg B size w b off n cap xs) (cap' : Nat) (hc : cap' ≤ cap) : Seg B size w b off 0 cap' [] := by
  obtain ⟨cs, t, h1, h2, h3⟩ := h.blk
  exact ⟨h.lo, by simp, Nat.zero_le _, Nat.le_trans hc h.max, cs, t, h1, Nat.le_trans (Nat.add_le_add_left (Nat.mul_le_mul_right _ hc) _) h2, fun j u hj => by simp at hj⟩
theorem Seg.chg {B size off n cap c : Nat} {xs : List Value} (h : Seg B size w b off n cap xs) (hk : Chg c w w') (hb : b ≠ c) : Seg B size w' b off n cap xs := h.of_heap (hk.block b h.lt hb)
theorem Seg.kp {B size off n cap : Nat} {xs : List Value} (h : Seg B size w b off n cap xs) (hk : Kp w.heap.size w w') : Seg B size w' b off n cap xs := h.of_heap (hk.block b h.lt)

theorem madeInts (n : Nat) : (madeCells (Value.int .i64 0).cells (n * 1)).toList = (List.replicate n (0 : Int)).map (Value.int .i64) := by
  apply List.ext_getElem?
  intro j
  by_cases hj : j < n
  · simp [madeCells, Value.cells, hj, Nat.mod_one]
  · simp [madeCells, Value.cells, hj]

/-- A slice of zeros that the call has made is a block of zeros. -/
theorem RowI.made {base e n : Nat} {g : Nat} (h : w.ownsRow base e 1 (.slice (some ⟨g, 0, none⟩) n n) n (madeCells (Value.int .i64 0).cells (n * 1)).toList) : RowI w g (List.replicate n 0) := by
  obtain ⟨_, h⟩ := h
  rcases h with ⟨h, _⟩ | ⟨g', cap, cur, hv, _, hh, _, _, hs, hx⟩
  · cases h
  · simp only [Value.slice.injEq, Option.some.injEq, Addr.mk.injEq] at hv
    obtain ⟨⟨rfl, _⟩, _, rfl⟩ := hv
    rw [List.take_of_length_le (by simp [hs]), madeInts] at hx
    refine ⟨e, ?_⟩
    rw [hh]
    congr 2
    rw [← hx]
end Go.Ev
