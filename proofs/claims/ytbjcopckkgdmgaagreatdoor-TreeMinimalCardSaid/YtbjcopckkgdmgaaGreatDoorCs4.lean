import Derived.Test.YtbjcopckkgdmgaaGreatDoorCs3
/- Classes: the second phase's parts. -/
namespace Go.Ev
open Go.Proofs Go.RowKit Go.Lib

/-- The nodes without a class that come before one. -/
def upToR (n : Nat) (dn : Nat → Bool) (j : Nat) : List Nat := (restOf n dn).filter fun x => decide (x < j)
theorem upToR_zero (n : Nat) (dn : Nat → Bool) : upToR n dn 0 = [] := by
  unfold upToR
  rw [List.filter_eq_nil_iff]
  simp
theorem upToR_all (n : Nat) (dn : Nat → Bool) : upToR n dn n = restOf n dn := by
  unfold upToR
  rw [List.filter_eq_self]
  intro x hx
  simpa using (mem_rest.1 hx).1
theorem upToR_eq {n j : Nat} (dn : Nat → Bool) (hj : j ≤ n) : upToR n dn j = restOf j dn := by
  unfold upToR restOf
  rw [List.filter_filter]
  obtain ⟨d, rfl⟩ : ∃ d, n = j + d := ⟨n - j, by omega⟩
  rw [List.range_add, List.filter_append]
  have h1 : (List.range j).filter (fun a => decide (a < j) && !dn a) = (List.range j).filter fun i => !dn i := by
    apply List.filter_congr
    intro x hx
    have := List.mem_range.1 hx
    simp [this]
  have h2 : ((List.range d).map (j + ·)).filter (fun a => decide (a < j) && !dn a) = [] := by
    rw [List.filter_eq_nil_iff]
    intro x hx
    obtain ⟨y, _, rfl⟩ := List.mem_map.1 hx
    simp
    intro h
    omega
  rw [h1, h2, List.append_nil]
theorem upToR_done {n j : Nat} {dn : Nat → Bool} (hj : j < n) (hd : dn j = true) : upToR n dn (j + 1) = upToR n dn j := by
  rw [upToR_eq dn (by omega), upToR_eq dn (by omega)]
  unfold restOf
  rw [List.range_succ, List.filter_append]
  simp [hd]
theorem upToR_snoc {n j : Nat} {dn : Nat → Bool} (hj : j < n) (hd : dn j = false) : upToR n dn (j + 1) = upToR n dn j ++ [j] := by
  rw [upToR_eq dn (by omega), upToR_eq dn (by omega)]
  unfold restOf
  rw [List.range_succ, List.filter_append]
  simp [hd]
theorem upToR_mem {n j x : Nat} {dn : Nat → Bool} : x ∈ upToR n dn j ↔ (x < n ∧ dn x = false) ∧ x < j := by
  unfold upToR
  rw [List.mem_filter, mem_rest]
  simp
theorem upToR_le {n j : Nat} {dn : Nat → Bool} : (upToR n dn j).length ≤ n := by
  unfold upToR restOf
  exact Nat.le_trans (List.length_filter_le _ _) (Nat.le_trans (List.length_filter_le _ _) (by simp))

/-- The classes, as far as the second phase has come. -/
def clsTo (G : List Nd) (c : Nat → Nat) (dn : Nat → Bool) (j : Nat) : Nat → Nat := fun z => if z < j ∧ dn z = false then rp (faceB G) (restOf G.length dn) z else c z

theorem clsTo_zero (G : List Nd) (c : Nat → Nat) (dn : Nat → Bool) : clsTo G c dn 0 = c := by
  funext z; unfold clsTo; rw [if_neg (by omega)]
theorem clsTo_done {G : List Nd} {c : Nat → Nat} {dn : Nat → Bool} {j : Nat} (hd : dn j = true) : clsTo G c dn (j + 1) = clsTo G c dn j := by
  funext z
  unfold clsTo
  by_cases h : z = j
  · subst h; rw [if_neg (by simp [hd]), if_neg (by simp [hd])]
  · have : (z < j + 1 ∧ dn z = false) ↔ (z < j ∧ dn z = false) := by constructor <;> rintro ⟨a, b⟩ <;> exact ⟨by omega, b⟩
    simp only [this]
theorem clsTo_next {G : List Nd} {c : Nat → Nat} {dn : Nat → Bool} {j : Nat} (hd : dn j = false) : upd (clsTo G c dn j) j (rp (faceB G) (restOf G.length dn) j) = clsTo G c dn (j + 1) := by
  funext z
  unfold upd clsTo
  by_cases h : z = j
  · subst h; rw [if_pos rfl, if_pos ⟨by omega, hd⟩]
  · have : (z < j + 1 ∧ dn z = false) ↔ (z < j ∧ dn z = false) := by constructor <;> rintro ⟨a, b⟩ <;> exact ⟨by omega, b⟩
    rw [if_neg h]
    simp only [this]
theorem upd_upd {α : Type} (f : Nat → α) (i : Nat) (v v' : α) : upd (upd f i v) i v' = upd f i v' := by
  funext z; unfold upd; split <;> rfl
theorem upd_at {α : Type} (f : Nat → α) (i : Nat) (v : α) : upd f i v i = v := if_pos rfl
theorem upd_ne {α : Type} (f : Nat → α) {i z : Nat} (v : α) (h : z ≠ i) : upd f i v z = f z := if_neg h

/-- What Classes has in its later phases: classes, what is done, a list of nodes. -/
structure S2 (G : List Nd) (W : World) (cb db : Nat) (v : Value) (c : Nat → Nat) (dn : Nat → Bool) (l : List Nat) (w : World) : Prop where
  cls : SegF W.heap.size w cb 0 G.length G.length c
  don : RowB w db (boolsF G.length dn)
  lst : Own W.heap.size 1 w v l.length (intsV l)
  ne : cb ≠ db ∧ v.ownBlock ≠ some cb ∧ v.ownBlock ≠ some db
  kp : Kp W.heap.size W w

theorem S2.grow {G : List Nd} {W : World} {cb db : Nat} {v : Value} {c : Nat → Nat} {dn : Nat → Bool} {l : List Nat} {w w' : World} (h : S2 G W cb db v c dn l w) (k : Kp w.heap.size w w') : S2 G W cb db v c dn l w' :=
  ⟨h.cls.kp k, h.don.kp k, h.lst.kp k, h.ne, h.kp.trans (k.mono h.kp.size)⟩

/-- The class of one node is written. -/
theorem S2.write {G : List Nd} {W : World} {cb db : Nat} {v : Value} {c : Nat → Nat} {dn : Nat → Bool} {l : List Nat} {w : World} (h : S2 G W cb db v c dn l w) {i : Nat} (hi : i < G.length) (x : Nat) (hcb : W.heap.size ≤ cb) :
    S2 G W cb db v (upd c i x) dn l (w.setCell ⟨cb, i, none⟩ (.int .i64 (x : Int))) := by
  have hs := h.cls.set hi x
  rw [Nat.zero_add] at hs
  have hC : Chg cb w (w.setCell ⟨cb, i, none⟩ (.int .i64 (x : Int))) := (Chg.refl _ _).setCell _ _
  exact ⟨hs, h.don.chg hC h.ne.1.symm, h.lst.chg hC h.ne.2.1, h.ne, h.kp.setCell (p := ⟨cb, i, none⟩) hcb _⟩

/-- The list has grown by an append. -/
theorem S2.append {G : List Nd} {W : World} {cb db : Nat} {v v' : Value} {c : Nat → Nat} {dn : Nat → Bool} {l : List Nat} {w wa w8 : World} {x : Nat} (h : S2 G W cb db v c dn l w) (hal : Kp w.heap.size w wa)
    (hown : Own W.heap.size 1 w8 v' (l.length + 1) (intsV l ++ [.int .i64 (x : Int)])) (hgr : wa.grownBy w8 v.ownBlock) (hblk : v'.ownBlock = v.ownBlock ∨ ∃ g, v'.ownBlock = some g ∧ wa.heap.size ≤ g) : S2 G W cb db v' c dn (l ++ [x]) w8 := by
  have hd := h.don.lt
  have hc := h.cls.lt
  have hs := hal.size
  refine ⟨(h.cls.kp hal).of_heap (grown_other hgr (by omega) h.ne.2.1), (h.don.kp hal).of_heap (grown_other hgr (by omega) h.ne.2.2), by simpa [intsV] using hown, ⟨h.ne.1, ?_⟩, ?_⟩
  · rcases hblk with e | ⟨g, e, hg⟩
    · rw [e]; exact h.ne.2
    · rw [e]; exact ⟨fun e => by have := Option.some.inj e; omega, fun e => by have := Option.some.inj e; omega⟩
  · exact Kp.of_grown_mine (h.kp.trans (hal.mono h.kp.size)) (h.lst.kp hal) hgr (by have := h.kp.size; omega)
end Go.Ev
