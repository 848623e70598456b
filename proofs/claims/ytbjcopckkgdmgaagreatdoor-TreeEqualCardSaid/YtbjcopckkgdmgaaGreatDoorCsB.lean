import Derived.Test.YtbjcopckkgdmgaaGreatDoorCsA
import Derived.Test.YtbjcopckkgdmgaaGreatDoorRe1
/- Classes: what the walk has in its memory. -/
namespace Go.Ev
open Go.Proofs Go.RowKit Go.Lib
set_option maxRecDepth 100000

def upd {α : Type} (f : Nat → α) (i : Nat) (v : α) : Nat → α := fun z => if z = i then v else f z

/-- A slice of the call's own that holds the values of a function. -/
def SegF (B : Nat) (w : World) (b o n cap : Nat) (f : Nat → Nat) : Prop := Seg B 1 w b o n cap ((List.range n).map fun i => Value.int .i64 (f i : Int))

section
variable {B b o n cap : Nat} {w w' : World} {f : Nat → Nat}
theorem SegF.cell (h : SegF B w b o n cap f) {i : Nat} (hi : i < n) : w.cell? ⟨b, o + i, none⟩ = some (.int .i64 (f i : Int)) := Seg.cell h (by simp [hi])
theorem SegF.ints (h : SegF B w b o n cap f) : IntsAt w b o n f := fun _j hj => h.cell hj
theorem SegF.frozen (h : SegF B w b o n cap f) (i : Nat) : w.frozen? ⟨b, i, none⟩ = false := by
  obtain ⟨cs, t, h1, _⟩ := Seg.blk h
  simp [World.frozen?, h1]
theorem SegF.set (h : SegF B w b o n cap f) {i : Nat} (hi : i < n) (v : Nat) : SegF B (w.setCell ⟨b, o + i, none⟩ (.int .i64 (v : Int))) b o n cap (upd f i v) := by
  obtain ⟨cs, t, h1, h2, h3⟩ := Seg.blk h
  have hfit := Seg.fit h
  refine ⟨Seg.lo h, by simp, hfit, Seg.max h, cs.setIfInBounds (o + i) (.int .i64 (v : Int)), t, ?_, by simpa using h2, fun j u hj => ?_⟩
  · simp [World.setCell, Array.getElem?_modify, h1]
  · have hjn : j < n := by
      have := (List.getElem?_eq_some_iff.1 hj).1
      simpa using this
    simp only [List.getElem?_map, List.getElem?_range hjn, Option.map_some, Option.some.injEq] at hj
    subst hj
    unfold upd
    by_cases hji : j = i
    · subst hji
      rw [if_pos rfl]
      simp [Array.getElem?_setIfInBounds]
      omega
    · rw [if_neg hji, Array.getElem?_setIfInBounds, if_neg (by omega)]
      exact h3 j _ (by simp [hjn])
theorem SegF.of_heap (h : SegF B w b o n cap f) (e : w'.heap[b]? = w.heap[b]?) : SegF B w' b o n cap f := Seg.of_heap h e
theorem SegF.chg {c : Nat} (h : SegF B w b o n cap f) (hk : Chg c w w') (hb : b ≠ c) : SegF B w' b o n cap f := Seg.chg h hk hb
theorem SegF.kp (h : SegF B w b o n cap f) (hk : Kp w.heap.size w w') : SegF B w' b o n cap f := Seg.kp h hk
theorem SegF.lt (h : SegF B w b o n cap f) : b < w.heap.size := Seg.lt h
end

def boolsF (n : Nat) (dn : Nat → Bool) : List Bool := (List.range n).map dn
theorem boolsF_length (n : Nat) (dn : Nat → Bool) : (boolsF n dn).length = n := by simp [boolsF]
theorem boolsF_get {n i : Nat} (dn : Nat → Bool) (h : i < n) : (boolsF n dn).getD i false = dn i := by simp [boolsF, List.getD, h]
theorem boolsF_false (n : Nat) : boolsF n (fun _ => false) = List.replicate n false := by
  apply List.ext_getElem?
  intro j
  unfold boolsF
  by_cases hj : j < n
  · simp [hj]
  · simp [hj]
theorem boolsF_set {n i : Nat} (dn : Nat → Bool) (h : i < n) : (boolsF n dn).set i true = boolsF n (upd dn i true) := by
  apply List.ext_getElem?
  intro j
  rw [List.getElem?_set]
  unfold boolsF upd
  by_cases hj : j < n
  · simp only [List.getElem?_map, List.getElem?_range hj, List.length_map, List.length_range, Option.map_some]
    split
    · rename_i e; subst e; simp
    · rename_i e; rw [if_neg (Ne.symm e)]
  · simp only [List.getElem?_map, List.getElem?_eq_none (show (List.range n).length ≤ j by simp; omega), List.length_map, List.length_range, Option.map_none]
    split
    · omega
    · rfl

theorem zeros_segF {B g n : Nat} {w : World} (h : RowI w g (List.replicate n 0)) (hB : B ≤ g) (hn : n ≤ maxLen) : SegF B w g 0 n n (fun _ => 0) := by
  obtain ⟨t, h⟩ := h
  refine ⟨hB, by simp, Nat.le_refl _, hn, _, t, h, by simp, fun j u hj => ?_⟩
  have hjn : j < n := by
    have := (List.getElem?_eq_some_iff.1 hj).1
    simpa using this
  simp only [List.getElem?_map, List.getElem?_range hjn, Option.map_some, Option.some.injEq] at hj
  subst hj
  simp [hjn]

theorem rest_less {n i : Nat} {dn : Nat → Bool} (hi : i < n) (hd : dn i = false) : (restOf n (upd dn i true)).length + 1 = (restOf n dn).length := by
  unfold restOf
  rw [← List.countP_eq_length_filter, ← List.countP_eq_length_filter]
  refine countP_one_less List.nodup_range (List.mem_range.2 hi) (by simp [hd]) (by simp [upd]) fun u hu => ?_
  simp [upd, hu]

set_option maxHeartbeats 2000000 in
theorem find_nil (gb go gl gc i cb co cl cc : Nat) (W : World) :
    Calls Tryz.prog 93 #[.slice (some ⟨gb, go, none⟩) gl gc, .slice none 0 0, .int .i64 i, .slice (some ⟨cb, co, none⟩) cl cc] W fun e w' => e = .returned (.int .i64 (i : Int)) ∧ Kp W.heap.size W w' := by
  go_enter Tryz.func93, Tryz.ntmps93
  go_wp2
  go_loop [9] (fun v => v = .int .i64 0) (fun _ => 0)
  case atStart => rfl
  case round =>
    subst hrel
    go_wp2
    go_ret
    exact ⟨rfl, Kp.refl _ _⟩

/-- What Classes has while finite nodes get their classes. -/
structure S1 (G : List Nd) (W : World) (cb db : Nat) (v5 : Value) (c : Nat → Nat) (dn : Nat → Bool) (fs : List Nat) (w : World) : Prop where
  p1 : P1 G c dn fs
  cls : SegF W.heap.size w cb 0 G.length G.length c
  don : RowB w db (boolsF G.length dn)
  fst : Own W.heap.size 1 w v5 fs.length (intsV fs)
  ne : cb ≠ db ∧ v5.ownBlock ≠ some cb ∧ v5.ownBlock ≠ some db
  dlo : W.heap.size ≤ db
  kp : Kp W.heap.size W w

theorem S1.grow {G : List Nd} {W : World} {cb db : Nat} {v5 : Value} {c : Nat → Nat} {dn : Nat → Bool} {fs : List Nat} {w w' : World} (h : S1 G W cb db v5 c dn fs w) (k : Kp w.heap.size w w') : S1 G W cb db v5 c dn fs w' :=
  ⟨h.p1, h.cls.kp k, h.don.kp k, h.fst.kp k, h.ne, h.dlo, h.kp.trans (k.mono h.kp.size)⟩
end Go.Ev

/- Classes: the second phase's parts. -/
namespace Go.Ev
open Go.Proofs Go.RowKit Go.Lib

/-- The nodes without a class that come before one. -/
def upToR (n : Nat) (dn : Nat → Bool) (j : Nat) : List Nat := (restOf n dn).filter fun x => decide (x < j)
theorem upToR_zero (n : Nat) (dn : Nat → Bool) : upToR n dn 0 = [] := by
  unfold upToR
  rw [List.filter_eq_nil_iff]
  simp
theorem upToR_all (n : Nat) (dn : Nat → Bool) : upToR n dn n = restOf n dn := by
  unfold upToR
  rw [List.filter_eq_self]
  intro x hx
  simpa using (mem_rest.1 hx).1
theorem upToR_eq {n j : Nat} (dn : Nat → Bool) (hj : j ≤ n) : upToR n dn j = restOf j dn := by
  unfold upToR restOf
  rw [List.filter_filter]
  obtain ⟨d, rfl⟩ : ∃ d, n = j + d := ⟨n - j, by omega⟩
  rw [List.range_add, List.filter_append]
  have h1 : (List.range j).filter (fun a => decide (a < j) && !dn a) = (List.range j).filter fun i => !dn i := by
    apply List.filter_congr
    intro x hx
    have := List.mem_range.1 hx
    simp [this]
  have h2 : ((List.range d).map (j + ·)).filter (fun a => decide (a < j) && !dn a) = [] := by
    rw [List.filter_eq_nil_iff]
    intro x hx
    obtain ⟨y, _, rfl⟩ := List.mem_map.1 hx
    simp
    intro h
    omega
  rw [h1, h2, List.append_nil]
theorem upToR_done {n j : Nat} {dn : Nat → Bool} (hj : j < n) (hd : dn j = true) : upToR n dn (j + 1) = upToR n dn j := by
  rw [upToR_eq dn (by omega), upToR_eq dn (by omega)]
  unfold restOf
  rw [List.range_succ, List.filter_append]
  simp [hd]
theorem upToR_snoc {n j : Nat} {dn : Nat → Bool} (hj : j < n) (hd : dn j = false) : upToR n dn (j + 1) = upToR n dn j ++ [j] := by
  rw [upToR_eq dn (by omega), upToR_eq dn (by omega)]
  unfold restOf
  rw [List.range_succ, List.filter_append]
  simp [hd]
theorem upToR_mem {n j x : Nat} {dn : Nat → Bool} : x ∈ upToR n dn j ↔ (x < n ∧ dn x = false) ∧ x < j := by
  unfold upToR
  rw [List.mem_filter, mem_rest]
  simp
theorem upToR_le {n j : Nat} {dn : Nat → Bool} : (upToR n dn j).length ≤ n := by
  unfold upToR restOf
  exact Nat.le_trans (List.length_filter_le _ _) (Nat.le_trans (List.length_filter_le _ _) (by simp))

/-- The classes, as far as the second phase has come. -/
def clsTo (G : List Nd) (c : Nat → Nat) (dn : Nat → Bool) (j : Nat) : Nat → Nat := fun z => if z < j ∧ dn z = false then rp (faceB G) (restOf G.length dn) z else c z

theorem clsTo_zero (G : List Nd) (c : Nat → Nat) (dn : Nat → Bool) : clsTo G c dn 0 = c := by
  funext z; unfold clsTo; rw [if_neg (by omega)]
theorem clsTo_done {G : List Nd} {c : Nat → Nat} {dn : Nat → Bool} {j : Nat} (hd : dn j = true) : clsTo G c dn (j + 1) = clsTo G c dn j := by
  funext z
  unfold clsTo
  by_cases h : z = j
  · subst h; rw [if_neg (by simp [hd]), if_neg (by simp [hd])]
  · have : (z < j + 1 ∧ dn z = false) ↔ (z < j ∧ dn z = false) := by constructor <;> rintro ⟨a, b⟩ <;> exact ⟨by omega, b⟩
    simp only [this]
theorem clsTo_next {G : List Nd} {c : Nat → Nat} {dn : Nat → Bool} {j : Nat} (hd : dn j = false) : upd (clsTo G c dn j) j (rp (faceB G) (restOf G.length dn) j) = clsTo G c dn (j + 1) := by
  funext z
  unfold upd clsTo
  by_cases h : z = j
  · subst h; rw [if_pos rfl, if_pos ⟨by omega, hd⟩]
  · have : (z < j + 1 ∧ dn z = false) ↔ (z < j ∧ dn z = false) := by constructor <;> rintro ⟨a, b⟩ <;> exact ⟨by omega, b⟩
    rw [if_neg h]
    simp only [this]
theorem upd_upd {α : Type} (f : Nat → α) (i : Nat) (v v' : α) : upd (upd f i v) i v' = upd f i v' := by
  funext z; unfold upd; split <;> rfl
theorem upd_at {α : Type} (f : Nat → α) (i : Nat) (v : α) : upd f i v i = v := if_pos rfl
theorem upd_ne {α : Type} (f : Nat → α) {i z : Nat} (v : α) (h : z ≠ i) : upd f i v z = f z := if_neg h

/-- What Classes has in its later phases: classes, what is done, a list of nodes. -/
structure S2 (G : List Nd) (W : World) (cb db : Nat) (v : Value) (c : Nat → Nat) (dn : Nat → Bool) (l : List Nat) (w : World) : Prop where
  cls : SegF W.heap.size w cb 0 G.length G.length c
  don : RowB w db (boolsF G.length dn)
  lst : Own W.heap.size 1 w v l.length (intsV l)
  ne : cb ≠ db ∧ v.ownBlock ≠ some cb ∧ v.ownBlock ≠ some db
  kp : Kp W.heap.size W w

theorem S2.grow {G : List Nd} {W : World} {cb db : Nat} {v : Value} {c : Nat → Nat} {dn : Nat → Bool} {l : List Nat} {w w' : World} (h : S2 G W cb db v c dn l w) (k : Kp w.heap.size w w') : S2 G W cb db v c dn l w' :=
  ⟨h.cls.kp k, h.don.kp k, h.lst.kp k, h.ne, h.kp.trans (k.mono h.kp.size)⟩

/-- The class of one node is written. -/
theorem S2.write {G : List Nd} {W : World} {cb db : Nat} {v : Value} {c : Nat → Nat} {dn : Nat → Bool} {l : List Nat} {w : World} (h : S2 G W cb db v c dn l w) {i : Nat} (hi : i < G.length) (x : Nat) (hcb : W.heap.size ≤ cb) :
    S2 G W cb db v (upd c i x) dn l (w.setCell ⟨cb, i, none⟩ (.int .i64 (x : Int))) := by
  have hs := h.cls.set hi x
  rw [Nat.zero_add] at hs
  have hC : Chg cb w (w.setCell ⟨cb, i, none⟩ (.int .i64 (x : Int))) := (Chg.refl _ _).setCell _ _
  exact ⟨hs, h.don.chg hC h.ne.1.symm, h.lst.chg hC h.ne.2.1, h.ne, h.kp.setCell (p := ⟨cb, i, none⟩) hcb _⟩

/-- The list has grown by an append. -/
theorem S2.append {G : List Nd} {W : World} {cb db : Nat} {v v' : Value} {c : Nat → Nat} {dn : Nat → Bool} {l : List Nat} {w wa w8 : World} {x : Nat} (h : S2 G W cb db v c dn l w) (hal : Kp w.heap.size w wa)
    (hown : Own W.heap.size 1 w8 v' (l.length + 1) (intsV l ++ [.int .i64 (x : Int)])) (hgr : wa.grownBy w8 v.ownBlock) (hblk : v'.ownBlock = v.ownBlock ∨ ∃ g, v'.ownBlock = some g ∧ wa.heap.size ≤ g) : S2 G W cb db v' c dn (l ++ [x]) w8 := by
  have hd := h.don.lt
  have hc := h.cls.lt
  have hs := hal.size
  refine ⟨(h.cls.kp hal).of_heap (grown_other hgr (by omega) h.ne.2.1), (h.don.kp hal).of_heap (grown_other hgr (by omega) h.ne.2.2), by simpa [intsV] using hown, ⟨h.ne.1, ?_⟩, ?_⟩
  · rcases hblk with e | ⟨g, e, hg⟩
    · rw [e]; exact h.ne.2
    · rw [e]; exact ⟨fun e => by have := Option.some.inj e; omega, fun e => by have := Option.some.inj e; omega⟩
  · exact Kp.of_grown_mine (h.kp.trans (hal.mono h.kp.size)) (h.lst.kp hal) hgr (by have := h.kp.size; omega)
end Go.Ev

/- Classes: the third phase's parts. -/
namespace Go.Ev
open Go.Proofs Go.RowKit Go.Lib

theorem S2.at_ {G : List Nd} {W w : World} {cb db b o n cap : Nat} {c : Nat → Nat} {dn : Nat → Bool} {l : List Nat} (h : S2 G W cb db (.slice (some ⟨b, o, none⟩) n cap) c dn l w) {k : Nat} (hk : k < l.length) : w.cell? ⟨b, o + k, none⟩ = some (.int .i64 (l.getD k 0 : Nat)) := by
  obtain ⟨h1, h2⟩ := h.lst
  rcases h2 with ⟨e, _⟩ | ⟨b', off, cap', cs, t, e, hb, hh, hf, hm, hs, hx⟩
  · cases e
  · cases e
    rw [cell_of hh]
    exact hx k _ (by simp [intsV, List.getD, hk])

theorem own_slice {B n : Nat} {w : World} {v : Value} {xs : List Value} (h : Own B 1 w v n xs) : ∃ a cap, v = .slice a n cap ∧ ∀ k, k < n → ∃ b o, a = some ⟨b, o, none⟩ := by
  rcases h.2 with ⟨rfl, rfl⟩ | ⟨b, off, cap, cs, t, rfl, _⟩
  · exact ⟨_, _, rfl, fun k hk => by omega⟩
  · exact ⟨_, _, rfl, fun k hk => ⟨b, off, rfl⟩⟩
theorem own_at {B n cap b o : Nat} {w : World} {l : List Nat} (h : Own B 1 w (.slice (some ⟨b, o, none⟩) n cap) l.length (intsV l)) {k : Nat} (hk : k < l.length) : w.cell? ⟨b, o + k, none⟩ = some (.int .i64 (l[k] : Nat)) := by
  rcases h.2 with ⟨e, _⟩ | ⟨b', off, cap', cs, t, e, hb, hh, hf, hm, hs, hx⟩
  · cases e
  · cases e
    rw [cell_of hh]
    exact hx k _ (by simp [intsV, hk])

theorem take_filter : ∀ {R : List Nat}, R.Pairwise (· < ·) → ∀ {k : Nat} (hk : k < R.length), R.filter (fun x => decide (x < R[k])) = R.take k
  | [], _, k, hk => by simp at hk
  | a :: l, hs, 0, hk => by
    obtain ⟨h1, h2⟩ := List.pairwise_cons.1 hs
    simp only [List.getElem_cons_zero, List.take_zero]
    rw [List.filter_eq_nil_iff]
    intro x hx
    rcases List.mem_cons.1 hx with rfl | hx
    · simp
    · have := h1 x hx; simp; omega
  | a :: l, hs, k + 1, hk => by
    obtain ⟨h1, h2⟩ := List.pairwise_cons.1 hs
    have hk' : k < l.length := by simpa using hk
    simp only [List.getElem_cons_succ, List.take_succ_cons]
    rw [List.filter_cons, if_pos (by simpa using h1 _ (List.getElem_mem hk')), take_filter h2 hk']

/-- Some places have their new values. -/
def nxTo (c r : Nat → Nat) (l : List Nat) : Nat → Nat := fun z => if z ∈ l then r z else c z
theorem nxTo_nil (c r : Nat → Nat) : nxTo c r [] = c := by funext z; simp [nxTo]
theorem nxTo_next {c r : Nat → Nat} {R : List Nat} {k i : Nat} (hk : k < R.length) (hi : R[k] = i) : upd (nxTo c r (R.take k)) i (r i) = nxTo c r (R.take (k + 1)) := by
  funext z
  unfold upd nxTo
  rw [List.take_succ_eq_append_getElem hk, hi]
  by_cases h : z = i
  · subst h; simp
  · simp [h]

/-- What the third phase has between its rounds. -/
structure S4 (G : List Nd) (W : World) (b o cap : Nat) (v : Value) (c : Nat → Nat) (dn : Nat → Bool) (fs : List Nat) (w : World) : Prop where
  p1 : P1 G c dn fs
  p3 : P3 G c dn
  cls : SegF W.heap.size w b o G.length cap c
  lst : Own W.heap.size 1 w v (restOf G.length dn).length (intsV (restOf G.length dn))
  kp : Kp W.heap.size W w

theorem S4.start {G : List Nd} {W w : World} {cb db : Nat} {v : Value} {c : Nat → Nat} {dn : Nat → Bool} {fs : List Nat} (h1 : P1 G c dn fs) (h : S2 G W cb db v (clsTo G c dn G.length) dn (upToR G.length dn G.length) w) : S4 G W cb 0 G.length v (clsTo G c dn G.length) dn fs w := by
  have hr : ∀ i ∈ restOf G.length dn, clsTo G c dn G.length i = rp (faceB G) (restOf G.length dn) i := by
    intro i hi
    unfold clsTo
    rw [if_pos (mem_rest.1 hi)]
  refine ⟨h1.congr (fun z hz hd => ?_) (fun z hz => ?_), P3.start G dn _ hr, h.cls, by rw [← upToR_all]; exact h.lst, h.kp⟩
  · unfold clsTo; rw [if_neg (by simp [hd])]
  · by_cases hd : dn z = true
    · unfold clsTo; rw [if_neg (by simp [hd])]; exact h1.clt z hz
    · have hz' : z ∈ restOf G.length dn := mem_rest.2 ⟨hz, by simpa using hd⟩
      rw [hr z hz']
      exact (mem_rest.1 (rp_spec (face_eqv G dn) hz').1).1

/-- The new classes of one round. -/
def newC (G : List Nd) (c : Nat → Nat) (dn : Nat → Bool) (k : Nat) : Nat → Nat := nxTo c (rp (fineB G c) (restOf G.length dn)) ((restOf G.length dn).take k)

/-- What the third phase has in a round. -/
structure S3 (G : List Nd) (W : World) (b o cap nb no ncap : Nat) (v : Value) (c nx : Nat → Nat) (dn : Nat → Bool) (w : World) : Prop where
  cls : SegF W.heap.size w b o G.length cap c
  nxt : SegF W.heap.size w nb no G.length ncap nx
  lst : Own W.heap.size 1 w v (restOf G.length dn).length (intsV (restOf G.length dn))
  ne : b ≠ nb ∧ v.ownBlock ≠ some nb
  nlo : W.heap.size ≤ nb
  kp : Kp W.heap.size W w

section
variable {G : List Nd} {W w w' : World} {b o cap nb no ncap : Nat} {v : Value} {c nx : Nat → Nat} {dn : Nat → Bool} {fs : List Nat}
theorem S3.grow (h : S3 G W b o cap nb no ncap v c nx dn w) (k : Kp w.heap.size w w') : S3 G W b o cap nb no ncap v c nx dn w' :=
  ⟨h.cls.kp k, h.nxt.kp k, h.lst.kp k, h.ne, h.nlo, h.kp.trans (k.mono h.kp.size)⟩
theorem S3.write (h : S3 G W b o cap nb no ncap v c nx dn w) {i : Nat} (hi : i < G.length) (x : Nat) : S3 G W b o cap nb no ncap v c (upd nx i x) dn (w.setCell ⟨nb, no + i, none⟩ (.int .i64 (x : Int))) := by
  have hC : Chg nb w (w.setCell ⟨nb, no + i, none⟩ (.int .i64 (x : Int))) := (Chg.refl _ _).setCell _ _
  exact ⟨h.cls.chg hC h.ne.1, h.nxt.set hi x, h.lst.chg hC h.ne.2, h.ne, h.nlo, h.kp.setCell (p := ⟨nb, no + i, none⟩) h.nlo _⟩

/-- A copy of the classes. -/
theorem S4.copy (h : S4 G W b o cap v c dn fs w) {v' : Value} {w8 : World} (hn : 0 < G.length) (hown : Own W.heap.size 1 w8 v' (0 + G.length) ([] ++ (List.range G.length).map fun i => Value.int .i64 (c i : Int))) (hgr : w.grownBy w8 (Value.slice none 0 0).ownBlock)
    (hblk : v'.ownBlock = (Value.slice none 0 0).ownBlock ∨ ∃ g, v'.ownBlock = some g ∧ w.heap.size ≤ g) : ∃ nb no ncap, v' = .slice (some ⟨nb, no, none⟩) G.length ncap ∧ S3 G W b o cap nb no ncap v c (newC G c dn 0) dn w8 := by
  rw [Nat.zero_add, List.nil_append] at hown
  obtain ⟨nb, no, ncap, rfl, hseg⟩ := hown.seg hn
  have hbl : (Value.slice (some ⟨nb, no, none⟩) G.length ncap).ownBlock = some nb := by simp [Value.ownBlock]
  have hg : w.heap.size ≤ nb := by
    rcases hblk with e | ⟨g, e, hg⟩
    · rw [hbl] at e; simp [Value.ownBlock] at e
    · rw [hbl] at e; have := Option.some.inj e; omega
  have hk : Kp w.heap.size w w8 := (Kp.refl _ _).grownBy hgr (Nat.le_refl _) (fun k hk => by simp [Value.ownBlock] at hk)
  have hlt := h.cls.lt
  refine ⟨nb, no, ncap, rfl, h.cls.kp hk, ?_, h.lst.kp hk, ⟨by omega, fun e => ?_⟩, ?_, h.kp.trans (hk.mono h.kp.size)⟩
  · unfold newC; rw [List.take_zero, nxTo_nil]; exact hseg
  · have := (h.lst.lt e).2; omega
  · exact Nat.le_trans h.kp.size hg

theorem newC_next {k i : Nat} (hk : k < (restOf G.length dn).length) (hi : (restOf G.length dn)[k] = i) : upd (newC G c dn k) i (rp (fineB G c) (restOf G.length dn) i) = newC G c dn (k + 1) := nxTo_next hk hi
theorem newC_in {k f : Nat} (hf : f ∈ (restOf G.length dn).take k) : newC G c dn k f = rp (fineB G c) (restOf G.length dn) f := by
  unfold newC nxTo; rw [if_pos hf]
theorem newC_all (i : Nat) (hi : i ∈ restOf G.length dn) : newC G c dn (restOf G.length dn).length i = rp (fineB G c) (restOf G.length dn) i := newC_in (by rw [List.take_length]; exact hi)
theorem rp_take {e : Nat → Nat → Bool} {k i : Nat} (hk : k < (restOf G.length dn).length) (hi : (restOf G.length dn)[k] = i) : rp e (restOf G.length dn) i = firstOr (e i) i ((restOf G.length dn).take k) := by
  unfold rp
  have h := take_filter (rest_sorted G.length dn) hk
  rw [hi] at h
  rw [h]

/-- The next round's state. -/
theorem S3.done (h : S3 G W b o cap nb no ncap v c (newC G c dn (restOf G.length dn).length) dn w) (hG : GClosed G) (h1 : P1 G c dn fs) (hq : Q1 G dn) (h3 : P3 G c dn) : S4 G W nb no ncap v (newC G c dn (restOf G.length dn).length) dn fs w := by
  refine ⟨h1.congr (fun z hz hd => ?_) (fun z hz => ?_), P3.step hG h1 hq h3 newC_all, h.nxt, h.lst, h.kp⟩
  · unfold newC nxTo
    rw [List.take_length, if_neg]
    intro hm
    have := (mem_rest.1 hm).2
    rw [hd] at this
    cases this
  · by_cases hm : z ∈ restOf G.length dn
    · rw [newC_all z hm]
      exact (mem_rest.1 (rp_spec (fine_eqv h3) hm).1).1
    · unfold newC nxTo
      rw [List.take_length, if_neg hm]
      exact h1.clt z hz

/-- Nothing has changed. -/
theorem newC_same (h : ∀ z ∈ restOf G.length dn, rp (fineB G c) (restOf G.length dn) z = c z) : newC G c dn (restOf G.length dn).length = c := by
  funext z
  unfold newC nxTo
  rw [List.take_length]
  split
  · rename_i hm; exact h z hm
  · rfl
end
end Go.Ev
