import Derived.Test.YtbjcopckkgdmgaaGreatDoorCs4
/- Classes: the third phase's parts. -/
namespace Go.Ev
open Go.Proofs Go.RowKit Go.Lib

theorem S2.at_ {G : List Nd} {W w : World} {cb db b o n cap : Nat} {c : Nat → Nat} {dn : Nat → Bool} {l : List Nat} (h : S2 G W cb db (.slice (some ⟨b, o, none⟩) n cap) c dn l w) {k : Nat} (hk : k < l.length) : w.cell? ⟨b, o + k, none⟩ = some (.int .i64 (l.getD k 0 : Nat)) := by
  obtain ⟨h1, h2⟩ := h.lst
  rcases h2 with ⟨e, _⟩ | ⟨b', off, cap', cs, t, e, hb, hh, hf, hm, hs, hx⟩
  · cases e
  · cases e
    rw [cell_of hh]
    exact hx k _ (by simp [intsV, List.getD, hk])

theorem own_slice {B n : Nat} {w : World} {v : Value} {xs : List Value} (h : Own B 1 w v n xs) : ∃ a cap, v = .slice a n cap ∧ ∀ k, k < n → ∃ b o, a = some ⟨b, o, none⟩ := by
  rcases h.2 with ⟨rfl, rfl⟩ | ⟨b, off, cap, cs, t, rfl, _⟩
  · exact ⟨_, _, rfl, fun k hk => by omega⟩
  · exact ⟨_, _, rfl, fun k hk => ⟨b, off, rfl⟩⟩
theorem own_at {B n cap b o : Nat} {w : World} {l : List Nat} (h : Own B 1 w (.slice (some ⟨b, o, none⟩) n cap) l.length (intsV l)) {k : Nat} (hk : k < l.length) : w.cell? ⟨b, o + k, none⟩ = some (.int .i64 (l[k] : Nat)) := by
  rcases h.2 with ⟨e, _⟩ | ⟨b', off, cap', cs, t, e, hb, hh, hf, hm, hs, hx⟩
  · cases e
  · cases e
    rw [cell_of hh]
    exact hx k _ (by simp [intsV, hk])

theorem take_filter : ∀ {R : List Nat}, R.Pairwise (· < ·) → ∀ {k : Nat} (hk : k < R.length), R.filter (fun x => decide (x < R[k])) = R.take k
  | [], _, k, hk => by simp at hk
  | a :: l, hs, 0, hk => by
    obtain ⟨h1, h2⟩ := List.pairwise_cons.1 hs
    simp only [List.getElem_cons_zero, List.take_zero]
    rw [List.filter_eq_nil_iff]
    intro x hx
    rcases List.mem_cons.1 hx with rfl | hx
    · simp
    · have := h1 x hx; simp; omega
  | a :: l, hs, k + 1, hk => by
    obtain ⟨h1, h2⟩ := List.pairwise_cons.1 hs
    have hk' : k < l.length := by simpa using hk
    simp only [List.getElem_cons_succ, List.take_succ_cons]
    rw [List.filter_cons, if_pos (by simpa using h1 _ (List.getElem_mem hk')), take_filter h2 hk']

/-- Some places have their new values. -/
def nxTo (c r : Nat → Nat) (l : List Nat) : Nat → Nat := fun z => if z ∈ l then r z else c z
theorem nxTo_nil (c r : Nat → Nat) : nxTo c r [] = c := by funext z; simp [nxTo]
theorem nxTo_next {c r : Nat → Nat} {R : List Nat} {k i : Nat} (hk : k < R.length) (hi : R[k] = i) : upd (nxTo c r (R.take k)) i (r i) = nxTo c r (R.take (k + 1)) := by
  funext z
  unfold upd nxTo
  rw [List.take_succ_eq_append_getElem hk, hi]
  by_cases h : z = i
  · subst h; simp
  · simp [h]

/-- What the third phase has between its rounds. -/
structure S4 (G : List Nd) (W : World) (b o cap : Nat) (v : Value) (c : Nat → Nat) (dn : Nat → Bool) (fs : List Nat) (w : World) : Prop where
  p1 : P1 G c dn fs
  p3 : P3 G c dn
  cls : SegF W.heap.size w b o G.length cap c
  lst : Own W.heap.size 1 w v (restOf G.length dn).length (intsV (restOf G.length dn))
  kp : Kp W.heap.size W w

theorem S4.start {G : List Nd} {W w : World} {cb db : Nat} {v : Value} {c : Nat → Nat} {dn : Nat → Bool} {fs : List Nat} (h1 : P1 G c dn fs) (h : S2 G W cb db v (clsTo G c dn G.length) dn (upToR G.length dn G.length) w) : S4 G W cb 0 G.length v (clsTo G c dn G.length) dn fs w := by
  have hr : ∀ i ∈ restOf G.length dn, clsTo G c dn G.length i = rp (faceB G) (restOf G.length dn) i := by
    intro i hi
    unfold clsTo
    rw [if_pos (mem_rest.1 hi)]
  refine ⟨h1.congr (fun z hz hd => ?_) (fun z hz => ?_), P3.start G dn _ hr, h.cls, by rw [← upToR_all]; exact h.lst, h.kp⟩
  · unfold clsTo; rw [if_neg (by simp [hd])]
  · by_cases hd : dn z = true
    · unfold clsTo; rw [if_neg (by simp [hd])]; exact h1.clt z hz
    · have hz' : z ∈ restOf G.length dn := mem_rest.2 ⟨hz, by simpa using hd⟩
      rw [hr z hz']
      exact (mem_rest.1 (rp_spec (face_eqv G dn) hz').1).1

/-- The new classes of one round. -/
def newC (G : List Nd) (c : Nat → Nat) (dn : Nat → Bool) (k : Nat) : Nat → Nat := nxTo c (rp (fineB G c) (restOf G.length dn)) ((restOf G.length dn).take k)

/-- What the third phase has in a round. -/
structure S3 (G : List Nd) (W : World) (b o cap nb no ncap : Nat) (v : Value) (c nx : Nat → Nat) (dn : Nat → Bool) (w : World) : Prop where
  cls : SegF W.heap.size w b o G.length cap c
  nxt : SegF W.heap.size w nb no G.length ncap nx
  lst : Own W.heap.size 1 w v (restOf G.length dn).length (intsV (restOf G.length dn))
  ne : b ≠ nb ∧ v.ownBlock ≠ some nb
  nlo : W.heap.size ≤ nb
  kp : Kp W.heap.size W w

section
variable {G : List Nd} {W w w' : World} {b o cap nb no ncap : Nat} {v : Value} {c nx : Nat → Nat} {dn : Nat → Bool} {fs : List Nat}
theorem S3.grow (h : S3 G W b o cap nb no ncap v c nx dn w) (k : Kp w.heap.size w w') : S3 G W b o cap nb no ncap v c nx dn w' :=
  ⟨h.cls.kp k, h.nxt.kp k, h.lst.kp k, h.ne, h.nlo, h.kp.trans (k.mono h.kp.size)⟩
theorem S3.write (h : S3 G W b o cap nb no ncap v c nx dn w) {i : Nat} (hi : i < G.length) (x : Nat) : S3 G W b o cap nb no ncap v c (upd nx i x) dn (w.setCell ⟨nb, no + i, none⟩ (.int .i64 (x : Int))) := by
  have hC : Chg nb w (w.setCell ⟨nb, no + i, none⟩ (.int .i64 (x : Int))) := (Chg.refl _ _).setCell _ _
  exact ⟨h.cls.chg hC h.ne.1, h.nxt.set hi x, h.lst.chg hC h.ne.2, h.ne, h.nlo, h.kp.setCell (p := ⟨nb, no + i, none⟩) h.nlo _⟩

/-- A copy of the classes. -/
theorem S4.copy (h : S4 G W b o cap v c dn fs w) {v' : Value} {w8 : World} (hn : 0 < G.length) (hown : Own W.heap.size 1 w8 v' (0 + G.length) ([] ++ (List.range G.length).map fun i => Value.int .i64 (c i : Int))) (hgr : w.grownBy w8 (Value.slice none 0 0).ownBlock)
    (hblk : v'.ownBlock = (Value.slice none 0 0).ownBlock ∨ ∃ g, v'.ownBlock = some g ∧ w.heap.size ≤ g) : ∃ nb no ncap, v' = .slice (some ⟨nb, no, none⟩) G.length ncap ∧ S3 G W b o cap nb no ncap v c (newC G c dn 0) dn w8 := by
  rw [Nat.zero_add, List.nil_append] at hown
  obtain ⟨nb, no, ncap, rfl, hseg⟩ := hown.seg hn
  have hbl : (Value.slice (some ⟨nb, no, none⟩) G.length ncap).ownBlock = some nb := by simp [Value.ownBlock]
  have hg : w.heap.size ≤ nb := by
    rcases hblk with e | ⟨g, e, hg⟩
    · rw [hbl] at e; simp [Value.ownBlock] at e
    · rw [hbl] at e; have := Option.some.inj e; omega
  have hk : Kp w.heap.size w w8 := (Kp.refl _ _).grownBy hgr (Nat.le_refl _) (fun k hk => by simp [Value.ownBlock] at hk)
  have hlt := h.cls.lt
  refine ⟨nb, no, ncap, rfl, h.cls.kp hk, ?_, h.lst.kp hk, ⟨by omega, fun e => ?_⟩, ?_, h.kp.trans (hk.mono h.kp.size)⟩
  · unfold newC; rw [List.take_zero, nxTo_nil]; exact hseg
  · have := (h.lst.lt e).2; omega
  · exact Nat.le_trans h.kp.size hg

theorem newC_next {k i : Nat} (hk : k < (restOf G.length dn).length) (hi : (restOf G.length dn)[k] = i) : upd (newC G c dn k) i (rp (fineB G c) (restOf G.length dn) i) = newC G c dn (k + 1) := nxTo_next hk hi
theorem newC_in {k f : Nat} (hf : f ∈ (restOf G.length dn).take k) : newC G c dn k f = rp (fineB G c) (restOf G.length dn) f := by
  unfold newC nxTo; rw [if_pos hf]
theorem newC_all (i : Nat) (hi : i ∈ restOf G.length dn) : newC G c dn (restOf G.length dn).length i = rp (fineB G c) (restOf G.length dn) i := newC_in (by rw [List.take_length]; exact hi)
theorem rp_take {e : Nat → Nat → Bool} {k i : Nat} (hk : k < (restOf G.length dn).length) (hi : (restOf G.length dn)[k] = i) : rp e (restOf G.length dn) i = firstOr (e i) i ((restOf G.length dn).take k) := by
  unfold rp
  have h := take_filter (rest_sorted G.length dn) hk
  rw [hi] at h
  rw [h]

/-- The next round's state. -/
theorem S3.done (h : S3 G W b o cap nb no ncap v c (newC G c dn (restOf G.length dn).length) dn w) (hG : GClosed G) (h1 : P1 G c dn fs) (hq : Q1 G dn) (h3 : P3 G c dn) : S4 G W nb no ncap v (newC G c dn (restOf G.length dn).length) dn fs w := by
  refine ⟨h1.congr (fun z hz hd => ?_) (fun z hz => ?_), P3.step hG h1 hq h3 newC_all, h.nxt, h.lst, h.kp⟩
  · unfold newC nxTo
    rw [List.take_length, if_neg]
    intro hm
    have := (mem_rest.1 hm).2
    rw [hd] at this
    cases this
  · by_cases hm : z ∈ restOf G.length dn
    · rw [newC_all z hm]
      exact (mem_rest.1 (rp_spec (fine_eqv h3) hm).1).1
    · unfold newC nxTo
      rw [List.take_length, if_neg hm]
      exact h1.clt z hz

/-- Nothing has changed. -/
theorem newC_same (h : ∀ z ∈ restOf G.length dn, rp (fineB G c) (restOf G.length dn) z = c z) : newC G c dn (restOf G.length dn).length = c := by
  funext z
  unfold newC nxTo
  rw [List.take_length]
  split
  · rename_i hm; exact h z hm
  · rfl
end
end Go.Ev
