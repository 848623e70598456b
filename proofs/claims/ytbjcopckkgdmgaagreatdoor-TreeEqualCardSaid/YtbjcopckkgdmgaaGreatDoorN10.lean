import Derived.Test.YtbjcopckkgdmgaaGreatDoorN9
import Derived.Test.YtbjcopckkgdmgaaGreatDoorRb
import Derived.Deep.RegionHeld3
/- The program's division of nodes into classes: the tuples above nodes, laid. -/
namespace Go.Ev
open Go.Proofs Go.RowKit

/-- Of each node the second ones of the pairs whose first one it is. -/
def rowsOf (N : Nat) (L : List (Nat × Nat)) : List (List Nat) := (List.range N).map fun a => (L.filter fun p => p.1 == a).map (·.2)
theorem rowsOf_length (N : Nat) (L : List (Nat × Nat)) : (rowsOf N L).length = N := by simp [rowsOf]
theorem rowsOf_get {N a : Nat} (L : List (Nat × Nat)) (h : a < N) : (rowsOf N L)[a]? = some ((L.filter fun p => p.1 == a).map (·.2)) := by
  unfold rowsOf; rw [List.getElem?_map, List.getElem?_range h]; rfl
theorem rowsOf_getD {N a : Nat} (L : List (Nat × Nat)) (h : a < N) : (rowsOf N L).getD a [] = (L.filter fun p => p.1 == a).map (·.2) := by
  rw [List.getD_eq_getElem?_getD, rowsOf_get L h]; rfl
theorem rowsOf_snoc {N a t : Nat} (L : List (Nat × Nat)) (h : a < N) : (rowsOf N L).set a ((rowsOf N L).getD a [] ++ [t]) = rowsOf N (L ++ [(a, t)]) := by
  apply List.ext_getElem?
  intro j
  rw [List.getElem?_set, rowsOf_length]
  by_cases hj : j < N
  · rw [rowsOf_get _ hj, rowsOf_get _ hj, rowsOf_getD L h]
    by_cases e : a = j
    · subst e; rw [if_pos rfl, if_pos h]; simp
    · have e' : (a == j) = false := by simpa using e
      rw [if_neg e, List.filter_append]
      simp [e']
  · rw [if_neg (by omega), List.getElem?_eq_none (by rw [rowsOf_length]; omega), List.getElem?_eq_none (by rw [rowsOf_length]; omega)]

/-- The arguments of the first nodes, with these. -/
def pairsOf (G : List Nd) (k : Nat) : List (Nat × Nat) := (List.range k).flatMap fun t => (argsAt G t).map fun a => (a, t)
theorem pairsOf_succ (G : List Nd) (k : Nat) : pairsOf G (k + 1) = pairsOf G k ++ (argsAt G k).map fun a => (a, k) := by
  unfold pairsOf; rw [List.range_succ, List.flatMap_append]; simp
theorem pairsOf_len {G : List Nd} (hG : GClosed G) : ∀ k, (pairsOf G k).length ≤ 8 * k
  | 0 => by simp [pairsOf]
  | k + 1 => by
    rw [pairsOf_succ, List.length_append, List.length_map]
    have := pairsOf_len hG k
    have := argsAt_le hG k
    omega
theorem pairsOf_mem (G : List Nd) (k a t : Nat) : (a, t) ∈ pairsOf G k ↔ t < k ∧ a ∈ argsAt G t := by
  unfold pairsOf
  rw [List.mem_flatMap]
  constructor
  · rintro ⟨s, hs, h⟩
    obtain ⟨b, hb, e⟩ := List.mem_map.1 h
    obtain ⟨rfl, rfl⟩ := Prod.mk.inj e
    exact ⟨by simpa using hs, hb⟩
  · rintro ⟨h1, h2⟩
    exact ⟨t, by simpa using h1, List.mem_map.2 ⟨a, h2, rfl⟩⟩
theorem rows_iff {G : List Nd} {a : Nat} (ha : a < G.length) (t : Nat) : t ∈ (rowsOf G.length (pairsOf G G.length)).getD a [] ↔ t < G.length ∧ a ∈ argsAt G t := by
  rw [rowsOf_getD _ ha, List.mem_map, ← pairsOf_mem]
  constructor
  · rintro ⟨⟨b, s⟩, h, rfl⟩
    rw [List.mem_filter] at h
    obtain ⟨h1, h2⟩ := h
    simp at h2
    subst h2
    exact h1
  · intro h
    exact ⟨(a, t), List.mem_filter.2 ⟨h, by simp⟩, rfl⟩
theorem rows_row {N : Nat} {L : List (Nat × Nat)} {r : List Nat} (h : r ∈ rowsOf N L) : r.length ≤ L.length ∧ ∀ t ∈ r, ∃ a, (a, t) ∈ L := by
  obtain ⟨a, _, rfl⟩ := List.mem_map.1 h
  refine ⟨by rw [List.length_map]; exact List.length_filter_le _ _, fun t ht => ?_⟩
  obtain ⟨p, hp, rfl⟩ := List.mem_map.1 ht
  exact ⟨p.1, (List.mem_filter.1 hp).1⟩

/-- While the tuples above nodes are laid. -/
structure NdSt (W : World) (N : Nat) (nv : Value) (d ab cb : Nat) (L : List (Nat × Nat)) (wr : World) : Prop where
  ex : ∃ us, OwnG W.heap.size wr (.slice (some ⟨ab, 0, none⟩) N N) (rowsOf N L) us ∧ ∀ u ∈ us, ∀ g, u.ownBlock = some g → g ≠ d ∧ g ≠ cb
  blk : DBlk wr d nv (.slice (some ⟨ab, 0, none⟩) N N) (.slice (some ⟨cb, 0, none⟩) N N) (.slice none 0 0) (.slice none 0 0)
  cls : RowI wr cb (List.replicate N 0)
  ne : ab ≠ cb ∧ ab ≠ d ∧ d ≠ cb
  lo : W.heap.size ≤ ab ∧ W.heap.size ≤ cb ∧ W.heap.size ≤ d
  kp : Kp W.heap.size W wr

theorem NewD.start {W wx : World} {N : Nat} {nv : Value} {d ab cb : Nat} (h : NewD W wx N nv d ab cb) (hN : N ≤ 100000) : NdSt W N nv d ab cb [] wx := by
  obtain ⟨t, ht⟩ := h.abr
  have hr : rowsOf N [] = List.replicate N [] := by
    apply List.ext_getElem?
    intro j
    by_cases hj : j < N
    · rw [rowsOf_get _ hj]; simp [hj]
    · rw [List.getElem?_eq_none (by rw [rowsOf_length]; omega), List.getElem?_eq_none (by simp; omega)]
  refine ⟨⟨List.replicate N (.slice none 0 0), ⟨?_, fun j l u hj hu => ?_, fun u hu g hg => ?_, ?_⟩, fun u hu g hg => ?_⟩, h.blk, h.cls, h.ne, h.lo, h.kp⟩
  · rw [rowsOf_length]
    exact ⟨by simp, .inr ⟨ab, 0, N, _, t, rfl, h.lo.1, ht, Nat.le_refl _, by unfold maxLen; omega, by simp, fun j u hj => by rw [Nat.zero_add, List.getElem?_toArray]; exact hj⟩⟩
  · rw [hr] at hj
    rw [List.eq_of_mem_replicate (List.mem_of_getElem? hj), List.eq_of_mem_replicate (List.mem_of_getElem? hu)]
    exact ⟨rfl, .inl ⟨rfl, rfl⟩⟩
  · rw [List.eq_of_mem_replicate hu] at hg; cases hg
  · rw [List.pairwise_iff_getElem]
    intro i j hi hj _ g hg
    rw [List.getElem_replicate] at hg; cases hg
  · rw [List.eq_of_mem_replicate hu] at hg; cases hg

theorem NdSt.kpW {W wr w' : World} {N : Nat} {nv : Value} {d ab cb : Nat} {L : List (Nat × Nat)} (h : NdSt W N nv d ab cb L wr) (hk : Kp wr.heap.size wr w') : NdSt W N nv d ab cb L w' := by
  obtain ⟨us, h1, h2⟩ := h.ex
  exact ⟨⟨us, h1.kp hk, h2⟩, h.blk.of_heap (hk.block d h.blk.lt), h.cls.of_heap (hk.block cb h.cls.lt), h.ne, h.lo, h.kp.trans (hk.mono h.kp.size)⟩

/-- A tuple more above a node. -/
theorem NdSt.push {W wr wa w2 : World} {N : Nat} {nv u u' : Value} {d ab cb a t : Nat} {L : List (Nat × Nat)} {us : List Value} (h : NdSt W N nv d ab cb L wr) (hg : OwnG W.heap.size wr (.slice (some ⟨ab, 0, none⟩) N N) (rowsOf N L) us) (hus : ∀ u ∈ us, ∀ g, u.ownBlock = some g → g ≠ d ∧ g ≠ cb)
    (ha : a < N) (hu : us[a]? = some u) (hal : Kp wr.heap.size wr wa) (hown : Own W.heap.size 1 w2 u' (((rowsOf N L).getD a []).length + 1) (intsV ((rowsOf N L).getD a []) ++ [.int .i64 (t : Int)])) (hgr : wa.grownBy w2 u.ownBlock)
    (hblk : u'.ownBlock = u.ownBlock ∨ ∃ g, u'.ownBlock = some g ∧ wa.heap.size ≤ g) : NdSt W N nv d ab cb (L ++ [(a, t)]) (w2.setCell ⟨ab, a, none⟩ u') := by
  have hz := hal.size
  have hra : (rowsOf N L)[a]? = some ((rowsOf N L).getD a []) := by rw [rowsOf_getD L ha, rowsOf_get L ha]
  have hum := List.mem_of_getElem? hu
  have hl : (rowsOf N L).length = N := rowsOf_length N L
  have hset := OwnG.setRow (cap := N) (l' := (rowsOf N L).getD a [] ++ [t]) (by rw [hl]; exact hg) hra hu hal (by simpa [intsV] using hown) hgr hblk
  rw [hl, rowsOf_snoc L ha, Nat.zero_add] at hset
  have hd : u.ownBlock ≠ some d := fun e => (hus u hum d e).1 rfl
  have hc : u.ownBlock ≠ some cb := fun e => (hus u hum cb e).2 rfl
  have dl := h.blk.lt
  have cl := h.cls.lt
  refine ⟨⟨us.set a u', hset, fun z hz' g hgz => ?_⟩, h.blk.of_heap ?_, h.cls.of_heap ?_, h.ne, h.lo, ?_⟩
  · rcases List.mem_or_eq_of_mem_set hz' with hz' | rfl
    · exact hus z hz' g hgz
    · rcases hblk with e | ⟨g', e, hg'⟩
      · rw [e] at hgz; exact hus u hum g hgz
      · rw [e] at hgz
        have := Option.some.inj hgz
        exact ⟨by omega, by omega⟩
  · exact (Below.heap_setCell _ _ _ _ (Ne.symm h.ne.2.1)).trans ((grown_other hgr (by omega) hd).trans (hal.block d dl))
  · exact (Below.heap_setCell _ _ _ _ (Ne.symm h.ne.1)).trans ((grown_other hgr (by omega) hc).trans (hal.block cb cl))
  · have hru := hg.rows a _ u hra hu
    exact ((h.kp.trans (hal.mono h.kp.size)).of_grown_mine (hru.kp hal) hgr (by have := h.kp.size; omega)).setCell h.lo.1 _
end Go.Ev

/- The program's division of nodes into classes: by faces. -/
namespace Go.Ev
open Go.Proofs Go.RowKit

theorem faceK_eq {G : List Nd} {x y : Nat} (hx : x < G.length) (hy : y < G.length) : faceK G x = faceK G y ↔ faceOf G x = faceOf G y := by
  rw [faceK_at (List.getElem?_eq_getElem hx), faceK_at (List.getElem?_eq_getElem hy)]
  unfold faceOf
  rw [List.getElem?_eq_getElem hx, List.getElem?_eq_getElem hy]
  simp only [Option.map_some, Option.some.injEq, Nd.face, Prod.mk.injEq]
  unfold faceV
  constructor
  · intro h
    simp only [Value.agg.injEq, Array.mk.injEq, List.cons.injEq, Value.int.injEq, Value.string.injEq, true_and, and_true] at h
    obtain ⟨h1, h2, h3, h4⟩ := h
    exact ⟨h1, by omega, h4, h2⟩
  · rintro ⟨h1, h2, h3, h4⟩
    rw [h1, h2, h3, h4]

abbrev zeroC : Nat → Nat := fun _ => 0

/-- Classes by faces. -/
theorem faces_dv {G : List Nd} {gs : List (List Nat)} (hgs : gs = groupsOf (faceK G) (List.range G.length)) :
    Dv G (moveAll zeroC 0 gs) gs.length ∧ Kept G.length (moveAll zeroC 0 gs) gs.length (gs.map List.length) gs [] ∧ gs.flatten.Nodup ∧ (∀ x ∈ gs.flatten, x < G.length) ∧ gs.length ≤ G.length := by
  have hnd : gs.flatten.Nodup := by rw [hgs]; exact groupsOf_nodup_flat _ List.nodup_range
  have hfl : ∀ x, x ∈ gs.flatten ↔ x < G.length := fun x => by rw [hgs, groupsOf_flat]; simp
  have hap : gs.Pairwise (fun o o' => ∀ x ∈ o, x ∉ o') := by rw [hgs]; exact groupsOf_apart _ _
  have hne : ∀ g ∈ gs, g ≠ [] := fun g hg => by rw [hgs] at hg; exact groupsOf_ne _ hg
  have hgn : ∀ g ∈ gs, g.Nodup := fun g hg => by rw [hgs] at hg; exact groupsOf_nodup _ List.nodup_range hg
  have hall : ∀ g ∈ gs, ∀ x ∈ g, ∀ y, y < G.length → (y ∈ g ↔ faceK G y = faceK G x) := fun g hg x hx y hy => by
    rw [hgs] at hg; exact groupsOf_all _ hg hx (by simpa using hy)
  have hin : ∀ x, x < G.length → ∃ i g, gs[i]? = some g ∧ x ∈ g ∧ moveAll zeroC 0 gs x = i := fun x hx => by
    obtain ⟨i, g, h1, h2, h3⟩ := moveAll_in (c := zeroC) (K := 0) ((hfl x).2 hx)
    exact ⟨i, g, h1, h2, by omega⟩
  have hat : ∀ i g x, gs[i]? = some g → x ∈ g → moveAll zeroC 0 gs x = i := fun i g x hg hx => by
    obtain ⟨j, g', h1, h2, h3⟩ := hin x ((hfl x).1 (List.mem_flatten.2 ⟨g, List.mem_of_getElem? hg, hx⟩))
    rw [h3]
    exact apart_index hap h1 hg h2 hx
  have hlt : ∀ x, x < G.length → moveAll zeroC 0 gs x < gs.length := fun x hx => by
    obtain ⟨i, g, h1, _, h3⟩ := hin x hx
    rw [h3]; exact (List.getElem?_eq_some_iff.1 h1).1
  have hsame : ∀ x y, x < G.length → y < G.length → (moveAll zeroC 0 gs x = moveAll zeroC 0 gs y ↔ faceK G x = faceK G y) := fun x y hx hy => by
    obtain ⟨i, g, h1, h2, h3⟩ := hin x hx
    have := hall g (List.mem_of_getElem? h1) x h2 y hy
    constructor
    · intro e
      obtain ⟨j, g', h4, h5, h6⟩ := hin y hy
      rw [h3, h6] at e
      subst e
      rw [h1] at h4
      cases h4
      exact (this.1 h5).symm
    · intro e
      rw [h3, hat i g y h1 (this.2 e.symm)]
  have hsz : ∀ k, k < gs.length → (gs.map List.length).getD k 0 = cnt G.length (moveAll zeroC 0 gs) k := fun k hk => by
    rw [List.getD_eq_getElem?_getD, List.getElem?_map, List.getElem?_eq_getElem hk]
    simp only [Option.map_some, Option.getD_some]
    unfold cnt
    refine List.Perm.length_eq ((List.perm_ext_iff_of_nodup (hgn _ (List.getElem_mem hk)) (List.Pairwise.filter _ List.nodup_range)).2 fun x => ?_)
    simp only [List.mem_filter, List.mem_range, beq_iff_eq]
    constructor
    · intro hx
      exact ⟨(hfl x).1 (List.mem_flatten.2 ⟨_, List.getElem_mem hk, hx⟩), hat k _ x (List.getElem?_eq_getElem hk) hx⟩
    · rintro ⟨hx, e⟩
      obtain ⟨i, g, h1, h2, h3⟩ := hin x hx
      rw [h3] at e
      subst e
      rw [List.getElem?_eq_getElem hk] at h1
      cases h1
      exact h2
  refine ⟨⟨hlt, fun k hk => ?_, fun x y hx hy hb => (hsame x y hx hy).2 ((faceK_eq hx hy).2 ?_), fun x y hx hy e => (faceK_eq hx hy).1 ((hsame x y hx hy).1 e)⟩,
    ⟨hlt, by simp, rfl, hsz, fun m hm => ⟨hgn m hm, fun x hx => (hfl x).1 (List.mem_flatten.2 ⟨m, hm, hx⟩)⟩, fun x hx _ => ?_⟩, hnd, fun x hx => (hfl x).1 hx, ?_⟩
  · obtain ⟨x, hx⟩ := List.exists_mem_of_ne_nil _ (hne _ (List.getElem_mem hk))
    exact ⟨x, (hfl x).1 (List.mem_flatten.2 ⟨_, List.getElem_mem hk, hx⟩), hat k _ x (List.getElem?_eq_getElem hk) hx⟩
  · have := hb 0
    rwa [faceAt_zero, faceAt_zero] at this
  · obtain ⟨i, g, h1, h2, h3⟩ := hin x hx
    rw [h3, List.getD_eq_getElem?_getD, h1]
    exact h2
  · exact Nat.le_trans (length_le_flatten hne) (nodup_le _ _ hnd fun x hx => (hfl x).1 hx)

/-- What the program has when it begins to refine. -/
def NewPost (W : World) (G : List Nd) (gb go gc : Nat) (e : Ending) (w' : World) : Prop :=
  ∃ d ab cb c K sizes mem us sv mv avs abv, e = .returned (.pointer (some ⟨d, 0, none⟩)) ∧ DSt W.heap.size w' d cb G.length (.slice (some ⟨gb, go, none⟩) G.length gc) (.slice (some ⟨ab, 0, none⟩) G.length G.length) sv mv c K sizes mem us ∧
    Kept G.length c K sizes mem [] ∧ Dv G c K ∧ AboveR w' d cb G ab 0 G.length abv avs sv mv ∧ Kp W.heap.size W w'

/-- While classes are laid, by faces. -/
structure FcSt (W : World) (G : List Nd) (nv : Value) (d ab cb : Nat) (gs : List (List Nat)) (v55 : Value) (gus : List Value) (k : Nat) (wr : World) : Prop where
  ex : ∃ us sv mv avs abv, DSt W.heap.size wr d cb G.length nv (.slice (some ⟨ab, 0, none⟩) G.length G.length) sv mv (moveAll zeroC 0 (gs.take k)) k ((gs.take k).map List.length) (gs.take k) us ∧
    AboveR wr d cb G ab 0 G.length abv avs sv mv ∧ ∀ g, InG v55 gus g → ¬ Wr d cb sv mv g
  own : OwnG W.heap.size wr v55 gs gus
  kp : Kp W.heap.size W wr

theorem NdSt.faces {W wr w2 : World} {G : List Nd} {nv : Value} {d ab cb : Nat} (hG : GClosed G) (hN : G.length ≤ 100000) (h : NdSt W G.length nv d ab cb (pairsOf G G.length) wr) {gs : List (List Nat)} {v55 : Value} {gus : List Value}
    (hg : OwnG wr.heap.size w2 v55 gs gus) (hk : Kp wr.heap.size wr w2) : FcSt W G nv d ab cb gs v55 gus 0 w2 := by
  have h2 := h.kpW hk
  obtain ⟨us, ho, hus⟩ := h2.ex
  have hz := h.kp.size
  have hw : ∀ g, Wr d cb (Value.slice none 0 0) (Value.slice none 0 0) g → g = d ∨ g = cb := by
    rintro g (h | h | h | h)
    · exact .inl h
    · exact .inr h
    · cases h
    · cases h
  refine ⟨⟨[], .slice none 0 0, .slice none 0 0, us, rowsOf G.length (pairsOf G G.length), ⟨h2.blk, ?_, ⟨rfl, .inl ⟨rfl, rfl⟩⟩, ⟨rfl, .inl ⟨rfl, rfl⟩⟩, fun j l u hj => by simp at hj, h2.ne.2.2, ⟨by simp [Value.ownBlock], by simp [Value.ownBlock]⟩, ⟨by simp [Value.ownBlock], by simp [Value.ownBlock]⟩, (fun g hg => by cases hg), (fun u hu => by cases hu), ⟨h2.lo.2.2, h2.lo.2.1⟩, rfl⟩,
    ⟨ho.read (by rw [rowsOf_length]), rowsOf_length _ _, Nat.le_refl _, fun r hr => ?_, fun a ha t => rows_iff ha t, ⟨fun e => (hw ab e).elim h2.ne.2.1 h2.ne.1, (ho.own.lt (g := ab) rfl).2⟩, fun u hu g hg' e => ?_⟩, fun g hin e => ?_⟩, hg.mono hz, h2.kp⟩
  · have e : clsI G.length (moveAll zeroC 0 (gs.take 0)) = List.replicate G.length 0 := by
      apply List.ext_getElem?
      intro j
      unfold clsI
      by_cases hj : j < G.length
      · simp only [List.getElem?_map, List.getElem?_range hj, Option.map_some, List.take_zero, moveAll_nil, List.getElem?_replicate, hj, if_true]
        rfl
      · rw [List.getElem?_eq_none (by simp; omega), List.getElem?_eq_none (by simp; omega)]
    rw [e]; exact h2.cls
  · obtain ⟨h3, h4⟩ := rows_row hr
    refine ⟨Nat.le_trans h3 (Nat.le_trans (pairsOf_len hG _) (by omega)), fun t ht => ?_⟩
    obtain ⟨a, ha⟩ := h4 t ht
    exact ((pairsOf_mem G G.length a t).1 ha).1
  · exact (hw g e).elim (hus u hu g hg').1 (hus u hu g hg').2
  · have h3 := (hg.inLt hin).1
    rcases hw g e with rfl | rfl
    · have := h.blk.lt; omega
    · have := h.cls.lt; omega
end Go.Ev

/- append to a slice of the call's own, within a region that draws its order. -/
namespace Go.Ev
open Go.Proofs Go.RowKit

/-- What follows, and nothing else but a panic. -/
def onlyK (K : Act → World → Prop) (Q : Exit → Act → World → Prop) : Exit → Act → World → Prop
  | .normal, a, w => K a w
  | .panic c, a, w => Q (.panic c) a w
  | _, _, _ => False

variable {P : Program}
theorem step_of_wpList {ops : Array Oper} {o : Oper} {a : Act} {w : World} {K : Act → World → Prop} {Q : Exit → Act → World → Prop} {E : Prop} (hgd : o.guard = none) (h : wpList P ops (onlyK K Q) [o] a w) :
    if Region.wanted o (yielded ops a.tmps) = true then Oper.wp P o a w K Q else E := by
  have hw : Region.wanted o (yielded ops a.tmps) = true := by simp [Region.wanted, hgd]
  rw [if_pos hw]
  unfold wpList at h
  rw [if_pos hw] at h
  rcases h with h | ⟨_, a', w', h⟩
  · unfold Oper.wp at *
    generalize (execOp a.eval o).run P w = r at *
    cases r with
    | ok n w' =>
      cases n <;> simp only [Oper.upon] at h ⊢ <;>
        first
          | exact h
          | exact Calls.mono h (fun e w'' he => by cases e <;> first | exact he | (obtain ⟨_, _, he⟩ := he; exact he.elim))
          | exact Rows.mono h (fun _ _ he => he)
    | halt x w' => cases x <;> simp only [Oper.upon] at h ⊢ <;> exact h
  · exact h.elim

theorem step_append_mine {w : World} {ops : Array Oper} {o : Oper} {a : Act} {K : Act → World → Prop} {Q : Exit → Act → World → Prop} {E : Prop} (hgd : o.guard = none) (s x : Operand) (t : TypeId)
    (ho : o.op = .call { callee := .builtin .append, args := #[s, x], argTypes := #[t, t] })
    (B : Nat) (e : TypeId) (i : TypeInfo) (z : Value) (size bytes : Nat) (ht : P.underlying t = some (.slice e)) (hi : P.info? e = some i) (hz : i.zero = some z)
    (hsize : i.size = size) (hby : i.bytes = bytes) (hzs : z.cells.size = size) (hsz : 0 < size)
    (v : Value) (n : Nat) (xs : List Value) (hs : a.eval s = v) (hown : Own B size w v n xs)
    (ad : Addr) (m c : Nat) (news : List Value) (hx : a.eval x = .slice (some ad) m c) (hl : news.length = m * size) (hnews : ∀ j u, news[j]? = some u → w.cell? (ad.add j) = some u) (h1 : ∀ u ∈ news, u.oneCell' = true)
    (h63 : n + m ≤ maxLen) (hbytes : (n + m) * bytes ≤ 140737488355328) (hB : B ≤ w.heap.size)
    (h : ∀ v' w', Own B size w' v' (n + m) (xs ++ news) → w.grownBy w' v.ownBlock → (v'.ownBlock = v.ownBlock ∨ ∃ g, v'.ownBlock = some g ∧ w.heap.size ≤ g) → K (a.put o.dst v') w') :
    if Region.wanted o (yielded ops a.tmps) = true then Oper.wp P o a w K Q else E :=
  step_of_wpList hgd (wpList_append_mine hgd s x t ho B e i z size bytes ht hi hz hsize hby hzs hsz v n xs hs hown ad m c news hx hl hnews h1 h63 hbytes hB fun v' w' r1 r2 r3 => by
    unfold wpList
    exact h v' w' r1 r2 r3)

/-- What a pair's comparison has in its memory. -/
structure PX (w5 : World) (bx : Nat) (x y : Int) (w : World) : Prop where
  kp : Kp w5.heap.size w5 w
  p0 : w.cell? ⟨bx, 0, none⟩ = some (.int .i64 x)
  p1 : w.cell? ⟨bx, 1, none⟩ = some (.int .i64 y)
theorem PX.alloc {w5 w : World} {bx : Nat} {x y : Int} (h : PX w5 bx x y w) (o : Obj) : PX w5 bx x y (w.alloc o) :=
  ⟨h.kp.alloc h.kp.size _, by rw [World.cell?_alloc_past _ _ _ (block_lt_of_cell h.p0)]; exact h.p0, by rw [World.cell?_alloc_past _ _ _ (block_lt_of_cell h.p1)]; exact h.p1⟩
theorem PX.drew {w5 w : World} {bx : Nat} {x y : Int} (h : PX w5 bx x y w) : PX w5 bx x y w.drew := ⟨h.kp.drew, h.p0, h.p1⟩
theorem PX.chg {w5 w w' : World} {bx b : Nat} {x y : Int} (h : PX w5 bx x y w) (hC : Chg b w w') (hb : w5.heap.size ≤ b) (hn : b ≠ bx) : PX w5 bx x y w' :=
  ⟨h.kp.chg hC h.kp.size hb, hC.cell (Ne.symm hn) h.p0, hC.cell (Ne.symm hn) h.p1⟩
end Go.Ev

/- The program's division of nodes into classes: newDivision. -/
namespace Go.Ev
open Go.Proofs Go.RowKit Go.Lib
set_option maxRecDepth 100000

set_option maxHeartbeats 16000000 in
theorem newDiv_ok (gb go gc : Nat) (G : List Nd) (W : World) (hN : G.length ≤ 100000) (hN0 : 0 < G.length) (hgc : G.length ≤ gc) (hGc : GClosed G) (hG : ∀ (j : Nat) (nd : Nd), G[j]? = some nd → NodeW W gb (go + j * 4) nd) (hfit : ∀ nd ∈ G, FitN nd) :
    Calls Tryz.prog 59 #[.slice (some ⟨gb, go, none⟩) G.length gc] W (NewPost W G gb go gc) := by
  obtain ⟨i43, hk0, hx0, hx1, hx2⟩ := info_parts Tryz.info43
  obtain ⟨i3, hj0, hy0, hy1, hy2⟩ := info_parts Tryz.info3
  obtain ⟨Z1, hZ1⟩ : ∃ Z, Z = madeCells (Value.slice none 0 0).cells (G.length * 1) := ⟨_, rfl⟩
  obtain ⟨Z2, hZ2⟩ : ∃ Z, Z = madeCells (Value.int .i64 0).cells (G.length * 1) := ⟨_, rfl⟩
  have hm1 : ∀ w, (Instr.makeSlice 103 (.int .i64 (G.length : Int)) (.int .i64 (G.length : Int))).run Tryz.prog w = .ok (.slice (some ⟨w.heap.size, 0, none⟩) G.length G.length) (w.alloc (.cells Z1 43)) := fun w => by
    have := run_make (P := Tryz.prog) w 103 43 i43 _ Tryz.underlying103 hk0 hx0 .i64 .i64 G.length G.length (by omega) (Int.le_refl _) (by rw [hx2]; omega) (by omega)
    rw [hZ1]; simpa [hx1] using this
  have hm2 : ∀ w, (Instr.makeSlice 43 (.int .i64 (G.length : Int)) (.int .i64 (G.length : Int))).run Tryz.prog w = .ok (.slice (some ⟨w.heap.size, 0, none⟩) G.length G.length) (w.alloc (.cells Z2 3)) := fun w => by
    have := run_make (P := Tryz.prog) w 43 3 i3 _ Tryz.underlying43 hj0 hy0 .i64 .i64 G.length G.length (by omega) (Int.le_refl _) (by rw [hy2]; omega) (by omega)
    rw [hZ2]; simpa [hy1] using this
  have HG := Lib.hid hG
  have HGC := Lib.hid hGc
  have HFT := Lib.hid hfit
  clear hG hGc hfit
  have HZ1 := Lib.hid hZ1
  have HZ2 := Lib.hid hZ2
  clear hZ1 hZ2
  go_enter Tryz.func59, Tryz.ntmps59
  go_wp2
  go_cut [3] (fun s3 wx => ∃ d ab cb, s3 = .pointer (some ⟨d, 0, none⟩) ∧ NewD W wx G.length (.slice (some ⟨gb, go, none⟩) G.length gc) d ab cb)
  case first =>
    go_region
    all_goals
      go_wp2
      go_meet
      case rel => first | exact ⟨_, _, _, rfl, newD1 HZ1.out HZ2.out⟩ | exact ⟨_, _, _, rfl, newD2 HZ1.out HZ2.out⟩
  case rest =>
    obtain ⟨d, ab, cb, rfl, hnd⟩ := hcut
    have H0 := Lib.hid (show NdSt W G.length (.slice (some ⟨gb, go, none⟩) G.length gc) d ab cb (pairsOf G 0) wc from hnd.start hN)
    clear hnd
    go_wp2
    go_loopw [21] (fun i wr => ∃ k : Nat, k ≤ G.length ∧ i = .int .i64 k ∧ NdSt W G.length (.slice (some ⟨gb, go, none⟩) G.length gc) d ab cb (pairsOf G k) wr) (fun i _ => G.length - (RowKit.intOf i).toNat)
    case atStart => exact ⟨0, Nat.zero_le _, rfl, H0.out⟩
    case round =>
      obtain ⟨k, hk, rfl, hst⟩ := hrel
      clear H0
      by_cases hlt : k < G.length
      · obtain ⟨nd, hnd⟩ : ∃ nd, G[k]? = some nd := ⟨_, List.getElem?_eq_getElem hlt⟩
        have hkp := hst.kp
        obtain ⟨h0, h1, h2, h3, va, h4, hav⟩ := HG.out k nd hnd
        replace h0 := hkp.cells h0
        replace h1 := hkp.cells h1
        replace h2 := hkp.cells h2
        replace h4 := hkp.cells h4
        obtain ⟨aa, ac, rfl⟩ := hav.len
        have hgbl := block_lt_of_cell h0
        have hat : argsAt G k = nd.args.map Int.toNat := by unfold argsAt; rw [hnd]
        obtain ⟨h8, hargs⟩ := HGC.out nd (List.mem_of_getElem? hnd)
        have hzk := hkp.size
        have HAV := Lib.hid hav
        have HST := Lib.hid hst
        have HAT := Lib.hid hat
        have HAR := Lib.hid hargs
        clear hav hst hat hargs h3 hkp hnd
        obtain ⟨wo, rfl⟩ : ∃ wo : World, wo = wr := ⟨_, rfl⟩
        have HS1 := Lib.hid (HST.out.kpW ((Kp.refl _ _).alloc (Nat.le_refl _) (Obj.cells #[Value.int IntKind.i64 nd.kind, Value.int IntKind.i64 nd.num, Value.string nd.label, Value.slice aa nd.args.length ac] 48)))
        go_wp2
        go_loopw [7, 29] (fun _ i wi => ∃ q : Nat, q ≤ nd.args.length ∧ i = .int .i64 q ∧ NdSt W G.length (.slice (some ⟨gb, go, none⟩) G.length gc) d ab cb (pairsOf G k ++ ((argsAt G k).take q).map fun a => (a, k)) wi) (fun _ i _ => nd.args.length - (RowKit.intOf i).toNat)
        case atStart => exact ⟨0, Nat.zero_le _, rfl, by simpa using HS1.out⟩
        case round =>
          obtain ⟨q, hq, rfl, hst⟩ := hrel
          clear HS1
          by_cases hlq : q < nd.args.length
          · obtain ⟨ab', ao', rfl, hac, _, hcell⟩ := args_cellAt HAV.out hlq
            have hkp := hst.kp
            obtain ⟨m, hm⟩ : ∃ m, (argsAt G k)[q]? = some m := ⟨_, List.getElem?_eq_getElem (by rw [HAT.out]; simpa using hlq)⟩
            have hmN : m < G.length := argsAt_lt HGC.out (List.mem_of_getElem? hm)
            have hma : nd.args[q]? = some (m : Int) := by
              rw [HAT.out, List.getElem?_map, List.getElem?_eq_getElem hlq] at hm
              simp only [Option.map_some, Option.some.injEq] at hm
              rw [List.getElem?_eq_getElem hlq]
              have := (HAR.out _ (List.getElem_mem hlq)).1
              congr 1; omega
            have hcm := hkp.cells (hcell q _ hma)
            have hL := Lib.hid (show pairsOf G k ++ ((argsAt G k).take (q + 1)).map (fun a => (a, k)) = pairsOf G k ++ ((argsAt G k).take q).map (fun a => (a, k)) ++ [(m, k)] by rw [takeSnoc hm, List.map_append, List.append_assoc]; rfl)
            have hLN : (pairsOf G k ++ ((argsAt G k).take q).map fun a => (a, k)).length ≤ 900000 := by
              have h1 := pairsOf_len HGC.out k
              have h2 := List.length_take_le q (argsAt G k)
              rw [List.length_append, List.length_map]; omega
            have HST2 := Lib.hid hst
            obtain ⟨us, hog, hus⟩ := hst.ex
            have hblk := hst.blk
            have c1 := hblk.c1
            clear hst hcell hma hm hkp
            generalize pairsOf G k ++ ((argsAt G k).take q).map (fun a => (a, k)) = L at *
            have hra : (rowsOf G.length L)[m]? = some ((rowsOf G.length L).getD m []) := by rw [rowsOf_getD L hmN, rowsOf_get L hmN]
            obtain ⟨u, hu, huo⟩ := hog.row hra
            obtain ⟨ua, uc, eu⟩ := own_form huo
            have hrl := (rows_row (List.mem_of_getElem? hra)).1
            obtain ⟨_, _, _, e5, hs5⟩ := hog.own.seg (by rw [rowsOf_length]; exact hN0)
            rw [rowsOf_length] at e5 hs5
            cases e5
            have hcu := hs5.cell hu
            rw [Nat.zero_add] at hcu
            have hub : u.ownBlock ≠ some ab := fun e => hog.off u (List.mem_of_getElem? hu) ab e rfl
            have hud : u.ownBlock ≠ some d := fun e => (hus u (List.mem_of_getElem? hu) d e).1 rfl
            obtain ⟨row, hrow⟩ : ∃ row, row = (rowsOf G.length L).getD m [] := ⟨_, rfl⟩
            rw [← hrow] at huo eu hrl
            rw [eu] at hcu
            have hal : Kp wr.heap.size wr (wr.alloc (Obj.cells #[Value.int .i64 (k : Int)] 3)) := (Kp.refl _ _).alloc (Nat.le_refl _) _
            have HAL := Lib.hid hal
            have HOW := Lib.hid (show Own W.heap.size 1 (wr.alloc (Obj.cells #[Value.int .i64 (k : Int)] 3)) (.slice ua row.length uc) row.length (intsV row) from by rw [← eu]; exact huo.kp hal)
            have HNW := Lib.hid (news_alloc wr [Value.int .i64 (k : Int)] 3)
            have HOG := Lib.hid hog
            have HUS := Lib.hid hus
            have HU := Lib.hid hu
            have HEU := Lib.hid eu
            have HROW := Lib.hid hrow
            have HS5 := Lib.hid hs5
            have HUB := Lib.hid hub
            have HBLK := Lib.hid hblk
            have hsl := hs5.lt
            have hdl := hblk.lt
            have hzr := HST2.out.kp.size
            clear hal hog hus hu eu hrow hs5 hub hblk huo hra
            go_wp2_with fail
            go_region_law (go_loud (refine step_append_mine rfl (.tmp 44) (.tmp 46) 43 rfl W.heap.size 3 i3 (.int .i64 0) 1 8 Tryz.underlying43 hj0 hy0 hy1 hy2 rfl (by decide) (.slice ua row.length uc) row.length (intsV row) (by simp [Act.eval]) HOW.out ⟨wr.heap.size, 0, none⟩ 1 1 [.int .i64 (k : Int)] (by simp [Act.eval]) rfl HNW.out (by simp [Value.oneCell']) (by unfold maxLen; omega) (by omega) (by have := HAL.out.size; exact Nat.le_trans hzr this) ?_); intro u' w2 hown2 hgr2' hblk2; have hgr2 : (wr.alloc (Obj.cells #[Value.int .i64 (k : Int)] 3)).grownBy w2 u.ownBlock := (by rw [HEU.out]; exact ⟨hgr2'.os, hgr2'.tape, hgr2'.output, hgr2'.size, hgr2'.block⟩); clear hgr2'; obtain ⟨ua', uc', rfl⟩ := own_form hown2; have hs2 := (HS5.out.kp HAL.out).of_heap (grown_other hgr2 (Nat.lt_of_lt_of_le hsl HAL.out.size) HUB.out); have hc2 := hs2.cell HU.out; rw [HEU.out, Nat.zero_add] at hc2; have hf2 := hs2.frozen m; have hb2 := HBLK.out.of_heap ((grown_other hgr2 (Nat.lt_of_lt_of_le hdl HAL.out.size) hud).trans (HAL.out.block d hdl)); have c12 := hb2.c1; have HO2 := Lib.hid hown2; have HG2 := Lib.hid hgr2; have HB2 := Lib.hid hblk2; clear hs2 hb2 hown2 hgr2 hblk2)
            all_goals
              go_wp2
              go_roundw
              case rel =>
                refine ⟨q + 1, by omega, by go_num, ?_⟩
                rw [hL.out]
                have hr := HROW.out
                subst hr
                exact HST2.out.push HOG.out HUS.out hmN HU.out HAL.out HO2.out HG2.out (by rw [HEU.out]; exact HB2.out)
              case measure => simp [RowKit.intOf]; omega
          · obtain rfl : q = nd.args.length := by omega
            have e : pairsOf G k ++ ((argsAt G k).take nd.args.length).map (fun a => (a, k)) = pairsOf G (k + 1) := by
              rw [pairsOf_succ, List.take_of_length_le (by rw [HAT.out]; simp)]
            rw [e] at hst
            have HST2 := Lib.hid hst
            clear hst e
            go_wp2
            go_roundw
            case rel => exact ⟨k + 1, by omega, by go_num, HST2.out⟩
            case measure => simp [RowKit.intOf]; omega
      · obtain rfl : k = G.length := by omega
        have hD0 := hst.blk.c0
        have hkp := hst.kp
        have CA := all_ok d G.length gb go gc wr (by omega) hgc hD0
        have HST := Lib.hid hst
        have HCA := Lib.hid CA
        have HKP := Lib.hid hkp
        have hzr := hkp.size
        clear hst CA hkp hD0
        go_wp2_with fail
        refine HCA.out.mono ?_
        rintro e w1 ⟨rfl, hrow, hk1⟩
        have hst1 := HST.out.kpW hk1
        have hro := hrow.own (ls := List.range G.length) (by simp; unfold maxLen; omega)
        rw [List.length_range] at hro
        obtain ⟨_, _, _, e1, hrs⟩ := hro.seg hN0
        cases e1
        have CF := groupF_ok d gb go gc wr.heap.size 0 G.length G (List.range G.length) w1 (by omega) hgc (fun x hx => by simpa using hx) (by simp) (by simp; omega) hst1.blk.c0 (fun j nd hj => (HG.out j nd hj).grown fun _ _ _ h => hst1.kp.cells h) (fun nd hnd => ⟨HFT.out nd hnd, (HGC.out nd hnd).1⟩)
          (fun j x hj => by have := hrs.cell (j := j) (u := .int .i64 (x : Int)) (by simp [intsV, hj]); simpa using this)
        rw [List.length_range] at CF
        have HCF := Lib.hid CF
        have HST1 := Lib.hid hst1
        clear hst1 hro hrs CF hrow hk1 HCA
        go_wp2_with fail
        refine HCF.out.mono ?_
        rintro e w2 ⟨v55, gus, rfl, hg55, hk2⟩
        obtain ⟨gs, hgs⟩ : ∃ gs, gs = groupsOf (faceK G) (List.range G.length) := ⟨_, rfl⟩
        rw [← hgs] at hg55
        have hfc := HST1.out.faces HGC.out hN hg55 hk2
        obtain ⟨fdv, fkept, fnd, flt, fle⟩ := faces_dv hgs
        obtain ⟨va, vc, e55⟩ := own_form hg55.own
        subst e55
        have HFC := Lib.hid hfc
        have FDV := Lib.hid fdv
        have FKE := Lib.hid fkept
        have FND := Lib.hid fnd
        have FLT := Lib.hid flt
        have HGS := Lib.hid hgs
        clear hfc fdv fkept fnd flt hg55 hk2 hgs HCF
        go_wp2
        go_loopw [57] (fun i wi => ∃ k : Nat, k ≤ gs.length ∧ i = .int .i64 k ∧ FcSt W G (.slice (some ⟨gb, go, none⟩) G.length gc) d ab cb gs (.slice va gs.length vc) gus k wi) (fun i _ => gs.length - (RowKit.intOf i).toNat)
        case atStart => exact ⟨0, Nat.zero_le _, rfl, HFC.out⟩
        case round =>
          obtain ⟨k, hk, rfl, hst⟩ := hrel
          clear HFC
          obtain ⟨⟨us, sv, mv, avs, abv, hD, hA, hoff⟩, hown, hkp⟩ := hst
          by_cases hlk : k < gs.length
          · obtain ⟨g, hg⟩ : ∃ g, gs[k]? = some g := ⟨_, List.getElem?_eq_getElem hlk⟩
            have hgm := List.mem_of_getElem? hg
            obtain ⟨gv, hgv, hgo⟩ := hown.row hg
            have hgp : 0 < g.length := List.length_pos_iff.2 (groupsOf_ne (faceK G) (l := List.range G.length) (by rw [← HGS.out]; exact hgm))
            obtain ⟨xb, xo, xc, rfl, hxs⟩ := hgo.seg hgp
            obtain ⟨_, _, _, e5, hs5⟩ := hown.own.seg (by omega)
            cases e5
            have hcg := hs5.cell hgv
            have hf5 := hs5.fit
            have hgN : ∀ x ∈ g, x < G.length := fun x hx => FLT.out x (List.mem_flatten.2 ⟨g, hgm, hx⟩)
            have hglN := nodup_le G.length g (groupsOf_nodup (faceK G) (l := List.range G.length) List.nodup_range (by rw [← HGS.out]; exact hgm)) hgN
            have hxw : ¬ Wr d cb sv mv xb := hoff xb (.inr ⟨_, List.mem_of_getElem? hgv, rfl⟩)
            have FO := found_ok W.heap.size d cb G.length k xb xo xc (.slice (some ⟨gb, go, none⟩) G.length gc) (.slice (some ⟨ab, 0, none⟩) G.length G.length) sv mv (moveAll zeroC 0 (gs.take k)) ((gs.take k).map List.length) g (gs.take k) us wr (.slice (some ⟨xb, xo, none⟩) g.length xc) (by omega) (by omega) hgN (by omega) hxs.fit rfl (hown.rows k g _ hg hgv)
              (fun b hb => by cases hb; exact hxw) hD (fun j x hj => hxs.cell (by simp [intsV, hj])) (fun e => hxw (.inr (.inl e)))
            have HFO := Lib.hid FO
            have HA := Lib.hid hA
            have HOFF := Lib.hid hoff
            have HOWN := Lib.hid hown
            have HKP := Lib.hid hkp
            have HGG := Lib.hid hg
            have HWG := Lib.hid (fun b (hb : Wr d cb sv mv b) => Wr.ge hD hb)
            have hzk := hkp.size
            clear FO hA hoff hown hkp hg hgm hgv hgo hxs hs5 hD hxw hgN
            go_wp2_with (go_at_call 89; refine HFO.out.mono ?_; rintro e w3 ⟨sv', mv', rfl, hD', hU', hW'⟩; have HD' := Lib.hid hD'; have HU' := Lib.hid hU'; have HW' := Lib.hid hW'; clear hD' hU' hW')
            go_roundw
            case rel =>
              refine ⟨k + 1, by omega, by go_num, ⟨⟨us ++ [.slice (some ⟨xb, xo, none⟩) g.length xc], sv', mv', avs, abv, ?_, HA.out.step HU'.out HW'.out, fun b hb hw => ?_⟩, HOWN.out.upd HU'.out HOFF.out, HKP.out.trans (HU'.out.kp hzk HWG.out)⟩⟩
              · have htk : gs.take (k + 1) = gs.take k ++ [g] := by rw [List.take_add_one, HGG.out]; rfl
                have hfr : ∀ x ∈ g, x ∉ (gs.take k).flatten := by
                  have h := FND.out
                  have hs : gs.flatten = (gs.take k).flatten ++ (g ++ (gs.drop (k + 1)).flatten) := by rw [← drop_flat HGG.out, ← List.flatten_append, List.take_append_drop]
                  rw [hs, List.nodup_append] at h
                  intro x hx hx'
                  exact h.2.2 x hx' x (List.mem_append_left _ hx) rfl
                have hmv := moveAll_put (c := zeroC) (K := 0) hfr
                have hlt : (gs.take k).length = k := by rw [List.length_take]; omega
                rw [hlt, Nat.zero_add] at hmv
                rw [htk, ← hmv, List.map_append]
                exact HD'.out
              · rcases HW'.out b hw with h | h
                · exact HOFF.out b hb h
                · have := (HOWN.out.inLt hb).2; omega
            case measure => simp [RowKit.intOf]; omega
          · obtain rfl : k = gs.length := by omega
            rw [List.take_length] at hD
            have HD := Lib.hid hD
            have HA := Lib.hid hA
            have HKP := Lib.hid hkp
            clear hD hA hoff hown hkp
            go_wp2
            go_ret
            exact ⟨d, ab, cb, _, _, _, _, us, sv, mv, avs, abv, rfl, HD.out, FKE.out, FDV.out, HA.out, HKP.out⟩
end Go.Ev
