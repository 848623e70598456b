import Derived.Test.YtbjcopckkgdmgaaGreatDoorN6
/- The program's division of nodes into classes: what holds while classes are divided. -/
namespace Go.Ev
open Go.Proofs Go.RowKit

/-- The blocks of the parts of classes that are still to come, and of the slice of them. -/
def FarP (v5 : Value) (pv : List Value) (uss : List (List Value)) (j : Nat) (g : Nat) : Prop := v5.ownBlock = some g ∨ ∃ i v us, j ≤ i ∧ pv[i]? = some v ∧ uss[i]? = some us ∧ InG v us g
theorem FarP.succ {v5 : Value} {pv : List Value} {uss : List (List Value)} {j g : Nat} (h : FarP v5 pv uss (j + 1) g) : FarP v5 pv uss j g := by
  rcases h with h | ⟨i, v, us, hi, r⟩
  · exact .inl h
  · exact .inr ⟨i, v, us, by omega, r⟩

abbrev outsOf (oss : List (Nat × List (List Nat))) : List (List Nat) := oss.flatMap (·.2)

/-- After the first j classes. -/
structure Div2 (B : Nat) (W wP : World) (d cb : Nat) (G : List Nd) (nv av sv0 mv0 : Value) (c : Nat → Nat) (K : Nat) (T : List Nat) (v5 : Value) (pv : List Value) (uss : List (List Value)) (j : Nat) (v8 : Value) (oss : List (Nat × List (List Nat)))
    (sizes : List Nat) (mem : List (List Nat)) (us : List Value) (sv mv : Value) (wr : World) : Prop where
  keys : oss.map (·.1) = (keysOf c T).take j
  run : Run G c K oss
  dst : DSt B wr d cb G.length nv av sv mv (moveAll c K (outsOf oss)) (K + (outsOf oss).length) sizes mem us
  kept : Kept G.length (moveAll c K (outsOf oss)) (K + (outsOf oss).length) sizes mem []
  own : Own W.heap.size 1 wr v8 (outsOf oss).flatten.length (intsV (outsOf oss).flatten)
  v8w : ∀ g, v8.ownBlock = some g → ¬ Wr d cb sv mv g
  v8u : ∀ u ∈ us, ∀ g, u.ownBlock = some g → v8.ownBlock ≠ some g
  far : Far (FarP v5 pv uss j) wP wr d cb sv mv v8 us
  upd : Upd (Wr d cb sv0 mv0) W wr
  wr' : ∀ b, Wr d cb sv mv b → Wr d cb sv0 mv0 b ∨ W.heap.size ≤ b

/-- Within a class: q of its parts have left. -/
structure Div3 (B : Nat) (W wP : World) (d cb : Nat) (G : List Nd) (nv av sv0 mv0 : Value) (c : Nat → Nat) (K : Nat) (v5 : Value) (pv : List Value) (uss : List (List Value)) (j : Nat) (v8 : Value) (oss : List (Nat × List (List Nat)))
    (out : List (List Nat)) (ous : List Value) (v51 : Value) (q : Nat) (sizes : List Nat) (mem : List (List Nat)) (us : List Value) (sv mv : Value) (wr : World) : Prop where
  dst : DSt B wr d cb G.length nv av sv mv (moveAll c K (outsOf oss ++ out.take q)) (K + (outsOf oss ++ out.take q).length) sizes mem us
  kept : Kept G.length (moveAll c K (outsOf oss ++ out.take q)) (K + (outsOf oss ++ out.take q).length) sizes mem (out.drop q).flatten
  own : Own W.heap.size 1 wr v8 (outsOf oss ++ out.take q).flatten.length (intsV (outsOf oss ++ out.take q).flatten)
  v8w : ∀ g, v8.ownBlock = some g → ¬ Wr d cb sv mv g
  v8u : ∀ u ∈ us, ∀ g, u.ownBlock = some g → v8.ownBlock ≠ some g
  far : Far (FarP v5 pv uss (j + 1)) wP wr d cb sv mv v8 us
  rows : OwnG W.heap.size wr v51 out ous
  roff : ∀ g, InG v51 ous g → ¬ Wr d cb sv mv g ∧ v8.ownBlock ≠ some g
  rus : ∀ u ∈ ous, ∀ g, FarP v5 pv uss (j + 1) g → u.ownBlock ≠ some g
  upd : Upd (Wr d cb sv0 mv0) W wr
  wr' : ∀ b, Wr d cb sv mv b → Wr d cb sv0 mv0 b ∨ W.heap.size ≤ b

theorem Div2.leave {B : Nat} {W wP wr w1 : World} {d cb : Nat} {G : List Nd} {nv av sv0 mv0 : Value} {c : Nat → Nat} {K : Nat} {T : List Nat} {v5 : Value} {pv : List Value} {uss : List (List Value)} {j : Nat} {v8 : Value} {oss : List (Nat × List (List Nat))}
    {sizes : List Nat} {mem : List (List Nat)} {us : List Value} {sv mv : Value} (h : Div2 B W wP d cb G nv av sv0 mv0 c K T v5 pv uss j v8 oss sizes mem us sv mv wr) (ht : Touched G c T) (hdv : Dv G c K) {k : Nat} (hk : (keysOf c T)[j]? = some k)
    {gss : List (List (List Nat))} (hp : PartsR W.heap.size wP pv gss uss) (_hWP : W.heap.size ≤ wP.heap.size) (hoff5 : ∀ (i : Nat) (v : Value) (us : List Value), pv[i]? = some v → uss[i]? = some us → ∀ g, InG v us g → v5.ownBlock ≠ some g) {gb go gcap n : Nat} {gus : List Value}
    (hpv : pv[j]? = some (.slice (some ⟨gb, go, none⟩) n gcap)) (hus : uss[j]? = some gus) {m stay : List Nat} {size : Nat} {out : List (List Nat)} {ous : List Value} {su v51 : Value} (hm : mem[k]? = some m) (hs : sizes[k]? = some size) (hv51 : v51.ownBlock = some gb)
    (hL : Left (moveAll c K (outsOf oss)) k size m (groupsOf (sgn G c) (T.filter fun x => decide (c x = k))) out stay) (hG : OwnG W.heap.size w1 v51 out ous) (hO : ∀ u ∈ ous, Off (Wr d cb sv mv) u)
    (hD : DSt B w1 d cb G.length nv av sv mv (moveAll c K (outsOf oss)) (K + (outsOf oss).length) sizes (mem.set k stay) (us.set k su)) (hU : Upd (fun g => g = gb ∨ mv.ownBlock = some g) wr w1)
    (hor : ∀ u ∈ ous, ∀ g, u.ownBlock = some g → (∃ u' ∈ gus, u'.ownBlock = some g) ∨ wr.heap.size ≤ g) (hsu : su ∈ gus ∨ su ∈ us) :
    Run G c K (oss ++ [(k, out)]) ∧ (oss ++ [(k, out)]).map (·.1) = (keysOf c T).take (j + 1) ∧ (∀ x ∈ out.flatten, x < G.length ∧ c x = k ∧ x ∉ (outsOf oss).flatten) ∧ out.flatten.Nodup ∧
      Div3 B W wP d cb G nv av sv0 mv0 c K v5 pv uss j v8 oss out ous v51 0 sizes (mem.set k stay) (us.set k su) sv mv w1 := by
  have hknd := keysOf_nodup c T
  have hkn : k ∉ oss.map (·.1) := by
    rw [h.keys]
    intro hmem
    obtain ⟨i, hi⟩ := List.getElem?_of_mem hmem
    rw [List.getElem?_take] at hi
    split at hi
    · rename_i hij
      obtain ⟨h1, h2⟩ := List.getElem?_eq_some_iff.1 hi
      obtain ⟨h3, h4⟩ := List.getElem?_eq_some_iff.1 hk
      have := (List.getElem_inj hknd).1 (h2.trans h4.symm)
      omega
    · cases hi
  obtain ⟨x0, hx0, hxk⟩ := (keysOf_mem c T k).1 (List.mem_of_getElem? hk)
  have hkK : k < K := by rw [← hxk]; exact hdv.lt x0 (ht.lt x0 hx0)
  obtain ⟨r1, r2, r3, r4⟩ := h.run.leaving (l := T.filter fun x => decide (c x = k)) ht hkK hkn (List.Pairwise.filter _ ht.nodup) (fun x => by simp) (Nat.le_add_right _ _) h.kept hm hs hL
  have hgbF : FarP v5 pv uss j gb := .inr ⟨j, _, gus, Nat.le_refl _, hpv, hus, .inl rfl⟩
  have hgusF : ∀ u ∈ gus, ∀ g, u.ownBlock = some g → FarP v5 pv uss j g := fun u hu g hg => .inr ⟨j, _, gus, Nat.le_refl _, hpv, hus, .inr ⟨u, hu, hg⟩⟩
  -- of what is to come nothing is in this part
  have hne : ∀ g, FarP v5 pv uss (j + 1) g → ¬ InG (.slice (some ⟨gb, go, none⟩) n gcap) gus g := by
    intro g hg hin
    rcases hg with hg | ⟨i, v, us', hi, hv, hu', hg⟩
    · exact hoff5 j _ gus hpv hus g hin hg
    · exact hp.apart j i _ v gus us' (by omega) hpv hus hv hu' g hin hg
  have hfar : Far (FarP v5 pv uss (j + 1)) wP w1 d cb sv mv v8 (us.set k su) := by
    refine (h.far.sub fun g hg => hg.succ).step hU (fun g hg hS => ?_) (fun b hb => .inl hb) (.inl rfl) (fun u hu => ?_)
    · rcases hS with rfl | hS
      · exact hne g hg (.inl rfl)
      · exact h.far.off g hg.succ (.inr (.inr (.inr hS)))
    · rcases List.mem_or_eq_of_mem_set hu with hu | rfl
      · exact .inl hu
      · rcases hsu with hsu | hsu
        · exact .inr fun g hg e => hne g hg (.inr ⟨u, hsu, e⟩)
        · exact .inl hsu
  have hv8gb : v8.ownBlock ≠ some gb := h.far.v8 gb hgbF
  have e0 : outsOf oss ++ out.take 0 = outsOf oss := by simp
  refine ⟨r1, ?_, r4, r3, ⟨by rw [e0]; exact hD, by rw [e0]; simpa using r2, by rw [e0]; exact h.own.upd hU fun g hg hS => hS.elim (fun e => hv8gb (by rw [hg, e])) (fun hS => h.v8w g hg (.inr (.inr (.inr hS)))), h.v8w, fun u hu g hg => ?_, hfar, hG, fun g hg => ?_, fun u hu g hg e => ?_, ?_, h.wr'⟩⟩
  · rw [List.map_append, h.keys, List.take_add_one, hk]; rfl
  · rcases List.mem_or_eq_of_mem_set hu with hu | rfl
    · exact h.v8u u hu g hg
    · rcases hsu with hsu | hsu
      · exact h.far.v8 g (hgusF u hsu g hg)
      · exact h.v8u u hsu g hg
  · rcases hg with hg | ⟨u, hu, hg⟩
    · rw [hv51] at hg
      obtain rfl := Option.some.inj hg
      exact ⟨h.far.off gb hgbF, hv8gb⟩
    · refine ⟨hO u hu g hg, ?_⟩
      rcases hor u hu g hg with ⟨u', hu', hg'⟩ | hge
      · exact h.far.v8 g (hgusF u' hu' g hg')
      · intro e; have := (h.own.lt e).2; omega
  · rcases hor u hu g e with ⟨u', hu', hg'⟩ | hge
    · exact hne g hg (.inr ⟨u', hu', hg'⟩)
    · have := h.far.lt g hg.succ; have := h.far.size; omega
  · refine h.upd.trans hU fun b hb => ?_
    rcases hb with rfl | hb
    · obtain ⟨gs, _, ho⟩ := hp.ex hpv hus
      exact .inr (ho.inLt (.inl rfl)).1
    · exact h.wr' b (.inr (.inr (.inr hb)))

theorem Div3.finish {B : Nat} {W wP wr : World} {d cb : Nat} {G : List Nd} {nv av sv0 mv0 : Value} {c : Nat → Nat} {K : Nat} {T : List Nat} {v5 : Value} {pv : List Value} {uss : List (List Value)} {j k : Nat} {v8 : Value} {oss : List (Nat × List (List Nat))}
    {out : List (List Nat)} {ous : List Value} {v51 : Value} {sizes : List Nat} {mem : List (List Nat)} {us : List Value} {sv mv : Value} (h : Div3 B W wP d cb G nv av sv0 mv0 c K v5 pv uss j v8 oss out ous v51 out.length sizes mem us sv mv wr)
    (hr : Run G c K (oss ++ [(k, out)])) (hk : (oss ++ [(k, out)]).map (·.1) = (keysOf c T).take (j + 1)) : Div2 B W wP d cb G nv av sv0 mv0 c K T v5 pv uss (j + 1) v8 (oss ++ [(k, out)]) sizes mem us sv mv wr := by
  have e : outsOf (oss ++ [(k, out)]) = outsOf oss ++ out.take out.length := by simp [outsOf, List.flatMap_append]
  exact ⟨hk, hr, by rw [e]; exact h.dst, by rw [e]; simpa using h.kept, by rw [e]; exact h.own, h.v8w, h.v8u, h.far, h.upd, h.wr'⟩

theorem Div3.step {B : Nat} {W wP wr w2 w3 : World} {d cb : Nat} {G : List Nd} {nv av sv0 mv0 : Value} {c : Nat → Nat} {K : Nat} {v5 : Value} {pv : List Value} {uss : List (List Value)} {j : Nat} {v8 v8' : Value} {oss : List (Nat × List (List Nat))}
    {out : List (List Nat)} {ous : List Value} {v51 : Value} {q k sb so scap sz n : Nat} {sizes g : List Nat} {mem : List (List Nat)} {us : List Value} {mv sv' mv' gv : Value}
    (h : Div3 B W wP d cb G nv av sv0 mv0 c K v5 pv uss j v8 oss out ous v51 q sizes mem us (.slice (some ⟨sb, so, none⟩) n scap) mv wr) (hg : out[q]? = some g) (hgv : ous[q]? = some gv) (hkK : k < K)
    (hin : ∀ x ∈ out.flatten, x < G.length ∧ c x = k ∧ x ∉ (outsOf oss).flatten) (hnd : out.flatten.Nodup) (hsz : sizes[k]? = some sz) {c' : Nat → Nat} (hc' : c' = putAt (moveAll c K (outsOf oss ++ out.take q)) (K + (outsOf oss ++ out.take q).length) g)
    (hD : DSt B w2 d cb G.length nv av sv' mv' c' (K + (outsOf oss ++ out.take q).length + 1) (sizes.set k (sz - g.length) ++ [g.length]) (mem ++ [g]) (us ++ [gv]))
    (hU : Upd (Wr d cb (.slice (some ⟨sb, so, none⟩) n scap) mv) (wr.setCell ⟨sb, so + k, none⟩ (.int .i64 ((sz - g.length : Nat) : Int))) w2) (hW : ∀ b, Wr d cb sv' mv' b → Wr d cb (.slice (some ⟨sb, so, none⟩) n scap) mv b ∨ wr.heap.size ≤ b)
    (hown : Own W.heap.size 1 w3 v8' ((outsOf oss ++ out.take q).flatten.length + g.length) (intsV (outsOf oss ++ out.take q).flatten ++ intsV g)) (hgr : w2.grownBy w3 v8.ownBlock) (hblk : v8'.ownBlock = v8.ownBlock ∨ ∃ g, v8'.ownBlock = some g ∧ w2.heap.size ≤ g) :
    Div3 B W wP d cb G nv av sv0 mv0 c K v5 pv uss j v8' oss out ous v51 (q + 1) (sizes.set k (sz - g.length) ++ [g.length]) (mem ++ [g]) (us ++ [gv]) sv' mv' w3 := by
  have hsc : (wr.setCell ⟨sb, so + k, none⟩ (.int .i64 ((sz - g.length : Nat) : Int))).heap.size = wr.heap.size := by simp [World.setCell]
  have z1 := hU.size
  rw [hsc] at z1
  have z2 := hgr.size
  have hgvm := List.mem_of_getElem? hgv
  have hgs := h.rows.rows q g gv hg hgv
  have htk : out.take (q + 1) = out.take q ++ [g] := by rw [List.take_add_one, hg]; rfl
  have hsub : ∀ x ∈ g, x ∈ out.flatten := fun x hx => List.mem_flatten.2 ⟨g, List.mem_of_getElem? hg, hx⟩
  have hsplit : out.flatten = (out.take q).flatten ++ (g ++ (out.drop (q + 1)).flatten) := by rw [← drop_flat hg, ← List.flatten_append, List.take_append_drop]
  have hnd' := hnd
  rw [hsplit, List.nodup_append] at hnd'
  obtain ⟨n1, n2, n3⟩ := hnd'
  rw [List.nodup_append] at n2
  obtain ⟨n4, n5, n6⟩ := n2
  have hfresh : ∀ x ∈ g, x ∉ (outsOf oss ++ out.take q).flatten := by
    intro x hx hx'
    rw [List.flatten_append, List.mem_append] at hx'
    rcases hx' with hx' | hx'
    · exact (hin x (hsub x hx)).2.2 hx'
    · exact n3 x hx' x (List.mem_append_left _ hx) rfl
  have hce : c' = moveAll c K (outsOf oss ++ out.take (q + 1)) := by
    rw [hc', htk, ← List.append_assoc]
    exact moveAll_put hfresh
  have hlen : K + (outsOf oss ++ out.take (q + 1)).length = K + (outsOf oss ++ out.take q).length + 1 := by rw [htk]; simp; omega
  have hflat : (outsOf oss ++ out.take (q + 1)).flatten = (outsOf oss ++ out.take q).flatten ++ g := by rw [htk, ← List.append_assoc, List.flatten_append]; simp
  have hkept : Kept G.length (moveAll c K (outsOf oss ++ out.take (q + 1))) (K + (outsOf oss ++ out.take (q + 1)).length) (sizes.set k (sz - g.length) ++ [g.length]) (mem ++ [g]) (out.drop (q + 1)).flatten := by
    have hk0 := h.kept
    rw [drop_flat hg] at hk0
    have := hk0.found (k := k) (by omega) n4 (fun x hx => ⟨(hin x (hsub x hx)).1, by rw [moveAll_out (hfresh x hx)]; exact (hin x (hsub x hx)).2.1⟩) (fun x hx hx' => n6 x hx x hx' rfl)
    rw [List.getD_eq_getElem?_getD, hsz] at this
    rw [← hce, hc', hlen]
    exact this
  -- what is written from the round's head to its end
  have hWs : Wr d cb (.slice (some ⟨sb, so, none⟩) n scap) mv sb := .inr (.inr (.inl rfl))
  have hU0 : Upd (Wr d cb (.slice (some ⟨sb, so, none⟩) n scap) mv) wr w2 := ((Upd.refl _ wr).setCell (p := ⟨sb, so + k, none⟩) (.inl hWs) _).trans hU fun b hb => .inl hb
  have hU3 : Upd (fun b => Wr d cb (.slice (some ⟨sb, so, none⟩) n scap) mv b ∨ v8.ownBlock = some b) wr w3 := (hU0.mono fun b hb => .inl hb).grown hgr fun b hb => .inl (.inr hb)
  have h8lt : ∀ b, v8.ownBlock = some b → b < wr.heap.size := fun b hb => (h.own.lt hb).2
  have h8w : ∀ b, v8.ownBlock = some b → ¬ Wr d cb sv' mv' b := fun b hb hw => (hW b hw).elim (h.v8w b hb) fun e => by have := h8lt b hb; omega
  have hU23 : Upd (fun b => v8.ownBlock = some b) w2 w3 := (Upd.refl _ w2).grown hgr fun b hb => .inl hb
  have hgvo : ∀ b, gv.ownBlock = some b → ¬ Wr d cb (.slice (some ⟨sb, so, none⟩) n scap) mv b ∧ v8.ownBlock ≠ some b := fun b hb => h.roff b (.inr ⟨gv, hgvm, hb⟩)
  have hgvl : ∀ b, gv.ownBlock = some b → b < wr.heap.size := fun b hb => (h.rows.lt hgvm hb).2
  have hus8 : ∀ u ∈ us ++ [gv], ∀ b, u.ownBlock = some b → v8.ownBlock ≠ some b := by
    intro u hu b hb
    rcases List.mem_append.1 hu with hu | hu
    · exact h.v8u u hu b hb
    · simp at hu; subst hu; exact (hgvo b hb).2
  have hD3 : DSt B w3 d cb G.length nv av sv' mv' c' (K + (outsOf oss ++ out.take q).length + 1) (sizes.set k (sz - g.length) ++ [g.length]) (mem ++ [g]) (us ++ [gv]) :=
    hD.upd hU23 fun b hb => ⟨h8w b hb, fun u hu e => hus8 u hu b e hb⟩
  have hulen : (us ++ [gv]).length = K + (outsOf oss ++ out.take q).length + 1 := by have := hD.mm.1; omega
  have hult : ∀ u ∈ us ++ [gv], ∀ b, u.ownBlock = some b → b < w2.heap.size := by
    intro u hu b hb
    obtain ⟨i, hi⟩ := List.getElem?_of_mem hu
    have hil : i < (mem ++ [g]).length := by rw [hD.ml, ← hulen]; exact (List.getElem?_eq_some_iff.1 hi).1
    exact ((hD.rows i _ u (List.getElem?_eq_getElem hil) hi).lt hb).2
  refine ⟨by rw [hlen, ← hce]; exact hD3, hkept, ?_, ?_, ?_, ?_, ?_, ?_, h.rus, ?_, ?_⟩
  · rw [hflat]
    have e : intsV ((outsOf oss ++ out.take q).flatten ++ g) = intsV (outsOf oss ++ out.take q).flatten ++ intsV g := by simp [intsV]
    rw [e, List.length_append]
    exact hown
  · intro b hb
    rcases hblk with e | ⟨b', e, hb'⟩
    · rw [e] at hb; exact h8w b hb
    · rw [e] at hb
      have := Option.some.inj hb
      intro hw
      have := Wr.lt hD hw
      omega
  · intro u hu b hb
    rcases hblk with e | ⟨b', e, hb'⟩
    · rw [e]; exact hus8 u hu b hb
    · rw [e]; intro e'; have := Option.some.inj e'; have := hult u hu b hb; omega
  · refine h.far.step hU3 (fun b hb hS => hS.elim (h.far.off b hb) (h.far.v8 b hb)) hW ?_ fun u hu => ?_
    · rcases hblk with e | ⟨b', e, hb'⟩
      · exact .inl e
      · exact .inr ⟨b', e, by omega⟩
    · rcases List.mem_append.1 hu with hu | hu
      · exact .inl hu
      · simp at hu; subst hu; exact .inr fun b hb e => h.rus u hgvm b hb e
  · exact h.rows.upd hU3 fun b hb hS => hS.elim (h.roff b hb).1 (h.roff b hb).2
  · intro b hb
    have hbl := (h.rows.inLt hb).2
    refine ⟨fun hw => (hW b hw).elim (h.roff b hb).1 fun e => by omega, ?_⟩
    rcases hblk with e | ⟨b', e, hb'⟩
    · rw [e]; exact (h.roff b hb).2
    · rw [e]; intro e'; have := Option.some.inj e'; omega
  · refine h.upd.trans hU3 fun b hb => ?_
    rcases hb with hb | hb
    · exact h.wr' b hb
    · exact .inr (h.own.lt hb).1
  · intro b hb
    rcases hW b hb with hb | hb
    · exact h.wr' b hb
    · exact .inr (by have := h.upd.size; omega)
end Go.Ev

/- The program's division of nodes into classes: the parts of the classes. -/
namespace Go.Ev
open Go.Proofs Go.RowKit Go.Lib
set_option maxRecDepth 100000

theorem Tryz.info103 : (Tryz.prog.info? 103).map (fun i => (i.zero, i.size, i.bytes)) = some (some (.slice none 0 0), 1, 24) := by kernel_rfl

def DivPost (B : Nat) (W : World) (d cb : Nat) (G : List Nd) (nv av sv mv : Value) (c : Nat → Nat) (K : Nat) (e : Ending) (w' : World) : Prop :=
  ∃ v moved c' K' sizes' mem' us' sv' mv', e = .returned v ∧ Own W.heap.size 1 w' v moved.length (intsV moved) ∧ moved.Nodup ∧ DSt B w' d cb G.length nv av sv' mv' c' K' sizes' mem' us' ∧ Kept G.length c' K' sizes' mem' [] ∧
    Divided G c K c' K' moved ∧ Upd (Wr d cb sv mv) W w' ∧ (∀ b, Wr d cb sv' mv' b → Wr d cb sv mv b ∨ W.heap.size ≤ b)

/-- After the classes' groups: of the first j classes the parts. -/
structure Div1 (W : World) (G : List Nd) (c : Nat → Nat) (T : List Nat) (v17 : Value) (us17 : List Value) (j : Nat) (v5 : Value) (pv : List Value) (uss : List (List Value)) (wr : World) : Prop where
  parts : PartsR W.heap.size wr pv (((groupsOf c T).take j).map (groupsOf (signK G c))) uss
  own : Own W.heap.size 1 wr v5 j pv
  off : ∀ (i : Nat) (v : Value) (us : List Value), pv[i]? = some v → uss[i]? = some us → ∀ g, InG v us g → v5.ownBlock ≠ some g
  g17 : OwnG W.heap.size wr v17 (groupsOf c T) us17
  off17 : ∀ g, InG v17 us17 g → v5.ownBlock ≠ some g
  kp : Kp W.heap.size W wr

theorem Div1.snoc {W wr w2 wa w3 : World} {G : List Nd} {c : Nat → Nat} {T l : List Nat} {v17 v5 v5' gv : Value} {us17 pv gus : List Value} {uss : List (List Value)} {j : Nat} (h : Div1 W G c T v17 us17 j v5 pv uss wr) (hl : (groupsOf c T)[j]? = some l)
    (hg : OwnG wr.heap.size w2 gv (groupsOf (signK G c) l) gus) (hk : Kp wr.heap.size wr w2) (hal : Kp w2.heap.size w2 wa) (hown : Own W.heap.size 1 w3 v5' (j + 1) (pv ++ [gv])) (hgr : wa.grownBy w3 v5.ownBlock)
    (hblk : v5'.ownBlock = v5.ownBlock ∨ ∃ g, v5'.ownBlock = some g ∧ wa.heap.size ≤ g) : Div1 W G c T v17 us17 (j + 1) v5' (pv ++ [gv]) (uss ++ [gus]) w3 := by
  have hz1 := hk.size
  have hz2 := hal.size
  have hz0 := h.kp.size
  have hp2 := h.parts.snoc hk hz0 hg
  have hU : Upd (fun g => v5.ownBlock = some g) w2 w3 := (Upd.of_kp hal _).grown hgr fun g hg => .inl hg
  have hv5 : ∀ g, v5.ownBlock = some g → g < wr.heap.size := fun g hg => (h.own.lt hg).2
  have off2 : ∀ (i : Nat) (v : Value) (us : List Value), (pv ++ [gv])[i]? = some v → (uss ++ [gus])[i]? = some us → ∀ g, InG v us g → v5.ownBlock ≠ some g := by
    intro i v us hv hus g hg'
    have e1 := h.parts.l1
    have e2 := h.parts.l2
    rcases Nat.lt_or_ge i pv.length with hl | hl
    · rw [List.getElem?_append_left hl] at hv
      rw [List.getElem?_append_left (by omega)] at hus
      exact h.off i v us hv hus g hg'
    · rw [List.getElem?_append_right hl] at hv
      rw [List.getElem?_append_right (by omega)] at hus
      have e0 : i - pv.length = 0 := by have := (List.getElem?_eq_some_iff.1 hv).1; simp at this; omega
      rw [e0] at hv
      rw [show i - uss.length = 0 by omega] at hus
      simp only [List.getElem?_cons_zero, Option.some.injEq] at hv hus
      subst hv hus
      intro e
      have := hv5 g e
      have := (hg.inLt hg').1
      omega
  have lt2 : ∀ (i : Nat) (v : Value) (us : List Value), (pv ++ [gv])[i]? = some v → (uss ++ [gus])[i]? = some us → ∀ g, InG v us g → g < w2.heap.size := by
    intro i v us hv hus g hg'
    obtain ⟨gs, _, ho⟩ := hp2.ex hv hus
    exact (ho.inLt hg').2
  refine ⟨?_, hown, ?_, ?_, ?_, ?_⟩
  · have e : ((groupsOf c T).take (j + 1)).map (groupsOf (signK G c)) = ((groupsOf c T).take j).map (groupsOf (signK G c)) ++ [groupsOf (signK G c) l] := by
      rw [List.take_add_one, hl]; simp
    rw [e]
    exact hp2.upd hU fun i v us hv hus g hg' e => off2 i v us hv hus g hg' e
  · intro i v us hv hus g hg'
    rcases hblk with e | ⟨g', e, hg2⟩
    · rw [e]; exact off2 i v us hv hus g hg'
    · rw [e]; intro e'; have := Option.some.inj e'; have := lt2 i v us hv hus g hg'; omega
  · exact (h.g17.kp hk).upd hU fun g hg' => h.off17 g hg'
  · intro g hg'
    rcases hblk with e | ⟨g', e, hg2⟩
    · rw [e]; exact h.off17 g hg'
    · rw [e]; intro e'; have := Option.some.inj e'; have := (h.g17.inLt hg').2; omega
  · exact ((h.kp.trans (hk.mono hz0)).trans (hal.mono (by omega))).of_grown_mine ((h.own.kp hk).kp hal) hgr (by omega)

end Go.Ev

/- The program's division of nodes into classes: small facts for the walk of divide. -/
namespace Go.Ev
open Go.Proofs Go.RowKit

theorem OwnG.keep {B : Nat} {w w' : World} {v : Value} {ls : List (List Nat)} {us : List Value} (h : OwnG B w v ls us) (hk : ∀ g, InG v us g → w'.heap[g]? = w.heap[g]?) : OwnG B w' v ls us :=
  ⟨h.own.of_same fun g hg _ => hk g (.inl hg), fun j l u hj hu => (h.rows j l u hj hu).of_same fun g hg _ => hk g (.inr ⟨u, List.mem_of_getElem? hu, hg⟩), h.off, h.apart⟩

theorem length_le_flatten : ∀ {L : List (List Nat)}, (∀ o ∈ L, o ≠ []) → L.length ≤ L.flatten.length
  | [], _ => by simp
  | o :: L, h => by
    have h1 : 0 < o.length := List.length_pos_iff.2 (h o (List.mem_cons_self ..))
    have h2 := length_le_flatten (L := L) fun o ho => h o (List.mem_cons_of_mem _ ho)
    simp only [List.length_cons, List.flatten_cons, List.length_append]
    omega

theorem Run.nodup {G : List Nd} {c : Nat → Nat} {K : Nat} {oss : List (Nat × List (List Nat))} (h : Run G c K oss) : (outsOf oss).flatten.Nodup :=
  nodup_flat (fun o ho => by
    obtain ⟨p, hp, hop⟩ := List.mem_flatMap.1 ho
    exact (h.leaves p hp).nodup o hop) (pairwise_flat h.leaves h.keys)
theorem Run.flat_le {G : List Nd} {c : Nat → Nat} {K : Nat} {oss : List (Nat × List (List Nat))} (h : Run G c K oss) : (outsOf oss).flatten.length ≤ G.length :=
  nodup_le _ _ h.nodup fun _x hx => (h.in_ hx).2
theorem Run.count {G : List Nd} {c : Nat → Nat} {K : Nat} {oss : List (Nat × List (List Nat))} (h : Run G c K oss) : (outsOf oss).length ≤ G.length := by
  refine Nat.le_trans (length_le_flatten fun o ho => ?_) h.flat_le
  obtain ⟨p, hp, hop⟩ := List.mem_flatMap.1 ho
  exact (h.leaves p hp).ne o hop

theorem Div2.start {B : Nat} {W wP : World} {d cb : Nat} {G : List Nd} {nv av sv mv : Value} {c : Nat → Nat} {K : Nat} {T sizes : List Nat} {mem : List (List Nat)} {us : List Value} {v5 v17 : Value} {us17 pv : List Value} {uss : List (List Value)} {j : Nat}
    (hd : DSt B W d cb G.length nv av sv mv c K sizes mem us) (hk : Kept G.length c K sizes mem []) (h : Div1 W G c T v17 us17 j v5 pv uss wP) :
    Div2 B W wP d cb G nv av sv mv c K T v5 pv uss 0 (.slice none 0 0) [] sizes mem us sv mv wP := by
  have e : moveAll c K (outsOf []) = c := by funext x; rfl
  have hF : ∀ g, FarP v5 pv uss 0 g → W.heap.size ≤ g ∧ g < wP.heap.size := by
    intro g hg
    rcases hg with hg | ⟨i, v, us', _, hv, hu, hg⟩
    · exact h.own.lt hg
    · obtain ⟨gs, _, ho⟩ := h.parts.ex hv hu
      exact ho.inLt hg
  refine ⟨by simp, ⟨by simp, by simp, by simp⟩, by rw [e]; simpa [outsOf] using hd.kp h.kp, by rw [e]; simpa [outsOf] using hk, ⟨by simp [outsOf], .inl ⟨rfl, rfl⟩⟩, (fun g hg => by cases hg), (fun u _ g _ => by simp [Value.ownBlock]), ?_, Upd.of_kp h.kp _, fun b hb => .inl hb⟩
  refine ⟨fun g _ => rfl, fun g hg => (hF g hg).2, (fun g hg hw => by have := (hF g hg).1; have := Wr.lt hd hw; omega), (fun g _ => by simp [Value.ownBlock]), fun g hg u hu e => ?_, Nat.le_refl _⟩
  obtain ⟨i, hi⟩ := List.getElem?_of_mem hu
  have hil : i < mem.length := by rw [hd.ml]; have := hd.mm.1; have := (List.getElem?_eq_some_iff.1 hi).1; omega
  have := ((hd.rows i _ u (List.getElem?_eq_getElem hil) hi).lt e).2
  have := (hF g hg).1
  omega

theorem Div3.size_le {B : Nat} {W wP wr : World} {d cb : Nat} {G : List Nd} {nv av sv0 mv0 : Value} {c : Nat → Nat} {K : Nat} {v5 : Value} {pv : List Value} {uss : List (List Value)} {j : Nat} {v8 : Value} {oss : List (Nat × List (List Nat))}
    {out : List (List Nat)} {ous : List Value} {v51 : Value} {q k : Nat} {sizes g : List Nat} {mem : List (List Nat)} {us : List Value} {sv mv : Value} (h : Div3 B W wP d cb G nv av sv0 mv0 c K v5 pv uss j v8 oss out ous v51 q sizes mem us sv mv wr)
    (hg : out[q]? = some g) (hkK : k < K) (hin : ∀ x ∈ out.flatten, x < G.length ∧ c x = k ∧ x ∉ (outsOf oss).flatten) (hnd : out.flatten.Nodup) : ∃ sz, sizes[k]? = some sz ∧ g.length ≤ sz ∧ sz ≤ G.length := by
  have hkl : k < sizes.length := by rw [h.kept.sl]; omega
  refine ⟨sizes[k], List.getElem?_eq_getElem hkl, ?_⟩
  have hs := h.kept.size k (by omega)
  rw [List.getD_eq_getElem?_getD, List.getElem?_eq_getElem hkl] at hs
  simp only [Option.getD_some] at hs
  have hsub : ∀ x ∈ g, x ∈ out.flatten := fun x hx => List.mem_flatten.2 ⟨g, List.mem_of_getElem? hg, hx⟩
  have hsplit : out.flatten = (out.take q).flatten ++ (g ++ (out.drop (q + 1)).flatten) := by rw [← drop_flat hg, ← List.flatten_append, List.take_append_drop]
  rw [hsplit, List.nodup_append] at hnd
  obtain ⟨_, n2, n3⟩ := hnd
  rw [List.nodup_append] at n2
  have := cnt_split (n := G.length) (c := moveAll c K (outsOf oss ++ out.take q)) (k := k) n2.1 fun x hx => ⟨(hin x (hsub x hx)).1, by
    rw [moveAll_out]
    · exact (hin x (hsub x hx)).2.1
    · intro hx'
      rw [List.flatten_append, List.mem_append] at hx'
      rcases hx' with hx' | hx'
      · exact (hin x (hsub x hx)).2.2 hx'
      · exact n3 x hx' x (List.mem_append_left _ hx) rfl⟩
  have hle := cnt_le G.length (moveAll c K (outsOf oss ++ out.take q)) k
  omega

theorem Div2.ready {B : Nat} {W wP wr : World} {d cb : Nat} {G : List Nd} {nv av sv0 mv0 : Value} {c : Nat → Nat} {K : Nat} {T : List Nat} {v5 : Value} {pv : List Value} {uss : List (List Value)} {j : Nat} {v8 : Value} {oss : List (Nat × List (List Nat))}
    {sizes : List Nat} {mem : List (List Nat)} {us : List Value} {sv mv : Value} (h : Div2 B W wP d cb G nv av sv0 mv0 c K T v5 pv uss j v8 oss sizes mem us sv mv wr) (_ht : Touched G c T) (hdv : Dv G c K) {k : Nat} (hkK : k < K) (hkn : k ∉ oss.map (·.1))
    {l : List Nat} (hlc : ∀ x ∈ l, x < G.length ∧ c x = k) (hln : l.Nodup) {gs : List (List Nat)} (hgs : gs = groupsOf (sgn G c) l) :
    ∃ m size, mem[k]? = some m ∧ sizes[k]? = some size ∧ size ≤ G.length ∧ (gs.map List.length).sum ≤ size ∧ gs.flatten.length ≤ G.length ∧ (∀ x ∈ gs.flatten, x < G.length) ∧ (∀ x ∈ m, x < G.length) ∧ m.length ≤ G.length ∧
      (∀ x, x < G.length → moveAll c K (outsOf oss) x ≤ 2 * G.length) ∧ K + (outsOf oss).length ≤ 2 * G.length ∧ gs.length ≤ G.length := by
  have hcount := h.run.count
  have hKN := hdv.le
  have hkm : k < mem.length := by rw [h.kept.ml]; omega
  have hks : k < sizes.length := by rw [h.kept.sl]; omega
  have hs := h.kept.size k (by omega)
  rw [List.getD_eq_getElem?_getD, List.getElem?_eq_getElem hks] at hs
  simp only [Option.getD_some] at hs
  rw [cnt_congr (h.run.same hkK hkn)] at hs
  have hsp := cnt_split hln hlc
  have hsum := groupsOf_sum (sgn G c) hln
  have hmm := h.kept.nodup mem[k] (List.getElem_mem hkm)
  have hcl := cnt_le G.length c k
  have hfl : gs.flatten.length = (gs.map List.length).sum := List.length_flatten
  rw [← hgs] at hsum
  have hne : gs.length ≤ gs.flatten.length := length_le_flatten fun o ho => groupsOf_ne (sgn G c) (l := l) (by rw [← hgs]; exact ho)
  refine ⟨mem[k], sizes[k], List.getElem?_eq_getElem hkm, List.getElem?_eq_getElem hks, by omega, by omega, by omega, fun x hx => ?_, hmm.2, nodup_le _ _ hmm.1 hmm.2, fun x hx => ?_, by omega, by omega⟩
  · rw [hgs, groupsOf_flat] at hx
    exact (hlc x hx).1
  · have := h.kept.lt x hx; omega

theorem add_off (b o j : Nat) : (⟨b, o, none⟩ : Addr).add j = ⟨b, o + j, none⟩ := Addr.add_lit ..
end Go.Ev

/- The program's division of nodes into classes: divide. -/
namespace Go.Ev
open Go.Proofs Go.RowKit Go.Lib
set_option maxRecDepth 100000

set_option maxHeartbeats 16000000 in
theorem divide_ok (d cb K gb go gc tb to tc : Nat) (G : List Nd) (c : Nat → Nat) (T sizes : List Nat) (av sv mv : Value) (mem : List (List Nat)) (us : List Value) (W0 W : World) (hN : G.length ≤ 100000) (hGc : GClosed G) (hgc : G.length ≤ gc) (htc : T.length ≤ tc) (_hT0 : 0 < T.length)
    (hk0 : Kp W0.heap.size W0 W) (hG : ∀ (j : Nat) (nd : Nd), G[j]? = some nd → NodeW W0 gb (go + j * 4) nd) (h : DSt W0.heap.size W d cb G.length (.slice (some ⟨gb, go, none⟩) G.length gc) av sv mv c K sizes mem us)
    (hkept : Kept G.length c K sizes mem []) (hdv : Dv G c K) (ht : Touched G c T) (hcell : ∀ (j x : Nat), T[j]? = some x → W.cell? ⟨tb, to + j, none⟩ = some (.int .i64 (x : Int))) :
    Calls Tryz.prog 91 #[.pointer (some ⟨d, 0, none⟩), .slice (some ⟨tb, to, none⟩) T.length tc] W (DivPost W0.heap.size W d cb G (.slice (some ⟨gb, go, none⟩) G.length gc) av sv mv c K) := by
  have hTN := nodup_le _ _ ht.nodup ht.lt
  have hKN := hdv.le
  have hcN : ∀ x, x < G.length → c x < G.length := fun x hx => Nat.lt_of_lt_of_le (hdv.lt x hx) hKN
  have CI := groupI_ok d cb G.length G.length tb to tc c T W (by omega) (Nat.le_refl _) ht.lt htc (by omega) hcN h.blk.c2 h.cls hcell
  have CS := fun (l : List Nat) (lb lo lc : Nat) (w : World) (hl : ∀ x ∈ l, x < G.length) (hlc : l.length ≤ lc) (hln : l.length ≤ 200000) (hd : w.cell? ⟨d, 0, none⟩ = some (.slice (some ⟨gb, go, none⟩) G.length gc)) (hG : ∀ (j : Nat) (nd : Nd), G[j]? = some nd → NodeW w gb (go + j * 4) nd)
    (hd2 : w.cell? ⟨d, 2, none⟩ = some (.slice (some ⟨cb, 0, none⟩) G.length G.length)) (hc : RowI w cb (clsI G.length c)) (hcell : ∀ (j x : Nat), l[j]? = some x → w.cell? ⟨lb, lo + j, none⟩ = some (.int .i64 (x : Int))) =>
      groupS_ok d gb go gc cb G.length lb lo lc G c l w (by omega) hgc (Nat.le_refl _) hl hlc hln hcN hGc hd hG hd2 hc hcell
  obtain ⟨i103, hk0', hx0, hx1, hx2⟩ := info_parts Tryz.info103
  obtain ⟨i3, hj0, hy0, hy1, hy2⟩ := info_parts Tryz.info3
  have HD := Lib.hid h
  have HK0 := Lib.hid hk0
  have HGN := Lib.hid hG
  have HKE := Lib.hid hkept
  have HDV := Lib.hid hdv
  have HT := Lib.hid ht
  have HCI := Lib.hid CI
  have HCS := Lib.hid CS
  have HGC := Lib.hid hGc
  have hW0 := hk0.size
  clear CI CS h hk0 hG hkept hdv ht hcell hcN hGc
  go_enter Tryz.func91, Tryz.ntmps91
  go_wp2_with fail
  refine HCI.out.mono ?_
  rintro e w1 ⟨v17, us17, rfl, h17, hk1⟩
  obtain ⟨ga17, gcap17, e17⟩ := own_form h17.own
  subst e17
  have H0 := Lib.hid (show Div1 W G c T (.slice ga17 (groupsOf c T).length gcap17) us17 0 (.slice none 0 0) [] [] w1 from
    ⟨PartsR.nil, ⟨rfl, .inl ⟨rfl, rfl⟩⟩, fun i v us h => by simp at h, h17, fun g _ => by simp [Value.ownBlock], hk1⟩)
  clear h17 hk1
  have hm17 : (groupsOf c T).length ≤ 200000 := by rw [groupsOf_length]; exact Nat.le_trans (keysOf_le c T) (by omega)
  go_wp2
  go_loopw [5, 19] (fun v5 i wr => ∃ (j : Nat) (pv : List Value) (uss : List (List Value)), j ≤ (groupsOf c T).length ∧ i = .int .i64 j ∧ Div1 W G c T (.slice ga17 (groupsOf c T).length gcap17) us17 j v5 pv uss wr) (fun _ i _ => (groupsOf c T).length - (RowKit.intOf i).toNat)
  case atStart => exact ⟨0, [], [], Nat.zero_le _, rfl, H0.out⟩
  case round =>
    obtain ⟨j, pv, uss, hj, rfl, hst⟩ := hrel
    clear H0
    obtain ⟨v5a, v5c, e5⟩ := own_form hst.own
    subst e5
    by_cases hlt : j < (groupsOf c T).length
    · obtain ⟨l, hl⟩ : ∃ l, (groupsOf c T)[j]? = some l := ⟨_, List.getElem?_eq_getElem hlt⟩
      obtain ⟨b17, o17, c17, e0, hs17⟩ := hst.g17.own.seg (by omega)
      obtain ⟨rfl, rfl⟩ : ga17 = some ⟨b17, o17, none⟩ ∧ gcap17 = c17 := by cases e0; exact ⟨rfl, rfl⟩
      clear e0
      obtain ⟨u, hu, huo⟩ := hst.g17.row hl
      have hlne := groupsOf_ne c (List.mem_of_getElem? hl)
      have hlpos : 0 < l.length := List.length_pos_iff.2 hlne
      obtain ⟨ub, uo, uc, rfl, hus⟩ := huo.seg hlpos
      have hfit := hs17.fit
      have hcu := hs17.cell hu
      have hlsub : ∀ x ∈ l, x < G.length := fun x hx => HT.out.lt x (groupsOf_sub c (List.mem_of_getElem? hl) hx)
      have hlln : l.length ≤ 200000 := by
        have := nodup_le G.length l (groupsOf_nodup c HT.out.nodup (List.mem_of_getElem? hl)) hlsub
        omega
      have hkr := hst.kp
      have hd := (HD.out.kp hkr)
      have CS' := HCS.out l ub uo uc wr hlsub hus.fit hlln hd.blk.c0 (fun j nd hj => (HGN.out j nd hj).grown fun _ _ _ h => (HK0.out.trans (hkr.mono hW0)).cells h) hd.blk.c2 hd.cls (fun i x hi => hus.cell (by simp [intsV, hi]))
      have HCS' := Lib.hid CS'
      have HST := Lib.hid hst
      have HL := Lib.hid hl
      have hzr := hkr.size
      clear CS' hd hkr hl huo hus hs17 hu hst hlsub hlne
      generalize hm : (groupsOf c T).length = m at *
      have HMM := Lib.hid hm
      clear hm
      go_wp2_with fail
      refine HCS'.out.mono ?_
      rintro e w2 ⟨gv, gus, rfl, hgv, hk2⟩
      obtain ⟨gva, gvc, egv⟩ := own_form hgv.own
      subst egv
      have hz2 := hk2.size
      have HAL := Lib.hid (show Kp w2.heap.size w2 (w2.alloc (Obj.cells #[Value.slice gva (groupsOf (signK G c) l).length gvc] 103)) from (Kp.refl _ _).alloc (Nat.le_refl _) _)
      have HGV := Lib.hid hgv
      have HK2 := Lib.hid hk2
      have HO5 := Lib.hid (HST.out.own.kp hk2)
      clear hgv hk2
      go_wp2_with (at_builtin; go_loud (refine wpList_append_mine rfl (.tmp 23) (.tmp 28) 130 rfl W.heap.size 103 i103 (.slice none 0 0) 1 24 Tryz.underlying130 hk0' hx0 hx1 hx2 rfl (by decide) (.slice v5a j v5c) j pv rfl (HO5.out.kp HAL.out) ⟨w2.heap.size, 0, none⟩ 1 1 [.slice gva (groupsOf (signK G c) l).length gvc] rfl rfl (news_alloc w2 [.slice gva (groupsOf (signK G c) l).length gvc] 103) (by simp [Value.oneCell']) (by unfold maxLen; omega) (by omega) (by have := HAL.out.size; omega) ?_); intro v5' w3 hown3 hgr3 hblk3; have HO3 := Lib.hid hown3; have HG3 := Lib.hid hgr3; have HB3 := Lib.hid hblk3; clear hown3 hgr3 hblk3)
      go_roundw
      case rel =>
        exact ⟨j + 1, pv ++ [.slice gva (groupsOf (signK G c) l).length gvc], uss ++ [gus], by omega, by go_num, HST.out.snoc HL.out HGV.out HK2.out HAL.out HO3.out HG3.out HB3.out⟩
      case measure => simp [RowKit.intOf]; omega
    · obtain rfl : j = (groupsOf c T).length := by omega
      obtain ⟨wP, rfl⟩ : ∃ wP : World, wP = wr := ⟨_, rfl⟩
      have H20 := Lib.hid (Div2.start HD.out HKE.out hst)
      have HST := Lib.hid hst
      clear hst
      have HMK := Lib.hid (groupsOf_length c T)
      go_wp2
      go_loopw [8, 33] (fun v8 i wi => ∃ (j : Nat) (oss : List (Nat × List (List Nat))) (sizes : List Nat) (mem : List (List Nat)) (us : List Value) (sv' mv' : Value), j ≤ (groupsOf c T).length ∧ i = .int .i64 j ∧
        Div2 W0.heap.size W wP d cb G (.slice (some ⟨gb, go, none⟩) G.length gc) av sv mv c K T (.slice v5a (groupsOf c T).length v5c) pv uss j v8 oss sizes mem us sv' mv' wi) (fun _ i _ => (groupsOf c T).length - (RowKit.intOf i).toNat)
      case atStart => exact ⟨0, [], _, _, _, _, _, Nat.zero_le _, rfl, H20.out⟩
      case round =>
        obtain ⟨j, oss, sz2, mem2, us2, sv2, mv2, hj, rfl, h2⟩ := hrel
        clear H20
        by_cases hlt : j < (groupsOf c T).length
        · obtain ⟨k, hk⟩ : ∃ k, (keysOf c T)[j]? = some k := ⟨_, List.getElem?_eq_getElem (by have := HMK.out; omega)⟩
          obtain ⟨l, hl⟩ : ∃ l, l = T.filter fun x => decide (c x = k) := ⟨_, rfl⟩
          have hgl : (groupsOf c T)[j]? = some l := by unfold groupsOf; rw [List.getElem?_map, hk, hl]; rfl
          have hlc : ∀ x ∈ l, x < G.length ∧ c x = k := fun x hx => by
            rw [hl, List.mem_filter] at hx
            exact ⟨HT.out.lt x hx.1, by simpa using hx.2⟩
          obtain ⟨gs, hgs⟩ : ∃ gs, gs = groupsOf (sgn G c) l := ⟨_, rfl⟩
          have hgss : (((groupsOf c T).take (groupsOf c T).length).map (groupsOf (signK G c)))[j]? = some gs := by
            rw [List.take_length, List.getElem?_map, hgl, hgs]
            simp only [Option.map_some]
            rw [sign_groups HGC.out HDV.out hlc]
          obtain ⟨pvv, gus, hpv, hgus, hGP⟩ := HST.out.parts.get hgss
          have hlne := groupsOf_ne c (List.mem_of_getElem? hgl)
          have hlnd : l.Nodup := groupsOf_nodup c HT.out.nodup (List.mem_of_getElem? hgl)
          have hgs0 : 0 < gs.length := by
            rw [hgs, groupsOf_length]
            obtain ⟨x, hx⟩ := List.exists_mem_of_ne_nil _ hlne
            exact List.length_pos_of_mem ((keysOf_mem (sgn G c) l _).2 ⟨x, hx, rfl⟩)
          have hFj : ∀ g, InG pvv gus g → FarP (.slice v5a (groupsOf c T).length v5c) pv uss j g := fun g hg => .inr ⟨j, pvv, gus, Nat.le_refl _, hpv, hgus, hg⟩
          have hGr := hGP.keep (w' := wr) fun g hg => h2.far.keep g (hFj g hg)
          obtain ⟨gb', go', gcap', rfl, hgseg⟩ := hGr.own.seg hgs0
          -- the slice of the parts
          have h5 : Own W.heap.size 1 wr (.slice v5a (groupsOf c T).length v5c) (groupsOf c T).length pv := HST.out.own.of_same fun g hg _ => h2.far.keep g (.inl hg)
          obtain ⟨b5, o5, c5, e5, hs5⟩ := h5.seg (by omega)
          obtain ⟨rfl, rfl⟩ : v5a = some ⟨b5, o5, none⟩ ∧ v5c = c5 := by cases e5; exact ⟨rfl, rfl⟩
          clear e5
          have hc5 := hs5.cell hpv
          have hf5 := hs5.fit
          -- the first node of the first part
          obtain ⟨g0, hg0⟩ : ∃ g0, gs[0]? = some g0 := ⟨_, List.getElem?_eq_getElem hgs0⟩
          obtain ⟨u0, hu0, hu0o⟩ := hGr.row hg0
          have hg0m : g0 ∈ groupsOf (sgn G c) l := by rw [← hgs]; exact List.mem_of_getElem? hg0
          have hg0p : 0 < g0.length := List.length_pos_iff.2 (groupsOf_ne _ hg0m)
          obtain ⟨xb, xo, xc, rfl, hx0s⟩ := hu0o.seg hg0p
          obtain ⟨x0, hx0⟩ : ∃ x0, g0[0]? = some x0 := ⟨_, List.getElem?_eq_getElem hg0p⟩
          have hx0l : x0 ∈ l := groupsOf_sub _ hg0m (List.mem_of_getElem? hx0)
          obtain ⟨hx0N, hx0k⟩ := hlc x0 hx0l
          have hcg0 : wr.cell? ⟨gb', go', none⟩ = some (.slice (some ⟨xb, xo, none⟩) g0.length xc) := by have := hgseg.cell hu0; simpa using this
          have hcx0 : wr.cell? ⟨xb, xo, none⟩ = some (.int .i64 (x0 : Int)) := by have := hx0s.cell (j := 0) (u := .int .i64 (x0 : Int)) (by simp [intsV, hx0]); simpa using this
          have hgfit := hgseg.fit
          have hxfit := hx0s.fit
          have hkK : k < K := by rw [← hx0k]; exact HDV.out.lt x0 hx0N
          have hkn : k ∉ oss.map (·.1) := by
            rw [h2.keys]
            intro hmem
            obtain ⟨i, hi⟩ := List.getElem?_of_mem hmem
            rw [List.getElem?_take] at hi
            split at hi
            · rename_i hij
              obtain ⟨h1, h1'⟩ := List.getElem?_eq_some_iff.1 hi
              obtain ⟨h3, h3'⟩ := List.getElem?_eq_some_iff.1 hk
              have := (List.getElem_inj (keysOf_nodup c T)).1 (h1'.trans h3'.symm)
              omega
            · cases hi
          have hck : moveAll c K (outsOf oss) x0 = k := (h2.run.same hkK hkn x0).2 hx0k
          have hcc := h2.dst.cls.cell (i := x0) (by rw [clsI_length]; exact hx0N)
          rw [clsI_get _ hx0N, hck] at hcc
          have hd2 := h2.dst.blk.c2
          obtain ⟨m, size, hm, hsz, hszN, hsum, hgfl, hgfN, hmN, hmlN, hclN, hKjN, hgslN⟩ := h2.ready HT.out HDV.out hkK hkn hlc hlnd hgs
          have hgbF : FarP (.slice (some ⟨b5, o5, none⟩) (groupsOf c T).length v5c) pv uss j gb' := hFj gb' (.inl rfl)
          have hgoff : ∀ u ∈ gus, Off (Wr d cb sv2 mv2) u := fun u hu g hg => h2.far.off g (hFj g (.inr ⟨u, hu, hg⟩))
          have hgbW := h2.far.off gb' hgbF
          have hgu : ∀ u ∈ us2, u.ownBlock ≠ some gb' := h2.far.us gb' hgbF
          have HM := Lib.hid hm
          have HSZ := Lib.hid hsz
          have HMN := Lib.hid hmN
          have HCLN := Lib.hid hclN
          have HGFN := Lib.hid hgfN
          have HGO := Lib.hid hgoff
          have HGB := Lib.hid hgbW
          have HGU := Lib.hid hgu
          have hW0r := h2.upd.size
          have H2 := Lib.hid h2
          have HGR := Lib.hid hGr
          have HPV := Lib.hid hpv
          have HGUS := Lib.hid hgus
          have HFJ := Lib.hid hFj
          have HK := Lib.hid hk
          have HL := Lib.hid hl
          have HGS := Lib.hid hgs
          have HLC := Lib.hid hlc
          have HLN := Lib.hid hlnd
          obtain ⟨v8a, v8c, e8⟩ := own_form h2.own
          obtain ⟨n8, hn8⟩ : ∃ n8, n8 = (outsOf oss).flatten.length := ⟨_, rfl⟩
          rw [← hn8] at e8
          have HN8 := Lib.hid hn8
          subst e8
          clear hn8
          clear hm hsz hmN hclN hgfN hgoff hgbW hgu hgbF
          clear h2 hGr hgseg hx0s hs5 h5 hpv hgus hFj hk hl hgs hlc hlnd hgss hGP hu0 hu0o hg0 hg0m hx0 hx0l hx0k hkn hck hgl hlne
          go_wp2
          go_quiet (fail)
          have HQ0 := Lib.hid (show Kp wr.heap.size wr (wr.drewN nq) from (Kp.refl _ _).drewN)
          have LV := leaving_ok W0.heap.size W.heap.size d cb G.length (K + (outsOf oss).length) k gb' go' gcap' size (.slice (some ⟨gb, go, none⟩) G.length gc) av sv2 mv2 (moveAll c K (outsOf oss)) sz2 m gs mem2 gus us2 (wr.drewN nq) (by omega) (by omega) (by omega)
            (H2.out.dst.kp HQ0.out) (HGR.out.kp HQ0.out) HGO.out HGB.out HGU.out hW0 hgs0 (by omega) HSZ.out (by omega) hsum (by omega) HGFN.out HM.out HMN.out (by omega) (fun x hx => by have := HCLN.out x hx; omega)
          have HLV := Lib.hid LV
          clear LV
          go_wp2_with fail
          refine HLV.out.mono ?_
          rintro e w1 ⟨out, ous, stay, su, rfl, hLL, hLG, hLO, hLD, hLU, hLR, hLS⟩
          obtain ⟨rr, rk, rin, rnd, h3⟩ := H2.out.leave (v51 := .slice (some ⟨gb', go', none⟩) out.length gcap') HT.out HDV.out HK.out HST.out.parts HST.out.kp.size HST.out.off HPV.out HGUS.out HM.out HSZ.out rfl (by rw [← HL.out, ← HGS.out]; exact hLL) hLG hLO hLD (((Upd.of_kp HQ0.out (fun g => g = gb' ∨ mv2.ownBlock = some g)).trans hLU fun b hb => .inl hb)) hLR hLS
          have H3 := Lib.hid h3
          have RR := Lib.hid rr
          have RK := Lib.hid rk
          have RIN := Lib.hid rin
          have RND := Lib.hid rnd
          have hol : out.length ≤ 200000 := by
            have h1 := rr.count
            have e : (outsOf (oss ++ [(k, out)])).length = (outsOf oss).length + out.length := by simp [outsOf, List.flatMap_append]
            omega
          clear h3 rr rk rin rnd hLL hLG hLO hLD hLU hLR hLS HLV HQ0 hcc hd2 hcg0 hcx0
          go_wp2
          go_loopw [8, 53] (fun v8 i wi => ∃ (q : Nat) (sizes : List Nat) (mem : List (List Nat)) (us : List Value) (sv' mv' : Value), q ≤ out.length ∧ i = .int .i64 q ∧
            Div3 W0.heap.size W wP d cb G (.slice (some ⟨gb, go, none⟩) G.length gc) av sv mv c K (.slice (some ⟨b5, o5, none⟩) (groupsOf c T).length v5c) pv uss j v8 oss out ous (.slice (some ⟨gb', go', none⟩) out.length gcap') q sizes mem us sv' mv' wi) (fun _ i _ => out.length - (RowKit.intOf i).toNat)
          case atStart => exact ⟨0, _, _, _, _, _, Nat.zero_le _, rfl, H3.out⟩
          case round =>
            obtain ⟨q, sz3, mem3, us3, sv3, mv3, hq, rfl, h3⟩ := hrel
            clear H3
            obtain ⟨v8b, v8d, e8⟩ := own_form h3.own
            obtain ⟨n8', hn8'⟩ : ∃ n8, n8 = (outsOf oss ++ out.take q).flatten.length := ⟨_, rfl⟩
            rw [← hn8'] at e8
            have HN8' := Lib.hid hn8'
            subst e8
            clear hn8'
            by_cases hlq : q < out.length
            · obtain ⟨g, hg⟩ : ∃ g, out[q]? = some g := ⟨_, List.getElem?_eq_getElem hlq⟩
              obtain ⟨gv, hgv, hgvo⟩ := h3.rows.row hg
              have hgm := List.mem_of_getElem? hg
              have hLE := RR.out.leaves (k, out) (by simp)
              have hgp : 0 < g.length := List.length_pos_iff.2 (hLE.ne g hgm)
              have hgvf := hgvo.seg hgp
              obtain ⟨xb', xo', xc', rfl, hxs⟩ := hgvf
              obtain ⟨szk, hszk, hgle, hszN'⟩ := h3.size_le hg hkK RIN.out RND.out
              obtain ⟨sb, so, scap, rfl, hss⟩ := h3.dst.siz.seg (by omega)
              obtain ⟨_, _, _, e51, hs51⟩ := h3.rows.own.seg (by omega)
              cases e51
              have hc51 := hs51.cell hgv
              have hf51 := hs51.fit
              have c3 := h3.dst.blk.c3
              have hcs := hss.cell (j := k) (u := .int .i64 (szk : Int)) (by simp [intsV, hszk])
              have hfs := hss.frozen (so + k)
              have hsfit := hss.fit
              have hxfit' := hxs.fit
              have hxmax := hxs.max
              unfold maxLen at hxmax
              have hgN : ∀ x ∈ g, x < G.length := fun x hx => (RIN.out x (List.mem_flatten.2 ⟨g, hgm, hx⟩)).1
              have hglN : g.length ≤ G.length := nodup_le _ _ (hLE.nodup g hgm) hgN
              have hro := h3.roff
              have hxw : ¬ Wr d cb (.slice (some ⟨sb, so, none⟩) (K + (outsOf oss ++ out.take q).length) scap) mv3 xb' := (hro xb' (.inr ⟨_, List.mem_of_getElem? hgv, rfl⟩)).1
              have hxsb : xb' ≠ sb := fun e => hxw (.inr (.inr (.inl (by rw [e]; rfl))))
              have hxcb : xb' ≠ cb := fun e => hxw (.inr (.inl e))
              have hKq : K + (outsOf oss ++ out.take q).length ≤ 200000 := by
                have h1 := RR.out.count
                have e : (outsOf (oss ++ [(k, out)])).length = (outsOf oss).length + out.length := by simp [outsOf, List.flatMap_append]
                have h2 := List.length_take_le q out
                rw [List.length_append]
                omega
              have hn8 : n8' + g.length ≤ 100000 := by
                have h1 := RR.out.flat_le
                have e : outsOf (oss ++ [(k, out)]) = outsOf oss ++ out := by simp [outsOf, List.flatMap_append]
                rw [e] at h1
                have e2 : (outsOf oss ++ out).flatten.length = (outsOf oss ++ out.take q).flatten.length + (out.drop q).flatten.length := by
                  rw [← List.length_append, ← List.flatten_append, List.append_assoc, List.take_append_drop]
                rw [drop_flat hg, List.length_append] at e2
                have := HN8'.out
                omega
              -- the sizes
              have hC : Chg sb wr (wr.setCell ⟨sb, so + k, none⟩ (.int .i64 ((szk - g.length : Nat) : Int))) := (Chg.refl _ _).setCell _ _
              have hDS := h3.dst.setSize (n := szk - g.length) (k := k) (by omega)
              have hgS := (h3.rows.rows q g _ hg hgv).chg hC (fun e => hxsb (Option.some.inj e))
              have FO := found_ok W0.heap.size d cb G.length (K + (outsOf oss ++ out.take q).length) xb' xo' xc' (.slice (some ⟨gb, go, none⟩) G.length gc) av (.slice (some ⟨sb, so, none⟩) (K + (outsOf oss ++ out.take q).length) scap) mv3 (moveAll c K (outsOf oss ++ out.take q)) (sz3.set k (szk - g.length)) g mem3 us3
                (wr.setCell ⟨sb, so + k, none⟩ (.int .i64 ((szk - g.length : Nat) : Int))) (.slice (some ⟨xb', xo', none⟩) g.length xc') (by omega) hKq hgN (by omega) hxfit' rfl (hgS.mono hW0) (fun b hb => by cases hb; exact hxw) hDS (fun i x hi => (hxs.chg hC hxsb).cell (by simp [intsV, hi])) hxcb
              have HSE := Lib.hid (show ((szk : Int) - (g.length : Int)) = ((szk - g.length : Nat) : Int) by omega)
              have hsub0 : (0 : Int) ≤ (szk : Int) - (g.length : Int) := by omega
              have hszk2 : szk ≤ 200000 := by omega
              have HFO := Lib.hid FO
              have H3 := Lib.hid h3
              have HGQ := Lib.hid hg
              have HGVQ := Lib.hid hgv
              have HSZK := Lib.hid hszk
              have HRO := Lib.hid hro
              have HB3 := Lib.hid (show W.heap.size ≤ wr.heap.size from h3.upd.size)
              clear h3 hg hgv hgvo hgm hLE hxs hszk hss hs51 hgN hro hxw hC hDS hgS FO hszN'
              go_wp2_with (first
                | (go_at_call 89; rw [HSE.out]; refine HFO.out.mono ?_; rintro e w2 ⟨sv', mv', rfl, hD', hU', hW'⟩; have hU0 : Upd (Wr d cb (.slice (some ⟨sb, so, none⟩) (K + (outsOf oss ++ out.take q).length) scap) mv3) wr w2 := ((Upd.refl _ wr).setCell (p := ⟨sb, so + k, none⟩) (.inl (.inr (.inr (.inl rfl)))) _).trans hU' (fun b hb => .inl hb); have ho8 := H3.out.own.upd hU0 H3.out.v8w; rw [← HN8'.out] at ho8; have hg2 := (H3.out.rows.rows q g _ HGQ.out HGVQ.out).upd hU0 (fun b hb => (HRO.out b (.inr ⟨_, List.mem_of_getElem? HGVQ.out, hb⟩)).1); obtain ⟨_, _, _, e2, hs2⟩ := hg2.seg hgp; cases e2; have hnews : ∀ (i : Nat) (u : Value), (intsV g)[i]? = some u → w2.cell? ((⟨xb', xo', none⟩ : Addr).add i) = some u := (fun i u hi => by rw [add_off]; exact hs2.cell hi); have hz2 := hU0.size; have HNW := Lib.hid hnews; have HO8 := Lib.hid ho8; have HD' := Lib.hid hD'; have HU' := Lib.hid hU'; have HW' := Lib.hid hW'; clear hD' hU' hW' hU0 ho8 hg2 hs2 hnews)
                | (at_builtin; go_loud (refine wpList_append_mine rfl (.tmp 71) (.tmp 72) 43 rfl W.heap.size 3 i3 (.int .i64 0) 1 8 Tryz.underlying43 hj0 hy0 hy1 hy2 rfl (by decide) (.slice v8b n8' v8d) n8' (intsV (outsOf oss ++ out.take q).flatten) rfl HO8.out ⟨xb', xo', none⟩ g.length xc' (intsV g) rfl (by simp [intsV]) HNW.out (by intro u hu; obtain ⟨x, _, rfl⟩ := List.mem_map.1 hu; rfl) (by unfold maxLen; omega) (by omega) (by have := HB3.out; omega) ?_); intro v8' w3 hown3 hgr3 hblk3; have HO3 := Lib.hid hown3; have HG3 := Lib.hid hgr3; have HBL3 := Lib.hid hblk3; clear hown3 hgr3 hblk3))
              go_roundw
              case rel => exact ⟨q + 1, _, _, _, _, _, by omega, by go_num, H3.out.step HGQ.out HGVQ.out hkK RIN.out RND.out HSZK.out rfl HD'.out HU'.out (fun b hb => (HW'.out b hb).imp id fun h => by rw [show (wr.setCell ⟨sb, so + k, none⟩ (.int .i64 ((szk - g.length : Nat) : Int))).heap.size = wr.heap.size by simp [World.setCell]] at h; exact h) (by have h := HO3.out; rw [HN8'.out] at h; exact h) HG3.out HBL3.out⟩
              case measure => simp [RowKit.intOf]; omega
            · obtain rfl : q = out.length := by omega
              have H3 := Lib.hid h3
              clear h3
              go_wp2
              go_roundw
              case rel => exact ⟨j + 1, oss ++ [(k, out)], sz3, mem3, us3, sv3, mv3, by omega, by go_num, H3.out.finish RR.out RK.out⟩
              case measure => simp [RowKit.intOf]; omega
        · obtain rfl : j = (groupsOf c T).length := by omega
          obtain ⟨v8a, v8c, e8⟩ := own_form h2.own
          subst e8
          have H2 := Lib.hid h2
          clear h2
          go_wp2
          go_ret
          have h2 := H2.out
          refine ⟨_, (outsOf oss).flatten, _, _, sz2, mem2, us2, sv2, mv2, rfl, h2.own, h2.run.nodup, h2.dst, h2.kept, ?_, h2.upd, h2.wr'⟩
          refine divided_of HDV.out HT.out h2.run.leaves h2.run.keys fun x hx => ?_
          rw [h2.keys, HMK.out, List.take_length]
          exact (keysOf_mem c T (c x)).2 ⟨x, hx, rfl⟩
end Go.Ev
