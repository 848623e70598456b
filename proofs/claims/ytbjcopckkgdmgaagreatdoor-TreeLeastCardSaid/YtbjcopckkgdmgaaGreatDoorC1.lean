import Derived.Test.YtbjcopckkgdmgaaGreatDoorRb
import Derived.Test.YtbjcopckkgdmgaaGreatDoorLgA
import Derived.Test.YtbjcopckkgdmgaaGreatDoorN2
import Derived.Test.YtbjcopckkgdmgaaGreatDoorVa7
import Derived.Test.YtbjcopckkgdmgaaGreatDoorN2
import Derived.Test.YtbjcopckkgdmgaaGreatDoorN2
import Derived.Test.YtbjcopckkgdmgaaGreatDoorN2
import Derived.StillTailTactics
import Derived.Test.YtbjcopckkgdmgaaGreatDoorN12
import Derived.Test.YtbjcopckkgdmgaaGreatDoorRe1
import Derived.Test.YtbjcopckkgdmgaaGreatDoorN13
/- Finite trees: the mathematics of looking for a way back. -/
namespace Go.Ev
open Go.Proofs Go.RowKit

/-- A node that denotes a finite tree. -/
inductive Ends (G : List Nd) : Nat → Prop where
  | node (x : Nat) : (∀ a ∈ argsAt G x, Ends G a) → Ends G x

theorem Ends.args {G : List Nd} {x : Nat} (h : Ends G x) : ∀ a ∈ argsAt G x, Ends G a := by
  cases h with | node _ h => exact h

/-- A node leads to another by one step or more. -/
inductive Leads (G : List Nd) : Nat → Nat → Prop where
  | one {x a : Nat} : a ∈ argsAt G x → Leads G x a
  | more {x y a : Nat} : Leads G x y → a ∈ argsAt G y → Leads G x a

theorem Ends.leads {G : List Nd} {x y : Nat} (h : Ends G x) (l : Leads G x y) : Ends G y := by
  induction l with
  | one ha => exact h.args _ ha
  | more _ ha ih => exact ih.args _ ha
theorem Leads.step {G : List Nd} {x a y : Nat} (h : a ∈ argsAt G x) (l : Leads G a y) : Leads G x y := by
  induction l with
  | one ha => exact .more (.one h) ha
  | more _ ha ih => exact .more ih ha

/-- What leads to itself is not finite. -/
theorem not_fin {G : List Nd} {x : Nat} (l : Leads G x x) : ¬ Ends G x := by
  intro h
  have key : ∀ y, Ends G y → ¬ (Leads G y y) := by
    intro y hy
    induction hy with
    | node y hy ih =>
      intro l
      have : ∃ a ∈ argsAt G y, Leads G a y ∨ a = y := by
        clear ih hy
        have gen : ∀ z, Leads G y z → ∃ a ∈ argsAt G y, Leads G a z ∨ a = z := by
          intro z l
          induction l with
          | one ha => exact ⟨_, ha, .inr rfl⟩
          | more _ ha ih =>
            obtain ⟨a, h1, h2⟩ := ih
            rcases h2 with h2 | rfl
            · exact ⟨a, h1, .inl (.more h2 ha)⟩
            · exact ⟨a, h1, .inl (.one ha)⟩
        exact gen y l
      obtain ⟨a, h1, h2⟩ := this
      rcases h2 with h2 | rfl
      · exact ih a h1 (.more h2 h1)
      · exact ih a h1 l
  exact key x h l

/-- Nodes that denote the same tree are finite together. -/
theorem Ends.bis {G G' : List Nd} (hG : GClosed G) (hG' : GClosed G') {x : Nat} (h : Ends G x) : ∀ {y}, x < G.length → y < G'.length → Bis G x G' y → Ends G' y := by
  induction h with
  | node x _ ih =>
    intro y hx hy hb
    refine .node y fun b hb' => ?_
    have ht := hb.args hG hG' hx hy
    obtain ⟨i, hi⟩ := List.getElem?_of_mem hb'
    have hl := ht.length
    obtain ⟨a, ha⟩ : ∃ a, (argsAt G x)[i]? = some a := by
      have := (List.getElem?_eq_some_iff.1 hi).1
      exact ⟨_, List.getElem?_eq_getElem (by omega)⟩
    have hm := List.mem_of_getElem? ha
    exact ih a hm (argsAt_lt hG hm) (argsAt_lt hG' hb') (ht.get ha hi)

/-- While a way back is looked for: what is entered, what is left again. -/
structure Looked (G : List Nd) (n : Nat) (es ls : List Bool) : Prop where
  elen : es.length = G.length
  llen : ls.length = G.length
  left : ∀ y, ls.getD y false = true → es.getD y false = true ∧ Ends G y
  opened : ∀ y, es.getD y false = true → ls.getD y false = false → Leads G y n

/-- When a node has been looked at and no way back was found. -/
structure Clear (G : List Nd) (es ls es' ls' : List Bool) : Prop where
  elen : es'.length = G.length
  llen : ls'.length = G.length
  left : ∀ y, ls'.getD y false = true → es'.getD y false = true ∧ Ends G y
  opened : ∀ y, es'.getD y false = true → ls'.getD y false = false → es.getD y false = true ∧ ls.getD y false = false
  grow : ∀ y, es.getD y false = true → es'.getD y false = true
  growl : ∀ y, ls.getD y false = true → ls'.getD y false = true
  keep : ∀ y, es.getD y false = true → ls.getD y false = false → ls'.getD y false = false

theorem Clear.refl {G : List Nd} {n : Nat} {es ls : List Bool} (h : Looked G n es ls) : Clear G es ls es ls :=
  ⟨h.elen, h.llen, h.left, fun _ a b => ⟨a, b⟩, fun _ h => h, fun _ h => h, fun _ _ h => h⟩
theorem Clear.trans {G : List Nd} {es ls es' ls' es2 ls2 : List Bool} (h : Clear G es ls es' ls') (k : Clear G es' ls' es2 ls2) : Clear G es ls es2 ls2 :=
  ⟨k.elen, k.llen, k.left, fun y a b => (h.opened y (k.opened y a b).1 (k.opened y a b).2), fun y a => k.grow y (h.grow y a), fun y a => k.growl y (h.growl y a), fun y a b => k.keep y (h.grow y a) (h.keep y a b)⟩

theorem getD_set {l : List Bool} {i j : Nat} {b : Bool} (hi : i < l.length) : (l.set i b).getD j false = if i = j then b else l.getD j false := by
  simp only [List.getD_eq_getElem?_getD, List.getElem?_set]
  by_cases h : i = j
  · subst h; simp [hi]
  · simp [h]

/-- A node entered: then its arguments are looked at. -/
theorem Looked.enter {G : List Nd} {n : Nat} {es ls : List Bool} (h : Looked G n es ls) (hn : n < G.length) (_he : es.getD n false = false) (_hl : ls.getD n false = false) {a : Nat} (ha : a ∈ argsAt G n) {es' ls' : List Bool} (hc : Clear G (es.set n true) ls es' ls') : Looked G a es' ls' := by
  refine ⟨hc.elen, hc.llen, hc.left, fun y h1 h2 => ?_⟩
  obtain ⟨h3, h4⟩ := hc.opened y h1 h2
  rw [getD_set (by rw [h.elen]; exact hn)] at h3
  by_cases hny : n = y
  · subst hny; exact .one ha
  · rw [if_neg hny] at h3
    exact .more (h.opened y h3 h4) ha

/-- A node left: all its arguments are finite. -/
theorem Clear.leave {G : List Nd} {n : Nat} {es ls es' ls' : List Bool} (h : Looked G n es ls) (hn : n < G.length) (he : es.getD n false = false) (_hl : ls.getD n false = false) (hc : Clear G (es.set n true) ls es' ls') (hf : ∀ a ∈ argsAt G n, Ends G a) :
    Clear G es ls es' (ls'.set n true) := by
  have hnl : n < ls'.length := by rw [hc.llen]; exact hn
  have hne : n < es.length := by rw [h.elen]; exact hn
  have hen : es'.getD n false = true := hc.grow n (by rw [getD_set hne, if_pos rfl])
  refine ⟨hc.elen, by rw [List.length_set]; exact hc.llen, fun y hy => ?_, fun y h1 h2 => ?_, fun y hy => hc.grow y ?_, fun y hy => ?_, fun y h1 h2 => ?_⟩
  · rw [getD_set hnl] at hy
    by_cases e : n = y
    · subst e; exact ⟨hen, .node _ hf⟩
    · rw [if_neg e] at hy; exact hc.left y hy
  · rw [getD_set hnl] at h2
    by_cases e : n = y
    · rw [if_pos e] at h2; cases h2
    · rw [if_neg e] at h2
      obtain ⟨h3, h4⟩ := hc.opened y h1 h2
      rw [getD_set hne, if_neg e] at h3
      exact ⟨h3, h4⟩
  · rw [getD_set hne]; split
    · rfl
    · exact hy
  · rw [getD_set hnl]; split
    · rfl
    · exact hc.growl y hy
  · rw [getD_set hnl]
    by_cases e : n = y
    · subst e; rw [he] at h1; cases h1
    · rw [if_neg e]; exact hc.keep y (by rw [getD_set hne, if_neg e]; exact h1) h2

theorem count_grow : ∀ {l m : List Bool}, l.length = m.length → (∀ y, l.getD y false = true → m.getD y false = true) → m.count false ≤ l.count false
  | [], [], _, _ => Nat.le_refl _
  | [], _ :: _, h, _ => by simp at h
  | _ :: _, [], h, _ => by simp at h
  | a :: l, b :: m, h, k => by
    have ih := count_grow (l := l) (m := m) (by simpa using h) (fun y hy => by have := k (y + 1); simpa using this (by simpa using hy))
    have h0 := k 0
    simp at h0
    cases a <;> cases b <;> simp_all <;> omega

theorem count_mark : ∀ {l : List Bool} {i : Nat}, i < l.length → l.getD i false = false → (l.set i true).count false + 1 = l.count false
  | [], i, h, _ => by simp at h
  | a :: l, 0, _, h => by simp at h; subst h; simp
  | a :: l, i + 1, h, k => by
    have ih := count_mark (l := l) (i := i) (by simpa using h) (by simpa using k)
    simp only [List.set_cons_succ, List.count_cons]
    omega
end Go.Ev

/- Looking for a way back: the walk of slices.IndexFunc and of slices.ContainsFunc. -/
namespace Go.Ev
open Go.Proofs Go.RowKit Go.Lib
set_option maxRecDepth 100000

/-- The rows that are written. -/
abbrev BS (eb lb : Nat) (g : Nat) : Prop := g = eb ∨ g = lb

/-- What looking at a node gives. -/
def BPost (G : List Nd) (eb lb n : Nat) (es ls : List Bool) (W : World) (e : Ending) (w' : World) : Prop :=
  ∃ (b : Bool) (es' ls' : List Bool), e = .returned (.bool b) ∧ RowB w' eb es' ∧ RowB w' lb ls' ∧ es'.length = G.length ∧ ls'.length = G.length ∧ Upd (BS eb lb) W w' ∧ (b = true → ¬ Ends G n) ∧ (b = false → Clear G es ls es' ls' ∧ Ends G n)

/-- What looking at several nodes gives. -/
def BsPost (G : List Nd) (eb lb : Nat) (xs : List Nat) (es ls : List Bool) (W : World) (b : Bool) (w' : World) : Prop :=
  ∃ (es' ls' : List Bool), RowB w' eb es' ∧ RowB w' lb ls' ∧ es'.length = G.length ∧ ls'.length = G.length ∧ Upd (BS eb lb) W w' ∧ (b = true → ∃ a ∈ xs, ¬ Ends G a) ∧ (b = false → Clear G es ls es' ls' ∧ ∀ a ∈ xs, Ends G a)

abbrev backV (ev lv tb vb : Nat) : Value := .func (.func 62) #[] #[.pointer (some ⟨ev, 0, none⟩), .pointer (some ⟨lv, 0, none⟩), .pointer (some ⟨tb, 0, none⟩), .pointer (some ⟨vb, 0, none⟩)]

set_option maxHeartbeats 8000000 in
theorem indexBack_ok (G : List Nd) (ev lv tb vb eb lb n L ac : Nat) (aa : Option Addr) (xs : List Int) (es ls : List Bool) (W : World) (hxs : xs.map Int.toNat = argsAt G n) (hL : xs.length = L) (hL8 : L ≤ 8) (hG : GClosed G) (_hG8 : G.length ≤ 200000)
    (hx0 : ∀ a ∈ xs, 0 ≤ a) (hav : ∀ w, Upd (BS eb lb) W w → ArgsV w (.slice aa L ac) xs) (hc0 : Clear G es ls es ls) (he : RowB W eb es) (hl : RowB W lb ls)
    (hlook : ∀ a ∈ argsAt G n, ∀ es' ls', Clear G es ls es' ls' → Looked G a es' ls')
    (IH : ∀ (a : Nat) (es' ls' : List Bool) (w : World), a < G.length → es'.count false ≤ es.count false → Upd (BS eb lb) W w → RowB w eb es' → RowB w lb ls' → Looked G a es' ls' →
      Calls Tryz.prog 62 #[.int .i64 (a : Int), .pointer (some ⟨ev, 0, none⟩), .pointer (some ⟨lv, 0, none⟩), .pointer (some ⟨tb, 0, none⟩), .pointer (some ⟨vb, 0, none⟩)] w (BPost G eb lb a es' ls' w)) :
    Calls Tryz.prog 95 #[.slice aa L ac, backV ev lv tb vb] W fun e w' => ∃ (b : Bool) (i : Int), e = .returned (.int .i64 i) ∧ (b = true → 0 ≤ i) ∧ (b = false → i < 0) ∧ BsPost G eb lb (argsAt G n) es ls W b w' := by
  have HXS := Lib.hid hxs
  have HG := Lib.hid hG
  have HX0 := Lib.hid hx0
  have HAV := Lib.hid hav
  have HLK := Lib.hid hlook
  have HIH := Lib.hid IH
  have HC0 := Lib.hid hc0
  have HE := Lib.hid he
  have HL := Lib.hid hl
  have HLE := Lib.hid hL
  have HAL := Lib.hid (show (argsAt G n).length = L by rw [← hxs, List.length_map, hL])
  clear hxs hG hx0 hav hlook IH hc0 he hl hL
  go_enter Tryz.func95, Tryz.ntmps95
  go_wp2_with fail
  go_loopw [5, 8] (fun _ v8 wr => ∃ (q : Nat) (es' ls' : List Bool), q ≤ L ∧ v8 = .int .i64 (q : Int) ∧ RowB wr eb es' ∧ RowB wr lb ls' ∧ Clear G es ls es' ls' ∧ (∀ a ∈ (argsAt G n).take q, Ends G a) ∧ Upd (BS eb lb) W wr) (fun _ v8 _ => L - (RowKit.intOf v8).toNat)
  case atStart => exact ⟨0, es, ls, Nat.zero_le _, rfl, HE.out, HL.out, HC0.out, by simp, Upd.refl _ _⟩
  case round =>
    obtain ⟨q, es', ls', hq, rfl, hes, hls, hcl, hfin, hU⟩ := hrel
    by_cases hlq : q < L
    · obtain ⟨k, hk⟩ : ∃ k, (argsAt G n)[q]? = some k := ⟨_, List.getElem?_eq_getElem (by rw [HAL.out]; exact hlq)⟩
      have hkG : k < G.length := argsAt_lt HG.out (List.mem_of_getElem? hk)
      obtain ⟨b0, o0, rfl, hac, -, hcell⟩ := args_cellAt (HAV.out wr hU) (by rw [HLE.out]; exact hlq)
      have hxq : xs[q]? = some (k : Int) := by
        have h1 := HXS.out
        have h2 := hk
        rw [← h1, List.getElem?_map] at h2
        cases hx : xs[q]? with
        | none => rw [hx] at h2; cases h2
        | some z =>
          rw [hx] at h2
          have h3 := HX0.out z (List.mem_of_getElem? hx)
          have h4 : z.toNat = k := by simpa using h2
          rw [← h4, Int.toNat_of_nonneg h3]
      have hcq := hcell q _ hxq
      have C := HIH.out k es' ls' wr hkG (count_grow (by rw [hcl.elen, HC0.out.elen]) hcl.grow) hU hes hls (HLK.out k (List.mem_of_getElem? hk) es' ls' hcl)
      have HC := Lib.hid C
      have HK := Lib.hid hk
      have HCL := Lib.hid hcl
      have HFN := Lib.hid hfin
      have HU := Lib.hid hU
      clear C hk hes hls hcl hfin hU hcell hxq
      go_wp2_with (go_at_call 62; go_loud (refine HC.out.mono ?_); rintro e w5 ⟨b, es2, ls2, rfl, he2, hl2, hn1, hn2, hu2, hbt, hbf⟩; have HE2 := Lib.hid he2; have HL2 := Lib.hid hl2; have HU2 := Lib.hid hu2; have HBT := Lib.hid hbt; have HBF := Lib.hid hbf; have HN1 := Lib.hid hn1; have HN2 := Lib.hid hn2; clear he2 hl2 hu2 hbt hbf hn1 hn2)
      · go_ret
        exact ⟨true, (q : Int), rfl, fun _ => (by omega), fun h => (by cases h), es2, ls2, HE2.out, HL2.out, HN1.out, HN2.out, HU.out.trans HU2.out (fun _ h => .inl h), fun _ => ⟨k, List.mem_of_getElem? HK.out, HBT.out (by first | trivial | assumption)⟩, fun h => (by cases h)⟩
      · go_roundw
        case rel =>
          obtain ⟨hc2, he2⟩ := HBF.out (by first | trivial | assumption)
          refine ⟨q + 1, es2, ls2, by omega, by go_num, HE2.out, HL2.out, HCL.out.trans hc2, fun a ha => ?_, HU.out.trans HU2.out fun _ h => .inl h⟩
          rw [takeSnoc HK.out] at ha
          rcases List.mem_append.1 ha with ha | ha
          · exact HFN.out a ha
          · simp at ha; subst ha; exact he2
        case measure => simp [RowKit.intOf]; omega
    · obtain rfl : q = L := by omega
      have HCL := Lib.hid hcl
      have HFN := Lib.hid hfin
      have HU := Lib.hid hU
      have HE2 := Lib.hid hes
      have HL2 := Lib.hid hls
      clear hcl hfin hU hes hls
      go_wp2_with fail
      go_ret
      refine ⟨false, -1, rfl, fun h => (by cases h), fun _ => (by omega), es', ls', HE2.out, HL2.out, HCL.out.elen, HCL.out.llen, HU.out, fun h => (by cases h), fun _ => ⟨HCL.out, fun a ha => HFN.out a ?_⟩⟩
      rw [List.take_of_length_le (Nat.le_of_eq HAL.out)]
      exact ha

set_option maxHeartbeats 4000000 in
theorem containsBack_ok (G : List Nd) (ev lv tb vb eb lb n L ac : Nat) (aa : Option Addr) (xs : List Int) (es ls : List Bool) (W : World) (hxs : xs.map Int.toNat = argsAt G n) (hL : xs.length = L) (hL8 : L ≤ 8) (hG : GClosed G) (hG8 : G.length ≤ 200000)
    (hx0 : ∀ a ∈ xs, 0 ≤ a) (hav : ∀ w, Upd (BS eb lb) W w → ArgsV w (.slice aa L ac) xs) (hc0 : Clear G es ls es ls) (he : RowB W eb es) (hl : RowB W lb ls)
    (hlook : ∀ a ∈ argsAt G n, ∀ es' ls', Clear G es ls es' ls' → Looked G a es' ls')
    (IH : ∀ (a : Nat) (es' ls' : List Bool) (w : World), a < G.length → es'.count false ≤ es.count false → Upd (BS eb lb) W w → RowB w eb es' → RowB w lb ls' → Looked G a es' ls' →
      Calls Tryz.prog 62 #[.int .i64 (a : Int), .pointer (some ⟨ev, 0, none⟩), .pointer (some ⟨lv, 0, none⟩), .pointer (some ⟨tb, 0, none⟩), .pointer (some ⟨vb, 0, none⟩)] w (BPost G eb lb a es' ls' w)) :
    Calls Tryz.prog 63 #[.slice aa L ac, backV ev lv tb vb] W fun e w' => ∃ (b : Bool), e = .returned (.bool b) ∧ BsPost G eb lb (argsAt G n) es ls W b w' := by
  have HC := Lib.hid (indexBack_ok G ev lv tb vb eb lb n L ac aa xs es ls W hxs hL hL8 hG hG8 hx0 hav hc0 he hl hlook IH)
  clear hxs hG hx0 hav hlook IH hc0 he hl hL
  go_enter Tryz.func63, Tryz.ntmps63
  go_wp2_with (go_at_call 95; refine HC.out.mono ?_; rintro e w5 ⟨b, i, rfl, h1, h2, hp⟩; have HP := Lib.hid hp; have HD := Lib.hid (show decide (0 ≤ i) = b from by
    cases b
    · have := h2 rfl; simpa using this
    · have := h1 rfl; simpa using this); clear hp h1 h2)
  go_ret
  refine ⟨b, ?_, HP.out⟩
  rw [← HD.out]; rfl
end Go.Ev

/- Looking for a way back: the function that calls itself. -/
namespace Go.Ev
open Go.Proofs Go.RowKit Go.Lib
set_option maxRecDepth 100000

/-- What the search's variables hold that it never turns. -/
structure BCtx (G : List Nd) (ev lv tb vb eb lb gb go gc : Nat) (W1 : World) : Prop where
  e0 : W1.cell? ⟨ev, 0, none⟩ = some (.slice (some ⟨eb, 0, none⟩) G.length G.length)
  l0 : W1.cell? ⟨lv, 0, none⟩ = some (.slice (some ⟨lb, 0, none⟩) G.length G.length)
  t0 : W1.cell? ⟨tb, 0, none⟩ = some (.slice (some ⟨gb, go, none⟩) G.length gc)
  v0 : W1.cell? ⟨vb, 0, none⟩ = some (backV ev lv tb vb)
  e1 : ¬ BS eb lb ev
  l1 : ¬ BS eb lb lv
  t1 : ¬ BS eb lb tb
  v1 : ¬ BS eb lb vb
  g1 : ¬ BS eb lb gb
  ne : eb ≠ lb
  fit : G.length ≤ gc
  nodes : ∀ w, Upd (BS eb lb) W1 w → ∀ (j : Nat) (nd : Nd), G[j]? = some nd → NodeW w gb (go + j * 4) nd

section
variable {G : List Nd} {ev lv tb vb eb lb gb go gc : Nat} {W1 W : World}
theorem BCtx.cells (h : BCtx G ev lv tb vb eb lb gb go gc W1) (hU : Upd (BS eb lb) W1 W) :
    W.cell? ⟨ev, 0, none⟩ = some (.slice (some ⟨eb, 0, none⟩) G.length G.length) ∧ W.cell? ⟨lv, 0, none⟩ = some (.slice (some ⟨lb, 0, none⟩) G.length G.length) ∧ W.cell? ⟨tb, 0, none⟩ = some (.slice (some ⟨gb, go, none⟩) G.length gc) ∧ W.cell? ⟨vb, 0, none⟩ = some (backV ev lv tb vb) :=
  ⟨hU.cellAt h.e1 h.e0, hU.cellAt h.l1 h.l0, hU.cellAt h.t1 h.t0, hU.cellAt h.v1 h.v0⟩
end

set_option maxHeartbeats 4000000 in
theorem back_seen (G : List Nd) (ev lv tb vb eb lb gb go gc n : Nat) (es ls : List Bool) (W1 W : World) (hG8 : G.length ≤ 100000) (hC : BCtx G ev lv tb vb eb lb gb go gc W1) (hU : Upd (BS eb lb) W1 W) (he : RowB W eb es) (hl : RowB W lb ls) (hn : n < G.length) (hk : Looked G n es ls) (hen : es.getD n false = true) :
    Calls Tryz.prog 62 #[.int .i64 (n : Int), .pointer (some ⟨ev, 0, none⟩), .pointer (some ⟨lv, 0, none⟩), .pointer (some ⟨tb, 0, none⟩), .pointer (some ⟨vb, 0, none⟩)] W (BPost G eb lb n es ls W) := by
  obtain ⟨c1, c2, c3, c4⟩ := hC.cells hU
  have r1 := he.cell (i := n) (by rw [hk.elen]; exact hn)
  have r2 := hl.cell (i := n) (by rw [hk.llen]; exact hn)
  rw [hen] at r1
  obtain ⟨b, hb⟩ : ∃ b, ls.getD n false = b := ⟨_, rfl⟩
  rw [hb] at r2
  have HE := Lib.hid he
  have HL := Lib.hid hl
  have HK := Lib.hid hk
  have HB := Lib.hid hb
  have HEN := Lib.hid hen
  obtain ⟨N, hN⟩ : ∃ N, G.length = N := ⟨_, rfl⟩
  rw [hN] at c1 c2 c3 hn hG8
  clear hC hU he hl hk hb hen c3 c4 hN
  go_enter Tryz.func62, Tryz.ntmps62
  go_wp2_with fail
  go_ret
  refine ⟨!b, es, ls, rfl, HE.out, HL.out, HK.out.elen, HK.out.llen, Upd.refl _ _, fun h => ?_, fun h => ?_⟩
  · have hb : b = false := by simpa using h
    exact not_fin (HK.out.opened n HEN.out (HB.out.trans hb))
  · have hb : b = true := by simpa using h
    exact ⟨Clear.refl HK.out, (HK.out.left n (HB.out.trans hb)).2⟩
end Go.Ev

/- Looking for a way back: a node that is new; the search whole. -/
namespace Go.Ev
open Go.Proofs Go.RowKit Go.Lib
set_option maxRecDepth 100000

theorem RowB.upd {S : Nat → Prop} {w w' : World} {b : Nat} {bs : List Bool} (h : RowB w b bs) (hk : Upd S w w') (hv : ¬ S b) : RowB w' b bs := h.of_heap (hk.block b h.lt hv)

set_option maxHeartbeats 8000000 in
theorem back_new (G : List Nd) (ev lv tb vb eb lb gb go gc n : Nat) (es ls : List Bool) (W1 W : World) (hG : GClosed G) (hG8 : G.length ≤ 100000) (hC : BCtx G ev lv tb vb eb lb gb go gc W1) (hU : Upd (BS eb lb) W1 W) (he : RowB W eb es) (hl : RowB W lb ls) (hn : n < G.length) (hk : Looked G n es ls) (hen : es.getD n false = false)
    (IH : ∀ (a : Nat) (es' ls' : List Bool) (w : World), a < G.length → es'.count false + 1 ≤ es.count false → Upd (BS eb lb) W1 w → RowB w eb es' → RowB w lb ls' → Looked G a es' ls' →
      Calls Tryz.prog 62 #[.int .i64 (a : Int), .pointer (some ⟨ev, 0, none⟩), .pointer (some ⟨lv, 0, none⟩), .pointer (some ⟨tb, 0, none⟩), .pointer (some ⟨vb, 0, none⟩)] w (BPost G eb lb a es' ls' w)) :
    Calls Tryz.prog 62 #[.int .i64 (n : Int), .pointer (some ⟨ev, 0, none⟩), .pointer (some ⟨lv, 0, none⟩), .pointer (some ⟨tb, 0, none⟩), .pointer (some ⟨vb, 0, none⟩)] W (BPost G eb lb n es ls W) := by
  obtain ⟨c1, c2, c3, c4⟩ := hC.cells hU
  have r1 := he.cell (i := n) (by rw [hk.elen]; exact hn)
  rw [hen] at r1
  have f1 := he.frozen n
  obtain ⟨nd, hnd⟩ : ∃ nd, G[n]? = some nd := ⟨_, List.getElem?_eq_getElem hn⟩
  have hln : ls.getD n false = false := by
    cases h : ls.getD n false with
    | false => rfl
    | true => have := (hk.left n h).1; rw [hen] at this; cases this
  obtain ⟨h8, hargs⟩ := hG nd (List.mem_of_getElem? hnd)
  have hat : nd.args.map Int.toNat = argsAt G n := by unfold argsAt; rw [hnd]
  -- the world in which the node is entered
  obtain ⟨w1, hw1⟩ : ∃ w1, w1 = W.setCell ⟨eb, n, none⟩ (.bool true) := ⟨_, rfl⟩
  have hU1 : Upd (BS eb lb) W w1 := by rw [hw1]; exact (Upd.refl _ _).setCell (.inl (.inl rfl)) _
  have hU1d : Upd (BS eb lb) W w1.drew := hU1.trans (Upd.of_kp ((Kp.refl _ _).drew) (fun _ => False)) fun _ h => h.elim
  have hUd : Upd (BS eb lb) W1 w1.drew := hU.trans hU1d fun _ h => .inl h
  obtain ⟨d1, d2, d3, d4⟩ := hC.cells (hU.trans hU1 fun _ h => .inl h)
  obtain ⟨n0, n1, n2, n3, va, n4, hav⟩ := hC.nodes w1 (hU.trans hU1 fun _ h => .inl h) n nd hnd
  obtain ⟨aa, ac, rfl⟩ := hav.len
  have he1 : RowB w1 eb (es.set n true) := by rw [hw1]; exact he.set n true
  have hl1 : RowB w1 lb ls := hl.of_heap (by rw [hw1]; exact Below.heap_setCell _ _ _ _ (Ne.symm hC.ne))
  obtain ⟨es1, hes1⟩ : ∃ es1, es1 = es.set n true := ⟨_, rfl⟩
  have hne : n < es.length := by rw [hk.elen]; exact hn
  have hc0 : Clear G es1 ls es1 ls := by
    refine ⟨by rw [hes1, List.length_set]; exact hk.elen, hk.llen, fun y hy => ⟨?_, (hk.left y hy).2⟩, fun _ a b => ⟨a, b⟩, fun _ h => h, fun _ h => h, fun _ _ h => h⟩
    rw [hes1, getD_set hne]; split
    · rfl
    · exact (hk.left y hy).1
  have hcnt := count_mark hne hen
  rw [← hes1] at hcnt he1
  have CB := containsBack_ok G ev lv tb vb eb lb n nd.args.length ac aa nd.args es1 ls w1.drew hat rfl h8 hG (by omega) (fun a ha => (hargs a ha).1)
    (fun w hw => by
      have hUw := hUd.trans hw fun _ h => .inl h
      obtain ⟨_, _, _, _, va', m4, hav'⟩ := hC.nodes w hUw n nd hnd
      have h1 := hw.cellAt (b := gb) (o := go + n * 4 + 3) (v := .slice aa nd.args.length ac) hC.g1 n4
      rw [h1] at m4
      rw [Option.some.inj m4]; exact hav')
    hc0 (he1.of_heap rfl) (hl1.of_heap rfl) (fun a ha es' ls' hc => Looked.enter hk hn hen hln ha (by rw [← hes1]; exact hc))
    (fun a es' ls' w ha hcn hUw h1 h2 h3 => IH a es' ls' w ha (by omega) (hUd.trans hUw fun _ h => .inl h) h1 h2 h3)
  have HC := Lib.hid hC
  have HU := Lib.hid hU
  have HK := Lib.hid hk
  have HEN := Lib.hid hen
  have HLN := Lib.hid hln
  have HCB := Lib.hid CB
  have HUD := Lib.hid hU1d
  have HUW := Lib.hid hUd
  have HW1 := Lib.hid hw1
  have HES := Lib.hid hes1
  have HAT := Lib.hid hat
  have HNF := Lib.hid hC.fit
  obtain ⟨N, hN⟩ : ∃ N, G.length = N := ⟨_, rfl⟩
  have HNN := Lib.hid hN
  have hfit := hC.fit
  obtain ⟨L, hL⟩ : ∃ L, L = nd.args.length := ⟨_, rfl⟩
  rw [hN] at c1 c2 c3 hn hG8 d1 d2 d3 hfit
  clear hC hU he hl hk hen hln CB hU1 hU1d hUd hw1 hes1 hat he1 hl1 hc0 hav IH hG hargs hnd hne hN hcnt hL n3
  go_enter Tryz.func62, Tryz.ntmps62
  go_wp2_with fail
  rw [← HW1.out]
  clear c1 c2 c3 c4 r1 f1
  go_still_tail 7, (by kernel_rfl)
  go_wp2_with fail
  refine HCB.out.mono ?_
  rintro e w5 ⟨b, rfl, es', ls', he2, hl2, hn1, hn2, hu2, hbt, hbf⟩
  have hU5 := HUW.out.trans hu2 fun _ h => .inl h
  have m2 := (HC.out.cells hU5).2.1
  rw [HNN.out] at m2
  have r2 := hl2.cell (i := n) (by rw [hn2, HNN.out]; exact hn)
  have f2 := hl2.frozen n
  have HE2 := Lib.hid he2
  have HL2 := Lib.hid hl2
  have HU2 := Lib.hid hu2
  have HBT := Lib.hid hbt
  have HBF := Lib.hid hbf
  have HN1 := Lib.hid hn1
  have HN2 := Lib.hid hn2
  clear he2 hl2 hu2 hbt hbf hn1 hn2 hU5 d1 d2 d3 d4 n0 n1 n2 n4
  go_wp2_with fail
  go_ret
  refine ⟨b, es', ls'.set n true, rfl, HE2.out.of_heap (Below.heap_setCell _ _ _ _ HC.out.ne), HL2.out.set n true, HN1.out, by rw [List.length_set]; exact HN2.out, (HUD.out.trans HU2.out fun _ h => .inl h).setCell (.inl (.inr rfl)) _, fun h => ?_, fun h => ?_⟩
  · obtain ⟨a, ha, hna⟩ := HBT.out h
    exact fun hf => hna (hf.args a ha)
  · obtain ⟨hc, hf⟩ := HBF.out h
    rw [HES.out] at hc
    exact ⟨Clear.leave HK.out (by rw [HNN.out]; exact hn) HEN.out HLN.out hc hf, .node n hf⟩

/-- The search. -/
theorem back_ok (G : List Nd) (ev lv tb vb eb lb gb go gc : Nat) (W1 : World) (hG : GClosed G) (hG8 : G.length ≤ 100000) (hC : BCtx G ev lv tb vb eb lb gb go gc W1) : ∀ (f n : Nat) (es ls : List Bool) (W : World), es.count false ≤ f → n < G.length → Upd (BS eb lb) W1 W → RowB W eb es → RowB W lb ls → Looked G n es ls →
    Calls Tryz.prog 62 #[.int .i64 (n : Int), .pointer (some ⟨ev, 0, none⟩), .pointer (some ⟨lv, 0, none⟩), .pointer (some ⟨tb, 0, none⟩), .pointer (some ⟨vb, 0, none⟩)] W (BPost G eb lb n es ls W) := by
  intro f
  induction f with
  | zero =>
    intro n es ls W hf hn hU he hl hk
    cases hen : es.getD n false with
    | true => exact back_seen G ev lv tb vb eb lb gb go gc n es ls W1 W hG8 hC hU he hl hn hk hen
    | false => have := count_mark (by rw [hk.elen]; exact hn) hen; omega
  | succ f ih =>
    intro n es ls W hf hn hU he hl hk
    cases hen : es.getD n false with
    | true => exact back_seen G ev lv tb vb eb lb gb go gc n es ls W1 W hG8 hC hU he hl hn hk hen
    | false => exact back_new G ev lv tb vb eb lb gb go gc n es ls W1 W hG hG8 hC hU he hl hn hk hen fun a es' ls' w ha hc hUw h1 h2 h3 => ih a es' ls' w (by omega) ha hUw h1 h2 h3
end Go.Ev

/- Looking for a way back from the root: leadsBack. -/
namespace Go.Ev
open Go.Proofs Go.RowKit Go.Lib
set_option maxRecDepth 100000

theorem falses_eq {Z : Array Value} {n : Nat} (h : Z = madeCells (Value.bool false).cells (n * 1)) : Z = ((List.replicate n false).map Value.bool).toArray := by
  rw [← madeBools, h]

/-- The world in which the search begins. -/
theorem back_start (s N gb go gc r : Nat) (W w6 : World) (Z : Array Value) (hs : s = W.heap.size) (hZ : Z = madeCells (Value.bool false).cells (N * 1))
    (hW : w6 = ((((((W.alloc (Obj.cells #[.slice (some ⟨gb, go, none⟩) N gc, .int .i64 (r : Int)] 24)).alloc (Obj.cells Z 4)).alloc (Obj.cells #[Value.slice (some ⟨s + 1, 0, none⟩) N N] 57)).alloc (Obj.cells Z 4)).alloc (Obj.cells #[Value.slice (some ⟨s + 1 + 1 + 1, 0, none⟩) N N] 57)).alloc
      (Obj.cells #[backV (s + 1 + 1) (s + 1 + 1 + 1 + 1) s (s + 1 + 1 + 1 + 1 + 1)] 78))) :
    RowB w6 (s + 1) (List.replicate N false) ∧ RowB w6 (s + 1 + 1 + 1) (List.replicate N false) ∧ w6.cell? ⟨s, 0, none⟩ = some (.slice (some ⟨gb, go, none⟩) N gc) ∧ w6.cell? ⟨s, 1, none⟩ = some (.int .i64 (r : Int)) ∧ w6.cell? ⟨s + 1 + 1, 0, none⟩ = some (.slice (some ⟨s + 1, 0, none⟩) N N) ∧
      w6.cell? ⟨s + 1 + 1 + 1 + 1, 0, none⟩ = some (.slice (some ⟨s + 1 + 1 + 1, 0, none⟩) N N) ∧ w6.cell? ⟨s + 1 + 1 + 1 + 1 + 1, 0, none⟩ = some (backV (s + 1 + 1) (s + 1 + 1 + 1 + 1) s (s + 1 + 1 + 1 + 1 + 1)) ∧ Kp W.heap.size W w6 ∧ w6.heap.size = s + 6 := by
  obtain ⟨wa, ha⟩ : ∃ wa, wa = W.alloc (Obj.cells #[.slice (some ⟨gb, go, none⟩) N gc, .int .i64 (r : Int)] 24) := ⟨_, rfl⟩
  obtain ⟨wb, hb⟩ : ∃ wb, wb = wa.alloc (Obj.cells Z 4) := ⟨_, rfl⟩
  obtain ⟨wc, hc⟩ : ∃ wc, wc = wb.alloc (Obj.cells #[Value.slice (some ⟨s + 1, 0, none⟩) N N] 57) := ⟨_, rfl⟩
  obtain ⟨wd, hd⟩ : ∃ wd, wd = wc.alloc (Obj.cells Z 4) := ⟨_, rfl⟩
  obtain ⟨we, he⟩ : ∃ we, we = wd.alloc (Obj.cells #[Value.slice (some ⟨s + 1 + 1 + 1, 0, none⟩) N N] 57) := ⟨_, rfl⟩
  rw [← ha, ← hb, ← hc, ← hd, ← he] at hW
  have sa : wa.heap.size = s + 1 := by rw [ha, hs]; simp
  have sb : wb.heap.size = s + 1 + 1 := by rw [hb, ← sa]; simp
  have sc : wc.heap.size = s + 1 + 1 + 1 := by rw [hc, ← sb]; simp
  have sd : wd.heap.size = s + 1 + 1 + 1 + 1 := by rw [hd, ← sc]; simp
  have se : we.heap.size = s + 1 + 1 + 1 + 1 + 1 := by rw [he, ← sd]; simp
  have sf : w6.heap.size = s + 1 + 1 + 1 + 1 + 1 + 1 := by rw [hW, ← se]; simp
  have b5 := heap_top hW se
  have b4 := (heap_low hW (n := s + 1 + 1 + 1 + 1) (by omega)).trans (heap_top he sd)
  have d4 := fun (n : Nat) (h : n < wd.heap.size) => (heap_low hW (n := n) (by omega)).trans (heap_low he h)
  have b3 := (d4 (s + 1 + 1 + 1) (by omega)).trans (heap_top hd sc)
  have d3 := fun (n : Nat) (h : n < wc.heap.size) => (d4 n (by omega)).trans (heap_low hd h)
  have b2 := (d3 (s + 1 + 1) (by omega)).trans (heap_top hc sb)
  have b1 := (d3 (s + 1) (by omega)).trans ((heap_low hc (by omega)).trans (heap_top hb sa))
  have b0 := (d3 s (by omega)).trans ((heap_low hc (by omega)).trans ((heap_low hb (by omega)).trans (heap_top ha hs.symm)))
  refine ⟨⟨_, by rw [b1, falses_eq hZ]⟩, ⟨_, by rw [b3, falses_eq hZ]⟩, by unfold World.cell?; rw [b0]; rfl, by unfold World.cell?; rw [b0]; rfl, by unfold World.cell?; rw [b2]; rfl, by unfold World.cell?; rw [b4]; rfl, by unfold World.cell?; rw [b5]; rfl, ?_, by omega⟩
  rw [hW, he, hd, hc, hb, ha]
  exact ((((((Kp.refl _ _).alloc (Nat.le_refl _) _).alloc (by simp) _).alloc (by simp; omega) _).alloc (by simp; omega) _).alloc (by simp; omega) _).alloc (by simp; omega) _

set_option maxHeartbeats 8000000 in
theorem leadsBack_ok (gb go gc r : Nat) (G : List Nd) (W : World) (hN : G.length ≤ 100000) (hgc : G.length ≤ gc) (hG : GClosed G) (hnd : ∀ (j : Nat) (nd : Nd), G[j]? = some nd → NodeW W gb (go + j * 4) nd) (hr : r < G.length) :
    Calls Tryz.prog 45 #[.agg #[.slice (some ⟨gb, go, none⟩) G.length gc, .int .i64 (r : Int)]] W fun e w' => ∃ b : Bool, e = .returned (.bool b) ∧ (b = true ↔ ¬ Ends G r) ∧ Kp W.heap.size W w' := by
  obtain ⟨i4, hj0, hy0, hy1, hy2⟩ := info_parts Tryz.info4
  obtain ⟨N, hNe⟩ : ∃ N, N = G.length := ⟨_, rfl⟩
  rw [← hNe] at hN hgc hr ⊢
  obtain ⟨Z, hZ⟩ : ∃ Z, Z = madeCells (Value.bool false).cells (N * 1) := ⟨_, rfl⟩
  have hm2 : ∀ w, (Instr.makeSlice 57 (.int .i64 (N : Int)) (.int .i64 (N : Int))).run Tryz.prog w = .ok (.slice (some ⟨w.heap.size, 0, none⟩) N N) (w.alloc (.cells Z 4)) := fun w => by
    have := run_make (P := Tryz.prog) w 57 4 i4 _ Tryz.underlying57 hj0 hy0 .i64 .i64 N N (by omega) (Int.le_refl _) (by rw [hy2]; omega) (by omega)
    rw [hZ]; simpa [hy1] using this
  have h00 := hnd r G[r] (List.getElem?_eq_getElem (by rw [← hNe]; exact hr))
  have hgbl := block_lt_of_cell h00.kind
  have HZ := Lib.hid hZ
  have HG := Lib.hid hG
  have HND := Lib.hid hnd
  have HNE := Lib.hid hNe
  clear hZ hG hnd hNe h00
  go_enter Tryz.func45, Tryz.ntmps45
  go_wp2_with fail
  obtain ⟨s, hs⟩ : ∃ s, s = W.heap.size := ⟨_, rfl⟩
  rw [← hs]
  generalize hW6 : World.alloc _ _ = w6
  obtain ⟨q1, q3, q0, q0', q2, q4, q5, qk, qs⟩ := back_start s N gb go gc r W w6 Z hs HZ.out hW6.symm
  have hC : BCtx G (s + 1 + 1) (s + 1 + 1 + 1 + 1) s (s + 1 + 1 + 1 + 1 + 1) (s + 1) (s + 1 + 1 + 1) gb go gc w6 := by
    have hN := HNE.out
    subst hN
    refine ⟨q2, q4, q0, q5, by unfold BS; omega, by unfold BS; omega, by unfold BS; omega, by unfold BS; omega, by unfold BS; omega, by omega, hgc, fun w hU j nd hj => ?_⟩
    exact (HND.out j nd hj).grown fun b o x hx => (qk.trans (hU.kp (by omega) (fun g hg => by unfold BS at hg; omega))).cells hx
  have hrep : ∀ y, (List.replicate N false).getD y false = false := fun y => by
    rw [List.getD_eq_getElem?_getD, List.getElem?_replicate]; split <;> rfl
  have hlk : Looked G r (List.replicate N false) (List.replicate N false) := by
    refine ⟨by rw [List.length_replicate]; exact HNE.out, by rw [List.length_replicate]; exact HNE.out, fun y hy => ?_, fun y hy => ?_⟩
    · rw [hrep y] at hy; cases hy
    · rw [hrep y] at hy; cases hy
  refine (back_ok G _ _ _ _ _ _ gb go gc w6 HG.out (by rw [← HNE.out]; exact hN) hC _ r _ _ w6 (Nat.le_refl _) (by rw [← HNE.out]; exact hr) (Upd.refl _ _) q1 q3 hlk).mono ?_
  rintro e w7 ⟨b, es', ls', rfl, _, _, _, _, hu, hbt, hbf⟩
  have HK := Lib.hid (qk.trans (hu.kp (by omega) (fun g hg => by unfold BS at hg; omega)))
  have HB := Lib.hid (show b = true ↔ ¬ Ends G r from ⟨hbt, fun h => by cases b with | true => rfl | false => exact absurd (hbf rfl).2 h⟩)
  clear q1 q3 q0 q0' q2 q4 q5 qk qs hC hlk hu hbt hbf hW6 hs hm2
  go_wp2_with fail
  go_ret
  exact ⟨b, rfl, HB.out, HK.out⟩
end Go.Ev

/- The program's Size and Cyclic. -/
namespace Go.Ev
open Go.Proofs Go.RowKit Go.Lib
set_option maxRecDepth 100000

set_option maxHeartbeats 4000000 in
theorem tsize_bad (va : Value) (A : List Nd) (za : Int) (W : World) (ha : NodesV W va A) (hva : validB A za = false) :
    Calls Tryz.prog 23 #[.agg #[va, .int .i64 za]] W fun e w' => e = .returned (.tuple #[.int .i64 0, .int .i64 2]) ∧ Kp W.heap.size W w' := by
  obtain ⟨w1, hw1⟩ : ∃ w1, w1 = W.alloc (Obj.cells #[va, Value.int IntKind.i64 za] 24) := ⟨_, rfl⟩
  have k1 : Kp W.heap.size W w1 := by rw [hw1]; exact (Kp.refl _ _).alloc (Nat.le_refl _) _
  have CV := valid_ok va A za w1 (ha.kp k1)
  rw [hva] at CV
  clear ha hva
  have K1 := Lib.hid k1
  clear k1
  go_enter Tryz.func23, Tryz.ntmps23
  go_wp2_with fail
  rw [← hw1]
  refine CV.mono ?_
  rintro e w3 ⟨rfl, k3⟩
  have HK3 := Lib.hid (K1.out.trans (k3.mono (K1.out.size)))
  clear k3 hw1 CV
  go_wp2_with fail
  go_ret2
  exact ⟨rfl, HK3.out⟩

set_option maxHeartbeats 4000000 in
theorem tcyclic_bad (va : Value) (A : List Nd) (za : Int) (W : World) (ha : NodesV W va A) (hva : validB A za = false) :
    Calls Tryz.prog 25 #[.agg #[va, .int .i64 za]] W fun e w' => e = .returned (.tuple #[.bool false, .int .i64 2]) ∧ Kp W.heap.size W w' := by
  obtain ⟨w1, hw1⟩ : ∃ w1, w1 = W.alloc (Obj.cells #[va, Value.int IntKind.i64 za] 24) := ⟨_, rfl⟩
  have k1 : Kp W.heap.size W w1 := by rw [hw1]; exact (Kp.refl _ _).alloc (Nat.le_refl _) _
  have CV := valid_ok va A za w1 (ha.kp k1)
  rw [hva] at CV
  clear ha hva
  have K1 := Lib.hid k1
  clear k1
  go_enter Tryz.func25, Tryz.ntmps25
  go_wp2_with fail
  rw [← hw1]
  refine CV.mono ?_
  rintro e w3 ⟨rfl, k3⟩
  have HK3 := Lib.hid (K1.out.trans (k3.mono (K1.out.size)))
  clear k3 hw1 CV
  go_wp2_with fail
  go_ret2
  exact ⟨rfl, HK3.out⟩

theorem box_at {W w1 : World} {va : Value} {z : Int} (hw1 : w1 = W.alloc (Obj.cells #[va, Value.int IntKind.i64 z] 24)) : Kp W.heap.size W w1 ∧ w1.heap[W.heap.size]? = some (Obj.cells #[va, Value.int IntKind.i64 z] 24) ∧ w1.heap.size = W.heap.size + 1 :=
  ⟨by rw [hw1]; exact (Kp.refl _ _).alloc (Nat.le_refl _) _, heap_top hw1 rfl, by rw [hw1]; simp⟩

set_option maxHeartbeats 4000000 in
theorem tsize_ok (va : Value) (A : List Nd) (za : Int) (W : World) (ha : NodesV W va A) (hva : validB A za = true) (hfit : ∀ n ∈ A, FitN n) :
    Calls Tryz.prog 23 #[.agg #[va, .int .i64 za]] W fun e w' => ∃ L, e = .returned (.tuple #[.int .i64 (L.length : Int), .int .i64 0]) ∧ Canon L ∧ Bis L 0 A za.toNat ∧ Kp W.heap.size W w' := by
  obtain ⟨ra, rfl, hra, hA8, hA⟩ := valid_nodes hva
  obtain ⟨ab, ao, ac, rfl⟩ := ha.shape (by omega)
  obtain ⟨w1, hw1⟩ : ∃ w1, w1 = W.alloc (Obj.cells #[.slice (some ⟨ab, ao, none⟩) A.length ac, Value.int IntKind.i64 ra] 24) := ⟨_, rfl⟩
  obtain ⟨k1, b0, hs1⟩ := box_at hw1
  have CV := valid_ok _ A ra w1 (ha.kp k1)
  rw [hva] at CV
  obtain ⟨hgc, hcell⟩ := ha.at (by omega)
  have CL := fun w (h : Kp W.heap.size W w) => progLeast_ok ab ao ac ra A w (by omega) hgc hA (fun j nd hj => (hcell j nd hj).grown fun _ _ _ hx => h.cells hx) hfit hra
  have K1 := Lib.hid k1
  have B0 := Lib.hid b0
  have HCL := Lib.hid CL
  have e1 := And.intro (Nat.le_of_eq hs1) (Nat.le_of_eq hs1.symm)
  clear ha hva hfit k1 b0 CL hcell hs1
  have hfl : ∀ (a : Option Addr) (n c : Nat) (w : World), Sem.run Tryz.prog (Instr.field 24 (.agg #[.slice a n c, .int .i64 0]) 0) w = .ok (.slice a n c) w := fun a n c w => by kernel_rfl
  go_enter Tryz.func23, Tryz.ntmps23
  go_wp2_with fail
  rw [← hw1]
  clear hw1
  refine CV.mono ?_
  rintro e w3 ⟨rfl, k3⟩
  have ha := (k3.block W.heap.size (by omega)).trans B0.out
  have a0 : w3.cell? ⟨W.heap.size, 0, none⟩ = some (.slice (some ⟨ab, ao, none⟩) A.length ac) := by rw [cell_of ha]; rfl
  have a1 : w3.cell? ⟨W.heap.size, 1, none⟩ = some (.int .i64 ra) := by rw [cell_of ha]; rfl
  have HK3 := Lib.hid (K1.out.trans (k3.mono K1.out.size))
  have hs3 := k3.size
  clear k3 ha CV
  go_wp2_with fail
  refine (HCL.out w3 HK3.out).mono ?_
  rintro e w4 ⟨v, us, L, rfl, hon, hcan, hbis, hle, k4⟩
  obtain ⟨va, vc, rfl⟩ := own_form hon.own
  have H4 := Lib.hid (And.intro hcan (And.intro hbis (HK3.out.trans (k4.mono (by omega)))))
  obtain ⟨m, hm⟩ : ∃ m, m = L.length := ⟨_, rfl⟩
  have HM := Lib.hid hm
  rw [← hm]
  clear hon hcan hbis k4 hm hle
  go_wp2_with fail
  go_ret2
  exact ⟨L, by rw [← HM.out]; rfl, H4.out.1, by simpa using H4.out.2.1, H4.out.2.2⟩

set_option maxHeartbeats 4000000 in
theorem tcyclic_ok (va : Value) (A : List Nd) (za : Int) (W : World) (ha : NodesV W va A) (hva : validB A za = true) :
    Calls Tryz.prog 25 #[.agg #[va, .int .i64 za]] W fun e w' => ∃ b : Bool, e = .returned (.tuple #[.bool b, .int .i64 0]) ∧ (b = true ↔ ¬ Ends A za.toNat) ∧ Kp W.heap.size W w' := by
  obtain ⟨ra, rfl, hra, hA8, hA⟩ := valid_nodes hva
  obtain ⟨ab, ao, ac, rfl⟩ := ha.shape (by omega)
  obtain ⟨w1, hw1⟩ : ∃ w1, w1 = W.alloc (Obj.cells #[.slice (some ⟨ab, ao, none⟩) A.length ac, Value.int IntKind.i64 ra] 24) := ⟨_, rfl⟩
  obtain ⟨k1, b0, hs1⟩ := box_at hw1
  have CV := valid_ok _ A ra w1 (ha.kp k1)
  rw [hva] at CV
  obtain ⟨hgc, hcell⟩ := ha.at (by omega)
  have CL := fun w (h : Kp W.heap.size W w) => leadsBack_ok ab ao ac ra A w (by omega) hgc hA (fun j nd hj => (hcell j nd hj).grown fun _ _ _ hx => h.cells hx) hra
  have K1 := Lib.hid k1
  have B0 := Lib.hid b0
  have HCL := Lib.hid CL
  have e1 := And.intro (Nat.le_of_eq hs1) (Nat.le_of_eq hs1.symm)
  clear ha hva k1 b0 CL hcell hs1
  go_enter Tryz.func25, Tryz.ntmps25
  go_wp2_with fail
  rw [← hw1]
  clear hw1
  refine CV.mono ?_
  rintro e w3 ⟨rfl, k3⟩
  have ha := (k3.block W.heap.size (by omega)).trans B0.out
  have a0 : w3.cell? ⟨W.heap.size, 0, none⟩ = some (.slice (some ⟨ab, ao, none⟩) A.length ac) := by rw [cell_of ha]; rfl
  have a1 : w3.cell? ⟨W.heap.size, 1, none⟩ = some (.int .i64 ra) := by rw [cell_of ha]; rfl
  have HK3 := Lib.hid (K1.out.trans (k3.mono K1.out.size))
  have hs3 := k3.size
  clear k3 ha CV
  go_wp2_with fail
  refine (HCL.out w3 HK3.out).mono ?_
  rintro e w4 ⟨b, rfl, hb, k4⟩
  have H4 := Lib.hid (And.intro hb (HK3.out.trans (k4.mono (by omega))))
  clear hb k4
  go_wp2_with fail
  go_ret2
  exact ⟨b, rfl, by simpa using H4.out.1, H4.out.2⟩
end Go.Ev
