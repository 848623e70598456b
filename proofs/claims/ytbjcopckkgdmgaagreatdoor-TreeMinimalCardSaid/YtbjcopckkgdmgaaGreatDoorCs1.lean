import Derived.Test.YtbjcopckkgdmgaaGreatDoorLgA
import Derived.Test.YtbjcopckkgdmgaaGreatDoorRfA
/- Classes of nodes that denote the same: the mathematics, finite nodes. -/
namespace Go.Ev

/-- A place other than the root lies below a child of the root. -/
theorem first_step : ∀ t : Nat, t ≠ 0 → ∃ i s, i < 8 ∧ t = cat (i + 1) s := by
  have key : ∀ r, r ≠ 0 → ∃ i s, i < 8 ∧ ∀ p, cat p r = cat (8 * p + i + 1) s := by
    intro r
    induction r using Nat.strongRecOn with
    | ind r ih =>
      intro hr0
      rcases place_cases r with rfl | ⟨u, i, hi, rfl, hu⟩
      · exact absurd rfl hr0
      · by_cases hu0 : u = 0
        · subst hu0
          exact ⟨i, 0, hi, fun p => by rw [cat_child _ _ _ hi, cat_zero, cat_zero]⟩
        · obtain ⟨j, s, hj, hs⟩ := ih u hu hu0
          exact ⟨j, 8 * s + i + 1, hj, fun p => by rw [cat_child _ _ _ hi, cat_child _ _ _ hi, hs p]⟩
  intro t ht
  obtain ⟨i, s, hi, hs⟩ := key t ht
  refine ⟨i, s, hi, ?_⟩
  have := hs 0
  rw [cat_root] at this
  rw [this]
  congr 1
  omega

theorem faceAt_below {G : List Nd} {x i : Nat} (s : Nat) (hi : i < 8) : faceAt G x (cat (i + 1) s) = match (argsAt G x)[i]? with
    | some a => faceAt G a s
    | none => none := by
  have h := nodeAt_first G x i s hi
  rw [show 8 * 0 + i + 1 = i + 1 by omega] at h
  unfold faceAt
  rw [h, child_args]
  cases (argsAt G x)[i]? <;> rfl

/-- Nodes that look the same, with arguments that denote the same, denote the same. -/
theorem bis_step {G G' : List Nd} {x y : Nat} (hf : faceOf G x = faceOf G' y) (ha : Two (fun a b => Bis G a G' b) (argsAt G x) (argsAt G' y)) : Bis G x G' y := by
  intro t
  by_cases ht : t = 0
  · subst ht; rw [faceAt_zero, faceAt_zero]; exact hf
  · obtain ⟨i, s, hi, rfl⟩ := first_step t ht
    rw [faceAt_below s hi, faceAt_below s hi]
    by_cases hl : i < (argsAt G x).length
    · have hl' : i < (argsAt G' y).length := by rw [← ha.length]; exact hl
      rw [List.getElem?_eq_getElem hl, List.getElem?_eq_getElem hl']
      exact ha.get (List.getElem?_eq_getElem hl) (List.getElem?_eq_getElem hl') s
    · rw [List.getElem?_eq_none (by omega), List.getElem?_eq_none (by rw [← ha.length]; omega)]

/-- The tree is finite. -/
def Fin' (G : List Nd) (x : Nat) : Prop := ∃ L, ∀ t, L ≤ t → faceAt G x t = none

theorem fin_step {G : List Nd} {x : Nat} (h : ∀ a ∈ argsAt G x, Fin' G a) : Fin' G x := by
  have : ∀ l : List Nat, (∀ a ∈ l, Fin' G a) → ∃ L, ∀ a ∈ l, ∀ t, L ≤ t → faceAt G a t = none := by
    intro l
    induction l with
    | nil => intro _; exact ⟨0, by simp⟩
    | cons a l ih =>
      intro hl
      obtain ⟨L, hL⟩ := ih fun b hb => hl b (List.mem_cons_of_mem _ hb)
      obtain ⟨M, hM⟩ := hl a (List.mem_cons_self ..)
      refine ⟨max L M, fun b hb t ht => ?_⟩
      rcases List.mem_cons.1 hb with rfl | hb
      · exact hM t (by omega)
      · exact hL b hb t (by omega)
  obtain ⟨L, hL⟩ := this _ h
  refine ⟨cat 9 L + 1, fun t ht => ?_⟩
  obtain ⟨i, s, hi, rfl⟩ := first_step t (by omega)
  rw [faceAt_below s hi]
  cases ha : (argsAt G x)[i]? with
  | none => rfl
  | some a =>
    refine hL a (List.mem_of_getElem? ha) s ?_
    apply Decidable.byContradiction
    intro hs
    have := cat_lt (show i + 1 < 9 by omega) s L (by omega)
    omega

/-- A finite tree is none of its own proper parts. -/
theorem fin_part {G : List Nd} {x f t : Nat} (hx : x < G.length) (hf : Fin' G x) (ht : nodeAt G x t = some f) (hb : Bis G f G x) : f = x := by
  by_cases h0 : t = 0
  · subst h0; rw [nodeAt_zero] at ht; exact (Option.some.inj ht).symm
  · exfalso
    obtain ⟨L, hL⟩ := hf
    have : ∀ k T, L ≤ T + k → faceAt G x T ≠ none → False := by
      intro k
      induction k with
      | zero => intro T hT hne; exact hne (hL T (by omega))
      | succ k ih =>
        intro T hT hne
        have h1 : faceAt G x (cat t T) = faceAt G f T := faceAt_cat T ht
        have h2 := cat_lt (show 0 < t by omega) T T (Nat.le_refl _)
        rw [cat_root] at h2
        exact ih (cat t T) (by omega) (by rw [h1, hb T]; exact hne)
    refine this L 0 (by omega) ?_
    obtain ⟨n, _, hn⟩ := faceOf_some hx
    rw [faceAt_zero, hn]
    simp

/-- What the classes are, as far as finite nodes have one. -/
structure P1 (G : List Nd) (c : Nat → Nat) (dn : Nat → Bool) (fs : List Nat) : Prop where
  fst : ∀ x ∈ fs, x < G.length ∧ dn x = true ∧ c x = x
  args : ∀ i, i < G.length → dn i = true → ∀ a ∈ argsAt G i, dn a = true
  rep : ∀ i, i < G.length → dn i = true → c i ∈ fs ∧ Bis G (c i) G i
  sep : ∀ x ∈ fs, ∀ y ∈ fs, Bis G x G y → x = y
  fin : ∀ i, i < G.length → dn i = true → Fin' G i
  nodup : fs.Nodup
  clt : ∀ i, i < G.length → c i < G.length

theorem P1.start (G : List Nd) : P1 G (fun _ => 0) (fun _ => false) [] where
  fst := by simp
  args := fun _ _ h => by cases h
  rep := fun _ _ h => by cases h
  sep := by simp
  fin := fun _ _ h => by cases h
  nodup := List.nodup_nil
  clt := fun i hi => by omega

theorem P1.eq_iff {G : List Nd} {c : Nat → Nat} {dn : Nat → Bool} {fs : List Nat} (h : P1 G c dn fs) {a b : Nat} (ha : a < G.length) (hb : b < G.length) (da : dn a = true) (db : dn b = true) : c a = c b ↔ Bis G a G b := by
  obtain ⟨m1, b1⟩ := h.rep a ha da
  obtain ⟨m2, b2⟩ := h.rep b hb db
  constructor
  · intro e
    rw [e] at b1
    exact b1.symm.trans b2
  · intro hbis
    exact h.sep _ m1 _ m2 (b1.trans (hbis.trans b2.symm))

theorem argsAt_some {G : List Nd} {x : Nat} {n : Nd} (h : G[x]? = some n) : argsAt G x = n.args.map Int.toNat := by unfold argsAt; rw [h]

/-- Of two nodes: look the same, and have arguments of the same classes. -/
theorem likeB_iff {G : List Nd} {c : Nat → Nat} {i j : Nat} (hi : i < G.length) (hj : j < G.length) :
    likeB G c i j = true ↔ faceOf G i = faceOf G j ∧ Two (fun a b => c a = c b) (argsAt G i) (argsAt G j) := by
  unfold likeB faceOf
  rw [List.getElem?_eq_getElem hi, List.getElem?_eq_getElem hj]
  simp only [Bool.and_eq_true, Option.map_some, Option.some.injEq, alike_iff]
  rw [argsAt_some (List.getElem?_eq_getElem hi), argsAt_some (List.getElem?_eq_getElem hj)]
  constructor
  · rintro ⟨h1, h2⟩
    refine ⟨h1, ?_⟩
    have hl : (G[i]).args.length = (G[j]).args.length := by
      unfold Nd.face at h1
      injection h1 with _ h2
      injection h2 with h3 _
    refine Two.of_get (by simpa using hl) fun k a b ha hb => ?_
    unfold sargsB at h2
    rw [List.all_eq_true] at h2
    rw [List.getElem?_map] at ha hb
    cases hka : (G[i]).args[k]? with
    | none => rw [hka] at ha; cases ha
    | some z =>
      cases hkb : (G[j]).args[k]? with
      | none => rw [hkb] at hb; cases hb
      | some z' =>
        rw [hka] at ha
        rw [hkb] at hb
        obtain rfl := Option.some.inj ha
        obtain rfl := Option.some.inj hb
        have := h2 k (List.mem_range.2 (List.getElem?_eq_some_iff.1 hka).1)
        simp only [List.getD, hka, hkb, Option.getD_some, beq_iff_eq] at this
        exact this
  · rintro ⟨h1, h2⟩
    refine ⟨h1, ?_⟩
    unfold sargsB
    rw [List.all_eq_true]
    intro k hk
    have hk := List.mem_range.1 hk
    have hl := h2.length
    simp only [List.length_map] at hl
    have e1 : (G[i]).args[k]? = some (G[i]).args[k] := List.getElem?_eq_getElem hk
    have e2 : (G[j]).args[k]? = some ((G[j]).args[k]'(by omega)) := List.getElem?_eq_getElem (by omega)
    have := h2.get (i := k) (by rw [List.getElem?_map, e1]; rfl) (by rw [List.getElem?_map, e2]; rfl)
    simp only [List.getD, e1, e2, Option.getD_some, beq_iff_eq]
    exact this

theorem firstOr_spec {p : Nat → Bool} {n : Nat} : ∀ l : List Nat, (firstOr p n l ∈ l ∧ p (firstOr p n l) = true) ∨ (firstOr p n l = n ∧ ∀ x ∈ l, p x = false)
  | [] => .inr ⟨rfl, by simp⟩
  | a :: l => by
    unfold firstOr
    by_cases h : p a = true
    · rw [if_pos h]; exact .inl ⟨List.mem_cons_self .., h⟩
    · rw [if_neg h]
      rcases firstOr_spec (p := p) (n := n) l with ⟨h1, h2⟩ | ⟨h1, h2⟩
      · exact .inl ⟨List.mem_cons_of_mem _ h1, h2⟩
      · refine .inr ⟨h1, fun x hx => ?_⟩
        rcases List.mem_cons.1 hx with rfl | hx
        · simpa using h
        · exact h2 x hx

/-- One more finite node has a class. -/
theorem P1.step {G : List Nd} (hG : GClosed G) {c : Nat → Nat} {dn : Nat → Bool} {fs : List Nat} (h : P1 G c dn fs) {i : Nat} (hi : i < G.length) (hd : dn i = false) (hr : ∀ a ∈ argsAt G i, dn a = true) :
    P1 G (fun z => if z = i then firstOr (likeB G c i) i fs else c z) (fun z => if z = i then true else dn z) (if firstOr (likeB G c i) i fs = i then fs ++ [i] else fs) := by
  have hif : i ∉ fs := fun hm => by have := (h.fst i hm).2.1; rw [hd] at this; cases this
  have hne : ∀ a, dn a = true → a ≠ i := fun a ha e => by rw [e, hd] at ha; cases ha
  have hlike : ∀ f ∈ fs, likeB G c i f = true ↔ Bis G i G f := by
    intro f hf
    obtain ⟨hfl, hfd, _⟩ := h.fst f hf
    rw [likeB_iff hi hfl]
    constructor
    · rintro ⟨h1, h2⟩
      refine bis_step h1 (Two.of_get h2.length fun k a b ha hb => ?_)
      have ma := List.mem_of_getElem? ha
      have mb := List.mem_of_getElem? hb
      exact (h.eq_iff (argsAt_lt hG ma) (argsAt_lt hG mb) (hr a ma) (h.args f hfl hfd b mb)).1 (h2.get ha hb)
    · intro hb
      refine ⟨by have := hb 0; rwa [faceAt_zero, faceAt_zero] at this, ?_⟩
      have ht := hb.args hG hG hi hfl
      refine Two.of_get ht.length fun k a b ha hb' => ?_
      have ma := List.mem_of_getElem? ha
      have mb := List.mem_of_getElem? hb'
      exact (h.eq_iff (argsAt_lt hG ma) (argsAt_lt hG mb) (hr a ma) (h.args f hfl hfd b mb)).2 (ht.get ha hb')
  have hfin : Fin' G i := fin_step fun a ha => h.fin a (argsAt_lt hG ha) (hr a ha)
  have hargs' : ∀ j, j < G.length → (if j = i then true else dn j) = true → ∀ a ∈ argsAt G j, (if a = i then true else dn a) = true := by
    intro j hj hdj a ha
    by_cases hai : a = i
    · rw [if_pos hai]
    · rw [if_neg hai]
      by_cases hji : j = i
      · exact hr a (hji ▸ ha)
      · rw [if_neg hji] at hdj; exact h.args j hj hdj a ha
  have hfin' : ∀ j, j < G.length → (if j = i then true else dn j) = true → Fin' G j := by
    intro j hj hdj
    by_cases hji : j = i
    · rw [hji]; exact hfin
    · rw [if_neg hji] at hdj; exact h.fin j hj hdj
  rcases firstOr_spec (p := likeB G c i) (n := i) fs with ⟨m1, m2⟩ | ⟨m1, m2⟩
  · have hki : firstOr (likeB G c i) i fs ≠ i := fun e => hif (e ▸ m1)
    rw [if_neg hki]
    have hbis := (hlike _ m1).1 m2
    refine ⟨fun x hx => ?_, hargs', fun j hj hdj => ?_, h.sep, hfin', h.nodup, fun j hj => ?_⟩
    · obtain ⟨a1, a2, a3⟩ := h.fst x hx
      have hxi := hne x a2
      exact ⟨a1, by rw [if_neg hxi]; exact a2, by rw [if_neg hxi]; exact a3⟩
    · by_cases hji : j = i
      · subst hji
        simp only [if_pos]
        exact ⟨m1, hbis.symm⟩
      · rw [if_neg hji] at hdj
        rw [if_neg hji]
        exact h.rep j hj hdj
    · by_cases hji : j = i
      · rw [if_pos hji]; exact (h.fst _ m1).1
      · rw [if_neg hji]; exact h.clt j hj
  · rw [m1, if_pos rfl]
    refine ⟨fun x hx => ?_, hargs', fun j hj hdj => ?_, fun x hx y hy hb => ?_, hfin', nodup_snoc h.nodup hif, fun j hj => ?_⟩
    · rcases List.mem_append.1 hx with hx | hx
      · obtain ⟨a1, a2, a3⟩ := h.fst x hx
        have hxi := hne x a2
        exact ⟨a1, by rw [if_neg hxi]; exact a2, by rw [if_neg hxi]; exact a3⟩
      · rw [List.mem_singleton.1 hx]
        exact ⟨hi, by rw [if_pos rfl], by rw [if_pos rfl]⟩
    · by_cases hji : j = i
      · subst hji
        simp only [if_pos]
        exact ⟨List.mem_append_right _ (List.mem_singleton.2 rfl), Bis.refl _ _⟩
      · rw [if_neg hji] at hdj
        rw [if_neg hji]
        obtain ⟨a1, a2⟩ := h.rep j hj hdj
        exact ⟨List.mem_append_left _ a1, a2⟩
    · have no : ∀ f ∈ fs, ¬ Bis G i G f := fun f hf hb => by have := m2 f hf; rw [(hlike f hf).2 hb] at this; cases this
      rcases List.mem_append.1 hx with hx | hx <;> rcases List.mem_append.1 hy with hy | hy
      · exact h.sep x hx y hy hb
      · rw [List.mem_singleton.1 hy] at hb; exact absurd hb.symm (no x hx)
      · rw [List.mem_singleton.1 hx] at hb; exact absurd hb (no y hy)
      · rw [List.mem_singleton.1 hx, List.mem_singleton.1 hy]
    · by_cases hji : j = i
      · rw [if_pos hji]; exact hi
      · rw [if_neg hji]; exact h.clt j hj

/-- Nothing more becomes finite. -/
def Q1 (G : List Nd) (dn : Nat → Bool) : Prop := ∀ i, i < G.length → dn i = false → ∃ a ∈ argsAt G i, dn a = false

theorem deep_of {G : List Nd} (hG : GClosed G) {dn : Nat → Bool} (hq : Q1 G dn) : ∀ (k i : Nat), i < G.length → dn i = false → ∃ t, k ≤ t ∧ faceAt G i t ≠ none
  | 0, i, hi, _ => by
    obtain ⟨n, _, hn⟩ := faceOf_some hi
    exact ⟨0, Nat.le_refl _, by rw [faceAt_zero, hn]; simp⟩
  | k + 1, i, hi, hd => by
    obtain ⟨a, ha, hda⟩ := hq i hi hd
    obtain ⟨t, ht, hne⟩ := deep_of hG hq k a (argsAt_lt hG ha) hda
    obtain ⟨m, hm⟩ := List.getElem?_of_mem ha
    have hm8 := (child_some hG (child_args.trans hm)).2
    refine ⟨cat (m + 1) t, ?_, ?_⟩
    · have := cat_lt (show 0 < m + 1 by omega) t t (Nat.le_refl _)
      rw [cat_root] at this
      omega
    · rw [faceAt_below t hm8, hm]; exact hne

/-- Nodes that denote the same are both finite or both not. -/
theorem P1.done_iff {G : List Nd} (hG : GClosed G) {c : Nat → Nat} {dn : Nat → Bool} {fs : List Nat} (h : P1 G c dn fs) (hq : Q1 G dn) {i j : Nat} (hi : i < G.length) (hj : j < G.length) (hb : Bis G i G j) : dn i = dn j := by
  have key : ∀ x y, x < G.length → y < G.length → Bis G x G y → dn x = true → dn y = true := by
    intro x y hx hy hxy hdx
    cases hdy : dn y with
    | true => rfl
    | false =>
      obtain ⟨L, hL⟩ := h.fin x hx hdx
      obtain ⟨t, ht, hne⟩ := deep_of hG hq L y hy hdy
      exact absurd ((hxy t).symm.trans (hL t ht)) hne
  cases h1 : dn i with
  | true => exact (key i j hi hj hb h1).symm
  | false =>
    cases h2 : dn j with
    | false => rfl
    | true => have := key j i hj hi hb.symm h2; rw [h1] at this; exact this
end Go.Ev
