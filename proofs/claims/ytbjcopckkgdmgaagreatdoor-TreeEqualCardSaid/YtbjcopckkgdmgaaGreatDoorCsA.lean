import Derived.Test.YtbjcopckkgdmgaaGreatDoorLgA
import Derived.Test.YtbjcopckkgdmgaaGreatDoorRfA
/- Classes of nodes that denote the same: the mathematics, finite nodes. -/
namespace Go.Ev

/-- A place other than the root lies below a child of the root. -/
theorem first_step : ∀ t : Nat, t ≠ 0 → ∃ i s, i < 8 ∧ t = cat (i + 1) s := by
  have key : ∀ r, r ≠ 0 → ∃ i s, i < 8 ∧ ∀ p, cat p r = cat (8 * p + i + 1) s := by
    intro r
    induction r using Nat.strongRecOn with
    | ind r ih =>
      intro hr0
      rcases place_cases r with rfl | ⟨u, i, hi, rfl, hu⟩
      · exact absurd rfl hr0
      · by_cases hu0 : u = 0
        · subst hu0
          exact ⟨i, 0, hi, fun p => by rw [cat_child _ _ _ hi, cat_zero, cat_zero]⟩
        · obtain ⟨j, s, hj, hs⟩ := ih u hu hu0
          exact ⟨j, 8 * s + i + 1, hj, fun p => by rw [cat_child _ _ _ hi, cat_child _ _ _ hi, hs p]⟩
  intro t ht
  obtain ⟨i, s, hi, hs⟩ := key t ht
  refine ⟨i, s, hi, ?_⟩
  have := hs 0
  rw [cat_root] at this
  rw [this]
  congr 1
  omega

theorem faceAt_below {G : List Nd} {x i : Nat} (s : Nat) (hi : i < 8) : faceAt G x (cat (i + 1) s) = match (argsAt G x)[i]? with
    | some a => faceAt G a s
    | none => none := by
  have h := nodeAt_first G x i s hi
  rw [show 8 * 0 + i + 1 = i + 1 by omega] at h
  unfold faceAt
  rw [h, child_args]
  cases (argsAt G x)[i]? <;> rfl

/-- Nodes that look the same, with arguments that denote the same, denote the same. -/
theorem bis_step {G G' : List Nd} {x y : Nat} (hf : faceOf G x = faceOf G' y) (ha : Two (fun a b => Bis G a G' b) (argsAt G x) (argsAt G' y)) : Bis G x G' y := by
  intro t
  by_cases ht : t = 0
  · subst ht; rw [faceAt_zero, faceAt_zero]; exact hf
  · obtain ⟨i, s, hi, rfl⟩ := first_step t ht
    rw [faceAt_below s hi, faceAt_below s hi]
    by_cases hl : i < (argsAt G x).length
    · have hl' : i < (argsAt G' y).length := by rw [← ha.length]; exact hl
      rw [List.getElem?_eq_getElem hl, List.getElem?_eq_getElem hl']
      exact ha.get (List.getElem?_eq_getElem hl) (List.getElem?_eq_getElem hl') s
    · rw [List.getElem?_eq_none (by omega), List.getElem?_eq_none (by rw [← ha.length]; omega)]

/-- The tree is finite. -/
def Fin' (G : List Nd) (x : Nat) : Prop := ∃ L, ∀ t, L ≤ t → faceAt G x t = none

theorem fin_step {G : List Nd} {x : Nat} (h : ∀ a ∈ argsAt G x, Fin' G a) : Fin' G x := by
  have : ∀ l : List Nat, (∀ a ∈ l, Fin' G a) → ∃ L, ∀ a ∈ l, ∀ t, L ≤ t → faceAt G a t = none := by
    intro l
    induction l with
    | nil => intro _; exact ⟨0, by simp⟩
    | cons a l ih =>
      intro hl
      obtain ⟨L, hL⟩ := ih fun b hb => hl b (List.mem_cons_of_mem _ hb)
      obtain ⟨M, hM⟩ := hl a (List.mem_cons_self ..)
      refine ⟨max L M, fun b hb t ht => ?_⟩
      rcases List.mem_cons.1 hb with rfl | hb
      · exact hM t (by omega)
      · exact hL b hb t (by omega)
  obtain ⟨L, hL⟩ := this _ h
  refine ⟨cat 9 L + 1, fun t ht => ?_⟩
  obtain ⟨i, s, hi, rfl⟩ := first_step t (by omega)
  rw [faceAt_below s hi]
  cases ha : (argsAt G x)[i]? with
  | none => rfl
  | some a =>
    refine hL a (List.mem_of_getElem? ha) s ?_
    apply Decidable.byContradiction
    intro hs
    have := cat_lt (show i + 1 < 9 by omega) s L (by omega)
    omega

/-- A finite tree is none of its own proper parts. -/
theorem fin_part {G : List Nd} {x f t : Nat} (hx : x < G.length) (hf : Fin' G x) (ht : nodeAt G x t = some f) (hb : Bis G f G x) : f = x := by
  by_cases h0 : t = 0
  · subst h0; rw [nodeAt_zero] at ht; exact (Option.some.inj ht).symm
  · exfalso
    obtain ⟨L, hL⟩ := hf
    have : ∀ k T, L ≤ T + k → faceAt G x T ≠ none → False := by
      intro k
      induction k with
      | zero => intro T hT hne; exact hne (hL T (by omega))
      | succ k ih =>
        intro T hT hne
        have h1 : faceAt G x (cat t T) = faceAt G f T := faceAt_cat T ht
        have h2 := cat_lt (show 0 < t by omega) T T (Nat.le_refl _)
        rw [cat_root] at h2
        exact ih (cat t T) (by omega) (by rw [h1, hb T]; exact hne)
    refine this L 0 (by omega) ?_
    obtain ⟨n, _, hn⟩ := faceOf_some hx
    rw [faceAt_zero, hn]
    simp

/-- What the classes are, as far as finite nodes have one. -/
structure P1 (G : List Nd) (c : Nat → Nat) (dn : Nat → Bool) (fs : List Nat) : Prop where
  fst : ∀ x ∈ fs, x < G.length ∧ dn x = true ∧ c x = x
  args : ∀ i, i < G.length → dn i = true → ∀ a ∈ argsAt G i, dn a = true
  rep : ∀ i, i < G.length → dn i = true → c i ∈ fs ∧ Bis G (c i) G i
  sep : ∀ x ∈ fs, ∀ y ∈ fs, Bis G x G y → x = y
  fin : ∀ i, i < G.length → dn i = true → Fin' G i
  nodup : fs.Nodup
  clt : ∀ i, i < G.length → c i < G.length

theorem P1.start (G : List Nd) : P1 G (fun _ => 0) (fun _ => false) [] where
  fst := by simp
  args := fun _ _ h => by cases h
  rep := fun _ _ h => by cases h
  sep := by simp
  fin := fun _ _ h => by cases h
  nodup := List.nodup_nil
  clt := fun i hi => by omega

theorem P1.eq_iff {G : List Nd} {c : Nat → Nat} {dn : Nat → Bool} {fs : List Nat} (h : P1 G c dn fs) {a b : Nat} (ha : a < G.length) (hb : b < G.length) (da : dn a = true) (db : dn b = true) : c a = c b ↔ Bis G a G b := by
  obtain ⟨m1, b1⟩ := h.rep a ha da
  obtain ⟨m2, b2⟩ := h.rep b hb db
  constructor
  · intro e
    rw [e] at b1
    exact b1.symm.trans b2
  · intro hbis
    exact h.sep _ m1 _ m2 (b1.trans (hbis.trans b2.symm))

theorem argsAt_some {G : List Nd} {x : Nat} {n : Nd} (h : G[x]? = some n) : argsAt G x = n.args.map Int.toNat := by unfold argsAt; rw [h]

/-- Of two nodes: look the same, and have arguments of the same classes. -/
theorem likeB_iff {G : List Nd} {c : Nat → Nat} {i j : Nat} (hi : i < G.length) (hj : j < G.length) :
    likeB G c i j = true ↔ faceOf G i = faceOf G j ∧ Two (fun a b => c a = c b) (argsAt G i) (argsAt G j) := by
  unfold likeB faceOf
  rw [List.getElem?_eq_getElem hi, List.getElem?_eq_getElem hj]
  simp only [Bool.and_eq_true, Option.map_some, Option.some.injEq, alike_iff]
  rw [argsAt_some (List.getElem?_eq_getElem hi), argsAt_some (List.getElem?_eq_getElem hj)]
  constructor
  · rintro ⟨h1, h2⟩
    refine ⟨h1, ?_⟩
    have hl : (G[i]).args.length = (G[j]).args.length := by
      unfold Nd.face at h1
      injection h1 with _ h2
      injection h2 with h3 _
    refine Two.of_get (by simpa using hl) fun k a b ha hb => ?_
    unfold sargsB at h2
    rw [List.all_eq_true] at h2
    rw [List.getElem?_map] at ha hb
    cases hka : (G[i]).args[k]? with
    | none => rw [hka] at ha; cases ha
    | some z =>
      cases hkb : (G[j]).args[k]? with
      | none => rw [hkb] at hb; cases hb
      | some z' =>
        rw [hka] at ha
        rw [hkb] at hb
        obtain rfl := Option.some.inj ha
        obtain rfl := Option.some.inj hb
        have := h2 k (List.mem_range.2 (List.getElem?_eq_some_iff.1 hka).1)
        simp only [List.getD, hka, hkb, Option.getD_some, beq_iff_eq] at this
        exact this
  · rintro ⟨h1, h2⟩
    refine ⟨h1, ?_⟩
    unfold sargsB
    rw [List.all_eq_true]
    intro k hk
    have hk := List.mem_range.1 hk
    have hl := h2.length
    simp only [List.length_map] at hl
    have e1 : (G[i]).args[k]? = some (G[i]).args[k] := List.getElem?_eq_getElem hk
    have e2 : (G[j]).args[k]? = some ((G[j]).args[k]'(by omega)) := List.getElem?_eq_getElem (by omega)
    have := h2.get (i := k) (by rw [List.getElem?_map, e1]; rfl) (by rw [List.getElem?_map, e2]; rfl)
    simp only [List.getD, e1, e2, Option.getD_some, beq_iff_eq]
    exact this

theorem firstOr_spec {p : Nat → Bool} {n : Nat} : ∀ l : List Nat, (firstOr p n l ∈ l ∧ p (firstOr p n l) = true) ∨ (firstOr p n l = n ∧ ∀ x ∈ l, p x = false)
  | [] => .inr ⟨rfl, by simp⟩
  | a :: l => by
    unfold firstOr
    by_cases h : p a = true
    · rw [if_pos h]; exact .inl ⟨List.mem_cons_self .., h⟩
    · rw [if_neg h]
      rcases firstOr_spec (p := p) (n := n) l with ⟨h1, h2⟩ | ⟨h1, h2⟩
      · exact .inl ⟨List.mem_cons_of_mem _ h1, h2⟩
      · refine .inr ⟨h1, fun x hx => ?_⟩
        rcases List.mem_cons.1 hx with rfl | hx
        · simpa using h
        · exact h2 x hx

/-- One more finite node has a class. -/
theorem P1.step {G : List Nd} (hG : GClosed G) {c : Nat → Nat} {dn : Nat → Bool} {fs : List Nat} (h : P1 G c dn fs) {i : Nat} (hi : i < G.length) (hd : dn i = false) (hr : ∀ a ∈ argsAt G i, dn a = true) :
    P1 G (fun z => if z = i then firstOr (likeB G c i) i fs else c z) (fun z => if z = i then true else dn z) (if firstOr (likeB G c i) i fs = i then fs ++ [i] else fs) := by
  have hif : i ∉ fs := fun hm => by have := (h.fst i hm).2.1; rw [hd] at this; cases this
  have hne : ∀ a, dn a = true → a ≠ i := fun a ha e => by rw [e, hd] at ha; cases ha
  have hlike : ∀ f ∈ fs, likeB G c i f = true ↔ Bis G i G f := by
    intro f hf
    obtain ⟨hfl, hfd, _⟩ := h.fst f hf
    rw [likeB_iff hi hfl]
    constructor
    · rintro ⟨h1, h2⟩
      refine bis_step h1 (Two.of_get h2.length fun k a b ha hb => ?_)
      have ma := List.mem_of_getElem? ha
      have mb := List.mem_of_getElem? hb
      exact (h.eq_iff (argsAt_lt hG ma) (argsAt_lt hG mb) (hr a ma) (h.args f hfl hfd b mb)).1 (h2.get ha hb)
    · intro hb
      refine ⟨by have := hb 0; rwa [faceAt_zero, faceAt_zero] at this, ?_⟩
      have ht := hb.args hG hG hi hfl
      refine Two.of_get ht.length fun k a b ha hb' => ?_
      have ma := List.mem_of_getElem? ha
      have mb := List.mem_of_getElem? hb'
      exact (h.eq_iff (argsAt_lt hG ma) (argsAt_lt hG mb) (hr a ma) (h.args f hfl hfd b mb)).2 (ht.get ha hb')
  have hfin : Fin' G i := fin_step fun a ha => h.fin a (argsAt_lt hG ha) (hr a ha)
  have hargs' : ∀ j, j < G.length → (if j = i then true else dn j) = true → ∀ a ∈ argsAt G j, (if a = i then true else dn a) = true := by
    intro j hj hdj a ha
    by_cases hai : a = i
    · rw [if_pos hai]
    · rw [if_neg hai]
      by_cases hji : j = i
      · exact hr a (hji ▸ ha)
      · rw [if_neg hji] at hdj; exact h.args j hj hdj a ha
  have hfin' : ∀ j, j < G.length → (if j = i then true else dn j) = true → Fin' G j := by
    intro j hj hdj
    by_cases hji : j = i
    · rw [hji]; exact hfin
    · rw [if_neg hji] at hdj; exact h.fin j hj hdj
  rcases firstOr_spec (p := likeB G c i) (n := i) fs with ⟨m1, m2⟩ | ⟨m1, m2⟩
  · have hki : firstOr (likeB G c i) i fs ≠ i := fun e => hif (e ▸ m1)
    rw [if_neg hki]
    have hbis := (hlike _ m1).1 m2
    refine ⟨fun x hx => ?_, hargs', fun j hj hdj => ?_, h.sep, hfin', h.nodup, fun j hj => ?_⟩
    · obtain ⟨a1, a2, a3⟩ := h.fst x hx
      have hxi := hne x a2
      exact ⟨a1, by rw [if_neg hxi]; exact a2, by rw [if_neg hxi]; exact a3⟩
    · by_cases hji : j = i
      · subst hji
        simp only [if_pos]
        exact ⟨m1, hbis.symm⟩
      · rw [if_neg hji] at hdj
        rw [if_neg hji]
        exact h.rep j hj hdj
    · by_cases hji : j = i
      · rw [if_pos hji]; exact (h.fst _ m1).1
      · rw [if_neg hji]; exact h.clt j hj
  · rw [m1, if_pos rfl]
    refine ⟨fun x hx => ?_, hargs', fun j hj hdj => ?_, fun x hx y hy hb => ?_, hfin', nodup_snoc h.nodup hif, fun j hj => ?_⟩
    · rcases List.mem_append.1 hx with hx | hx
      · obtain ⟨a1, a2, a3⟩ := h.fst x hx
        have hxi := hne x a2
        exact ⟨a1, by rw [if_neg hxi]; exact a2, by rw [if_neg hxi]; exact a3⟩
      · rw [List.mem_singleton.1 hx]
        exact ⟨hi, by rw [if_pos rfl], by rw [if_pos rfl]⟩
    · by_cases hji : j = i
      · subst hji
        simp only [if_pos]
        exact ⟨List.mem_append_right _ (List.mem_singleton.2 rfl), Bis.refl _ _⟩
      · rw [if_neg hji] at hdj
        rw [if_neg hji]
        obtain ⟨a1, a2⟩ := h.rep j hj hdj
        exact ⟨List.mem_append_left _ a1, a2⟩
    · have no : ∀ f ∈ fs, ¬ Bis G i G f := fun f hf hb => by have := m2 f hf; rw [(hlike f hf).2 hb] at this; cases this
      rcases List.mem_append.1 hx with hx | hx <;> rcases List.mem_append.1 hy with hy | hy
      · exact h.sep x hx y hy hb
      · rw [List.mem_singleton.1 hy] at hb; exact absurd hb.symm (no x hx)
      · rw [List.mem_singleton.1 hx] at hb; exact absurd hb (no y hy)
      · rw [List.mem_singleton.1 hx, List.mem_singleton.1 hy]
    · by_cases hji : j = i
      · rw [if_pos hji]; exact hi
      · rw [if_neg hji]; exact h.clt j hj

/-- Nothing more becomes finite. -/
def Q1 (G : List Nd) (dn : Nat → Bool) : Prop := ∀ i, i < G.length → dn i = false → ∃ a ∈ argsAt G i, dn a = false

theorem deep_of {G : List Nd} (hG : GClosed G) {dn : Nat → Bool} (hq : Q1 G dn) : ∀ (k i : Nat), i < G.length → dn i = false → ∃ t, k ≤ t ∧ faceAt G i t ≠ none
  | 0, i, hi, _ => by
    obtain ⟨n, _, hn⟩ := faceOf_some hi
    exact ⟨0, Nat.le_refl _, by rw [faceAt_zero, hn]; simp⟩
  | k + 1, i, hi, hd => by
    obtain ⟨a, ha, hda⟩ := hq i hi hd
    obtain ⟨t, ht, hne⟩ := deep_of hG hq k a (argsAt_lt hG ha) hda
    obtain ⟨m, hm⟩ := List.getElem?_of_mem ha
    have hm8 := (child_some hG (child_args.trans hm)).2
    refine ⟨cat (m + 1) t, ?_, ?_⟩
    · have := cat_lt (show 0 < m + 1 by omega) t t (Nat.le_refl _)
      rw [cat_root] at this
      omega
    · rw [faceAt_below t hm8, hm]; exact hne

/-- Nodes that denote the same are both finite or both not. -/
theorem P1.done_iff {G : List Nd} (hG : GClosed G) {c : Nat → Nat} {dn : Nat → Bool} {fs : List Nat} (h : P1 G c dn fs) (hq : Q1 G dn) {i j : Nat} (hi : i < G.length) (hj : j < G.length) (hb : Bis G i G j) : dn i = dn j := by
  have key : ∀ x y, x < G.length → y < G.length → Bis G x G y → dn x = true → dn y = true := by
    intro x y hx hy hxy hdx
    cases hdy : dn y with
    | true => rfl
    | false =>
      obtain ⟨L, hL⟩ := h.fin x hx hdx
      obtain ⟨t, ht, hne⟩ := deep_of hG hq L y hy hdy
      exact absurd ((hxy t).symm.trans (hL t ht)) hne
  cases h1 : dn i with
  | true => exact (key i j hi hj hb h1).symm
  | false =>
    cases h2 : dn j with
    | false => rfl
    | true => have := key j i hj hi hb.symm h2; rw [h1] at this; exact this
end Go.Ev

/- Classes of nodes that denote the same: the mathematics, refinement. -/
namespace Go.Ev

theorem firstOr_min {p : Nat → Bool} {n : Nat} : ∀ l : List Nat, l.Pairwise (· < ·) → ∀ x ∈ l, p x = true → firstOr p n l ≤ x
  | [], _, x, hx, _ => by cases hx
  | a :: l, hs, x, hx, hp => by
    obtain ⟨h1, h2⟩ := List.pairwise_cons.1 hs
    unfold firstOr
    by_cases ha : p a = true
    · rw [if_pos ha]
      rcases List.mem_cons.1 hx with rfl | hx
      · exact Nat.le_refl _
      · exact Nat.le_of_lt (h1 x hx)
    · rw [if_neg ha]
      rcases List.mem_cons.1 hx with rfl | hx
      · exact absurd hp ha
      · exact firstOr_min l h2 x hx hp

/-- The nodes that have no class yet. -/
def restOf (n : Nat) (dn : Nat → Bool) : List Nat := (List.range n).filter fun i => !dn i
theorem mem_rest {n : Nat} {dn : Nat → Bool} {i : Nat} : i ∈ restOf n dn ↔ i < n ∧ dn i = false := by
  unfold restOf
  rw [List.mem_filter, List.mem_range]
  simp
theorem rest_sorted (n : Nat) (dn : Nat → Bool) : (restOf n dn).Pairwise (· < ·) := List.Pairwise.filter _ List.pairwise_lt_range

/-- The least node of those that are the same as a node. -/
def rp (e : Nat → Nat → Bool) (U : List Nat) (i : Nat) : Nat := firstOr (e i) i (U.filter fun x => decide (x < i))

structure Eqv (e : Nat → Nat → Bool) (U : List Nat) : Prop where
  refl : ∀ i ∈ U, e i i = true
  symm : ∀ i ∈ U, ∀ j ∈ U, e i j = true → e j i = true
  trans : ∀ i ∈ U, ∀ j ∈ U, ∀ k ∈ U, e i j = true → e j k = true → e i k = true

section
variable {e : Nat → Nat → Bool} {U : List Nat}
theorem rp_spec (he : Eqv e U) {i : Nat} (hi : i ∈ U) : rp e U i ∈ U ∧ rp e U i ≤ i ∧ e i (rp e U i) = true := by
  unfold rp
  rcases firstOr_spec (p := e i) (n := i) (U.filter fun x => decide (x < i)) with ⟨h1, h2⟩ | ⟨h1, _⟩
  · rw [List.mem_filter] at h1
    exact ⟨h1.1, Nat.le_of_lt (by simpa using h1.2), h2⟩
  · rw [h1]; exact ⟨hi, Nat.le_refl _, he.refl i hi⟩
theorem rp_min (he : Eqv e U) (hs : U.Pairwise (· < ·)) {i x : Nat} (hi : i ∈ U) (hx : x ∈ U) (h : e i x = true) : rp e U i ≤ x := by
  rcases Nat.lt_or_ge x i with hl | hl
  · exact firstOr_min _ (List.Pairwise.filter _ hs) x (List.mem_filter.2 ⟨hx, by simpa using hl⟩) h
  · exact Nat.le_trans (rp_spec he hi).2.1 hl
theorem rp_eq (he : Eqv e U) (hs : U.Pairwise (· < ·)) {i j : Nat} (hi : i ∈ U) (hj : j ∈ U) (h : e i j = true) : rp e U i = rp e U j := by
  obtain ⟨a1, _, a3⟩ := rp_spec he hi
  obtain ⟨b1, _, b3⟩ := rp_spec he hj
  have h1 := rp_min he hs hi b1 (he.trans i hi j hj _ b1 h b3)
  have h2 := rp_min he hs hj a1 (he.trans j hj i hi _ a1 (he.symm i hi j hj h) a3)
  omega
theorem rp_back (he : Eqv e U) {i j : Nat} (hi : i ∈ U) (hj : j ∈ U) (h : rp e U i = rp e U j) : e i j = true := by
  obtain ⟨a1, _, a3⟩ := rp_spec he hi
  obtain ⟨_, _, b3⟩ := rp_spec he hj
  rw [← h] at b3
  exact he.trans i hi _ a1 j hj a3 (he.symm j hj _ a1 b3)
theorem rp_idem (he : Eqv e U) (hs : U.Pairwise (· < ·)) {i : Nat} (hi : i ∈ U) : rp e U (rp e U i) = rp e U i := by
  obtain ⟨a1, _, a3⟩ := rp_spec he hi
  exact (rp_eq he hs hi a1 a3).symm
end

/-- Classes of the nodes that are not finite: not too fine. -/
structure P3 (G : List Nd) (c : Nat → Nat) (dn : Nat → Bool) : Prop where
  mem : ∀ i ∈ restOf G.length dn, c i ∈ restOf G.length dn ∧ c i ≤ i ∧ c (c i) = c i
  face : ∀ i ∈ restOf G.length dn, ∀ j ∈ restOf G.length dn, c i = c j → faceOf G i = faceOf G j
  bis : ∀ i ∈ restOf G.length dn, ∀ j ∈ restOf G.length dn, Bis G i G j → c i = c j

/-- The finite nodes keep their classes. -/
def withRest (c : Nat → Nat) (dn : Nat → Bool) (r : Nat → Nat) (z : Nat) : Nat := if dn z = true then c z else r z

theorem P1.congr {G : List Nd} {c c' : Nat → Nat} {dn : Nat → Bool} {fs : List Nat} (h : P1 G c dn fs) (h1 : ∀ z, z < G.length → dn z = true → c' z = c z) (h2 : ∀ z, z < G.length → c' z < G.length) : P1 G c' dn fs where
  fst x hx := by
    obtain ⟨a1, a2, a3⟩ := h.fst x hx
    exact ⟨a1, a2, (h1 x a1 a2).trans a3⟩
  args := h.args
  rep i hi hd := by rw [h1 i hi hd]; exact h.rep i hi hd
  sep := h.sep
  fin := h.fin
  nodup := h.nodup
  clt := h2

def faceB (G : List Nd) (i j : Nat) : Bool := match G[i]?, G[j]? with
  | some x, some y => alikeB x y
  | _, _ => false
theorem faceB_iff {G : List Nd} {i j : Nat} (hi : i < G.length) (hj : j < G.length) : faceB G i j = true ↔ faceOf G i = faceOf G j := by
  unfold faceB faceOf
  rw [List.getElem?_eq_getElem hi, List.getElem?_eq_getElem hj]
  simp only [Option.map_some, Option.some.injEq, alike_iff]

theorem face_eqv (G : List Nd) (dn : Nat → Bool) : Eqv (faceB G) (restOf G.length dn) where
  refl _i hi := (faceB_iff (mem_rest.1 hi).1 (mem_rest.1 hi).1).2 rfl
  symm _i hi _j hj h := (faceB_iff (mem_rest.1 hj).1 (mem_rest.1 hi).1).2 ((faceB_iff (mem_rest.1 hi).1 (mem_rest.1 hj).1).1 h).symm
  trans _i hi _j hj _k hk h h' := (faceB_iff (mem_rest.1 hi).1 (mem_rest.1 hk).1).2 (((faceB_iff (mem_rest.1 hi).1 (mem_rest.1 hj).1).1 h).trans ((faceB_iff (mem_rest.1 hj).1 (mem_rest.1 hk).1).1 h'))

theorem P3.start (G : List Nd) (dn : Nat → Bool) (c : Nat → Nat) (hc : ∀ i ∈ restOf G.length dn, c i = rp (faceB G) (restOf G.length dn) i) : P3 G c dn where
  mem i hi := by
    obtain ⟨a1, a2, _⟩ := rp_spec (face_eqv G dn) hi
    rw [hc i hi]
    exact ⟨a1, a2, by rw [hc _ a1]; exact rp_idem (face_eqv G dn) (rest_sorted _ _) hi⟩
  face i hi j hj h := by
    rw [hc i hi, hc j hj] at h
    exact (faceB_iff (mem_rest.1 hi).1 (mem_rest.1 hj).1).1 (rp_back (face_eqv G dn) hi hj h)
  bis i hi j hj h := by
    rw [hc i hi, hc j hj]
    refine rp_eq (face_eqv G dn) (rest_sorted _ _) hi hj ((faceB_iff (mem_rest.1 hi).1 (mem_rest.1 hj).1).2 ?_)
    have := h 0
    rwa [faceAt_zero, faceAt_zero] at this

/-- Of one class, with arguments of the same classes. -/
def fineB (G : List Nd) (c : Nat → Nat) (i j : Nat) : Bool := c i == c j && match G[i]?, G[j]? with
  | some x, some y => sargsB c x.args y.args x.args.length
  | _, _ => false

theorem fineB_iff {G : List Nd} {c : Nat → Nat} {dn : Nat → Bool} (h : P3 G c dn) {i j : Nat} (hi : i ∈ restOf G.length dn) (hj : j ∈ restOf G.length dn) :
    fineB G c i j = true ↔ c i = c j ∧ Two (fun a b => c a = c b) (argsAt G i) (argsAt G j) := by
  obtain ⟨li, _⟩ := mem_rest.1 hi
  obtain ⟨lj, _⟩ := mem_rest.1 hj
  have key : c i = c j → (fineB G c i j = true ↔ likeB G c i j = true) := by
    intro e
    have hf := (faceB_iff li lj).2 (h.face i hi j hj e)
    unfold faceB at hf
    unfold fineB likeB
    rw [List.getElem?_eq_getElem li, List.getElem?_eq_getElem lj] at hf ⊢
    simp only at hf ⊢
    rw [hf, e]
    simp
  constructor
  · intro hfine
    have e : c i = c j := by
      unfold fineB at hfine
      simp only [Bool.and_eq_true, beq_iff_eq] at hfine
      exact hfine.1
    exact ⟨e, ((likeB_iff li lj).1 ((key e).1 hfine)).2⟩
  · rintro ⟨e, ht⟩
    exact (key e).2 ((likeB_iff li lj).2 ⟨h.face i hi j hj e, ht⟩)

theorem Two.refl_of {α : Type} {R : α → α → Prop} (h : ∀ a, R a a) : ∀ l : List α, Two R l l
  | [] => .nil
  | a :: l => .cons (h a) (Two.refl_of h l)
theorem Two.swap {α β : Type} {R : α → β → Prop} {S : β → α → Prop} {l : List α} {m : List β} (h : Two R l m) (hs : ∀ a b, R a b → S b a) : Two S m l := by
  induction h with
  | nil => exact .nil
  | cons hr _ ih => exact .cons (hs _ _ hr) ih
theorem Two.comp {α : Type} {R : α → α → Prop} (ht : ∀ a b c, R a b → R b c → R a c) {l m k : List α} (h : Two R l m) (h' : Two R m k) : Two R l k := by
  induction h generalizing k with
  | nil => cases h'; exact .nil
  | cons hr _ ih => cases h' with | cons hr' hh => exact .cons (ht _ _ _ hr hr') (ih hh)

theorem fine_eqv {G : List Nd} {c : Nat → Nat} {dn : Nat → Bool} (h : P3 G c dn) : Eqv (fineB G c) (restOf G.length dn) where
  refl i hi := (fineB_iff h hi hi).2 ⟨rfl, Two.refl_of (R := fun a b => c a = c b) (fun _ => rfl) _⟩
  symm i hi j hj he := by
    obtain ⟨a, b⟩ := (fineB_iff h hi hj).1 he
    exact (fineB_iff h hj hi).2 ⟨a.symm, b.swap fun _ _ e => e.symm⟩
  trans i hi j hj k hk he he' := by
    obtain ⟨a, b⟩ := (fineB_iff h hi hj).1 he
    obtain ⟨a', b'⟩ := (fineB_iff h hj hk).1 he'
    exact (fineB_iff h hi hk).2 ⟨a.trans a', b.comp (fun _ _ _ x y => x.trans y) b'⟩

/-- One round of refinement. -/
theorem P3.step {G : List Nd} (hG : GClosed G) {c c' : Nat → Nat} {dn : Nat → Bool} {fs : List Nat} (h1 : P1 G c dn fs) (hq : Q1 G dn) (h : P3 G c dn) (hc : ∀ i ∈ restOf G.length dn, c' i = rp (fineB G c) (restOf G.length dn) i) : P3 G c' dn where
  mem i hi := by
    obtain ⟨a1, a2, _⟩ := rp_spec (fine_eqv h) hi
    rw [hc i hi]
    exact ⟨a1, a2, by rw [hc _ a1]; exact rp_idem (fine_eqv h) (rest_sorted _ _) hi⟩
  face i hi j hj he := by
    rw [hc i hi, hc j hj] at he
    exact h.face i hi j hj ((fineB_iff h hi hj).1 (rp_back (fine_eqv h) hi hj he)).1
  bis i hi j hj hb := by
    obtain ⟨li, di⟩ := mem_rest.1 hi
    obtain ⟨lj, dj⟩ := mem_rest.1 hj
    rw [hc i hi, hc j hj]
    refine rp_eq (fine_eqv h) (rest_sorted _ _) hi hj ((fineB_iff h hi hj).2 ⟨h.bis i hi j hj hb, ?_⟩)
    have ht := hb.args hG hG li lj
    refine Two.of_get ht.length fun k a b ha hb' => ?_
    have la := argsAt_lt hG (List.mem_of_getElem? ha)
    have lb := argsAt_lt hG (List.mem_of_getElem? hb')
    have hab := ht.get ha hb'
    have hd := h1.done_iff hG hq la lb hab
    cases hda : dn a with
    | true => exact (h1.eq_iff la lb hda (by rw [← hd]; exact hda)).2 hab
    | false => exact h.bis a (mem_rest.2 ⟨la, hda⟩) b (mem_rest.2 ⟨lb, by rw [← hd]; exact hda⟩) hab

/-- Nothing has changed: the classes are right. -/
theorem P3.done {G : List Nd} (hG : GClosed G) {c : Nat → Nat} {dn : Nat → Bool} {fs : List Nat} (h1 : P1 G c dn fs) (hq : Q1 G dn) (h : P3 G c dn) (hc : ∀ i ∈ restOf G.length dn, c i = rp (fineB G c) (restOf G.length dn) i) : Classifies G c := by
  have hmix : ∀ x y, x < G.length → y < G.length → c x = c y → dn x = dn y := by
    have key : ∀ x y, x < G.length → y < G.length → c x = c y → dn x = true → dn y = true := by
      intro x y hx hy e hdx
      cases hdy : dn y with
      | true => rfl
      | false =>
        have m1 := (h1.rep x hx hdx).1
        have m2 := (h.mem y (mem_rest.2 ⟨hy, hdy⟩)).1
        have d1 := (h1.fst _ m1).2.1
        have d2 := (mem_rest.1 m2).2
        rw [e, d2] at d1
        cases d1
    intro x y hx hy e
    cases hdx : dn x with
    | true => exact (key x y hx hy e hdx).symm
    | false =>
      cases hdy : dn y with
      | false => rfl
      | true => have := key y x hy hx e.symm hdy; rw [hdx] at this; cases this
  have hfin : ∀ i ∈ restOf G.length dn, ∀ j ∈ restOf G.length dn, c i = c j → fineB G c i j = true := fun i hi j hj e => rp_back (fine_eqv h) hi hj (by rw [← hc i hi, ← hc j hj]; exact e)
  have hbis : ∀ x y, x < G.length → y < G.length → c x = c y → Bis G x G y := by
    intro x y hx hy e
    refine bis_of (R := fun x y => x < G.length ∧ y < G.length ∧ c x = c y) ?_ ?_ ⟨hx, hy, e⟩
    · rintro x y ⟨hx, hy, e⟩
      have hd := hmix x y hx hy e
      cases hdx : dn x with
      | true =>
        have := (h1.eq_iff hx hy hdx (by rw [← hd]; exact hdx)).1 e 0
        rwa [faceAt_zero, faceAt_zero] at this
      | false => exact h.face x (mem_rest.2 ⟨hx, hdx⟩) y (mem_rest.2 ⟨hy, by rw [← hd]; exact hdx⟩) e
    · rintro x y ⟨hx, hy, e⟩
      have hd := hmix x y hx hy e
      have base : Two (fun a b => c a = c b) (argsAt G x) (argsAt G y) := by
        cases hdx : dn x with
        | true =>
          have hdy : dn y = true := by rw [← hd]; exact hdx
          have ht := ((h1.eq_iff hx hy hdx hdy).1 e).args hG hG hx hy
          refine Two.of_get ht.length fun k a b ha hb => ?_
          have ma := List.mem_of_getElem? ha
          have mb := List.mem_of_getElem? hb
          exact (h1.eq_iff (argsAt_lt hG ma) (argsAt_lt hG mb) (h1.args x hx hdx a ma) (h1.args y hy hdy b mb)).2 (ht.get ha hb)
        | false =>
          have mx := mem_rest.2 ⟨hx, hdx⟩
          have my : y ∈ restOf G.length dn := mem_rest.2 ⟨hy, by rw [← hd]; exact hdx⟩
          exact ((fineB_iff h mx my).1 (hfin x mx y my e)).2
      exact Two.of_get base.length fun k a b ha hb => ⟨argsAt_lt hG (List.mem_of_getElem? ha), argsAt_lt hG (List.mem_of_getElem? hb), base.get ha hb⟩
  have hidem : ∀ x, x < G.length → c (c x) = c x := by
    intro x hx
    cases hdx : dn x with
    | true => exact (h1.fst _ (h1.rep x hx hdx).1).2.2
    | false => exact (h.mem x (mem_rest.2 ⟨hx, hdx⟩)).2.2
  refine ⟨h1.clt, fun x hx => hbis _ _ (h1.clt x hx) hx (hidem x hx), fun x y hx hy hb => ?_⟩
  have hd := h1.done_iff hG hq hx hy hb
  cases hdx : dn x with
  | true => exact (h1.eq_iff hx hy hdx (by rw [← hd]; exact hdx)).2 hb
  | false => exact h.bis x (mem_rest.2 ⟨hx, hdx⟩) y (mem_rest.2 ⟨hy, by rw [← hd]; exact hdx⟩) hb

/-- The root's class is the root. -/
theorem class_root {G : List Nd} {c : Nat → Nat} {dn : Nat → Bool} {fs : List Nat} (h1 : P1 G c dn fs) (h : P3 G c dn) (hn : 0 < G.length) (hp : ∀ x, x < G.length → ∃ t, nodeAt G 0 t = some x) : c 0 = 0 := by
  cases hd : dn 0 with
  | true =>
    obtain ⟨m, hb⟩ := h1.rep 0 hn hd
    obtain ⟨t, ht⟩ := hp (c 0) (h1.fst _ m).1
    exact fin_part hn (h1.fin 0 hn hd) ht hb
  | false =>
    have := (h.mem 0 (mem_rest.2 ⟨hn, hd⟩)).2.1
    omega

/-- How many nodes are their own class. -/
def fixes (c : Nat → Nat) (U : List Nat) : Nat := U.countP fun i => c i == i

theorem countP_lt {l : List Nat} {f g : Nat → Bool} (h : ∀ x ∈ l, f x = true → g x = true) {a : Nat} (ha : a ∈ l) (hf : f a = false) (hg : g a = true) : l.countP f < l.countP g := by
  induction l with
  | nil => cases ha
  | cons b l ih =>
    rw [List.countP_cons, List.countP_cons]
    have hmono : l.countP f ≤ l.countP g := List.countP_mono_left fun x hx => h x (List.mem_cons_of_mem _ hx)
    rcases List.mem_cons.1 ha with rfl | ha
    · rw [hf, hg]; simp; omega
    · have := ih (fun x hx => h x (List.mem_cons_of_mem _ hx)) ha
      have hb := h b (List.mem_cons_self ..)
      cases hfb : f b with
      | true => rw [hb hfb]; simp; exact this
      | false => simp; omega

theorem fixes_more {G : List Nd} {c c' : Nat → Nat} {dn : Nat → Bool} (h : P3 G c dn) (hc : ∀ i ∈ restOf G.length dn, c' i = rp (fineB G c) (restOf G.length dn) i) {i : Nat} (hi : i ∈ restOf G.length dn) (hne : c' i ≠ c i) :
    fixes c (restOf G.length dn) < fixes c' (restOf G.length dn) := by
  obtain ⟨a1, a2, a3⟩ := rp_spec (fine_eqv h) hi
  have ec := ((fineB_iff h hi a1).1 a3).1
  refine countP_lt (fun x hx hf => ?_) a1 ?_ ?_
  · have hf : c x = x := by simpa using hf
    obtain ⟨b1, b2, b3⟩ := rp_spec (fine_eqv h) hx
    have e := ((fineB_iff h hx b1).1 b3).1
    have := (h.mem _ b1).2.1
    have : c' x = x := by rw [hc x hx]; omega
    simpa using this
  · rw [beq_eq_false_iff_ne]
    intro e
    rw [e] at ec
    exact hne (by rw [hc i hi]; exact ec.symm)
  · rw [beq_iff_eq, hc _ a1]
    exact rp_idem (fine_eqv h) (rest_sorted _ _) hi
theorem fixes_le (c : Nat → Nat) (U : List Nat) : fixes c U ≤ U.length := List.countP_le_length
end Go.Ev
