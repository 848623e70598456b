/- Trees compared place by place: the mathematics. -/
namespace Go.Ev

/-- A node of a graph. -/
structure Nd where
  kind : Int
  num : Int
  label : ByteArray
  args : List Int

abbrev Face := Int × Nat × ByteArray × Int
def Nd.face (x : Nd) : Face := (x.kind, x.args.length, x.label, x.num)

def child (G : List Nd) (y i : Nat) : Option Nat := match G[y]? with
  | some n => n.args[i]?.map Int.toNat
  | none => none

/-- The node at a place; the children of the place t are 8t+1 to 8t+8. -/
def nodeAt (G : List Nd) (x : Nat) (t : Nat) : Option Nat :=
  if t = 0 then some x else (nodeAt G x ((t - 1) / 8)).bind fun y => child G y ((t - 1) % 8)
termination_by t
decreasing_by omega

theorem nodeAt_zero (G : List Nd) (x : Nat) : nodeAt G x 0 = some x := by rw [nodeAt]; simp
theorem nodeAt_child (G : List Nd) (x t i : Nat) (h : i < 8) : nodeAt G x (8 * t + i + 1) = (nodeAt G x t).bind fun y => child G y i := by
  rw [nodeAt, if_neg (by omega), show (8 * t + i + 1 - 1) / 8 = t by omega, show (8 * t + i + 1 - 1) % 8 = i by omega]

def faceOf (G : List Nd) (y : Nat) : Option Face := G[y]?.map Nd.face
def faceAt (G : List Nd) (x t : Nat) : Option Face := (nodeAt G x t).bind (faceOf G)

/-- The place that is at a place below a place. -/
def cat (s t : Nat) : Nat := if t = 0 then s else 8 * cat s ((t - 1) / 8) + (t - 1) % 8 + 1
termination_by t
decreasing_by omega

theorem cat_zero (s : Nat) : cat s 0 = s := by rw [cat]; simp
theorem cat_child (s t i : Nat) (h : i < 8) : cat s (8 * t + i + 1) = 8 * cat s t + i + 1 := by
  rw [cat, if_neg (by omega), show (8 * t + i + 1 - 1) / 8 = t by omega, show (8 * t + i + 1 - 1) % 8 = i by omega]

theorem place_cases (t : Nat) : t = 0 ∨ ∃ u i, i < 8 ∧ t = 8 * u + i + 1 ∧ u < t :=
  if h : t = 0 then .inl h else .inr ⟨(t - 1) / 8, (t - 1) % 8, by omega, by omega, by omega⟩

theorem cat_le (s t : Nat) : s ≤ cat s t := by
  induction t using Nat.strongRecOn with
  | ind t ih =>
    rcases place_cases t with rfl | ⟨u, i, hi, rfl, hu⟩
    · rw [cat_zero]; exact Nat.le_refl _
    · rw [cat_child _ _ _ hi]; have := ih u hu; omega

theorem cat_lt {s s' : Nat} (h : s < s') (t t' : Nat) (ht : t ≤ t') : cat s t < cat s' t' := by
  induction t' using Nat.strongRecOn generalizing t with
  | ind t' ih =>
    rcases place_cases t' with rfl | ⟨u', i', hi', rfl, hu'⟩
    · obtain rfl : t = 0 := by omega
      rw [cat_zero, cat_zero]; exact h
    · rcases place_cases t with rfl | ⟨u, i, hi, rfl, hu⟩
      · rw [cat_zero]; have := cat_le s' (8 * u' + i' + 1); omega
      · rw [cat_child _ _ _ hi, cat_child _ _ _ hi']
        have := ih u' hu' u (by omega)
        omega

theorem cat_mono {s s' : Nat} (h : s ≤ s') (t : Nat) : cat s t ≤ cat s' t := by
  rcases Nat.lt_or_ge s s' with h' | h'
  · exact Nat.le_of_lt (cat_lt h' t t (Nat.le_refl _))
  · obtain rfl : s = s' := by omega
    exact Nat.le_refl _

theorem cat_strict (s : Nat) {t t' : Nat} (h : t < t') : cat s t < cat s t' := by
  induction t' using Nat.strongRecOn generalizing t with
  | ind t' ih =>
    rcases place_cases t' with rfl | ⟨u', i', hi', rfl, hu'⟩
    · omega
    · rcases place_cases t with rfl | ⟨u, i, hi, rfl, hu⟩
      · rw [cat_zero, cat_child _ _ _ hi']; have := cat_le s u'; omega
      · rw [cat_child _ _ _ hi, cat_child _ _ _ hi']
        rcases Nat.lt_or_ge u u' with h1 | h1
        · have := ih u' hu' h1; omega
        · obtain rfl : u = u' := by omega
          omega

theorem nodeAt_cat (G : List Nd) (x s t : Nat) : nodeAt G x (cat s t) = (nodeAt G x s).bind fun y => nodeAt G y t := by
  induction t using Nat.strongRecOn with
  | ind t ih =>
    rcases place_cases t with rfl | ⟨u, i, hi, rfl, hu⟩
    · rw [cat_zero]; cases nodeAt G x s <;> simp [nodeAt_zero]
    · rw [cat_child _ _ _ hi, nodeAt_child _ _ _ _ hi, ih u hu]
      cases nodeAt G x s with
      | none => rfl
      | some y => simp [nodeAt_child _ _ _ _ hi]

theorem faceAt_cat {G : List Nd} {x y s : Nat} (t : Nat) (h : nodeAt G x s = some y) : faceAt G x (cat s t) = faceAt G y t := by
  unfold faceAt
  rw [nodeAt_cat, h]
  rfl
theorem faceAt_zero (G : List Nd) (x : Nat) : faceAt G x 0 = faceOf G x := by unfold faceAt; rw [nodeAt_zero]; rfl
theorem faceAt_node {G : List Nd} {x y s : Nat} (h : nodeAt G x s = some y) : faceAt G x s = faceOf G y := by unfold faceAt; rw [h]; rfl

/-- All arguments are nodes, and there are at most 8. -/
def GClosed (G : List Nd) : Prop := ∀ n ∈ G, n.args.length ≤ 8 ∧ ∀ a ∈ n.args, 0 ≤ a ∧ a < G.length

theorem child_some {G : List Nd} (hG : GClosed G) {y i z : Nat} (h : child G y i = some z) : z < G.length ∧ i < 8 := by
  unfold child at h
  cases hy : G[y]? with
  | none => rw [hy] at h; cases h
  | some n =>
    rw [hy] at h
    obtain ⟨h8, hb⟩ := hG n (List.mem_of_getElem? hy)
    cases ha : n.args[i]? with
    | none => simp only [ha] at h; cases h
    | some a =>
      simp only [ha, Option.map_some] at h
      obtain rfl := Option.some.inj h
      have := hb a (List.mem_of_getElem? ha)
      have := (List.getElem?_eq_some_iff.1 ha).1
      omega

theorem nodeAt_lt {G : List Nd} (hG : GClosed G) {x : Nat} (hx : x < G.length) {t y : Nat} (h : nodeAt G x t = some y) : y < G.length := by
  rcases place_cases t with rfl | ⟨u, i, hi, rfl, hu⟩
  · rw [nodeAt_zero] at h; obtain rfl := Option.some.inj h; exact hx
  · rw [nodeAt_child _ _ _ _ hi] at h
    cases hn : nodeAt G x u with
    | none => rw [hn] at h; cases h
    | some z => rw [hn] at h; exact (child_some hG h).1

theorem faceOf_some {G : List Nd} {y : Nat} (h : y < G.length) : ∃ n, G[y]? = some n ∧ faceOf G y = some n.face :=
  ⟨G[y], List.getElem?_eq_getElem h, by unfold faceOf; rw [List.getElem?_eq_getElem h]; rfl⟩

/-- Where the trees agree above a place, both have it or none. -/
theorem both_or_none {A B : List Nd} (hA : GClosed A) (hB : GClosed B) {x y : Nat} (hx : x < A.length) (hy : y < B.length) {t : Nat}
    (h : ∀ u, u < t → faceAt A x u = faceAt B y u) : (nodeAt A x t).isSome = (nodeAt B y t).isSome := by
  rcases place_cases t with rfl | ⟨u, i, hi, rfl, hu⟩
  · rw [nodeAt_zero, nodeAt_zero]; rfl
  · rw [nodeAt_child _ _ _ _ hi, nodeAt_child _ _ _ _ hi]
    have hf := h u hu
    cases h1 : nodeAt A x u with
    | none =>
      cases h2 : nodeAt B y u with
      | none => rfl
      | some z =>
        obtain ⟨n, hn, hfn⟩ := faceOf_some (nodeAt_lt hB hy h2)
        rw [faceAt_node h2, hfn] at hf
        unfold faceAt at hf; rw [h1] at hf; cases hf
    | some z =>
      obtain ⟨n, hn, hfn⟩ := faceOf_some (nodeAt_lt hA hx h1)
      cases h2 : nodeAt B y u with
      | none =>
        rw [faceAt_node h1, hfn] at hf
        unfold faceAt at hf; rw [h2] at hf; cases hf
      | some z' =>
        obtain ⟨n', hn', hfn'⟩ := faceOf_some (nodeAt_lt hB hy h2)
        rw [faceAt_node h1, faceAt_node h2, hfn, hfn'] at hf
        have he : n.args.length = n'.args.length := by
          have := Option.some.inj hf
          unfold Nd.face at this
          injection this with _ h2
          injection h2 with h3 _
        show (child A z i).isSome = (child B z' i).isSome
        unfold child
        rw [hn, hn']
        simp only [Option.isSome_map]
        by_cases hl : i < n.args.length
        · rw [List.getElem?_eq_getElem hl, List.getElem?_eq_getElem (by omega)]; rfl
        · rw [List.getElem?_eq_none (by omega), List.getElem?_eq_none (by omega)]

/-- A comparison of faces. -/
structure FaceOrder (fc : Face → Face → Int) : Prop where
  three : ∀ f g, fc f g = -1 ∨ fc f g = 0 ∨ fc f g = 1
  eq : ∀ f g, fc f g = 0 ↔ f = g
  neg : ∀ f g, fc g f = - fc f g
  trans : ∀ f g h, fc f g = -1 → fc g h = -1 → fc f h = -1

/-- The first place at which two trees differ. -/
def FD (A : List Nd) (x : Nat) (B : List Nd) (y t : Nat) : Prop := (∀ u, u < t → faceAt A x u = faceAt B y u) ∧ faceAt A x t ≠ faceAt B y t

/-- What comparing two trees gives. -/
def Cmp (fc : Face → Face → Int) (A : List Nd) (x : Nat) (B : List Nd) (y : Nat) (c : Int) : Prop :=
  (c = 0 ∧ ∀ t, faceAt A x t = faceAt B y t) ∨ ∃ t f g, FD A x B y t ∧ faceAt A x t = some f ∧ faceAt B y t = some g ∧ c = fc f g

variable {fc : Face → Face → Int}

theorem Cmp.three (hf : FaceOrder fc) {A B : List Nd} {x y : Nat} {c : Int} (h : Cmp fc A x B y c) : c = -1 ∨ c = 0 ∨ c = 1 := by
  rcases h with ⟨rfl, _⟩ | ⟨_, f, g, _, _, _, rfl⟩
  · exact .inr (.inl rfl)
  · exact hf.three f g

theorem Cmp.ne (hf : FaceOrder fc) {f g : Face} {A B : List Nd} {x y t : Nat} (h : FD A x B y t) (h1 : faceAt A x t = some f) (h2 : faceAt B y t = some g) : fc f g ≠ 0 :=
  fun e => h.2 (by rw [h1, h2, (hf.eq f g).1 e])

/-- The result of comparing is one. -/
theorem Cmp.unique (_hf : FaceOrder fc) {A B : List Nd} {x y : Nat} {c d : Int} (h : Cmp fc A x B y c) (h' : Cmp fc A x B y d) : c = d := by
  rcases h with ⟨rfl, ha⟩ | ⟨t, f, g, h1, h2, h3, rfl⟩
  · rcases h' with ⟨rfl, _⟩ | ⟨t, f, g, h1, h2, h3, rfl⟩
    · rfl
    · exact absurd (ha t) h1.2
  · rcases h' with ⟨rfl, ha⟩ | ⟨t', f', g', k1, k2, k3, rfl⟩
    · exact absurd (ha t) h1.2
    · obtain rfl : t = t' := by
        rcases Nat.lt_trichotomy t t' with h | h | h
        · exact absurd (k1.1 t h) h1.2
        · exact h
        · exact absurd (h1.1 t' h) k1.2
      rw [h2] at k2; rw [h3] at k3
      obtain rfl := Option.some.inj k2
      obtain rfl := Option.some.inj k3
      rfl

theorem Cmp.swap (hf : FaceOrder fc) {A B : List Nd} {x y : Nat} {c : Int} (h : Cmp fc A x B y c) : Cmp fc B y A x (-c) := by
  rcases h with ⟨rfl, ha⟩ | ⟨t, f, g, h1, h2, h3, rfl⟩
  · exact .inl ⟨rfl, fun t => (ha t).symm⟩
  · exact .inr ⟨t, g, f, ⟨fun u hu => (h1.1 u hu).symm, fun e => h1.2 e.symm⟩, h3, h2, (hf.neg f g).symm⟩

/-- Comparing three trees. -/
theorem Cmp.trans (hf : FaceOrder fc) {A B C : List Nd} {x y z : Nat} {c d : Int} (h : Cmp fc A x B y c) (h' : Cmp fc B y C z d) :
    (c = 0 → Cmp fc A x C z d) ∧ (d = 0 → Cmp fc A x C z c) ∧ (c = -1 → d = -1 → Cmp fc A x C z (-1)) ∧ (c = 1 → d = 1 → Cmp fc A x C z 1) := by
  rcases h with ⟨rfl, ha⟩ | ⟨t, f, g, h1, h2, h3, rfl⟩
  · rcases h' with ⟨rfl, hb⟩ | ⟨t', f', g', k1, k2, k3, rfl⟩
    · refine ⟨fun _ => .inl ⟨rfl, fun t => (ha t).trans (hb t)⟩, fun _ => .inl ⟨rfl, fun t => (ha t).trans (hb t)⟩, fun e => by omega, fun e => by omega⟩
    · refine ⟨fun _ => .inr ⟨t', f', g', ⟨fun u hu => (ha u).trans (k1.1 u hu), fun e => k1.2 ((ha t').symm.trans e)⟩, (ha t').trans k2, k3, rfl⟩, fun e => absurd e (Cmp.ne hf k1 k2 k3), fun e => by omega, fun e => by omega⟩
  · have hne := Cmp.ne hf h1 h2 h3
    rcases h' with ⟨rfl, hb⟩ | ⟨t', f', g', k1, k2, k3, rfl⟩
    · refine ⟨fun e => absurd e hne, fun _ => .inr ⟨t, f, g, ⟨fun u hu => (h1.1 u hu).trans (hb u), fun e => h1.2 (e.trans (hb t).symm)⟩, h2, (hb t).symm.trans h3, rfl⟩, fun _ e => by omega, fun _ e => by omega⟩
    · have hne' := Cmp.ne hf k1 k2 k3
      have all : ∀ s : Int, (s = -1 ∨ s = 1) → fc f g = s → fc f' g' = s → Cmp fc A x C z s := by
        intro s hs e1 e2
        rcases Nat.lt_trichotomy t t' with h | h | h
        · have hz : faceAt C z t = some g := (k1.1 t h).symm.trans h3
          exact .inr ⟨t, f, g, ⟨fun u hu => (h1.1 u hu).trans (k1.1 u (by omega)), fun e => h1.2 (e.trans (k1.1 t h).symm)⟩, h2, hz, e1.symm⟩
        · subst h
          rw [h3] at k2
          obtain rfl := Option.some.inj k2
          have hfg : fc f g' = s := by
            rcases hs with rfl | rfl
            · exact hf.trans _ _ _ e1 e2
            · have a1 := hf.neg f g
              have a2 := hf.neg g g'
              have a3 := hf.neg f g'
              have := hf.trans g' g f (by omega) (by omega)
              omega
          refine .inr ⟨t, f, g', ⟨fun u hu => (h1.1 u hu).trans (k1.1 u hu), fun e => ?_⟩, h2, k3, hfg.symm⟩
          rw [h2, k3] at e
          have := (hf.eq f g').2 (Option.some.inj e)
          omega
        · have hz : faceAt A x t' = some f' := (h1.1 t' h).trans k2
          exact .inr ⟨t', f', g', ⟨fun u hu => (h1.1 u (by omega)).trans (k1.1 u hu), fun e => k1.2 ((h1.1 t' h).symm.trans e)⟩, hz, k3, e2.symm⟩
      exact ⟨fun e => absurd e hne, fun e => absurd e hne', fun e1 e2 => all (-1) (.inl rfl) e1 e2, fun e1 e2 => all 1 (.inr rfl) e1 e2⟩

theorem cat_root (t : Nat) : cat 0 t = t := by
  induction t using Nat.strongRecOn with
  | ind t ih =>
    rcases place_cases t with rfl | ⟨u, i, hi, rfl, hu⟩
    · rw [cat_zero]
    · rw [cat_child _ _ _ hi, ih u hu]

theorem first_diff {A B : List Nd} {x y : Nat} : ∀ p : Nat, faceAt A x p ≠ faceAt B y p → ∃ t, t ≤ p ∧ FD A x B y t := by
  intro p
  induction p using Nat.strongRecOn with
  | ind p ih =>
    intro hd
    by_cases hb : ∃ u, u < p ∧ faceAt A x u ≠ faceAt B y u
    · obtain ⟨u, hu, hn⟩ := hb
      obtain ⟨t, h1, h2⟩ := ih u hu hn
      exact ⟨t, by omega, h2⟩
    · exact ⟨p, Nat.le_refl _, fun u hu => by
        apply Decidable.byContradiction
        intro hn
        exact hb ⟨u, hu, hn⟩, hd⟩

/-- A node of one of two graphs, counted through. -/
def faceN (A B : List Nd) (u t : Nat) : Option Face := if u < A.length then faceAt A u t else faceAt B (u - A.length) t

/-- What holds while trees are compared: the places that are left, and which nodes are linked. -/
structure OInv (A B : List Nd) (ra rb : Nat) (ρ : Nat → Nat) (Q : List (Nat × Nat × Nat)) (now : Nat) : Prop where
  at_ : ∀ q ∈ Q, nodeAt A ra q.2.2 = some q.1 ∧ nodeAt B rb q.2.2 = some q.2.1 ∧ now ≤ q.2.2 ∧ q.2.2 ≤ 8 * now
  sorted : Q.Pairwise fun q q' => q.2.2 < q'.2.2
  below : ∀ t, FD A ra B rb t → ∃ q ∈ Q, ∃ r, t = cat q.2.2 r
  linked : ∀ t, FD A ra B rb t → ∀ u v, u < A.length + B.length → v < A.length + B.length → ρ u = ρ v → ∀ r, cat now r ≤ t → faceN A B u r = faceN A B v r

section
variable {A B : List Nd} {ra rb : Nat} {ρ : Nat → Nat} {Q : List (Nat × Nat × Nat)} {now x y p : Nat}

theorem OInv.start (hinj : ∀ u v, u < A.length + B.length → v < A.length + B.length → ρ u = ρ v → u = v) : OInv A B ra rb ρ [(ra, rb, 0)] 0 where
  at_ := by
    intro q hq
    obtain rfl := List.mem_singleton.1 hq
    exact ⟨nodeAt_zero _ _, nodeAt_zero _ _, Nat.le_refl _, Nat.le_refl _⟩
  sorted := List.pairwise_singleton _ _
  below := fun t _ => ⟨_, List.mem_singleton.2 rfl, t, by
    show t = cat 0 t
    rw [cat_root]⟩
  linked := fun t _ u v hu hv h r _ => by rw [hinj u v hu hv h]

theorem faceN_left (hx : x < A.length) (r : Nat) : faceN A B x r = faceAt A x r := if_pos hx
theorem faceN_right (r : Nat) : faceN A B (A.length + y) r = faceAt B y r := by
  unfold faceN
  rw [if_neg (by omega), show A.length + y - A.length = y by omega]

/-- The trees at a place agree as long as those from the roots do. -/
theorem OInv.same (h : OInv A B ra rb ρ ((x, y, p) :: Q) now) {t r : Nat} (ht : FD A ra B rb t) (hr : cat p r < t) : faceAt A x r = faceAt B y r := by
  obtain ⟨h1, h2, _, _⟩ := h.at_ _ (List.mem_cons_self ..)
  have := ht.1 _ hr
  rwa [faceAt_cat r h1, faceAt_cat r h2] at this

/-- A place is passed over if its nodes are linked. -/
theorem OInv.skip (hA : GClosed A) (hB : GClosed B) (hra : ra < A.length) (hrb : rb < B.length) (h : OInv A B ra rb ρ ((x, y, p) :: Q) now) (hl : ρ x = ρ (A.length + y)) : OInv A B ra rb ρ Q (p + 1) where
  at_ := by
    intro q hq
    obtain ⟨h1, h2, h3, h4⟩ := h.at_ q (List.mem_cons_of_mem _ hq)
    have h5 := (List.pairwise_cons.1 h.sorted).1 q hq
    have h6 := h.at_ _ (List.mem_cons_self ..)
    simp only at h5 h6
    exact ⟨h1, h2, by omega, by omega⟩
  sorted := (List.pairwise_cons.1 h.sorted).2
  below := by
    intro t ht
    obtain ⟨q, hq, r, hr⟩ := h.below t ht
    rcases List.mem_cons.1 hq with rfl | hq
    · obtain ⟨h1, h2, h3, _⟩ := h.at_ _ (List.mem_cons_self ..)
      have hx := nodeAt_lt hA hra h1
      have hy := nodeAt_lt hB hrb h2
      simp only at hr h1 h2 h3 hx hy
      have := h.linked t ht x (A.length + y) (by omega) (by omega) hl r (by rw [hr]; exact cat_mono h3 r)
      rw [faceN_left hx, faceN_right] at this
      refine absurd ?_ ht.2
      rw [hr, faceAt_cat r h1, faceAt_cat r h2]
      exact this
    · exact ⟨q, hq, r, hr⟩
  linked := by
    intro t ht u v hu hv huv r hr
    have h3 := (h.at_ _ (List.mem_cons_self ..)).2.2.1
    exact h.linked t ht u v hu hv huv r (Nat.le_trans (cat_mono (by simp only at h3; omega) r) hr)

/-- A place whose nodes differ is the first one. -/
theorem OInv.differ (_hA : GClosed A) (_hB : GClosed B) (_hra : ra < A.length) (_hrb : rb < B.length) (h : OInv A B ra rb ρ ((x, y, p) :: Q) now) (hne : faceOf A x ≠ faceOf B y) : FD A ra B rb p := by
  obtain ⟨h1, h2, _, _⟩ := h.at_ _ (List.mem_cons_self ..)
  have hd : faceAt A ra p ≠ faceAt B rb p := by rw [faceAt_node h1, faceAt_node h2]; exact hne
  have hex : ∃ t, t ≤ p ∧ FD A ra B rb t := first_diff p hd
  obtain ⟨t, htp, ht⟩ := hex
  obtain ⟨q, hq, r, hr⟩ := h.below t ht
  have hpq : p ≤ q.2.2 := by
    rcases List.mem_cons.1 hq with rfl | hq
    · exact Nat.le_refl _
    · exact Nat.le_of_lt ((List.pairwise_cons.1 h.sorted).1 q hq)
  have := cat_le q.2.2 r
  obtain rfl : t = p := by omega
  exact ht

/-- Nothing is left: the trees are the same. -/
theorem OInv.none (h : OInv A B ra rb ρ [] now) (t : Nat) : faceAt A ra t = faceAt B rb t := by
  apply Decidable.byContradiction
  intro hd
  obtain ⟨t, _, ht⟩ := first_diff t hd
  obtain ⟨q, hq, _⟩ := h.below t ht
  cases hq

/-- The places below a place. -/
def under (as bs : List Int) (p : Nat) : List (Nat × Nat × Nat) := (List.range as.length).map fun i => ((as.getD i 0).toNat, (bs.getD i 0).toNat, 8 * p + i + 1)

theorem under_mem {as bs : List Int} {q : Nat × Nat × Nat} : q ∈ under as bs p ↔ ∃ i, i < as.length ∧ q = ((as.getD i 0).toNat, (bs.getD i 0).toNat, 8 * p + i + 1) := by
  unfold under
  rw [List.mem_map]
  constructor
  · rintro ⟨i, hi, rfl⟩; exact ⟨i, by simpa using hi, rfl⟩
  · rintro ⟨i, hi, rfl⟩; exact ⟨i, by simpa using hi, rfl⟩

/-- A place whose nodes look the same: the places below it are left, and its nodes are linked. -/
theorem OInv.go (hA : GClosed A) (hB : GClosed B) (hra : ra < A.length) (hrb : rb < B.length) (h : OInv A B ra rb ρ ((x, y, p) :: Q) now) {a b : Nd} (ha : A[x]? = some a) (hb : B[y]? = some b)
    (hf : a.face = b.face) {ρ' : Nat → Nat} (hρ : ∀ u v, u < A.length + B.length → v < A.length + B.length → ρ' u = ρ' v → ρ u = ρ v ∨ (ρ u = ρ x ∧ ρ v = ρ (A.length + y)) ∨ (ρ u = ρ (A.length + y) ∧ ρ v = ρ x)) :
    OInv A B ra rb ρ' (Q ++ under a.args b.args p) (p + 1) := by
  obtain ⟨h1, h2, h3, h4⟩ := h.at_ _ (List.mem_cons_self ..)
  simp only at h1 h2 h3 h4
  have hx := nodeAt_lt hA hra h1
  have hy := nodeAt_lt hB hrb h2
  have hle : a.args.length = b.args.length := by
    unfold Nd.face at hf
    injection hf with _ h2
    injection h2 with h3 _
  have h8 := (hA a (List.mem_of_getElem? ha)).1
  refine ⟨?_, ?_, ?_, ?_⟩
  · intro q hq
    rcases List.mem_append.1 hq with hq | hq
    · obtain ⟨k1, k2, k3, k4⟩ := h.at_ q (List.mem_cons_of_mem _ hq)
      have h5 := (List.pairwise_cons.1 h.sorted).1 q hq
      simp only at h5
      exact ⟨k1, k2, by omega, by omega⟩
    · obtain ⟨i, hi, rfl⟩ := under_mem.1 hq
      refine ⟨?_, ?_, by show p + 1 ≤ 8 * p + i + 1; omega, by show 8 * p + i + 1 ≤ 8 * (p + 1); omega⟩
      · show nodeAt A ra (8 * p + i + 1) = some _
        rw [nodeAt_child _ _ _ _ (by omega), h1]
        show child A x i = _
        unfold child
        rw [ha]
        simp [List.getElem?_eq_getElem hi]
      · show nodeAt B rb (8 * p + i + 1) = some _
        rw [nodeAt_child _ _ _ _ (by omega), h2]
        show child B y i = _
        unfold child
        rw [hb]
        simp [List.getElem?_eq_getElem (show i < b.args.length by omega)]
  · rw [List.pairwise_append]
    refine ⟨(List.pairwise_cons.1 h.sorted).2, ?_, ?_⟩
    · unfold under
      rw [List.pairwise_map]
      refine List.Pairwise.imp ?_ List.pairwise_lt_range
      intro i j hij
      show 8 * p + i + 1 < 8 * p + j + 1
      omega
    · intro q hq q' hq'
      obtain ⟨i, hi, rfl⟩ := under_mem.1 hq'
      have := (h.at_ q (List.mem_cons_of_mem _ hq)).2.2.2
      show q.2.2 < 8 * p + i + 1
      omega
  · intro t ht
    obtain ⟨q, hq, r, hr⟩ := h.below t ht
    rcases List.mem_cons.1 hq with rfl | hq
    · simp only at hr
      rcases place_cases r with rfl | ⟨u, i, hi, rfl, hu⟩
      · rw [cat_zero] at hr
        subst hr
        refine absurd ?_ ht.2
        rw [faceAt_node h1, faceAt_node h2]
        unfold faceOf
        rw [ha, hb]
        show some a.face = some b.face
        rw [hf]
      · -- the first step of the way down from p
        have key : ∀ r, r ≠ 0 → ∃ i s, i < 8 ∧ ∀ p, cat p r = cat (8 * p + i + 1) s := by
          intro r
          induction r using Nat.strongRecOn with
          | ind r ih =>
            intro hr0
            rcases place_cases r with rfl | ⟨u, i, hi, rfl, hu⟩
            · exact absurd rfl hr0
            · by_cases hu0 : u = 0
              · subst hu0
                exact ⟨i, 0, hi, fun p => by rw [cat_child _ _ _ hi, cat_zero, cat_zero]⟩
              · obtain ⟨j, s, hj, hs⟩ := ih u hu hu0
                exact ⟨j, 8 * s + i + 1, hj, fun p => by rw [cat_child _ _ _ hi, cat_child _ _ _ hi, hs p]⟩
        obtain ⟨j, s, hj, hs⟩ := key (8 * u + i + 1) (by omega)
        rw [hs p] at hr
        -- there is such a place, since the trees differ below it
        by_cases hjl : j < a.args.length
        · exact ⟨_, List.mem_append_right _ (under_mem.2 ⟨j, hjl, rfl⟩), s, hr⟩
        · exfalso
          refine ht.2 ?_
          have n1 : nodeAt A ra (8 * p + j + 1) = Option.none := by
            rw [nodeAt_child _ _ _ _ hj, h1]
            show child A x j = Option.none
            unfold child; rw [ha]; simp; omega
          have n2 : nodeAt B rb (8 * p + j + 1) = Option.none := by
            rw [nodeAt_child _ _ _ _ hj, h2]
            show child B y j = Option.none
            unfold child; rw [hb]; simp; omega
          rw [hr]
          unfold faceAt
          rw [nodeAt_cat, nodeAt_cat, n1, n2]
          rfl
    · exact ⟨q, List.mem_append_left _ hq, r, hr⟩
  · intro t ht u v hu hv huv r hr
    have hr' : cat now r ≤ t := Nat.le_trans (cat_mono (by omega) r) hr
    have hxy : faceN A B x r = faceN A B (A.length + y) r := by
      rw [faceN_left hx, faceN_right]
      exact h.same ht (Nat.lt_of_lt_of_le (cat_lt (Nat.lt_succ_self p) r r (Nat.le_refl _)) hr)
    have L := h.linked t ht
    rcases hρ u v hu hv huv with e | ⟨e1, e2⟩ | ⟨e1, e2⟩
    · exact L u v hu hv e r hr'
    · exact (L u x hu (by omega) e1 r hr').trans (hxy.trans (L v (A.length + y) hv (by omega) e2 r hr').symm)
    · exact (L u (A.length + y) hu (by omega) e1 r hr').trans (hxy.symm.trans (L v x hv (by omega) e2 r hr').symm)
end
end Go.Ev
