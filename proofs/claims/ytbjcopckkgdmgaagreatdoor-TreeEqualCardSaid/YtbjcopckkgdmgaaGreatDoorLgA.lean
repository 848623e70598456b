import Derived.Test.YtbjcopckkgdmgaaGreatDoorOr1
/- Least graphs: the mathematics of walking a graph depth first. -/
namespace Go.Ev

/-- The arguments of a node, as numbers. -/
def argsAt (G : List Nd) (x : Nat) : List Nat := match G[x]? with
  | some n => n.args.map Int.toNat
  | none => []

/-- Nodes met depth first: what is on the stack, and what has been met. -/
def dfs (G : List Nd) : Nat → List Nat → List Nat → List Nat
  | 0, _, out => out
  | _ + 1, [], out => out
  | k + 1, x :: st, out => if x ∈ out then dfs G k st out else dfs G k (argsAt G x ++ st) (out ++ [x])

def reach (G : List Nd) (r : Nat) : List Nat := dfs G (9 * G.length + 1) [r] []

/-- Two lists, related one by one. -/
inductive Two {α β : Type} (R : α → β → Prop) : List α → List β → Prop where
  | nil : Two R [] []
  | cons {a b l m} : R a b → Two R l m → Two R (a :: l) (b :: m)

theorem Two.length {α β : Type} {R : α → β → Prop} {l : List α} {m : List β} (h : Two R l m) : l.length = m.length := by
  induction h with
  | nil => rfl
  | cons _ _ ih => simp [ih]
theorem Two.append {α β : Type} {R : α → β → Prop} {l l' : List α} {m m' : List β} (h : Two R l m) (h' : Two R l' m') : Two R (l ++ l') (m ++ m') := by
  induction h with
  | nil => exact h'
  | cons hr _ ih => exact .cons hr ih
theorem Two.get {α β : Type} {R : α → β → Prop} {l : List α} {m : List β} (h : Two R l m) {i : Nat} {a : α} {b : β} (ha : l[i]? = some a) (hb : m[i]? = some b) : R a b := by
  induction h generalizing i with
  | nil => simp at ha
  | cons hr _ ih =>
    cases i with
    | zero => simp at ha hb; subst ha; subst hb; exact hr
    | succ i => exact ih (by simpa using ha) (by simpa using hb)
theorem Two.of_get {α β : Type} {R : α → β → Prop} : ∀ {l : List α} {m : List β}, l.length = m.length → (∀ (i : Nat) a b, l[i]? = some a → m[i]? = some b → R a b) → Two R l m
  | [], [], _, _ => .nil
  | a :: l, b :: m, h, hr => .cons (hr 0 a b rfl rfl) (Two.of_get (by simpa using h) fun i x y hx hy => hr (i + 1) x y (by simpa using hx) (by simpa using hy))
  | [], _ :: _, h, _ => by simp at h
  | _ :: _, [], h, _ => by simp at h
theorem Two.mono {α β : Type} {R S : α → β → Prop} {l : List α} {m : List β} (h : Two R l m) (hs : ∀ a b, R a b → S a b) : Two S l m := by
  induction h with
  | nil => exact .nil
  | cons hr _ ih => exact .cons (hs _ _ hr) ih
theorem Two.mem {α β : Type} {R : α → β → Prop} {l : List α} {m : List β} (h : Two R l m) (hu : ∀ a b a' b', R a b → R a' b' → (a = a' ↔ b = b')) {x : α} {y : β} (hxy : R x y) : x ∈ l ↔ y ∈ m := by
  induction h with
  | nil => simp
  | cons hr _ ih => rw [List.mem_cons, List.mem_cons, hu _ _ _ _ hxy hr, ih]

/-- WALKING TWO GRAPHS IN STEP. -/
theorem dfs_two {G G' : List Nd} {R : Nat → Nat → Prop} (hu : ∀ a b a' b', R a b → R a' b' → (a = a' ↔ b = b')) (ha : ∀ x y, R x y → Two R (argsAt G x) (argsAt G' y)) :
    ∀ (k : Nat) (st st' out out' : List Nat), Two R st st' → Two R out out' → Two R (dfs G k st out) (dfs G' k st' out')
  | 0, _, _, _, _, _, h => h
  | k + 1, _, _, _, _, .nil, h => h
  | k + 1, x :: st, y :: st', out, out', .cons hxy hs, h => by
    have hm := h.mem hu hxy
    unfold dfs
    by_cases hx : x ∈ out
    · rw [if_pos hx, if_pos (hm.1 hx)]
      exact dfs_two hu ha k st st' out out' hs h
    · rw [if_neg hx, if_neg (fun hy => hx (hm.2 hy))]
      exact dfs_two hu ha k _ _ _ _ ((ha x y hxy).append hs) (h.append (.cons hxy .nil))

theorem nodup_le : ∀ (n : Nat) (l : List Nat), l.Nodup → (∀ x ∈ l, x < n) → l.length ≤ n
  | 0, l, _, h => by
    cases l with
    | nil => exact Nat.le_refl _
    | cons a l => exact absurd (h a (List.mem_cons_self ..)) (Nat.not_lt_zero _)
  | n + 1, l, hn, h => by
    by_cases hm : n ∈ l
    · have h1 := nodup_le n (l.erase n) (hn.erase n) fun x hx => by
        have h2 := (hn.mem_erase_iff).1 hx
        have := h x h2.2
        omega
      rw [List.length_erase_of_mem hm] at h1
      omega
    · exact Nat.le_trans (nodup_le n l hn fun x hx => by
        have := h x hx
        have : x ≠ n := fun e => hm (e ▸ hx)
        omega) (Nat.le_succ n)

/-- More steps than there are change nothing. -/
theorem dfs_enough {G : List Nd} (hG : GClosed G) : ∀ (k : Nat) (st out : List Nat), (∀ x ∈ st, x < G.length) → out.Nodup → (∀ x ∈ out, x < G.length) → 9 * (G.length - out.length) + st.length ≤ k → ∀ j, k ≤ j → dfs G j st out = dfs G k st out
  | 0, st, out, _, _, _, hk, j, _ => by
    have : st = [] := List.length_eq_zero_iff.1 (by omega)
    subst this
    cases j <;> rfl
  | k + 1, [], out, _, _, _, _, j, _ => by cases j <;> rfl
  | k + 1, x :: st, out, hs, hn, ho, hk, j, hj => by
    obtain ⟨j, rfl⟩ : ∃ i, j = i + 1 := ⟨j - 1, by omega⟩
    unfold dfs
    simp only [List.length_cons] at hk
    by_cases hx : x ∈ out
    · rw [if_pos hx, if_pos hx]
      exact dfs_enough hG k st out (fun y hy => hs y (List.mem_cons_of_mem _ hy)) hn ho (by omega) j (by omega)
    · rw [if_neg hx, if_neg hx]
      have hxl := hs x (List.mem_cons_self ..)
      have h8 : (argsAt G x).length ≤ 8 ∧ ∀ y ∈ argsAt G x, y < G.length := by
        unfold argsAt
        rw [List.getElem?_eq_getElem hxl]
        obtain ⟨h1, h2⟩ := hG G[x] (List.getElem_mem hxl)
        refine ⟨by simpa using h1, fun y hy => ?_⟩
        obtain ⟨a, ha, rfl⟩ := List.mem_map.1 hy
        have := h2 a ha
        omega
      have hn' : (out ++ [x]).Nodup := by
        rw [List.nodup_append]
        exact ⟨hn, by simp, fun a ha b hb => by rw [List.mem_singleton.1 hb]; exact fun e => hx (e ▸ ha)⟩
      have hlen : (out ++ [x]).length ≤ G.length := by
        refine nodup_le _ _ hn' fun y hy => ?_
        rcases List.mem_append.1 hy with hy | hy
        · exact ho y hy
        · rw [List.mem_singleton.1 hy]; exact hxl
      refine dfs_enough hG k _ _ (fun y hy => ?_) hn' (fun y hy => ?_) ?_ j (by omega)
      · rcases List.mem_append.1 hy with hy | hy
        · exact h8.2 y hy
        · exact hs y (List.mem_cons_of_mem _ hy)
      · rcases List.mem_append.1 hy with hy | hy
        · exact ho y hy
        · rw [List.mem_singleton.1 hy]; exact hxl
      · simp only [List.length_append, List.length_cons, List.length_nil] at hlen ⊢
        omega

/-- The trees of two nodes are the same. -/
def Bis (G : List Nd) (x : Nat) (G' : List Nd) (y : Nat) : Prop := ∀ t, faceAt G x t = faceAt G' y t
theorem Bis.refl (G : List Nd) (x : Nat) : Bis G x G x := fun _ => rfl
theorem Bis.symm {G G' : List Nd} {x y : Nat} (h : Bis G x G' y) : Bis G' y G x := fun t => (h t).symm
theorem Bis.trans {G G' G'' : List Nd} {x y z : Nat} (h : Bis G x G' y) (h' : Bis G' y G'' z) : Bis G x G'' z := fun t => (h t).trans (h' t)

theorem nodeAt_first (G : List Nd) (x i s : Nat) (hi : i < 8) : nodeAt G x (cat (8 * 0 + i + 1) s) = (child G x i).bind fun y => nodeAt G y s := by
  rw [nodeAt_cat, nodeAt_child _ _ _ _ hi, nodeAt_zero]
  rfl
theorem faceAt_first {G : List Nd} {x y i : Nat} (s : Nat) (hi : i < 8) (h : child G x i = some y) : faceAt G x (cat (8 * 0 + i + 1) s) = faceAt G y s := by
  unfold faceAt
  rw [nodeAt_first _ _ _ _ hi, h]
  rfl

theorem child_args {G : List Nd} {x i : Nat} : child G x i = (argsAt G x)[i]? := by
  unfold child argsAt
  cases G[x]? with
  | none => rfl
  | some n => simp

theorem args_len {G : List Nd} {x : Nat} {f : Face} (h : faceOf G x = some f) : (argsAt G x).length = f.2.1 := by
  unfold faceOf at h
  cases hx : G[x]? with
  | none => rw [hx] at h; cases h
  | some n =>
    rw [hx] at h
    have := Option.some.inj h
    subst this
    unfold argsAt
    rw [hx]
    simp [Nd.face]

/-- Trees that are the same have arguments that are the same. -/
theorem Bis.args {G G' : List Nd} (hG : GClosed G) (_hG' : GClosed G') {x y : Nat} (hx : x < G.length) (hy : y < G'.length) (h : Bis G x G' y) : Two (fun a b => Bis G a G' b) (argsAt G x) (argsAt G' y) := by
  have h0 := h 0
  rw [faceAt_zero, faceAt_zero] at h0
  obtain ⟨n, hn, hfn⟩ := faceOf_some hx
  obtain ⟨n', hn', hfn'⟩ := faceOf_some hy
  have hff : n.face = n'.face := by rw [hfn, hfn'] at h0; exact Option.some.inj h0
  have hl : (argsAt G x).length = (argsAt G' y).length := by rw [args_len hfn, args_len hfn', hff]
  refine Two.of_get hl fun i a b ha hb => ?_
  have hca : child G x i = some a := child_args.trans ha
  have hcb : child G' y i = some b := child_args.trans hb
  have hi := (child_some hG hca).2
  intro s
  have := h (cat (8 * 0 + i + 1) s)
  rwa [faceAt_first s hi hca, faceAt_first s hi hcb] at this

/-- From relation by relation: a relation that keeps faces and arguments makes trees the same. -/
theorem bis_of {G G' : List Nd} {R : Nat → Nat → Prop} (hf : ∀ x y, R x y → faceOf G x = faceOf G' y) (ha : ∀ x y, R x y → Two R (argsAt G x) (argsAt G' y)) {x y : Nat} (h : R x y) : Bis G x G' y := by
  have key : ∀ t, (∃ a b, nodeAt G x t = some a ∧ nodeAt G' y t = some b ∧ R a b) ∨ (nodeAt G x t = none ∧ nodeAt G' y t = none) := by
    intro t
    induction t using Nat.strongRecOn with
    | ind t ih =>
      rcases place_cases t with rfl | ⟨u, i, hi, rfl, hu⟩
      · exact .inl ⟨x, y, nodeAt_zero _ _, nodeAt_zero _ _, h⟩
      · rw [nodeAt_child _ _ _ _ hi, nodeAt_child _ _ _ _ hi]
        rcases ih u hu with ⟨a, b, h1, h2, hr⟩ | ⟨h1, h2⟩
        · rw [h1, h2]
          show (∃ c d, child G a i = some c ∧ child G' b i = some d ∧ R c d) ∨ (child G a i = none ∧ child G' b i = none)
          rw [child_args, child_args]
          have hab := ha a b hr
          by_cases hil : i < (argsAt G a).length
          · have hil' : i < (argsAt G' b).length := by rw [← hab.length]; exact hil
            exact .inl ⟨_, _, List.getElem?_eq_getElem hil, List.getElem?_eq_getElem hil', hab.get (List.getElem?_eq_getElem hil) (List.getElem?_eq_getElem hil')⟩
          · exact .inr ⟨List.getElem?_eq_none (by omega), List.getElem?_eq_none (by rw [← hab.length]; omega)⟩
        · rw [h1, h2]; exact .inr ⟨rfl, rfl⟩
  intro t
  rcases key t with ⟨a, b, h1, h2, hr⟩ | ⟨h1, h2⟩
  · rw [faceAt_node h1, faceAt_node h2]; exact hf a b hr
  · unfold faceAt; rw [h1, h2]; rfl

/-- A graph in its least form. -/
structure Canon (G : List Nd) : Prop where
  closed : GClosed G
  some : 0 < G.length
  order : reach G 0 = List.range G.length
  apart : ∀ x y, x < G.length → y < G.length → Bis G x G y → x = y

/-- ONE LEAST GRAPH FOR EACH TREE. -/
theorem Canon.unique {G G' : List Nd} (h : Canon G) (h' : Canon G') (hb : Bis G 0 G' 0) : G = G' := by
  have hu : ∀ a b a' b', (a < G.length ∧ b < G'.length ∧ Bis G a G' b) → (a' < G.length ∧ b' < G'.length ∧ Bis G a' G' b') → (a = a' ↔ b = b') := by
    rintro a b a' b' ⟨h1, h2, h3⟩ ⟨h4, h5, h6⟩
    constructor
    · rintro rfl; exact h'.apart b b' h2 h5 (h3.symm.trans h6)
    · rintro rfl; exact h.apart a a' h1 h4 (h3.trans h6.symm)
  have argsLt : ∀ {H : List Nd}, GClosed H → ∀ x a, a ∈ argsAt H x → a < H.length := by
    intro H hH x a ha
    obtain ⟨i, hi⟩ := List.getElem?_of_mem ha
    exact (child_some hH (child_args.trans hi)).1
  have ha : ∀ x y, (x < G.length ∧ y < G'.length ∧ Bis G x G' y) → Two (fun a b => a < G.length ∧ b < G'.length ∧ Bis G a G' b) (argsAt G x) (argsAt G' y) := by
    rintro x y ⟨h1, h2, h3⟩
    have := h3.args h.closed h'.closed h1 h2
    refine Two.of_get this.length fun i a b hi hj => ⟨argsLt h.closed x a (List.mem_of_getElem? hi), argsLt h'.closed y b (List.mem_of_getElem? hj), this.get hi hj⟩
  -- the same number of steps for both
  have e1 : reach G 0 = dfs G (9 * (G.length + G'.length) + 1) [0] [] :=
    (dfs_enough h.closed _ _ _ (by simpa using h.some) List.nodup_nil (by simp) (by simp) _ (by omega)).symm
  have e2 : reach G' 0 = dfs G' (9 * (G.length + G'.length) + 1) [0] [] :=
    (dfs_enough h'.closed _ _ _ (by simpa using h'.some) List.nodup_nil (by simp) (by simp) _ (by omega)).symm
  have ht := dfs_two hu ha (9 * (G.length + G'.length) + 1) [0] [0] [] [] (.cons ⟨h.some, h'.some, hb⟩ .nil) .nil
  rw [← e1, ← e2, h.order, h'.order] at ht
  have hlen : G.length = G'.length := by simpa using ht.length
  have hid : ∀ i, i < G.length → Bis G i G' i := fun i hi => (ht.get (i := i) (a := i) (b := i) (List.getElem?_range hi) (List.getElem?_range (by omega))).2.2
  apply List.ext_getElem hlen
  intro i hi hi'
  have hbi := hid i hi
  have h0 := hbi 0
  rw [faceAt_zero, faceAt_zero] at h0
  unfold faceOf at h0
  rw [List.getElem?_eq_getElem hi, List.getElem?_eq_getElem hi'] at h0
  have hff : G[i].face = G'[i].face := Option.some.inj h0
  have hargs := hbi.args h.closed h'.closed hi hi'
  have hag : argsAt G i = argsAt G' i := by
    apply List.ext_getElem hargs.length
    intro j hj hj'
    have hb2 := hargs.get (List.getElem?_eq_getElem hj) (List.getElem?_eq_getElem hj')
    have l1 := argsLt h.closed i _ (List.getElem_mem hj)
    have l2 := argsLt h'.closed i _ (List.getElem_mem hj')
    have := hid _ l1
    exact h'.apart _ _ (by omega) l2 (this.symm.trans hb2)
  unfold argsAt at hag
  rw [List.getElem?_eq_getElem hi, List.getElem?_eq_getElem hi'] at hag
  have hz : ∀ {H : List Nd}, GClosed H → ∀ n ∈ H, n.args = (n.args.map Int.toNat).map fun (k : Nat) => (k : Int) := by
    intro H hH n hn
    rw [List.map_map]
    conv => lhs; rw [← List.map_id n.args]
    refine List.map_congr_left fun a ha => ?_
    have := (hH n hn).2 a ha
    simp only [id, Function.comp]
    omega
  have hA : G[i].args = G'[i].args := by
    rw [hz h.closed _ (List.getElem_mem hi), hz h'.closed _ (List.getElem_mem hi')]
    show (G[i].args.map Int.toNat).map _ = (G'[i].args.map Int.toNat).map _
    rw [show G[i].args.map Int.toNat = G'[i].args.map Int.toNat from hag]
  unfold Nd.face at hff
  injection hff with f1 f2
  injection f2 with f2 f3
  injection f3 with f3 f4
  cases hGi : G[i]
  cases hGi' : G'[i]
  rw [hGi] at f1 f3 f4 hA
  rw [hGi'] at f1 f3 f4 hA
  simp only at f1 f3 f4 hA
  subst f1; subst f3; subst f4; subst hA
  rfl
end Go.Ev

/- Least graphs: what walking a graph depth first gives. -/
namespace Go.Ev

theorem argsAt_lt {G : List Nd} (hG : GClosed G) {x a : Nat} (h : a ∈ argsAt G x) : a < G.length := by
  obtain ⟨i, hi⟩ := List.getElem?_of_mem h
  exact (child_some hG (child_args.trans hi)).1
theorem argsAt_le {G : List Nd} (hG : GClosed G) (x : Nat) : (argsAt G x).length ≤ 8 := by
  unfold argsAt
  cases hx : G[x]? with
  | none => simp
  | some n => simpa using (hG n (List.mem_of_getElem? hx)).1

theorem nodup_snoc {out : List Nat} {x : Nat} (hn : out.Nodup) (hx : x ∉ out) : (out ++ [x]).Nodup := by
  rw [List.nodup_append]
  exact ⟨hn, by simp, fun a ha b hb => by rw [List.mem_singleton.1 hb]; exact fun e => hx (e ▸ ha)⟩

/-- What a walk keeps. -/
theorem dfs_inv {G : List Nd} (hG : GClosed G) {P : Nat → Prop} (hP : ∀ x, P x → ∀ a ∈ argsAt G x, P a) : ∀ (k : Nat) (st out : List Nat), (∀ x ∈ st, x < G.length ∧ P x) → out.Nodup → (∀ x ∈ out, x < G.length ∧ P x) →
    (∀ x ∈ out, ∀ a ∈ argsAt G x, a ∈ out ∨ a ∈ st) → 9 * (G.length - out.length) + st.length ≤ k →
    (dfs G k st out).Nodup ∧ (∀ x ∈ dfs G k st out, x < G.length ∧ P x) ∧ (∀ x ∈ dfs G k st out, ∀ a ∈ argsAt G x, a ∈ dfs G k st out) ∧ (∃ l, dfs G k st out = out ++ l) ∧ ∀ x ∈ st, x ∈ dfs G k st out
  | 0, st, out, _, hn, ho, hc, hk => by
    have : st = [] := List.length_eq_zero_iff.1 (by omega)
    subst this
    exact ⟨hn, ho, fun x hx a ha => (hc x hx a ha).resolve_right (by simp), ⟨[], by simp [dfs]⟩, by simp⟩
  | k + 1, [], out, _, hn, ho, hc, _ => ⟨hn, ho, fun x hx a ha => (hc x hx a ha).resolve_right (by simp), ⟨[], by simp [dfs]⟩, by simp⟩
  | k + 1, x :: st, out, hs, hn, ho, hc, hk => by
    unfold dfs
    simp only [List.length_cons] at hk
    by_cases hx : x ∈ out
    · rw [if_pos hx]
      obtain ⟨h1, h2, h3, ⟨l, h4⟩, h5⟩ := dfs_inv hG hP k st out (fun y hy => hs y (List.mem_cons_of_mem _ hy)) hn ho (fun y hy a ha => by
        rcases hc y hy a ha with h | h
        · exact .inl h
        · rcases List.mem_cons.1 h with rfl | h
          · exact .inl hx
          · exact .inr h) (by omega)
      refine ⟨h1, h2, h3, ⟨l, h4⟩, fun y hy => ?_⟩
      rcases List.mem_cons.1 hy with rfl | hy
      · rw [h4]; exact List.mem_append_left _ hx
      · exact h5 y hy
    · rw [if_neg hx]
      obtain ⟨hxl, hxp⟩ := hs x (List.mem_cons_self ..)
      have hn' := nodup_snoc hn hx
      have ho' : ∀ y ∈ out ++ [x], y < G.length ∧ P y := fun y hy => by
        rcases List.mem_append.1 hy with hy | hy
        · exact ho y hy
        · rw [List.mem_singleton.1 hy]; exact ⟨hxl, hxp⟩
      have hlen : (out ++ [x]).length ≤ G.length := nodup_le _ _ hn' fun y hy => (ho' y hy).1
      have h8 := argsAt_le hG x
      obtain ⟨h1, h2, h3, ⟨l, h4⟩, h5⟩ := dfs_inv hG hP k (argsAt G x ++ st) (out ++ [x]) (fun y hy => by
        rcases List.mem_append.1 hy with hy | hy
        · exact ⟨argsAt_lt hG hy, hP x hxp y hy⟩
        · exact hs y (List.mem_cons_of_mem _ hy)) hn' ho' (fun y hy a ha => by
        rcases List.mem_append.1 hy with hy | hy
        · rcases hc y hy a ha with h | h
          · exact .inl (List.mem_append_left _ h)
          · rcases List.mem_cons.1 h with rfl | h
            · exact .inl (List.mem_append_right _ (List.mem_singleton.2 rfl))
            · exact .inr (List.mem_append_right _ h)
        · rw [List.mem_singleton.1 hy] at ha
          exact .inr (List.mem_append_left _ ha)) (by simp only [List.length_append, List.length_cons, List.length_nil] at hlen ⊢; omega)
      refine ⟨h1, h2, h3, ⟨x :: l, by rw [h4]; simp⟩, fun y hy => ?_⟩
      rcases List.mem_cons.1 hy with rfl | hy
      · rw [h4]; simp
      · exact h5 y (List.mem_append_right _ hy)

/-- What is reached from a node: each node once, itself first, with all arguments. -/
structure Reach (G : List Nd) (r : Nat) (l : List Nat) : Prop where
  nodup : l.Nodup
  lt : ∀ x ∈ l, x < G.length
  closed : ∀ x ∈ l, ∀ a ∈ argsAt G x, a ∈ l
  first : ∃ m, l = r :: m
  path : ∀ x ∈ l, ∃ t, nodeAt G r t = some x

theorem path_args {G : List Nd} (hG : GClosed G) {r x : Nat} (h : ∃ t, nodeAt G r t = some x) : ∀ a ∈ argsAt G x, ∃ t, nodeAt G r t = some a := by
  intro a ha
  obtain ⟨t, ht⟩ := h
  obtain ⟨i, hi⟩ := List.getElem?_of_mem ha
  have hc : child G x i = some a := child_args.trans hi
  exact ⟨8 * t + i + 1, by rw [nodeAt_child _ _ _ _ (child_some hG hc).2, ht]; exact hc⟩

theorem reach_ok {G : List Nd} (hG : GClosed G) {r : Nat} (hr : r < G.length) : Reach G r (reach G r) := by
  have h := dfs_inv hG (P := fun x => ∃ t, nodeAt G r t = some x) (fun x hx => path_args hG hx) (9 * G.length + 1) [r] []
    (fun x hx => by rw [List.mem_singleton.1 hx]; exact ⟨hr, 0, nodeAt_zero _ _⟩) List.nodup_nil (by simp) (by simp) (by simp)
  obtain ⟨h1, h2, h3, _, _⟩ := h
  refine ⟨h1, fun x hx => (h2 x hx).1, h3, ?_, fun x hx => (h2 x hx).2⟩
  have h := dfs_inv hG (P := fun x => ∃ t, nodeAt G r t = some x) (fun x hx => path_args hG hx) (9 * G.length) (argsAt G r ++ []) ([] ++ [r])
    (fun x hx => by
      rw [List.append_nil] at hx
      exact ⟨argsAt_lt hG hx, path_args hG ⟨0, nodeAt_zero _ _⟩ x hx⟩) (by simp) (fun x hx => by
      rw [List.nil_append, List.mem_singleton] at hx
      subst hx
      exact ⟨hr, 0, nodeAt_zero _ _⟩) (fun x hx a ha => by
      rw [List.nil_append, List.mem_singleton] at hx
      subst hx
      exact .inr (by rw [List.append_nil]; exact ha)) (by have := argsAt_le hG r; simp; omega)
  obtain ⟨_, _, _, ⟨l, h4⟩, _⟩ := h
  refine ⟨l, ?_⟩
  show dfs G (9 * G.length + 1) [r] [] = _
  unfold dfs
  rw [if_neg (by simp), h4]
  rfl

/-- The nodes of a list, with the arguments as places in the list. -/
def renum (G : List Nd) (l : List Nat) : List Nd := l.map fun x => { G.getD x ⟨0, 0, ⟨#[]⟩, []⟩ with args := (argsAt G x).map fun a => ((l.idxOf a : Nat) : Int) }

theorem renum_length (G : List Nd) (l : List Nat) : (renum G l).length = l.length := by simp [renum]
theorem renum_get {G : List Nd} {l : List Nat} {i x : Nat} (h : l[i]? = some x) : (renum G l)[i]? = some { G.getD x ⟨0, 0, ⟨#[]⟩, []⟩ with args := (argsAt G x).map fun a => ((l.idxOf a : Nat) : Int) } := by
  unfold renum
  rw [List.getElem?_map, h]
  rfl
theorem renum_args {G : List Nd} {l : List Nat} {i x : Nat} (h : l[i]? = some x) : argsAt (renum G l) i = (argsAt G x).map l.idxOf := by
  unfold argsAt
  rw [renum_get h]
  simp [argsAt]

theorem idxOf_get {l : List Nat} {a : Nat} (h : a ∈ l) : l[l.idxOf a]? = some a := by
  rw [List.getElem?_eq_getElem (List.idxOf_lt_length_of_mem h), List.getElem_idxOf]

theorem two_map {α β : Type} {R : α → β → Prop} (f : α → β) : ∀ l : List α, (∀ a ∈ l, R a (f a)) → Two R l (l.map f)
  | [], _ => .nil
  | a :: l, h => .cons (h a (List.mem_cons_self ..)) (two_map f l fun b hb => h b (List.mem_cons_of_mem _ hb))

theorem argsAt_face {G : List Nd} {x : Nat} {n : Nd} (h : G[x]? = some n) : (argsAt G x).length = n.args.length := by
  unfold argsAt; rw [h]; simp

/-- Renumbering changes no tree. -/
theorem renum_bis {G : List Nd} {r : Nat} {l : List Nat} (h : Reach G r l) {x : Nat} (hx : x ∈ l) : Bis G x (renum G l) (l.idxOf x) := by
  refine bis_of (R := fun x y => x ∈ l ∧ y = l.idxOf x) ?_ ?_ ⟨hx, rfl⟩
  · rintro x y ⟨hx, rfl⟩
    unfold faceOf
    rw [renum_get (idxOf_get hx), List.getElem?_eq_getElem (h.lt x hx)]
    show some _ = some _
    congr 1
    unfold Nd.face
    have e : G.getD x ⟨0, 0, ⟨#[]⟩, []⟩ = G[x]'(h.lt x hx) := by simp [List.getD, h.lt x hx]
    rw [e]
    simp [argsAt_face (List.getElem?_eq_getElem (h.lt x hx))]
  · rintro x y ⟨hx, rfl⟩
    rw [renum_args (idxOf_get hx)]
    exact two_map _ _ fun a ha => ⟨h.closed x hx a ha, rfl⟩

theorem renum_closed {G : List Nd} (hG : GClosed G) {r : Nat} {l : List Nat} (h : Reach G r l) : GClosed (renum G l) := by
  intro n hn
  unfold renum at hn
  obtain ⟨x, hx, rfl⟩ := List.mem_map.1 hn
  refine ⟨by simpa using argsAt_le hG x, fun a ha => ?_⟩
  obtain ⟨y, hy, rfl⟩ := List.mem_map.1 ha
  have := List.idxOf_lt_length_of_mem (h.closed x hx y hy)
  rw [renum_length]
  omega

/-- Renumbered in the order in which they are met, nodes are met in the order of their numbers. -/
theorem renum_order {G : List Nd} (hG : GClosed G) {r : Nat} (hr : r < G.length) : reach (renum G (reach G r)) 0 = List.range (renum G (reach G r)).length := by
  have h := reach_ok hG hr
  have hc := renum_closed hG h
  obtain ⟨m, hm⟩ := h.first
  have h0 : (reach G r).idxOf r = 0 := by rw [hm]; simp
  have hpos : 0 < (reach G r).length := by rw [hm]; simp
  have ht := dfs_two (G := G) (G' := renum G (reach G r)) (R := fun x y => x ∈ reach G r ∧ y = (reach G r).idxOf x) (fun a b a' b' h1 h2 => by
      obtain ⟨m1, rfl⟩ := h1
      obtain ⟨m2, rfl⟩ := h2
      constructor
      · rintro rfl; rfl
      · intro e
        have g1 := idxOf_get m1
        have g2 := idxOf_get m2
        rw [e, g2] at g1
        exact (Option.some.inj g1).symm)
    (fun x y h1 => by
      obtain ⟨m1, rfl⟩ := h1
      rw [renum_args (idxOf_get m1)]
      exact two_map _ _ fun a ha => ⟨h.closed x m1 a ha, rfl⟩)
    (9 * G.length + 1) [r] [0] [] [] (.cons ⟨by rw [hm]; simp, h0.symm⟩ .nil) .nil
  have hle : (reach G r).length ≤ G.length := nodup_le _ _ h.nodup h.lt
  have e2 : dfs (renum G (reach G r)) (9 * G.length + 1) [0] [] = reach (renum G (reach G r)) 0 :=
    dfs_enough hc _ _ _ (by simpa [renum_length] using hpos) List.nodup_nil (by simp) (by simp) _ (by rw [renum_length]; omega)
  rw [e2] at ht
  have hl := ht.length
  have hl' : (reach (renum G (reach G r)) 0).length = (reach G r).length := hl.symm
  rw [renum_length]
  apply List.ext_getElem?
  intro i
  by_cases hi : i < (reach G r).length
  · rw [List.getElem?_range hi, List.getElem?_eq_getElem (by omega)]
    have := ht.get (show (dfs G (9 * G.length + 1) [r] [])[i]? = some _ from List.getElem?_eq_getElem hi) (List.getElem?_eq_getElem (by omega))
    rw [this.2]
    congr 1
    exact List.Nodup.idxOf_getElem h.nodup i hi
  · rw [List.getElem?_eq_none (by omega), List.getElem?_eq_none (by simp; omega)]
end Go.Ev

/- Least graphs: the nodes that denote the same made one. -/
namespace Go.Ev

/-- Numbers that nodes have in common exactly if they denote the same. -/
structure Classifies (G : List Nd) (c : Nat → Nat) : Prop where
  lt : ∀ x, x < G.length → c x < G.length
  bis : ∀ x, x < G.length → Bis G (c x) G x
  eq : ∀ x y, x < G.length → y < G.length → Bis G x G y → c x = c y

def quot (G : List Nd) (c : Nat → Nat) : List Nd := G.map fun n => { n with args := n.args.map fun a => ((c a.toNat : Nat) : Int) }

theorem quot_length (G : List Nd) (c : Nat → Nat) : (quot G c).length = G.length := by simp [quot]
theorem quot_get {G : List Nd} {c : Nat → Nat} {x : Nat} {n : Nd} (h : G[x]? = some n) : (quot G c)[x]? = some { n with args := n.args.map fun a => ((c a.toNat : Nat) : Int) } := by
  unfold quot
  rw [List.getElem?_map, h]
  rfl
theorem quot_args {G : List Nd} {c : Nat → Nat} {x : Nat} : argsAt (quot G c) x = (argsAt G x).map c := by
  unfold argsAt
  cases h : G[x]? with
  | none => rw [show (quot G c)[x]? = none by unfold quot; rw [List.getElem?_map, h]; rfl]; rfl
  | some n => rw [quot_get h]; simp
theorem quot_face {G : List Nd} {c : Nat → Nat} {x : Nat} : faceOf (quot G c) x = faceOf G x := by
  unfold faceOf
  cases h : G[x]? with
  | none => rw [show (quot G c)[x]? = none by unfold quot; rw [List.getElem?_map, h]; rfl]
  | some n => rw [quot_get h]; simp [Nd.face]

theorem quot_closed {G : List Nd} {c : Nat → Nat} (hG : GClosed G) (hc : Classifies G c) : GClosed (quot G c) := by
  intro n hn
  unfold quot at hn
  obtain ⟨m, hm, rfl⟩ := List.mem_map.1 hn
  obtain ⟨h1, h2⟩ := hG m hm
  refine ⟨by simpa using h1, fun a ha => ?_⟩
  obtain ⟨b, hb, rfl⟩ := List.mem_map.1 ha
  have := h2 b hb
  have := hc.lt b.toNat (by omega)
  rw [quot_length]
  omega

theorem Two.map_left {α β γ : Type} {R : α → β → Prop} {S : γ → β → Prop} (f : α → γ) {l : List α} {m : List β} (h : Two R l m) (hs : ∀ a b, a ∈ l → b ∈ m → R a b → S (f a) b) : Two S (l.map f) m := by
  induction h with
  | nil => exact .nil
  | cons hr _ ih => exact .cons (hs _ _ (List.mem_cons_self ..) (List.mem_cons_self ..) hr) (ih fun a b ha hb => hs a b (List.mem_cons_of_mem _ ha) (List.mem_cons_of_mem _ hb))

theorem quot_bis {G : List Nd} {c : Nat → Nat} (hG : GClosed G) (hc : Classifies G c) {x : Nat} (hx : x < G.length) : Bis (quot G c) x G x := by
  refine bis_of (R := fun x y => x < G.length ∧ y < G.length ∧ Bis G x G y) ?_ ?_ ⟨hx, hx, Bis.refl _ _⟩
  · rintro x y ⟨_, _, h⟩
    have := h 0
    rw [faceAt_zero, faceAt_zero] at this
    rw [quot_face, this]
  · rintro x y ⟨h1, h2, h⟩
    rw [quot_args]
    exact (h.args hG hG h1 h2).map_left c fun a b ha hb hab => ⟨hc.lt a (argsAt_lt hG ha), argsAt_lt hG hb, (hc.bis a (argsAt_lt hG ha)).trans hab⟩

/-- THE LEAST GRAPH IS THE LEAST GRAPH. -/
theorem least_canon {G : List Nd} (hG : GClosed G) {r : Nat} (hr : r < G.length) {c : Nat → Nat} (hc : Classifies (renum G (reach G r)) c) (h0 : c 0 = 0) :
    Canon (renum (quot (renum G (reach G r)) c) (reach (quot (renum G (reach G r)) c) 0)) ∧ Bis (renum (quot (renum G (reach G r)) c) (reach (quot (renum G (reach G r)) c) 0)) 0 G r := by
  have hre := reach_ok hG hr
  have hPc := renum_closed hG hre
  obtain ⟨m, hm⟩ := hre.first
  have hpos : 0 < (renum G (reach G r)).length := by rw [renum_length, hm]; simp
  have hroot : Bis G r (renum G (reach G r)) 0 := by
    have := renum_bis hre (x := r) (by rw [hm]; simp)
    rwa [show (reach G r).idxOf r = 0 by rw [hm]; simp] at this
  generalize renum G (reach G r) = P at *
  have hQc := quot_closed hPc hc
  have hQpos : 0 < (quot P c).length := by rw [quot_length]; exact hpos
  have hrq := reach_ok hQc hQpos
  obtain ⟨m', hm'⟩ := hrq.first
  have hfix : ∀ x ∈ reach (quot P c) 0, c x = x := by
    intro x hx
    obtain ⟨t, ht⟩ := hrq.path x hx
    rcases place_cases t with rfl | ⟨u, i, hi, rfl, _⟩
    · rw [nodeAt_zero] at ht
      obtain rfl := Option.some.inj ht
      exact h0
    · rw [nodeAt_child _ _ _ _ hi] at ht
      cases hn : nodeAt (quot P c) 0 u with
      | none => rw [hn] at ht; cases ht
      | some y =>
        rw [hn] at ht
        have ht : child (quot P c) y i = some x := ht
        rw [child_args, quot_args, List.getElem?_map] at ht
        cases ha : (argsAt P y)[i]? with
        | none => rw [ha] at ht; cases ht
        | some a =>
          rw [ha] at ht
          obtain rfl : c a = x := Option.some.inj ht
          have hal := argsAt_lt hPc (List.mem_of_getElem? ha)
          exact hc.eq _ _ (hc.lt a hal) hal (hc.bis a hal)
  have hlen0 : (reach (quot P c) 0).idxOf 0 = 0 := by rw [hm']; simp
  refine ⟨⟨renum_closed hQc hrq, by rw [renum_length, hm']; simp, renum_order hQc hQpos, ?_⟩, ?_⟩
  · intro x y hx hy hb
    rw [renum_length] at hx hy
    have key : ∀ z (hz : z < (reach (quot P c) 0).length), Bis (renum (quot P c) (reach (quot P c) 0)) z P (reach (quot P c) 0)[z] ∧ (reach (quot P c) 0)[z] < P.length ∧ c (reach (quot P c) 0)[z] = (reach (quot P c) 0)[z] := by
      intro z hz
      have hzm := List.getElem_mem hz
      have h1 := renum_bis hrq hzm
      rw [List.Nodup.idxOf_getElem hrq.nodup z hz] at h1
      have hlt := hrq.lt _ hzm
      rw [quot_length] at hlt
      exact ⟨h1.symm.trans (quot_bis hPc hc hlt), hlt, hfix _ hzm⟩
    obtain ⟨b1, l1, f1⟩ := key x hx
    obtain ⟨b2, l2, f2⟩ := key y hy
    have := hc.eq _ _ l1 l2 (b1.symm.trans (hb.trans b2))
    rw [f1, f2] at this
    have e1 := List.Nodup.idxOf_getElem hrq.nodup x hx
    have e2 := List.Nodup.idxOf_getElem hrq.nodup y hy
    rw [← e1, ← e2, this]
  · have h1 := renum_bis hrq (x := 0) (by rw [hm']; simp)
    rw [hlen0] at h1
    exact h1.symm.trans ((quot_bis hPc hc hpos).trans hroot.symm)
end Go.Ev
