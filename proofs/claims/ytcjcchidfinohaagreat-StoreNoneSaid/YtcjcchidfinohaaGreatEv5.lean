/- An abstract evaluator over the model: what an abstract value, a place and a memory stand for. -/
import Derived.Test.YtcjcchidfinohaaGreatEv4
import Derived.Laws.World
import Derived.Laws.Sem
namespace Go.Ev

theorem T.get_e {α : Type} (k : List Bool) : (T.e : T α).get k = none := rfl
theorem T.get_nil {α : Type} (l r : T α) (v : Option α) : (T.n l v r).get [] = v := rfl
theorem T.get_true {α : Type} (l r : T α) (v : Option α) (k : List Bool) : (T.n l v r).get (true :: k) = r.get k := rfl
theorem T.get_false {α : Type} (l r : T α) (v : Option α) (k : List Bool) : (T.n l v r).get (false :: k) = l.get k := rfl

theorem T.get_set_same {α : Type} (k : List Bool) (a : Option α) : ∀ t : T α, (t.set k a).get k = a := by
  induction k with
  | nil => intro t; cases t <;> rfl
  | cons b k ih =>
    intro t
    cases t <;> cases b <;> simp [T.set, T.get_true, T.get_false, ih]

theorem T.get_set_ne {α : Type} {k k' : List Bool} (a : Option α) (h : k ≠ k') : ∀ t : T α, (t.set k a).get k' = t.get k' := by
  induction k generalizing k' with
  | nil =>
    intro t
    cases k' with
    | nil => exact absurd rfl h
    | cons b k' => cases t <;> cases b <;> rfl
  | cons b k ih =>
    intro t
    cases k' with
    | nil => cases t <;> cases b <;> rfl
    | cons b' k' =>
      by_cases hb : b = b'
      · subst hb
        have hk : k ≠ k' := fun e => h (by rw [e])
        cases t <;> cases b <;> simp [T.set, T.get_true, T.get_false, ih hk, T.get_e]
      · cases t <;> cases b <;> cases b' <;> first | exact absurd rfl hb | rfl

theorem bits_zero (n : Nat) : bits 0 n = List.replicate n true := rfl
theorem bits_succ_zero (f : Nat) : bits (f + 1) 0 = [] := rfl
theorem bits_succ_succ (f n : Nat) : bits (f + 1) (n + 1) = Nat.beq (Nat.mod n 2) 1 :: bits f (Nat.div n 2) := rfl

theorem bits_inj : ∀ (f n m : Nat), bits f n = bits f m → n = m := by
  intro f
  induction f with
  | zero =>
    intro n m h
    have := congrArg List.length h
    simpa [bits_zero] using this
  | succ f ih =>
    intro n m h
    cases n with
    | zero =>
      cases m with
      | zero => rfl
      | succ m => rw [bits_succ_zero, bits_succ_succ] at h; cases h
    | succ n =>
      cases m with
      | zero => rw [bits_succ_zero, bits_succ_succ] at h; cases h
      | succ m =>
        rw [bits_succ_succ, bits_succ_succ] at h
        obtain ⟨h1, h2⟩ := List.cons.inj h
        have h2 : n / 2 = m / 2 := ih _ _ h2
        have h3 : n % 2 = m % 2 := by
          have h1' : Nat.beq (n % 2) 1 = Nat.beq (m % 2) 1 := h1
          have hn : n % 2 = 0 ∨ n % 2 = 1 := by omega
          have hm : m % 2 = 0 ∨ m % 2 = 1 := by omega
          rcases hn with hn | hn <;> rcases hm with hm | hm <;> rw [hn, hm] at h1' <;> first | omega | cases h1'
        omega

theorem key_inj {n m : Nat} (h : key n = key m) : n = m := bits_inj 16 n m h
theorem key_ne {n m : Nat} (h : n ≠ m) : key n ≠ key m := fun e => h (key_inj e)

theorem mkT_get {α : Type} : ∀ (l : List α) (i : Nat) (t : T α) (k : Nat) (x : α), (mkT l i t).get (key k) = some x →
    (i ≤ k ∧ l[k - i]? = some x) ∨ t.get (key k) = some x := by
  intro l
  induction l with
  | nil => intro i t k x h; exact .inr h
  | cons a r ih =>
    intro i t k x h
    rcases ih _ _ _ _ h with ⟨h1, h2⟩ | h
    · left
      refine ⟨by omega, ?_⟩
      have : k - i = (k - Nat.succ i) + 1 := by omega
      rw [this]
      simpa using h2
    · by_cases hk : i = k
      · subst hk
        rw [T.get_set_same] at h
        left
        simpa using h
      · rw [T.get_set_ne _ (key_ne hk)] at h
        exact .inr h

theorem mkT_list {α : Type} {l : List α} {k : Nat} {x : α} (h : (mkT l 0 .e).get (key k) = some x) : l[k]? = some x := by
  rcases mkT_get _ _ _ _ _ h with ⟨_, h⟩ | h
  · simpa using h
  · cases h

theorem info_ok {P : Program} {t : TypeId} {i : TypeInfo} (h : info P t = some i) : P.info? t = some i := by
  have h' : P.types.toList[t]? = some i := mkT_list h
  have hl : t < P.types.size := by
    have := (List.getElem?_eq_some_iff.1 h').1
    simpa using this
  unfold Tables.info?
  rw [if_pos hl]
  simpa using h'

theorem fn_ok {P : Program} {g : Nat} {fn : Func} (h : (fnT P).get (key g) = some fn) : P.funcs[g]? = some fn := by
  have h' : P.funcs.toList[g]? = some fn := mkT_list h
  simpa using h'

theorem und_ok {P : Program} {t : TypeId} {d : TypeDesc} (h : und P t = some d) : P.underlying t = some d := by
  unfold und at h
  unfold Program.underlying
  cases hi : info P t with
  | none => rw [hi] at h; cases h
  | some i =>
    rw [hi] at h
    rw [info_ok hi]
    obtain ⟨desc⟩ := i
    cases desc <;> first | exact h | skip
    rename_i nm u
    simp only at h ⊢
    cases hu : info P u with
    | none => rw [hu] at h; cases h
    | some j =>
      rw [hu] at h
      rw [info_ok hu]
      exact h

/-- Where a place lies: the block, the first cell, and how many cells the block has. -/
structure Pl where
  b : Nat
  o : Nat
  n : Nat

abbrev Pm := Nat → Option Pl

def Pm.le (ρ ρ' : Pm) : Prop := ∀ l p, ρ l = some p → ρ' l = some p
theorem Pm.le_refl (ρ : Pm) : ρ.le ρ := fun _ _ h => h
theorem Pm.le_trans {ρ ρ' ρ'' : Pm} (h : ρ.le ρ') (h' : ρ'.le ρ'') : ρ.le ρ'' := fun l p e => h' l p (h l p e)

mutual
def VR (ρ : Pm) : AV → Value → Prop
  | .bool b, v => v = .bool b
  | .int k n, v => v = .int k n
  | .str s, v => v = .string ⟨⟨s⟩⟩
  | .nilPtr, v => v = .pointer none
  | .nilSlice, v => v = .slice none 0 0
  | .nilMap, v => v = .map none
  | .nilFunc, v => v = .nilFunc
  | .nilIface, v => v = .nilIface
  | .ptr l o, v => ∃ p, ρ l = some p ∧ v = .pointer (some ⟨p.b, p.o + o, none⟩)
  | .slice l o len cap sz ex, v => ∃ p a c, ρ l = some p ∧ v = .slice (some a) len c ∧ len ≤ cap ∧ cap ≤ c ∧ (ex = true → c = cap) ∧ (0 < c → a = ⟨p.b, p.o + o, none⟩ ∧ p.o + o + c * sz ≤ p.n)
  | .map l, v => ∃ p, ρ l = some p ∧ v = .map (some p.b)
  | .fn f x y, v => ∃ x' y', v = .func f x' y' ∧ VRs ρ x x'.toList ∧ VRs ρ y y'.toList
  | .iface t a, v => ∃ u, v = .iface t u ∧ VR ρ a u
  | .agg l, v => ∃ cs, v = .agg cs ∧ VRs ρ l cs.toList
  | .tuple l, v => ∃ cs, v = .tuple cs ∧ VRs ρ l cs.toList
def VRs (ρ : Pm) : List AV → List Value → Prop
  | [], vs => vs = []
  | a :: l, vs => ∃ v r, vs = v :: r ∧ VR ρ a v ∧ VRs ρ l r
end

mutual
theorem VR.mono {ρ ρ' : Pm} (h : ρ.le ρ') : ∀ (a : AV) (v : Value), VR ρ a v → VR ρ' a v
  | .bool _, _, e => e
  | .int _ _, _, e => e
  | .str _, _, e => e
  | .nilPtr, _, e => e
  | .nilSlice, _, e => e
  | .nilMap, _, e => e
  | .nilFunc, _, e => e
  | .nilIface, _, e => e
  | .ptr _ _, _, ⟨p, e, q⟩ => ⟨p, h _ _ e, q⟩
  | .slice .., _, ⟨p, a, c, e, q⟩ => ⟨p, a, c, h _ _ e, q⟩
  | .map _, _, ⟨p, e, q⟩ => ⟨p, h _ _ e, q⟩
  | .fn _ x y, _, ⟨x', y', e, q, r⟩ => ⟨x', y', e, VRs.mono h x _ q, VRs.mono h y _ r⟩
  | .iface _ a, _, ⟨u, e, q⟩ => ⟨u, e, VR.mono h a _ q⟩
  | .agg l, _, ⟨cs, e, q⟩ => ⟨cs, e, VRs.mono h l _ q⟩
  | .tuple l, _, ⟨cs, e, q⟩ => ⟨cs, e, VRs.mono h l _ q⟩
theorem VRs.mono {ρ ρ' : Pm} (h : ρ.le ρ') : ∀ (l : List AV) (vs : List Value), VRs ρ l vs → VRs ρ' l vs
  | [], _, e => e
  | a :: l, _, ⟨v, r, e, q, q'⟩ => ⟨v, r, e, VR.mono h a v q, VRs.mono h l r q'⟩
end

theorem VRs.length {ρ : Pm} : ∀ {l : List AV} {vs : List Value}, VRs ρ l vs → vs.length = l.length
  | [], _, e => by rw [e]; rfl
  | a :: l, _, ⟨v, r, e, _, q⟩ => by rw [e, List.length_cons, List.length_cons, VRs.length q]

theorem VRs.nth {ρ : Pm} : ∀ {l : List AV} {vs : List Value} {i : Nat} {a : AV}, VRs ρ l vs → nth l i = some a → ∃ v, vs[i]? = some v ∧ VR ρ a v
  | [], _, _, _, _, h => by cases h
  | b :: l, _, 0, a, ⟨v, r, e, q, _⟩, h => by
    obtain rfl : b = a := Option.some.inj h
    exact ⟨v, by rw [e]; rfl, q⟩
  | b :: l, _, i + 1, a, ⟨v, r, e, _, q⟩, h => by
    obtain ⟨u, hu, hv⟩ := VRs.nth q (show Ev.nth l i = some a from h)
    exact ⟨u, by rw [e]; simpa using hu, hv⟩

theorem VRs.append {ρ : Pm} : ∀ {l l' : List AV} {vs vs' : List Value}, VRs ρ l vs → VRs ρ l' vs' → VRs ρ (l ++ l') (vs ++ vs')
  | [], _, _, _, e, q => by rw [e]; exact q
  | a :: l, _, _, _, ⟨v, r, e, q, q'⟩, q'' => ⟨v, r ++ _, by rw [e]; rfl, q, VRs.append q' q''⟩

theorem VRs.sub {ρ : Pm} : ∀ {l : List AV} {vs : List Value} {o n : Nat} {r : List AV}, VRs ρ l vs → sub l o n = some r → o + n ≤ vs.length ∧ VRs ρ r ((vs.drop o).take n)
  | l, vs, 0, 0, r, _, h => by
    have : r = [] := by cases l <;> exact (Option.some.inj h).symm
    subst this
    exact ⟨Nat.zero_le _, by simp [VRs]⟩
  | [], _, 0, n + 1, r, _, h => by cases h
  | [], _, o + 1, n, r, _, h => by cases h
  | a :: l, _, 0, n + 1, r, ⟨v, vs, e, q, q'⟩, h => by
    simp only [Ev.sub] at h
    cases hs : Ev.sub l 0 n with
    | none => rw [hs] at h; cases h
    | some r' =>
      rw [hs] at h
      obtain rfl := Option.some.inj h
      obtain ⟨h1, h2⟩ := VRs.sub q' hs
      subst e
      refine ⟨by simp; omega, v, (vs.drop 0).take n, by simp, q, h2⟩
  | a :: l, _, o + 1, n, r, ⟨v, vs, e, q, q'⟩, h => by
    have h' : Ev.sub l o n = some r := by cases n <;> exact h
    obtain ⟨h1, h2⟩ := VRs.sub q' h'
    subst e
    exact ⟨by simp; omega, by simpa using h2⟩

/-- The cells of a value. -/
theorem VR.cells {ρ : Pm} {a : AV} {v : Value} (h : VR ρ a v) : VRs ρ a.cells v.cells.toList := by
  cases a with
  | agg l => obtain ⟨cs, rfl, q⟩ := h; exact q
  | fn f x y => have h' := h; obtain ⟨x', y', rfl, q, r⟩ := h; exact ⟨_, [], rfl, h', rfl⟩
  | iface t a => have h' := h; obtain ⟨u, rfl, q⟩ := h; exact ⟨_, [], rfl, h', rfl⟩
  | tuple l => have h' := h; obtain ⟨u, rfl, q⟩ := h; exact ⟨_, [], rfl, h', rfl⟩
  | ptr l o => have h' := h; obtain ⟨p, e, rfl⟩ := h; exact ⟨_, [], rfl, h', rfl⟩
  | slice l o n c sz ex => have h' := h; obtain ⟨p, a, c, e, rfl, _⟩ := h; exact ⟨_, [], rfl, h', rfl⟩
  | map l => have h' := h; obtain ⟨p, e, rfl⟩ := h; exact ⟨_, [], rfl, h', rfl⟩
  | _ => have h' := h; unfold VR at h; subst h; exact ⟨_, [], rfl, h', rfl⟩

theorem VR.cells_size {ρ : Pm} {a : AV} {v : Value} (h : VR ρ a v) : v.cells.size = a.cells.length := by
  have := h.cells.length
  simpa using this

/-- A cell's value is no row. -/
theorem VR.one {ρ : Pm} {a : AV} {v : Value} (h : VR ρ a v) (hf : a.flat = true) : v.oneCell' = true := by
  cases a with
  | agg l => cases hf
  | tuple l => cases hf
  | fn f x y => obtain ⟨x', y', rfl, q, r⟩ := h; rfl
  | iface t a => obtain ⟨u, rfl, q⟩ := h; rfl
  | ptr l o => obtain ⟨p, e, rfl⟩ := h; rfl
  | slice l o n c sz ex => obtain ⟨p, a, c, e, rfl, _⟩ := h; rfl
  | map l => obtain ⟨p, e, rfl⟩ := h; rfl
  | _ => unfold VR at h; subst h; rfl

theorem mapO_ok {α β : Type} {g : α → Option β} : ∀ {l : List α} {r : List β}, mapO g l = some r → r.length = l.length ∧ ∀ (i : Nat) (x : α), l[i]? = some x → ∃ y : β, r[i]? = some y ∧ g x = some y
  | [], r, h => by obtain rfl := Option.some.inj h; simp
  | a :: l, r, h => by
    simp only [mapO] at h
    cases ha : g a with
    | none => rw [ha] at h; cases h
    | some b =>
      rw [ha] at h
      cases hr : mapO g l with
      | none => rw [hr] at h; cases h
      | some r' =>
        rw [hr] at h
        obtain rfl := Option.some.inj h
        obtain ⟨h1, h2⟩ := mapO_ok hr
        refine ⟨by simp [h1], fun i x hx => ?_⟩
        cases i with
        | zero => obtain rfl := Option.some.inj hx; exact ⟨b, rfl, ha⟩
        | succ i => exact h2 i x hx

theorem ofV_ok {ρ : Pm} : ∀ (n : Nat) (v : Value) (a : AV), ofV n v = some a → VR ρ a v := by
  intro n
  induction n with
  | zero => intro v a h; cases h
  | succ n ih =>
    have list : ∀ (vs : List Value) (l : List AV), mapO (ofV n) vs = some l → VRs ρ l vs := by
      intro vs
      induction vs with
      | nil => intro l h; obtain rfl := Option.some.inj h; exact rfl
      | cons v vs ihv =>
        intro l h
        simp only [mapO] at h
        cases ha : ofV n v with
        | none => rw [ha] at h; cases h
        | some b =>
          rw [ha] at h
          cases hr : mapO (ofV n) vs with
          | none => rw [hr] at h; cases h
          | some r' =>
            rw [hr] at h
            obtain rfl := Option.some.inj h
            exact ⟨v, vs, rfl, ih v b ha, ihv r' hr⟩
    intro v a h
    unfold ofV at h
    split at h <;> first
      | (obtain rfl := Option.some.inj h; rfl)
      | skip
    · rename_i cs
      cases hr : mapO (ofV n) cs.toList with
      | none => rw [hr] at h; cases h
      | some l =>
        rw [hr] at h
        obtain rfl := Option.some.inj h
        exact ⟨cs, rfl, list _ _ hr⟩
    · rename_i cs
      cases hr : mapO (ofV n) cs.toList with
      | none => rw [hr] at h; cases h
      | some l =>
        rw [hr] at h
        obtain rfl := Option.some.inj h
        exact ⟨cs, rfl, list _ _ hr⟩
    · cases h

/-- What an object stands for. -/
def ERs (ρ : Pm) : List AE → List MapEntry → Prop
  | [], es => es = []
  | a :: l, es => ∃ e r, es = e :: r ∧ (VR ρ a.key e.key ∧ VR ρ a.val e.val ∧ e.born = a.born) ∧ ERs ρ l r

theorem ERs.mono {ρ ρ' : Pm} (h : ρ.le ρ') : ∀ {l : List AE} {es : List MapEntry}, ERs ρ l es → ERs ρ' l es
  | [], _, e => e
  | _ :: _, _, ⟨e, r, q, ⟨x, y, z⟩, q'⟩ => ⟨e, r, q, ⟨x.mono h, y.mono h, z⟩, ERs.mono h q'⟩

def CellsR (ρ : Pm) (p : Pl) (r : List AV) (c : Array Value) : Prop := ∀ i a, nth r i = some a → ∃ v, c[p.o + i]? = some v ∧ VR ρ a v

def ObjR (ρ : Pm) (p : Pl) : AObj → Obj → Prop
  | .cells r, o => ∃ c t fr, o = .cells c t fr ∧ c.size = p.n ∧ (∀ i, ¬ (fr.1 ≤ i ∧ i < fr.2)) ∧ CellsR ρ p r c
  | .ro r, o => ∃ c t fr, o = .cells c t fr ∧ c.size = p.n ∧ CellsR ρ p r c
  | .marked r, o => ∃ c t fr, o = .cells c t fr ∧ c.size = p.n ∧ CellsR ρ p r c
  | .map es k, o => ∃ es', o = .map es' k ∧ ERs ρ es es'.toList
  | .iter s i, o => o = .stringIter ⟨⟨s⟩⟩ i ∧ p.o = 0

theorem CellsR.mono {ρ ρ' : Pm} (h : ρ.le ρ') {p : Pl} {r : List AV} {c : Array Value} (q : CellsR ρ p r c) : CellsR ρ' p r c :=
  fun i a e => let ⟨v, x, y⟩ := q i a e; ⟨v, x, y.mono h⟩

theorem ObjR.mono {ρ ρ' : Pm} (h : ρ.le ρ') {p : Pl} {ob : AObj} {o : Obj} (q : ObjR ρ p ob o) : ObjR ρ' p ob o := by
  cases ob with
  | cells r => obtain ⟨c, t, fr, e, n, f, q⟩ := q; exact ⟨c, t, fr, e, n, f, q.mono h⟩
  | ro r => obtain ⟨c, t, fr, e, n, q⟩ := q; exact ⟨c, t, fr, e, n, q.mono h⟩
  | marked r => obtain ⟨c, t, fr, e, n, q⟩ := q; exact ⟨c, t, fr, e, n, q.mono h⟩
  | map es k => obtain ⟨es', e, q⟩ := q; exact ⟨es', e, q.mono h⟩
  | iter s i => exact q

/-- An abstract memory stands for a heap. -/
structure Sim (ρ : Pm) (g : Nat) (s : St) (h : Array Obj) : Prop where
  obj : ∀ l ob, s.look l = some ob → ∃ p o, ρ l = some p ∧ h[p.b]? = some o ∧ ObjR ρ p ob o
  sep : ∀ l l' ob ob' p p', s.look l = some ob → s.look l' = some ob' → ob.owned = true → l ≠ l' → ρ l = some p → ρ l' = some p' → p.b ≠ p'.b
  fresh : ∀ l, s.nx ≤ l → ρ l = none
  glob : ∀ i, i < g → ∃ n, ρ i = some ⟨i, 0, n⟩

/-- What becomes of a heap. -/
structure Ste (ρ : Pm) (s : St) (h : Array Obj) (ρ' : Pm) (s' : St) (h' : Array Obj) : Prop where
  nx : s.nx ≤ s'.nx
  agree : ∀ l, l < s.nx → ρ' l = ρ l
  size : h.size ≤ h'.size
  frame : ∀ b, b < h.size → (∀ l ob p, s.look l = some ob → ob.owned = true → ρ l = some p → p.b ≠ b) → h'[b]? = h[b]?
  own : ∀ l ob p, s'.look l = some ob → ρ' l = some p → h.size ≤ p.b ∨ ∃ l0 ob0 p0, s.look l0 = some ob0 ∧ (ob.owned = true → ob0.owned = true) ∧ ρ l0 = some p0 ∧ p0.b = p.b

theorem Sim.le {ρ ρ' : Pm} {g : Nat} {s : St} {h : Array Obj} (hs : Sim ρ g s h) (ha : ∀ l, l < s.nx → ρ' l = ρ l) : ρ.le ρ' := fun l p e => by
  rcases Nat.lt_or_ge l s.nx with hl | hl
  · rw [ha l hl, e]
  · rw [hs.fresh l hl] at e; cases e

theorem Ste.refl (ρ : Pm) (s : St) (h : Array Obj) : Ste ρ s h ρ s h :=
  ⟨Nat.le_refl _, fun _ _ => rfl, Nat.le_refl _, fun _ _ _ => rfl, fun l ob p a c => .inr ⟨l, ob, p, a, id, c, rfl⟩⟩

theorem Ste.trans {ρ ρ₁ ρ₂ : Pm} {s s₁ s₂ : St} {h h₁ h₂ : Array Obj} (a : Ste ρ s h ρ₁ s₁ h₁) (b : Ste ρ₁ s₁ h₁ ρ₂ s₂ h₂) : Ste ρ s h ρ₂ s₂ h₂ where
  nx := Nat.le_trans a.nx b.nx
  agree l hl := by rw [b.agree l (Nat.lt_of_lt_of_le hl a.nx), a.agree l hl]
  size := Nat.le_trans a.size b.size
  frame k hk hf := by
    rw [b.frame k (Nat.lt_of_lt_of_le hk a.size) ?_, a.frame k hk hf]
    intro l ob p h1 h2 h3 h4
    rcases a.own l ob p h1 h3 with h5 | ⟨l0, ob0, p0, h5, h6, h7, h8⟩
    · omega
    · exact hf l0 ob0 p0 h5 (h6 h2) h7 (h8.trans h4)
  own l ob p h1 h3 := by
    rcases b.own l ob p h1 h3 with h4 | ⟨l0, ob0, p0, h4, h5, h6, h7⟩
    · exact .inl (Nat.le_trans a.size h4)
    · rcases a.own l0 ob0 p0 h4 h6 with h8 | ⟨l1, ob1, p1, h8, h9, h10, h11⟩
      · exact .inl (by omega)
      · exact .inr ⟨l1, ob1, p1, h8, fun h => h9 (h5 h), h10, h11.trans h7⟩

/-- Two worlds with the same things outside the heap. -/
def Out (w w' : World) : Prop := w'.os = w.os ∧ w'.output = w.output
theorem Out.refl (w : World) : Out w w := ⟨rfl, rfl⟩
theorem Out.trans {a b c : World} (h : Out a b) (h' : Out b c) : Out a c := ⟨h'.1.trans h.1, h'.2.trans h.2⟩

end Go.Ev
