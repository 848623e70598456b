import Derived.Test.YtbjcopckkgdmgaaGreatDoorSgA
import Derived.Maps.OwnSet
/- Maps of the call's own, as functions of their keys. -/
namespace Go.Ev
open Go.Maps (Keyed)

/-- Block b is a map of at most n entries that reads as f. -/
def MapV (P : Program) (k e : TypeId) (w : World) (b n : Nat) (f : Value → Option Lit) : Prop :=
  ∃ D : DataW Unit, w.ownsMap P k (plainElem P e) b n D ∧ ∀ v kl, keyOf P k v = some kl → Maps.has D kl = (f v).isSome ∧ ∀ l, f v = some l → ∀ z, D.atKey kl z = .lit l

variable {P : Program} {k e : TypeId} {w w' : World} {b n : Nat} {f : Value → Option Lit}

theorem MapV.made (P : Program) (k e : TypeId) (w : World) : MapV P k e (w.alloc (.map #[] 0)) w.heap.size 0 (fun _ => none) :=
  ⟨_, World.ownsMap_made w P k _, fun v kl _ => ⟨rfl, fun l h => by cases h⟩⟩
theorem MapV.lt (h : MapV P k e w b n f) : b < w.heap.size := by
  obtain ⟨D, h1, _⟩ := h
  exact h1.lt
theorem MapV.of_heap (h : MapV P k e w b n f) (he : w'.heap[b]? = w.heap[b]?) : MapV P k e w' b n f := by
  obtain ⟨D, ⟨es, clock, hb, r⟩, h2⟩ := h
  exact ⟨D, ⟨es, clock, he.trans hb, r⟩, h2⟩
theorem MapV.chg {c : Nat} (h : MapV P k e w b n f) (hk : Chg c w w') (hb : b ≠ c) : MapV P k e w' b n f := h.of_heap (hk.block b h.lt hb)
theorem MapV.kp (h : MapV P k e w b n f) (hk : Kp w.heap.size w w') : MapV P k e w' b n f := h.of_heap (hk.block b h.lt)

open Classical in
theorem MapV.put (h : MapV P k e w b n f) (K : Keyed P k) {t : TypeId} (ht : P.underlying t = some (.map k e)) (hn : n < maxLen) {key val : Value} {kl l : Lit} (hkey : keyOf P k key = some kl) (hv : plainElem (H := Unit) P e val = some (.lit l, [])) :
    ∃ w', (Instr.mapUpdate t (.map (some b)) key val).run P w = .ok () w' ∧ MapV P k e w' b (n + 1) (fun v => if v = key then some l else f v) ∧ w.grownBy w' (some b) := by
  obtain ⟨D, h1, h2⟩ := h
  obtain ⟨w', hrun, r1, r2⟩ := h1.update K ht hn hkey hv
  refine ⟨w', hrun, ⟨_, r1, fun v vl hvl => ?_⟩, r2⟩
  by_cases hve : v = key
  · subst hve
    obtain rfl : vl = kl := by rw [hvl] at hkey; exact Option.some.inj hkey
    simp only [if_pos]
    refine ⟨by rw [Maps.has_put_same h1.isMap (K.key hkey)]; rfl, fun l' hl' z => ?_⟩
    obtain rfl := Option.some.inj hl'
    exact Maps.atKey_put_same h1.isMap (K.key hkey) _ z
  · have hne : vl ≠ kl := fun e => hve (K.inj (e ▸ hvl) hkey)
    simp only [if_neg hve]
    refine ⟨by rw [Maps.has_put_other hne]; exact (h2 v vl hvl).1, fun l' hl' z => ?_⟩
    rw [Maps.atKey_put_other hne]
    exact (h2 v vl hvl).2 l' hl' z

/-! ### at the operation -/
section
variable {ops : Array Oper} {rest : List Oper} {o : Oper} {a : Act} {Q : Exit → Act → World → Prop}

theorem wpList_lookup_hit (hg : o.guard = none) (m x : Operand) (t : TypeId) (hop : o.op = Op.lookup t m x true) (k e : TypeId) (q : IntKind) (K : Keyed P k) (ht : P.underlying t = some (.map k e)) (he : P.underlying e = some (.int q))
    (hz : (zeroValue e).run P w = .ok (.int q 0) w) (b n : Nat) (f : Value → Option Lit) (hm : a.eval m = .map (some b)) (hown : MapV P k e w b n f) (key : Value) (kl : Lit) (hx : a.eval x = key) (hkey : keyOf P k key = some kl) (c : Int) (hf : f key = some (.int q c))
    (hK : wpList P ops Q rest (a.put o.dst (.tuple #[.int q c, .bool true])) w) : wpList P ops Q (o :: rest) a w := by
  obtain ⟨D, h1, h2⟩ := hown
  refine wpList_lookup_own_ok_int w hg m x t hop k e q K ht he hz b n D hm h1 key kl hx hkey fun c' hc' _ => ?_
  obtain ⟨h3, h4⟩ := h2 key kl hkey
  rw [h4 _ hf] at hc'
  obtain rfl : c = c' := by cases hc'; rfl
  rw [h3, hf]
  exact hK

theorem wpList_lookup_miss (hg : o.guard = none) (m x : Operand) (t : TypeId) (hop : o.op = Op.lookup t m x true) (k e : TypeId) (q : IntKind) (K : Keyed P k) (ht : P.underlying t = some (.map k e)) (he : P.underlying e = some (.int q))
    (hz : (zeroValue e).run P w = .ok (.int q 0) w) (b n : Nat) (f : Value → Option Lit) (hm : a.eval m = .map (some b)) (hown : MapV P k e w b n f) (key : Value) (kl : Lit) (hx : a.eval x = key) (hkey : keyOf P k key = some kl) (hf : f key = none)
    (hK : wpList P ops Q rest (a.put o.dst (.tuple #[.int q 0, .bool false])) w) : wpList P ops Q (o :: rest) a w := by
  obtain ⟨D, h1, h2⟩ := hown
  refine wpList_lookup_own_ok_int w hg m x t hop k e q K ht he hz b n D hm h1 key kl hx hkey fun c' hc' _ => ?_
  obtain ⟨h3, h4⟩ := h2 key kl hkey
  rw [hf] at h3
  rw [Maps.atKey_of_not_has h3] at hc'
  obtain rfl : c' = 0 := by cases hc'; rfl
  rw [h3]
  exact hK

/-- A set kept as a map to bools. -/
theorem wpList_wanted (hg : Region.wanted o (yielded ops a.tmps) = true) (h : ∀ K : Act → World → Prop, (∀ a w, wpList P ops Q rest a w → K a w) → o.wp P a w K Q) : wpList P ops Q (o :: rest) a w :=
  wpList_step fun K hK => by simp only [hg, if_true]; exact h K hK

theorem wpList_lookup_bool (hg : Region.wanted o (yielded ops a.tmps) = true) (m x : Operand) (t : TypeId) (hop : o.op = Op.lookup t m x false) (k e : TypeId) (K : Keyed P k) (ht : P.underlying t = some (.map k e)) (he : P.underlying e = some .bool)
    (hz : (zeroValue e).run P w = .ok (.bool false) w) (b n : Nat) (f : Value → Option Lit) (hm : a.eval m = .map (some b)) (hown : MapV P k e w b n f) (key : Value) (kl : Lit) (hx : a.eval x = key) (hkey : keyOf P k key = some kl) (c : Bool) (hf : f key = if c then some (.bool true) else none)
    (hK : wpList P ops Q rest (a.put o.dst (.bool c)) w) : wpList P ops Q (o :: rest) a w := by
  obtain ⟨D, h1, h2⟩ := hown
  obtain ⟨h3, h4⟩ := h2 key kl hkey
  refine wpList_wanted hg fun K' hK' => ?_
  obtain ⟨v, ps, hrun, hv⟩ := h1.lookup K ht hz (plainElem_bool he false) hkey
  have hvc : v = .bool c := by
    cases c with
    | true =>
      rw [if_pos rfl] at hf
      rw [h4 _ hf] at hv
      unfold plainElem at hv
      rw [he] at hv
      cases v <;> simp at hv
      rw [hv.1]
    | false =>
      rw [if_neg (by simp)] at hf
      rw [hf] at h3
      rw [Maps.atKey_of_not_has h3] at hv
      unfold plainElem at hv
      rw [he] at hv
      cases v <;> simp at hv
      rw [hv.1]
  subst hvc
  unfold Oper.wp
  simp [execOp, hop, hm, hx, hrun, Result.andThen]
  exact hK' _ _ hK

open Classical in
theorem wpList_put (hg : o.guard = none) (m x v : Operand) (t : TypeId) (hop : o.op = Op.mapUpdate t m x v) (k e : TypeId) (K : Keyed P k) (ht : P.underlying t = some (.map k e)) (b n : Nat) (f : Value → Option Lit)
    (hm : a.eval m = .map (some b)) (hown : MapV P k e w b n f) (hn : n < maxLen) (key val : Value) (kl l : Lit) (hx : a.eval x = key) (hv : a.eval v = val) (hkey : keyOf P k key = some kl) (hval : plainElem (H := Unit) P e val = some (.lit l, []))
    (hK : ∀ w', MapV P k e w' b (n + 1) (fun v => if v = key then some l else f v) → w.grownBy w' (some b) → wpList P ops Q rest (a.put o.dst undef) w') : wpList P ops Q (o :: rest) a w := by
  refine wpList_plain hg fun K' hK' => ?_
  obtain ⟨w', hrun, r1, r2⟩ := hown.put K ht hn hkey hval
  unfold Oper.wp
  simp [execOp, hop, hm, hx, hv, hrun, Result.andThen]
  exact hK' _ _ (hK w' r1 r2)
end
end Go.Ev
