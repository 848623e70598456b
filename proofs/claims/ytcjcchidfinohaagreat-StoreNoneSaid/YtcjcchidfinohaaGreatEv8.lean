/- An abstract evaluator over the model: the operations that look at no memory are right (3). -/
import Derived.Test.YtcjcchidfinohaaGreatEv7
namespace Go.Ev
variable {P : Program} {ρ : Pm} {w : World}

theorem nth_eq : ∀ (l : List AV) (i : Nat), nth l i = l[i]?
  | [], _ => by simp [nth]
  | _ :: _, 0 => rfl
  | _ :: r, i + 1 => by simpa [nth] using nth_eq r i

theorem setAt_ok : ∀ {l : List AV} {o : Nat} {vs l' : List AV}, setAt l o vs = some l' →
    (vs = [] ∨ o + vs.length ≤ l.length) ∧ l'.length = l.length ∧ ∀ i : Nat, nth l' i = if o ≤ i ∧ i < o + vs.length then nth vs (i - o) else nth l i
  | l, o, [], l', h => by
    have : l' = l := by cases l <;> exact (Option.some.inj h).symm
    subst this
    refine ⟨.inl rfl, rfl, fun i => ?_⟩
    rw [if_neg (by simp only [List.length_nil]; omega)]
  | [], o, v :: vs, l', h => by cases h
  | a :: r, 0, v :: vs, l', h => by
    simp only [setAt] at h
    split at h
    · rename_i r' hr
      obtain rfl := Option.some.inj h
      obtain ⟨h1, h2, h3⟩ := setAt_ok hr
      refine ⟨.inr ?_, by simp [h2], fun i => ?_⟩
      · rcases h1 with h1 | h1
        · subst h1; simp
        · simp at h1 ⊢; omega
      · cases i with
        | zero => simp [nth]
        | succ i =>
          have := h3 i
          simp only [Nat.zero_le, true_and, Nat.zero_add, Nat.sub_zero] at this
          simp only [nth, this, Nat.zero_le, true_and, Nat.zero_add, Nat.sub_zero, List.length_cons, Nat.add_lt_add_iff_right]
    · cases h
  | a :: r, o + 1, v :: vs, l', h => by
    simp only [setAt] at h
    split at h
    · rename_i r' hr
      obtain rfl := Option.some.inj h
      obtain ⟨h1, h2, h3⟩ := setAt_ok hr
      refine ⟨.inr ?_, by simp [h2], fun i => ?_⟩
      · rcases h1 with h1 | h1
        · cases h1
        · simp at h1 ⊢; omega
      · cases i with
        | zero => rw [if_neg (by omega)]; rfl
        | succ i =>
          have := h3 i
          simp only [nth, this]
          have e : i + 1 - (o + 1) = i - o := by omega
          rw [e]
          by_cases hc : o ≤ i ∧ i < o + (v :: vs).length
          · rw [if_pos hc, if_pos (by omega)]
          · rw [if_neg hc, if_neg (by omega)]
    · cases h

theorem VRs.of_nth : ∀ {l : List AV} {vs : List Value}, vs.length = l.length → (∀ i a, Ev.nth l i = some a → ∃ v, vs[i]? = some v ∧ VR ρ a v) → VRs ρ l vs
  | [], vs, h, _ => List.eq_nil_of_length_eq_zero h
  | a :: l, [], h, _ => by simp at h
  | a :: l, v :: vs, h, q => by
    refine ⟨v, vs, rfl, ?_, VRs.of_nth (by simpa using h) (fun i b e => ?_)⟩
    · obtain ⟨u, hu, hr⟩ := q 0 a rfl
      obtain rfl : v = u := by simpa using hu
      exact hr
    · simpa using q (i + 1) b e

/-- Some cells of an array written over. -/
def sets (c : Array Value) (o : Nat) : List Value → Array Value
  | [] => c
  | v :: r => sets (c.setIfInBounds o v) (o + 1) r

theorem sets_size : ∀ (vs : List Value) (c : Array Value) (o : Nat), (sets c o vs).size = c.size
  | [], _, _ => rfl
  | v :: r, c, o => by rw [sets, sets_size]; simp

theorem sets_get : ∀ (vs : List Value) (c : Array Value) (o : Nat), o + vs.length ≤ c.size → ∀ i : Nat, (sets c o vs)[i]? = if o ≤ i ∧ i < o + vs.length then vs[i - o]? else c[i]?
  | [], c, o, _, i => by rw [if_neg (by simp only [List.length_nil]; omega)]; rfl
  | v :: r, c, o, h, i => by
    simp at h
    rw [sets, sets_get r _ _ (by simp; omega)]
    by_cases h1 : i = o
    · subst h1
      have hi : i < c.size := by omega
      rw [if_neg (by omega), if_pos (by simp)]
      simp [hi]
    · by_cases h2 : o + 1 ≤ i ∧ i < o + 1 + r.length
      · rw [if_pos h2, if_pos (by simp; omega)]
        obtain ⟨j, hj⟩ : ∃ j, i - o = j + 1 := ⟨i - o - 1, by omega⟩
        have : i - (o + 1) = j := by omega
        rw [hj, this]
        rfl
      · rw [if_neg h2, if_neg (by simp; omega)]
        rw [Array.getElem?_setIfInBounds_ne (by omega)]

theorem foldl_sets (c : Array Value) (o : Nat) (vs : Array Value) : vs.zipIdx.foldl (fun cs p => cs.setIfInBounds (o + p.2) p.1) c = sets c o vs.toList := by
  have key : ∀ (l : List Value) (k : Nat) (c : Array Value), (l.zipIdx k).foldl (fun cs (p : Value × Nat) => cs.setIfInBounds (o + p.2) p.1) c = sets c (o + k) l := by
    intro l
    induction l with
    | nil => intro k c; rfl
    | cons v r ih =>
      intro k c
      simp only [List.zipIdx_cons, List.foldl_cons, sets]
      rw [ih]
      rfl
  have := key vs.toList 0 c
  rw [Nat.add_zero] at this
  rw [← this, ← Array.foldl_toList]
  simp

theorem VRs.sets {l l' vs : List AV} {c : Array Value} {us : List Value} {o : Nat} (hs : setAt l o vs = some l') (hl : VRs ρ l c.toList) (hv : VRs ρ vs us) :
    VRs ρ l' (Ev.sets c o us).toList := by
  obtain ⟨h1, h2, h3⟩ := setAt_ok hs
  have hc : c.size = l.length := by simpa using hl.length
  have hu := hv.length
  refine VRs.of_nth (by simp [sets_size, hc, h2]) (fun i a e => ?_)
  rw [h3] at e
  by_cases hvs : vs = []
  · subst hvs
    obtain rfl : us = [] := hv
    rw [if_neg (by simp only [List.length_nil]; omega)] at e
    exact VRs.nth hl e
  · have h1 := h1.resolve_left hvs
    have hget := sets_get us c o (by omega) i
    split at e
    · rename_i hi
      obtain ⟨v, hv', hr⟩ := VRs.nth hv e
      refine ⟨v, ?_, hr⟩
      rw [Array.getElem?_toList, hget, if_pos (by omega)]
      exact hv'
    · rename_i hi
      obtain ⟨v, hv', hr⟩ := VRs.nth hl e
      refine ⟨v, ?_, hr⟩
      rw [Array.getElem?_toList, hget, if_neg (by omega)]
      simpa using hv'

variable {e : Operand → Value} {lk : Lk} {o : Oper}

/-- Parts, one by one. -/
def PRs (ρ : Pm) : List (Nat × AV) → List (Nat × Value) → Prop
  | [], vs => vs = []
  | (i, a) :: l, vs => ∃ v r, vs = (i, v) :: r ∧ VR ρ a v ∧ PRs ρ l r

theorem parts_ok (hl : Lks ρ lk e) : ∀ {l : List (Nat × Operand)} {r : List (Nat × AV)}, parts lk l = some r → PRs ρ r (l.map fun (i, x) => (i, e x))
  | [], r, h => by obtain rfl := Option.some.inj h; exact rfl
  | (i, x) :: l, r, h => by
    simp only [parts] at h
    split at h
    · rename_i v hv
      split at h
      · rename_i q hq
        obtain rfl := Option.some.inj h
        exact ⟨e x, _, rfl, hl _ _ hv, parts_ok hl hq⟩
      · cases h
    · cases h

theorem fillA_ok {n : Nat} : ∀ {ps : List (Nat × AV)} {us : List (Nat × Value)} {cs r : List AV} {c : Array Value}, fillA n ps cs = some r → PRs ρ ps us → VRs ρ cs c.toList →
    ∃ c', Instr.fill (fun i => some (i * n, n)) c us = some c' ∧ VRs ρ r c'.toList
  | [], us, cs, r, c, h, hp, hc => by
    obtain rfl := Option.some.inj h
    obtain rfl : us = [] := hp
    exact ⟨c, rfl, hc⟩
  | (i, a) :: ps, us, cs, r, c, h, hp, hc => by
    obtain ⟨v, us, rfl, hv, hp⟩ := hp
    simp only [fillA] at h
    split at h
    · rename_i hn
      split at h
      · rename_i cs' hs
        have hn : a.cells.length = n := Nat.eq_of_beq_eq_true hn
        obtain ⟨h1, h2, h3⟩ := setAt_ok hs
        have hz := hv.cells_size
        have hcz : c.size = cs.length := by simpa using hc.length
        have hnew := VRs.sets hs hc hv.cells
        obtain ⟨c', hc', hr⟩ := fillA_ok h hp hnew
        refine ⟨c', ?_, hr⟩
        simp only [Instr.fill]
        have hbad : (v.cells.size ≠ n || i * n + v.cells.size > c.size) = false := by
          simp
          refine ⟨by omega, ?_⟩
          rcases h1 with h1 | h1
          · rw [h1] at hn hz
            simp at hn hz
            subst hn
            simp [hz]
          · have : i * n + a.cells.length ≤ cs.length := h1
            omega
        simp only [hbad]
        simp only [Bool.false_eq_true, if_false]
        rw [foldl_sets]
        exact hc'
      · cases h
    · cases h

theorem fillS_ok {fields : Array Field} {places : Array (Nat × Nat)} (hpl : ∀ (i : Nat) (f : Field), fields[i]? = some f → ∀ n, size P f.type = some n → places[i]? = some (f.offset, n)) :
    ∀ {ps : List (Nat × AV)} {us : List (Nat × Value)} {cs : List AV} {r : AV} {c : Array Value}, fillS P fields ps cs = some r → PRs ρ ps us → VRs ρ cs c.toList →
    ∃ c' l, Instr.fill (fun i => places[i]?) c us = some c' ∧ r = .agg l ∧ VRs ρ l c'.toList
  | [], us, cs, r, c, h, hp, hc => by
    obtain rfl := Option.some.inj h
    obtain rfl : us = [] := hp
    exact ⟨c, cs, rfl, rfl, hc⟩
  | (i, a) :: ps, us, cs, r, c, h, hp, hc => by
    obtain ⟨v, us, rfl, hv, hp⟩ := hp
    simp only [fillS] at h
    split at h
    · rename_i f hf
      split at h
      · rename_i n hsz
        split at h
        · rename_i hn
          split at h
          · rename_i cs' hs
            have hn : a.cells.length = n + 1 := Nat.eq_of_beq_eq_true hn
            obtain ⟨h1, h2, h3⟩ := setAt_ok hs
            have hz := hv.cells_size
            have hcz : c.size = cs.length := by simpa using hc.length
            have hnew := VRs.sets hs hc hv.cells
            obtain ⟨c', l, hc', hr⟩ := fillS_ok hpl h hp hnew
            refine ⟨c', l, ?_, hr⟩
            simp only [Instr.fill, hpl _ _ hf _ hsz]
            have hbad : (v.cells.size ≠ n + 1 || f.offset + v.cells.size > c.size) = false := by
              simp
              refine ⟨by omega, ?_⟩
              rcases h1 with h1 | h1
              · rw [h1] at hn; simp at hn
              · omega
            simp only [hbad]
            simp only [Bool.false_eq_true, if_false]
            rw [foldl_sets]
            exact hc'
          · cases h
        · cases h
      · cases h
    · cases h

end Go.Ev
