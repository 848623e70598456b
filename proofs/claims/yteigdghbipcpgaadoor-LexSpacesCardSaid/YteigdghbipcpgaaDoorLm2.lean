/- Tokens written and read again. No program in this text. -/
import Derived.Test.YteigdghbipcpgaaDoorLm1
import Derived.Lib.Join
namespace Go.Lx
open Go.Lib

def srcN : List UInt8 → List UInt8
  | [] => []
  | c :: d => if c = 45 then 126 :: d else c :: d
theorem srcN_cons (c : UInt8) (d : List UInt8) : srcN (c :: d) = if c = 45 then 126 :: d else c :: d := rfl
theorem srcN_len (l : List UInt8) : (srcN l).length = l.length := by
  cases l with
  | nil => rfl
  | cons c d => rw [srcN_cons]; split <;> rfl
theorem numB_cons (c : UInt8) (d : List UInt8) : numB (c :: d) = if c = 45 then magB true d else magB false (c :: d) := by
  by_cases h : c = 45
  · subst h; rfl
  · rw [if_neg h, num_pos _ (by simpa using h)]
/-- How a token is written. -/
def srcL (t : Tok) : List UInt8 :=
  if t.kind = 1 then srcN t.text
  else if t.kind = 2 ∧ (kwB t.text = true ∨ t.text = [124] ∨ t.text = [35]) then 39 :: (t.text ++ [39])
  else t.text

inductive TRes where
  | ok (s : List UInt8)
  | form
  | long
/-- Tokens as a text. -/
def textL (ts : List Tok) : TRes :=
  if ts.all isTok = false then .form
  else if 1200 < ts.length ∨ 4000 < (join (ts.map srcL) [32]).length then .long
  else .ok (join (ts.map srcL) [32])

/-- What a list of bytes begins with, place or no place. -/
inductive TokL : List UInt8 → List Tok → Prop where
  | nil : TokL [] []
  | cons {m : List UInt8} {ts : List Tok} (hne : m ≠ []) (hok : isTok (nextL m).1 = true) (rest : TokL (m.drop ((nextL m).2 + gapL false (m.drop (nextL m).2))) ts) : TokL m ((nextL m).1 :: ts)

theorem isTok_pos (t : Tok) (p : Int) : isTok { t with pos := p } = isTok t := rfl
theorem Toks.toL {l : List UInt8} {p : Nat} {us : List Tok} (h : Toks l p us) : TokL (l.drop p) (us.map fun t => { t with pos := 0 }) := by
  induction h with
  | nil h => rw [h]; exact .nil
  | @cons p ts hne hok rest ih =>
    have hp : (nextL (l.drop p)).1.pos = 0 := by
      cases hd : l.drop p with
      | nil => exact absurd hd hne
      | cons c r =>
        simp only [nextL]
        split
        · rfl
        · split
          · rfl
          · split
            · rfl
            · split
              · rfl
              · split
                · split <;> rfl
                · rfl
    have e : ({ ({ (nextL (l.drop p)).1 with pos := (p : Int) } : Tok) with pos := 0 } : Tok) = (nextL (l.drop p)).1 := by
      cases hx : (nextL (l.drop p)).1
      rw [hx] at hp
      simp only at hp
      subst hp
      rfl
    simp only [List.map_cons]
    rw [e]
    refine .cons hne hok ?_
    rw [List.drop_drop, List.drop_drop]
    exact ih
theorem TokL.toks {m : List UInt8} {ts : List Tok} (h : TokL m ts) : ∀ (l : List UInt8) (p : Nat), l.drop p = m → ∃ us, Toks l p us ∧ us.length = ts.length ∧ ∀ (j : Nat) (t u : Tok), ts[j]? = some t → us[j]? = some u → t.kind = u.kind ∧ t.text = u.text := by
  induction h with
  | nil =>
    intro l p h
    exact ⟨[], .nil h, rfl, fun j t u ht => by simp at ht⟩
  | @cons m ts hne hok rest ih =>
    intro l p h
    subst h
    rw [List.drop_drop, List.drop_drop] at ih
    obtain ⟨us, h1, h2, h3⟩ := ih l _ rfl
    refine ⟨_, .cons hne hok h1, by simp [h2], fun j t u ht hu => ?_⟩
    cases j with
    | zero =>
      simp only [List.getElem?_cons_zero, Option.some.injEq] at ht hu
      subst ht hu
      exact ⟨rfl, rfl⟩
    | succ j =>
      simp only [List.getElem?_cons_succ] at ht hu
      exact h3 j t u ht hu

/-- What stands behind a token that is written: nothing, or a blank. -/
def Ends (r : List UInt8) : Prop := r = [] ∨ r.head? = some 32

theorem tw_all {p : UInt8 → Bool} {d r : List UInt8} (hd : d.all p = true) (hr : r.head?.all (fun c => !p c) = true) : (d ++ r).takeWhile p = d := by
  induction d with
  | nil =>
    cases r with
    | nil => rfl
    | cons c r =>
      simp only [List.head?_cons, Option.all_some, Bool.not_eq_true'] at hr
      rw [List.nil_append, List.takeWhile_cons, hr]; rfl
  | cons c d ih =>
    rw [List.all_cons, Bool.and_eq_true] at hd
    rw [List.cons_append, List.takeWhile_cons, hd.1]
    simp only [if_true]
    rw [ih hd.2]
theorem ends_not {p : UInt8 → Bool} {r : List UInt8} (h : Ends r) (hp : p 32 = false) : r.head?.all (fun c => !p c) = true := by
  rcases h with rfl | h
  · rfl
  · rw [h]; simp [hp]
theorem letB_39 (l : List UInt8) (h : l.all letB = true) : l.all (· != 39) = true := by
  rw [List.all_eq_true] at h ⊢
  intro c hc
  have h1 := h c hc
  have := all_bytes (p := fun c => !letB c || (c != 39)) (by decide +kernel) c
  simpa [h1] using this
theorem wd_parts {k : Int} {l : List UInt8} (h : wdB k l = true) : ∃ c r, l = c :: r ∧ kindI c.toNat = k ∧ l.all letB = true := by
  unfold wdB at h
  simp only [Bool.and_eq_true, decide_eq_true_eq] at h
  obtain ⟨⟨⟨h1, _⟩, h2⟩, h3⟩ := h
  cases l with
  | nil => simp at h1
  | cons c r => exact ⟨c, r, rfl, h2, h3⟩

theorem read_word3 {l r : List UInt8} (h : wdB 3 l = true) (hr : Ends r) : nextL (l ++ r) = (⟨if kwB l then 4 else 2, l, 0⟩, l.length) := by
  obtain ⟨c, d, rfl, hk, ha⟩ := wd_parts h
  have htw := tw_all ha (ends_not (p := letB) hr (by decide))
  rw [List.cons_append] at htw ⊢
  rw [next_small hk, htw]
theorem read_word4 {l r : List UInt8} (h : wdB 4 l = true) (hr : Ends r) : nextL (l ++ r) = (⟨3, l, 0⟩, l.length) := by
  obtain ⟨c, d, rfl, hk, ha⟩ := wd_parts h
  have htw := tw_all ha (ends_not (p := letB) hr (by decide))
  rw [List.cons_append] at htw ⊢
  rw [next_cap hk, htw]
theorem read_quoted {l r : List UInt8} (h : l.all (· != 39) = true) : nextL (39 :: (l ++ [39]) ++ r) = (⟨2, l, 0⟩, l.length + 2) := by
  have htw : ((l ++ [39]) ++ r).takeWhile (· != 39) = l := by
    rw [List.append_assoc]
    exact tw_all h (by simp)
  rw [List.cons_append, next_quote (by decide) (by simp), htw]
theorem read_num {l r : List UInt8} (h : numB l = true) (hr : Ends r) : nextL (srcN l ++ r) = (⟨1, l, 0⟩, l.length) := by
  cases l with
  | nil => exact absurd h (by decide)
  | cons c d =>
    rw [numB_cons] at h
    rw [srcN_cons]
    by_cases hc : c = 45
    · subst hc
      rw [if_pos rfl] at h ⊢
      have ha : d.all digB = true := by
        unfold magB at h
        simp only [Bool.and_eq_true] at h
        exact h.1.1.2
      rw [List.cons_append, next_tilde (by decide), tw_all ha (ends_not (p := digB) hr (by decide))]
      simp only [List.length_cons, Nat.add_comm]
    · rw [if_neg hc] at h ⊢
      have ha : (c :: d).all digB = true := by
        unfold magB at h
        simp only [Bool.and_eq_true] at h
        exact h.1.1.2
      have htw := tw_all ha (ends_not (p := digB) hr (by decide))
      rw [List.all_cons, Bool.and_eq_true] at ha
      rw [List.cons_append] at htw ⊢
      rw [next_dig ((kindI_dig c).2 ha.1), htw]
theorem sym_parts {l : List UInt8} (h : symB l = true) : ∃ c d, l = c :: d ∧ d.length ≤ 1 ∧ kindI c.toNat ≠ 2 ∧ kindI c.toNat ≠ 6 ∧ kindI c.toNat ≠ 3 ∧ kindI c.toNat ≠ 4 ∧ kindI c.toNat ≠ 7 ∧ spB c = false ∧ c ≠ 37 := by
  unfold symB at h
  rw [List.any_eq_true] at h
  obtain ⟨k, hk, he⟩ := h
  have he : l = k := by simpa using he
  subst he
  have := List.all_eq_true.1 (show (syms.all fun l => match l with
    | [] => false
    | c :: d => decide (d.length ≤ 1 ∧ kindI c.toNat ≠ 2 ∧ kindI c.toNat ≠ 6 ∧ kindI c.toNat ≠ 3 ∧ kindI c.toNat ≠ 4 ∧ kindI c.toNat ≠ 7 ∧ spB c = false ∧ c ≠ 37)) = true by decide +kernel) l hk
  cases l with
  | nil => simp at this
  | cons c d => exact ⟨c, d, rfl, by simpa using this⟩
theorem sym_blank (c : UInt8) : symB [c, 32] = false := by
  have := all_bytes (p := fun c => !symB [c, 32]) (by decide +kernel) c
  simpa using this
theorem read_sym {l r : List UInt8} (h : symB l = true) (hr : Ends r) : nextL (l ++ r) = (⟨5, l, 0⟩, l.length) := by
  obtain ⟨c, d, rfl, hd, h2, h6, h3, h4, h7, _, _⟩ := sym_parts h
  rw [List.cons_append, next_sym h2 h6 h3 h4 h7]
  have hs : symL (c :: (d ++ r)) = (c :: d).length := by
    unfold symL
    match d, hd, h with
    | [], _, h =>
      rw [if_neg]
      · rfl
      · rintro ⟨h1, h2⟩
        rcases hr with rfl | hr
        · simp at h1
        · cases r with
          | nil => simp at hr
          | cons x r =>
            obtain rfl : x = 32 := by simpa using hr
            simp only [List.nil_append, List.take_succ_cons, List.take_zero] at h2
            rw [sym_blank] at h2; cases h2
    | [x], _, h =>
      rw [if_pos]
      · rfl
      · exact ⟨by simp, by simpa using h⟩
  rw [hs]
  congr 2
  have : (c :: (d ++ r)) = (c :: d) ++ r := rfl
  rw [this]
  exact List.take_left

/-- A token that is written is read. -/
theorem read_tok {t : Tok} {r : List UInt8} (h : isTok t = true) (hr : Ends r) : nextL (srcL t ++ r) = ({ t with pos := 0 }, (srcL t).length) := by
  obtain ⟨k, x, p⟩ := t
  unfold isTok at h
  simp only at h
  by_cases h1 : k = 1
  · subst h1
    simp only [if_true] at h
    rw [intB_eq] at h
    unfold srcL
    simp only [if_true]
    rw [read_num h hr, srcN_len]
  rw [if_neg h1] at h
  by_cases h2 : k = 2
  · subst h2
    rw [if_pos rfl] at h
    unfold srcL
    simp only [true_and]
    rw [if_neg (by decide)]
    by_cases hq : kwB x = true ∨ x = [124] ∨ x = [35]
    · rw [if_pos hq]
      have hx : x.all (· != 39) = true := by
        rcases hq with hq | rfl | rfl
        · obtain ⟨_, _, _, _, ha⟩ := wd_parts (kw_word hq)
          exact letB_39 _ ha
        · decide
        · decide
      rw [read_quoted hx]
      simp
    · rw [if_neg hq]
      have hw : wdB 3 x = true := by
        unfold atB at h
        simp only [Bool.or_eq_true, beq_iff_eq] at h
        rcases h with (h | h) | h
        · exact absurd (.inr (.inl h)) hq
        · exact absurd (.inr (.inr h)) hq
        · exact h
      rw [read_word3 hw hr]
      have hk : kwB x = false := by
        cases hkx : kwB x
        · rfl
        · exact absurd (.inl hkx) hq
      rw [hk]
      rfl
  rw [if_neg h2] at h
  have hs : srcL ⟨k, x, p⟩ = x := by
    unfold srcL
    simp only
    rw [if_neg h1, if_neg (fun h => h2 h.1)]
  rw [hs]
  by_cases h3 : k = 3
  · subst h3
    rw [if_pos rfl] at h
    rw [read_word4 h hr]
  rw [if_neg h3] at h
  by_cases h4 : k = 4
  · subst h4
    rw [if_pos rfl] at h
    rw [read_word3 (kw_word h) hr, h]
    rfl
  rw [if_neg h4] at h
  by_cases h5 : k = 5
  · subst h5
    rw [if_pos rfl] at h
    rw [read_sym h hr]
  rw [if_neg h5] at h
  cases h
end Go.Lx
