/- The tokens of a source, one after the other. No program in this text. -/
import Derived.Test.YteigdghbipcpgaaDoorLx2
namespace Go.Lx
open Go.Lib

/-- The tokens of l from place p on. -/
inductive Toks (l : List UInt8) : Nat → List Tok → Prop where
  | nil {p : Nat} (h : l.drop p = []) : Toks l p []
  | cons {p : Nat} {ts : List Tok} (hne : l.drop p ≠ []) (hok : isTok (nextL (l.drop p)).1 = true)
      (rest : Toks l (p + ((nextL (l.drop p)).2 + gapL false (l.drop (p + (nextL (l.drop p)).2)))) ts) : Toks l p ({ (nextL (l.drop p)).1 with pos := (p : Int) } :: ts)

theorem scanF_ok (l : List UInt8) : ∀ (f p : Nat) (out all : List Tok), l.length - p ≤ f → out.length ≤ 1200 → scanF f (l.drop p) p out = .ok all → ∃ ts, all = out ++ ts ∧ Toks l p ts ∧ all.length ≤ 1200
  | 0, p, out, all, hf, ho, h => by
    have hd : l.drop p = [] := List.drop_of_length_le (by omega)
    rw [hd] at h
    injection h with h
    subst h
    exact ⟨[], by simp, .nil hd, ho⟩
  | f + 1, p, out, all, hf, ho, h => by
    unfold scanF at h
    by_cases hd : l.drop p = []
    · rw [if_pos hd] at h
      injection h with h
      subst h
      exact ⟨[], by simp, .nil hd, ho⟩
    rw [if_neg hd] at h
    by_cases hok : isTok (nextL (l.drop p)).1 = false
    · rw [if_pos hok] at h; cases h
    rw [if_neg hok] at h
    by_cases h12 : out.length = 1200
    · rw [if_pos h12] at h; cases h
    rw [if_neg h12] at h
    have hok' : isTok (nextL (l.drop p)).1 = true := by simpa using hok
    have hb := (next_bounds hd).2 hok'
    have hlt : p < l.length := by
      rcases Nat.lt_or_ge p l.length with h | h
      · exact h
      · exact absurd (List.drop_of_length_le h) hd
    simp only [List.drop_drop] at h
    obtain ⟨ts, h1, h2, h3⟩ := scanF_ok l f _ _ all (by omega) (by simp; omega) h
    refine ⟨_ :: ts, ?_, .cons hd hok' h2, h3⟩
    rw [h1]
    simp
theorem scanF_of {l : List UInt8} {p : Nat} {ts : List Tok} (h : Toks l p ts) : ∀ (f : Nat) (out : List Tok), l.length - p ≤ f → out.length + ts.length ≤ 1200 → scanF f (l.drop p) p out = .ok (out ++ ts) := by
  induction h with
  | nil h =>
    intro f out _ _
    rw [h]
    cases f <;> simp [scanF]
  | @cons p ts hne hok rest ih =>
    intro f out hf ho
    have hb := (next_bounds hne).2 hok
    have hlt : p < l.length := by
      rcases Nat.lt_or_ge p l.length with h | h
      · exact h
      · exact absurd (List.drop_of_length_le h) hne
    obtain ⟨f, rfl⟩ : ∃ f', f = f' + 1 := ⟨f - 1, by omega⟩
    simp only [List.length_cons] at ho
    unfold scanF
    rw [if_neg hne, if_neg (by rw [hok]; simp), if_neg (by omega)]
    simp only [List.drop_drop]
    rw [ih f _ (by omega) (by simp; omega)]
    simp
theorem scanL_ok (l : List UInt8) (ts : List Tok) : scanL l = .ok ts ↔ l.length ≤ 4000 ∧ ts.length ≤ 1200 ∧ Toks l (gapL false l) ts := by
  unfold scanL
  constructor
  · intro h
    split at h
    · cases h
    · obtain ⟨us, h1, h2, h3⟩ := scanF_ok l _ _ _ _ (by omega) (by simp) h
      simp only [List.nil_append] at h1
      subst h1
      exact ⟨by omega, h3, h2⟩
  · rintro ⟨h1, h2, h3⟩
    rw [if_neg (by omega), scanF_of h3 _ [] (by omega) (by simpa using h2)]
    simp

/-- Each token is where it says. -/
theorem Toks.mem {l : List UInt8} {p : Nat} {ts : List Tok} (h : Toks l p ts) : ∀ t ∈ ts, ∃ q, q < l.length ∧ t = { (nextL (l.drop q)).1 with pos := (q : Int) } ∧ isTok (nextL (l.drop q)).1 = true := by
  induction h with
  | nil h => intro t ht; cases ht
  | @cons p ts hne hok rest ih =>
    intro t ht
    rcases List.mem_cons.1 ht with rfl | ht
    · refine ⟨p, ?_, rfl, hok⟩
      rcases Nat.lt_or_ge p l.length with h | h
      · exact h
      · exact absurd (List.drop_of_length_le h) hne
    · exact ih t ht

def at0 (l : List UInt8) (q : Nat) : UInt8 := l.getD q 0
theorem drop_at {l : List UInt8} {q : Nat} (h : q < l.length) : l.drop q = at0 l q :: l.drop (q + 1) := by
  rw [List.drop_eq_getElem_cons h]
  unfold at0
  simp [List.getD, h]
/-- How many bytes a token has. -/
def sizeT (l : List UInt8) (q : Nat) (t : List UInt8) : Nat := if at0 l q = 39 then t.length + 2 else t.length

theorem tw_next {p : UInt8 → Bool} : ∀ (l : List UInt8), (l.takeWhile p).length < l.length → p (at0 l (l.takeWhile p).length) = false
  | [], h => by simp at h
  | c :: l, h => by
    rw [List.takeWhile_cons] at h ⊢
    cases hc : p c
    · simp [hc, at0]
    · simp only [hc, if_true, List.length_cons, Nat.add_lt_add_iff_right] at h ⊢
      have := tw_next l h
      simpa [at0] using this
theorem at0_drop (l : List UInt8) (q i : Nat) : at0 (l.drop q) i = at0 l (q + i) := by
  unfold at0; simp [List.getD]
theorem tw_next_at {p : UInt8 → Bool} (l : List UInt8) (q : Nat) (h : q + ((l.drop q).takeWhile p).length < l.length) : p (at0 l (q + ((l.drop q).takeWhile p).length)) = false := by
  rw [← at0_drop]
  exact tw_next _ (by rw [List.length_drop]; omega)

theorem next_len {l : List UInt8} {q : Nat} (h : q < l.length) (hok : isTok (nextL (l.drop q)).1 = true) : (nextL (l.drop q)).2 = sizeT l q (nextL (l.drop q)).1.text := by
  have hd := drop_at h
  have hc : at0 l q = at0 l q := rfl
  generalize hx : at0 l q = c at *
  rw [hd] at hok ⊢
  unfold sizeT
  rw [hx]
  by_cases h2 : kindI c.toNat = 2
  · rw [next_dig h2, if_neg (fun e => by rw [e] at h2; revert h2; decide)]
  by_cases h6 : kindI c.toNat = 6
  · rw [next_tilde h6, if_neg (fun e => by rw [e] at h6; revert h6; decide)]
    simp only [List.length_cons]; omega
  by_cases h3 : kindI c.toNat = 3
  · have hc39 : c ≠ 39 := fun e => by rw [e] at h3; revert h3; decide
    rw [next_small h3]
    simp only [if_neg hc39]
  by_cases h4 : kindI c.toNat = 4
  · rw [next_cap h4, if_neg (fun e => by rw [e] at h4; revert h4; decide)]
  by_cases h7 : kindI c.toNat = 7
  · by_cases hm : 39 ∈ l.drop (q + 1)
    · rw [next_quote h7 hm, if_pos ((kindI_quote c).1 h7)]
    · rw [next_open h7 hm] at hok
      simp [isTok] at hok
  · rw [next_sym h2 h6 h3 h4 h7, if_neg (fun e => h7 ((kindI_quote c).2 e))]
    have hle := (next_bounds (l := c :: l.drop (q + 1)) (by simp)).1
    rw [next_sym h2 h6 h3 h4 h7] at hle
    simp only at hle ⊢
    rw [List.length_take]
    omega

/-- P3.3: no token could go on. -/
theorem next_longest {l : List UInt8} {q : Nat} (h : q < l.length) (hok : isTok (nextL (l.drop q)).1 = true) (h5 : (nextL (l.drop q)).1.kind ≠ 5) (h39 : at0 l q ≠ 39)
    (he : q + sizeT l q (nextL (l.drop q)).1.text < l.length) :
    ((nextL (l.drop q)).1.kind = 1 ∧ digB (at0 l (q + sizeT l q (nextL (l.drop q)).1.text)) = false) ∨ ((nextL (l.drop q)).1.kind ≠ 1 ∧ letB (at0 l (q + sizeT l q (nextL (l.drop q)).1.text)) = false) := by
  rw [← next_len h hok] at he ⊢
  have hd := drop_at h
  have hn1 := tw_next_at (p := digB) l q
  have hn2 := tw_next_at (p := digB) l (q + 1)
  have hn3 := tw_next_at (p := letB) l q
  generalize hx : at0 l q = c at *
  rw [hd] at hok h5 he hn1 hn3 ⊢
  by_cases h2 : kindI c.toNat = 2
  · rw [next_dig h2] at he ⊢
    exact .inl ⟨rfl, hn1 he⟩
  by_cases h6 : kindI c.toNat = 6
  · rw [next_tilde h6] at he ⊢
    refine .inl ⟨rfl, ?_⟩
    simp only at he ⊢
    rw [← Nat.add_assoc] at he ⊢
    exact hn2 he
  by_cases h3 : kindI c.toNat = 3
  · rw [next_small h3] at he ⊢
    refine .inr ⟨?_, hn3 he⟩
    simp only
    split <;> decide
  by_cases h4 : kindI c.toNat = 4
  · rw [next_cap h4] at he ⊢
    exact .inr ⟨fun e => absurd (show (3 : Int) = 1 from e) (by decide), hn3 he⟩
  by_cases h7 : kindI c.toNat = 7
  · exact absurd ((kindI_quote c).1 h7) h39
  · rw [next_sym h2 h6 h3 h4 h7] at h5
    exact absurd rfl h5
end Go.Lx
