/- Where the tokens stand: P3.2. No program in this text. -/
import Derived.Test.YteigdghbipcpgaaDoorLm5
namespace Go.Lx
open Go.Lib

theorem gap_take : ∀ (b : Bool) (l : List UInt8), gapL b (l.take (gapL b l)) = gapL b l
  | false, [] => rfl
  | true, [] => rfl
  | false, c :: r => by
    have h1 := gap_take true r
    have h2 := gap_take false r
    rw [gap_false]
    by_cases hc : c = 37
    · rw [if_pos hc, Nat.add_comm, List.take_succ_cons, gap_false, if_pos hc, h1, Nat.add_comm]
    · rw [if_neg hc]
      by_cases hs : spB c = true
      · rw [if_pos hs, Nat.add_comm, List.take_succ_cons, gap_false, if_neg hc, if_pos hs, h2, Nat.add_comm]
      · rw [if_neg hs]; rfl
  | true, c :: r => by
    have h1 := gap_take true r
    have h2 := gap_take false r
    rw [gap_true]
    by_cases hc : c = 10
    · rw [if_pos hc, Nat.add_comm, List.take_succ_cons, gap_true, if_pos hc, h2, Nat.add_comm]
    · rw [if_neg hc, Nat.add_comm, List.take_succ_cons, gap_true, if_neg hc, h1, Nat.add_comm]

theorem take_tw {p : UInt8 → Bool} : ∀ (l : List UInt8), l.take (l.takeWhile p).length = l.takeWhile p
  | [] => rfl
  | c :: r => by
    rw [List.takeWhile_cons]
    cases h : p c
    · rfl
    · simp only [if_true, List.length_cons, List.take_succ_cons, take_tw r]
theorem tw_sub {r : List UInt8} (h : 39 ∈ r) : r.take ((r.takeWhile (· != 39)).length + 1) = r.takeWhile (· != 39) ++ [39] := by
  induction r with
  | nil => cases h
  | cons c r ih =>
    by_cases hc : c = 39
    · subst hc; simp
    · rw [tw_ne' hc]
      simp only [List.length_cons, List.take_succ_cons, List.cons_append]
      rw [ih (by
        rcases List.mem_cons.1 h with e | e
        · exact absurd e.symm hc
        · exact e)]

/-- How a token stands in its source. -/
inductive Stands (l : List UInt8) (p n : Nat) (x : List UInt8) : Prop where
  | quoted (hc : at0 l p = 39) (hx : (l.drop p).take n = 39 :: (x ++ [39])) (hn : n = x.length + 2) (h0 : 0 < x.length) (h1 : at0 x 0 ≠ 126)
  | tilde (r : List UInt8) (hc : at0 l p = 126) (hx : (l.drop p).take n = 126 :: r) (ht : x = 45 :: r) (hn : n = r.length + 1)
  | plain (h1 : at0 l p ≠ 39) (h2 : at0 l p ≠ 126) (hx : (l.drop p).take n = x) (hn : n = x.length) (h0 : 0 < n)

theorem at_head {x : List UInt8} (h : atB x = true) : 0 < x.length ∧ at0 x 0 ≠ 126 := by
  unfold atB at h
  simp only [Bool.or_eq_true, beq_iff_eq] at h
  rcases h with (h | h) | h
  · subst h; decide
  · subst h; decide
  · unfold wdB at h
    simp only [Bool.and_eq_true, decide_eq_true_eq] at h
    obtain ⟨⟨⟨h1, _⟩, h2⟩, _⟩ := h
    cases x with
    | nil => simp at h1
    | cons c r =>
      refine ⟨by simp, ?_⟩
      intro e
      have e' : c = 126 := e
      subst e'
      exact absurd (show kindI ((126 : UInt8).toNat) = 3 from h2) (by decide)

theorem stands {l : List UInt8} {p : Nat} (h : p < l.length) (hok : isTok (nextL (l.drop p)).1 = true) : Stands l p (nextL (l.drop p)).2 (nextL (l.drop p)).1.text := by
  have hd := drop_at h
  have hb := next_bounds (l := l.drop p) (by rw [hd]; simp)
  have hb1 := hb.1
  have hb2 := hb.2 hok
  clear hb
  generalize hc : at0 l p = c at *
  rw [hd] at hok hb1 hb2 ⊢
  by_cases h2 : kindI c.toNat = 2
  · rw [next_dig h2] at hb2 ⊢
    exact .plain (by rw [hc]; exact fun e => by rw [e] at h2; revert h2; decide) (by rw [hc]; exact fun e => by rw [e] at h2; revert h2; decide) (by rw [hd]; exact take_tw _) rfl hb2
  by_cases h6 : kindI c.toNat = 6
  · have e : c = 126 := (kindI_tilde c).1 h6
    rw [next_tilde h6] at hb2 ⊢
    exact .tilde ((l.drop (p + 1)).takeWhile digB) (by rw [hc]; exact e) (by rw [hd]; simp only; rw [Nat.add_comm 1, List.take_succ_cons, take_tw, e]) rfl (by simp only; omega)
  by_cases h3 : kindI c.toNat = 3
  · rw [next_small h3] at hb2 ⊢
    exact .plain (by rw [hc]; exact fun e => by rw [e] at h3; revert h3; decide) (by rw [hc]; exact fun e => by rw [e] at h3; revert h3; decide) (by rw [hd]; exact take_tw _) rfl hb2
  by_cases h4 : kindI c.toNat = 4
  · rw [next_cap h4] at hb2 ⊢
    exact .plain (by rw [hc]; exact fun e => by rw [e] at h4; revert h4; decide) (by rw [hc]; exact fun e => by rw [e] at h4; revert h4; decide) (by rw [hd]; exact take_tw _) rfl hb2
  by_cases h7 : kindI c.toNat = 7
  · by_cases hm : 39 ∈ l.drop (p + 1)
    · have e : c = 39 := (kindI_quote c).1 h7
      rw [next_quote h7 hm] at hok ⊢
      have ha : atB ((l.drop (p + 1)).takeWhile (· != 39)) = true := hok
      obtain ⟨a1, a2⟩ := at_head ha
      exact .quoted (by rw [hc]; exact e) (by rw [hd, List.take_succ_cons, tw_sub hm, e]) rfl a1 a2
    · rw [next_open h7 hm] at hok
      simp [isTok] at hok
  · rw [next_sym h2 h6 h3 h4 h7] at hb1 hb2 ⊢
    refine .plain (by rw [hc]; exact fun e => h7 ((kindI_quote c).2 e)) (by rw [hc]; exact fun e => h6 ((kindI_tilde c).2 e)) (by rw [hd]) ?_ hb2
    simp only at hb1 ⊢
    rw [List.length_take]
    omega

/-- The next token, and what is before it. -/
theorem Toks.first {l : List UInt8} {p last : Nat} {t : Tok} {ts : List Tok} (h : Toks l p (t :: ts)) (hp : p = last + gapL false (l.drop last)) :
    p < l.length ∧ t.pos = p ∧ gapL false ((l.drop last).take (p - last)) = p - last ∧ 1 ≤ sizeT l p t.text ∧ p + sizeT l p t.text ≤ l.length ∧ t.text.length ≤ l.length ∧ Stands l p (sizeT l p t.text) t.text ∧
      ∃ p', p' = (p + sizeT l p t.text) + gapL false (l.drop (p + sizeT l p t.text)) ∧ Toks l p' ts := by
  cases h with
  | cons hne hok rest =>
    have hlt : p < l.length := by
      rcases Nat.lt_or_ge p l.length with h | h
      · exact h
      · exact absurd (List.drop_of_length_le h) hne
    have hn := next_len hlt hok
    have hs := stands hlt hok
    have hb := next_bounds hne
    have hb2 := hb.2 hok
    have hb1 := hb.1
    rw [List.length_drop] at hb1
    rw [hn] at hs hb1 hb2 rest
    have hx : (nextL (l.drop p)).1.text.length ≤ l.length := by
      have : (nextL (l.drop p)).1.text.length ≤ sizeT l p (nextL (l.drop p)).1.text := by unfold sizeT; split <;> omega
      omega
    refine ⟨hlt, rfl, ?_, hb2, by simp only; omega, hx, hs, _, ?_, rest⟩
    · rw [show p - last = gapL false (l.drop last) by omega]
      exact gap_take false _
    · simp only; omega
theorem Toks.last {l : List UInt8} {p last : Nat} (h : Toks l p []) (hp : p = last + gapL false (l.drop last)) (hl : last ≤ l.length) : gapL false (l.drop last) = l.length - last := by
  cases h with
  | nil h =>
    have h1 := gap_le false (l.drop last)
    rw [List.length_drop] at h1
    have h2 := List.drop_eq_nil_iff.1 h
    omega
end Go.Lx
