/- The document's token is the program's; blanks and remarks. No program in this text. -/
import Derived.Test.YteigdghbipcpgaaDoorLx1
namespace Go.Lx
open Go.Lib

theorem takeWhile_all {p : UInt8 → Bool} : ∀ (l : List UInt8), (l.takeWhile p).all p = true
  | [] => rfl
  | c :: l => by
    rw [List.takeWhile_cons]
    split
    · rename_i h; rw [List.all_cons, h, takeWhile_all l]; rfl
    · rfl
theorem kindI_dig (c : UInt8) : kindI c.toNat = 2 ↔ digB c = true := by
  have := all_bytes (p := fun c => decide (kindI c.toNat = 2) == digB c) (by decide +kernel) c
  have := beq_iff_eq.1 this
  rw [← this, decide_eq_true_iff]
theorem kindI_tilde (c : UInt8) : kindI c.toNat = 6 ↔ c = 126 := by
  have := all_bytes (p := fun c => decide (kindI c.toNat = 6) == decide (c = 126)) (by decide +kernel) c
  have := beq_iff_eq.1 this
  exact ⟨fun h => decide_eq_true_iff.1 (this ▸ decide_eq_true_iff.2 h), fun h => decide_eq_true_iff.1 (this ▸ decide_eq_true_iff.2 h)⟩
theorem kindI_quote (c : UInt8) : kindI c.toNat = 7 ↔ c = 39 := by
  have := all_bytes (p := fun c => decide (kindI c.toNat = 7) == decide (c = 39)) (by decide +kernel) c
  have := beq_iff_eq.1 this
  exact ⟨fun h => decide_eq_true_iff.1 (this ▸ decide_eq_true_iff.2 h), fun h => decide_eq_true_iff.1 (this ▸ decide_eq_true_iff.2 h)⟩
theorem kindI_let (c : UInt8) (hd : kindI c.toNat ≠ 2) : (kindI c.toNat = 3 ∨ kindI c.toNat = 4) ↔ (c ≠ 95 ∧ letB c = true) := by
  have := all_bytes (p := fun c => decide (kindI c.toNat ≠ 2 → ((kindI c.toNat = 3 ∨ kindI c.toNat = 4) ↔ (c ≠ 95 ∧ letB c = true)))) (by decide +kernel) c
  exact decide_eq_true_iff.1 this hd
theorem let_of_kind (c : UInt8) (h : kindI c.toNat = 3 ∨ kindI c.toNat = 4) : letB c = true := by
  have := all_bytes (p := fun c => decide ((kindI c.toNat = 3 ∨ kindI c.toNat = 4) → letB c = true)) (by decide +kernel) c
  exact decide_eq_true_iff.1 this h
theorem dig_not_minus (c : UInt8) (h : digB c = true) : c ≠ 45 := by
  intro e; subst e; revert h; decide

theorem num_pos (l : List UInt8) (h : l.head? ≠ some 45) : numB l = magB false l := by
  unfold numB
  split
  · rename_i d; exact absurd rfl h
  · rfl

section
variable {c : UInt8} {r : List UInt8}
theorem next_dig (h : kindI c.toNat = 2) : nextL (c :: r) = (⟨1, (c :: r).takeWhile digB, 0⟩, ((c :: r).takeWhile digB).length) := by
  simp only [nextL, h, if_true]
theorem next_tilde (h : kindI c.toNat = 6) : nextL (c :: r) = (⟨1, 45 :: r.takeWhile digB, 0⟩, 1 + (r.takeWhile digB).length) := by
  simp [nextL, h]
theorem next_small (h : kindI c.toNat = 3) : nextL (c :: r) = (⟨if kwB ((c :: r).takeWhile letB) then 4 else 2, (c :: r).takeWhile letB, 0⟩, ((c :: r).takeWhile letB).length) := by
  simp [nextL, h]
theorem next_cap (h : kindI c.toNat = 4) : nextL (c :: r) = (⟨3, (c :: r).takeWhile letB, 0⟩, ((c :: r).takeWhile letB).length) := by
  simp [nextL, h]
theorem next_quote (h : kindI c.toNat = 7) (hm : 39 ∈ r) : nextL (c :: r) = (⟨2, r.takeWhile (· != 39), 0⟩, (r.takeWhile (· != 39)).length + 2) := by
  simp [nextL, h, hm]
theorem next_open (h : kindI c.toNat = 7) (hm : 39 ∉ r) : nextL (c :: r) = (⟨0, [], 0⟩, 0) := by
  simp [nextL, h, hm]
theorem next_sym (h2 : kindI c.toNat ≠ 2) (h6 : kindI c.toNat ≠ 6) (h3 : kindI c.toNat ≠ 3) (h4 : kindI c.toNat ≠ 4) (h7 : kindI c.toNat ≠ 7) : nextL (c :: r) = (⟨5, (c :: r).take (symL (c :: r)), 0⟩, symL (c :: r)) := by
  simp only [nextL, if_neg h2, if_neg h6, if_neg h3, if_neg h4, if_neg h7]
end

theorem refTok_eq (l : List UInt8) (hl : l ≠ []) : refTok l = if isTok (nextL l).1 = true then some (nextL l) else none := by
  cases l with
  | nil => exact absurd rfl hl
  | cons c r =>
    by_cases h2 : kindI c.toNat = 2
    · have hd := (kindI_dig c).1 h2
      rw [next_dig h2]
      simp only [refTok]
      rw [if_pos hd]
      have hh : ((c :: r).takeWhile digB).head? ≠ some 45 := by
        rw [List.takeWhile_cons, hd]
        simp only [if_true, List.head?_cons, ne_eq, Option.some.injEq]
        exact dig_not_minus c hd
      simp only [isTok, if_true, intB_eq, num_pos _ hh]
    · have hd : ¬ digB c = true := fun h => h2 ((kindI_dig c).2 h)
      by_cases h6 : kindI c.toNat = 6
      · rw [next_tilde h6]
        simp only [refTok]
        rw [if_neg hd, if_pos ((kindI_tilde c).1 h6)]
        simp only [isTok, if_true, intB_eq, numB]
      · have h6' : ¬ c = 126 := fun h => h6 ((kindI_tilde c).2 h)
        by_cases h7 : kindI c.toNat = 7
        · have hc := (kindI_quote c).1 h7
          by_cases hm : 39 ∈ r
          · rw [next_quote h7 hm]
            simp only [refTok]
            rw [if_neg hd, if_neg h6', if_pos hc]
            simp [isTok, hm]
          · rw [next_open h7 hm]
            simp only [refTok]
            rw [if_neg hd, if_neg h6', if_pos hc]
            simp [isTok, hm]
        · have h7' : ¬ c = 39 := fun h => h7 ((kindI_quote c).2 h)
          by_cases h34 : kindI c.toNat = 3 ∨ kindI c.toNat = 4
          · have hw34 := (kindI_let c h2).1 h34
            have hl := let_of_kind c h34
            have hw : (c :: r).takeWhile letB = c :: r.takeWhile letB := by rw [List.takeWhile_cons, hl]; rfl
            have hhead : headK ((c :: r).takeWhile letB) = kindI c.toNat := by rw [hw]; rfl
            rcases h34 with h3 | h4
            · rw [next_small h3]
              simp only [refTok]
              rw [if_neg hd, if_neg h6', if_neg h7', if_pos hw34]
              have n4 : wdB 4 ((c :: r).takeWhile letB) = false := by unfold wdB; rw [hhead, h3]; simp
              by_cases hk : kwB ((c :: r).takeWhile letB) = true
              · simp [hk, isTok]
              · simp only [hk, n4, isTok]
                simp
            · rw [next_cap h4]
              simp only [refTok]
              rw [if_neg hd, if_neg h6', if_neg h7', if_pos hw34]
              have nk : kwB ((c :: r).takeWhile letB) = false := by
                rw [Bool.eq_false_iff]; intro hk; have := kw_head hk; omega
              have na : atB ((c :: r).takeWhile letB) = false := by
                unfold atB
                have : wdB 3 ((c :: r).takeWhile letB) = false := by unfold wdB; rw [hhead, h4]; simp
                rw [this]
                rw [hw]
                have h1 : (c :: r.takeWhile letB == [124]) = false := by
                  rw [beq_eq_false_iff_ne]; intro e; injection e with e1 e2; subst e1; revert h4; decide
                have h2' : (c :: r.takeWhile letB == [35]) = false := by
                  rw [beq_eq_false_iff_ne]; intro e; injection e with e1 e2; subst e1; revert h4; decide
                rw [h1, h2']; rfl
              simp only [nk, na, isTok]
              simp
          · rw [next_sym h2 h6 (fun h => h34 (.inl h)) (fun h => h34 (.inr h)) h7]
            simp only [refTok]
            rw [if_neg hd, if_neg h6', if_neg h7', if_neg (fun h => h34 ((kindI_let c h2).2 h))]
            unfold symL
            by_cases hs : 1 < (c :: r).length ∧ symB ((c :: r).take 2) = true
            · rw [if_pos ⟨hs.1, hs.2⟩, if_pos hs]
              simp only [isTok, hs.2]
              simp
            · rw [if_neg (fun h => hs ⟨h.1, h.2⟩), if_neg hs]
              simp only [isTok]
              by_cases hx : symB [c] = true <;> simp [hx]

/-! ### Blanks and remarks -/
theorem gap_false (c : UInt8) (r : List UInt8) : gapL false (c :: r) = if c = 37 then 1 + gapL true r else if spB c then 1 + gapL false r else 0 := rfl
theorem gap_true (c : UInt8) (r : List UInt8) : gapL true (c :: r) = if c = 10 then 1 + gapL false r else 1 + gapL true r := rfl
theorem sp_not_rem {c : UInt8} (h : spB c = true) : c ≠ 37 := by intro e; subst e; revert h; decide

/-- First the blanks, then what is behind them. -/
theorem gap_run : ∀ (l : List UInt8), gapL false l = (l.takeWhile spB).length + gapL false (l.drop (l.takeWhile spB).length)
  | [] => rfl
  | c :: r => by
    by_cases h : spB c = true
    · rw [List.takeWhile_cons, if_pos h, gap_false, if_neg (sp_not_rem h), if_pos h, gap_run r]
      simp only [List.length_cons, List.drop_succ_cons]
      rw [← gap_run r]
      have := gap_run r
      omega
    · rw [List.takeWhile_cons, if_neg h]
      simp
theorem gap_rest : ∀ (l : List UInt8), gapL true l = (l.takeWhile (· != 10)).length + gapL false (l.drop (l.takeWhile (· != 10)).length)
  | [] => rfl
  | c :: r => by
    by_cases h : c = 10
    · subst h
      rw [gap_true, if_pos rfl]
      simp only [List.takeWhile_cons]
      simp [gap_false, spB]
    · rw [gap_true, if_neg h, List.takeWhile_cons, if_pos (by simpa using h), gap_rest r]
      simp only [List.length_cons, List.drop_succ_cons]
      rw [← gap_rest r]
      have := gap_rest r
      omega
/-- A remark, and what is behind it. -/
theorem gap_rem (r : List UInt8) : gapL false (37 :: r) = ((37 :: r).takeWhile (· != 10)).length + gapL false ((37 :: r).drop ((37 :: r).takeWhile (· != 10)).length) := by
  rw [gap_false, if_pos rfl, List.takeWhile_cons, if_pos (by decide), gap_rest r]
  simp only [List.length_cons, List.drop_succ_cons]
  have := gap_rest r
  omega
theorem gap_stop {c : UInt8} {r : List UInt8} (h1 : spB c = false) (h2 : c ≠ 37) : gapL false (c :: r) = 0 := by
  rw [gap_false, if_neg h2, h1]; rfl
theorem gap_le : ∀ (b : Bool) (l : List UInt8), gapL b l ≤ l.length
  | false, [] => Nat.le_refl _
  | true, [] => Nat.le_refl _
  | false, c :: r => by
    rw [gap_false]
    split
    · have := gap_le true r; simp; omega
    · split
      · have := gap_le false r; simp; omega
      · simp
  | true, c :: r => by
    rw [gap_true]
    split
    · have := gap_le false r; simp; omega
    · have := gap_le true r; simp; omega

theorem tw_le {p : UInt8 → Bool} (l : List UInt8) : (l.takeWhile p).length ≤ l.length := (List.takeWhile_prefix p).length_le
theorem tw_lt {r : List UInt8} (hm : 39 ∈ r) : (r.takeWhile (· != 39)).length < r.length := by
  rcases Nat.lt_or_ge (r.takeWhile (· != 39)).length r.length with h | h
  · exact h
  · exfalso
    have e : r.takeWhile (· != 39) = r := (List.takeWhile_prefix _).eq_of_length_le h
    have := takeWhile_all (p := (· != 39)) r
    rw [e, List.all_eq_true] at this
    have := this 39 hm
    simp at this

theorem next_bounds {l : List UInt8} (hl : l ≠ []) : (nextL l).2 ≤ l.length ∧ (isTok (nextL l).1 = true → 1 ≤ (nextL l).2) := by
  cases l with
  | nil => exact absurd rfl hl
  | cons c r =>
    by_cases h2 : kindI c.toNat = 2
    · have := (kindI_dig c).1 h2
      rw [next_dig h2]
      exact ⟨tw_le _, fun _ => by rw [List.takeWhile_cons, this]; simp⟩
    by_cases h6 : kindI c.toNat = 6
    · rw [next_tilde h6]
      have := tw_le (p := digB) r
      exact ⟨by simp; omega, fun _ => by simp⟩
    by_cases h3 : kindI c.toNat = 3
    · have := let_of_kind c (.inl h3)
      rw [next_small h3]
      exact ⟨tw_le _, fun _ => by rw [List.takeWhile_cons, this]; simp⟩
    by_cases h4 : kindI c.toNat = 4
    · have := let_of_kind c (.inr h4)
      rw [next_cap h4]
      exact ⟨tw_le _, fun _ => by rw [List.takeWhile_cons, this]; simp⟩
    by_cases h7 : kindI c.toNat = 7
    · by_cases hm : 39 ∈ r
      · rw [next_quote h7 hm]
        have := tw_lt hm
        exact ⟨by simp; omega, fun _ => by simp⟩
      · rw [next_open h7 hm]
        exact ⟨by simp, fun h => by simp [isTok] at h⟩
    · rw [next_sym h2 h6 h3 h4 h7]
      unfold symL
      split
      · rename_i h; exact ⟨by simp at h ⊢; omega, fun _ => by simp⟩
      · exact ⟨by simp, fun _ => by simp⟩
end Go.Lx
