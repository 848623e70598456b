/- More blanks between tokens: P3.4. No program in this text. -/
import Derived.Test.YteigdghbipcpgaaDoorLm6
namespace Go.Lx
open Go.Lib

def stopB (d : UInt8) : Bool := d == 32 || d == 9 || d == 10 || d == 37

theorem tw_of {p : UInt8 → Bool} : ∀ (u y : List UInt8), u.all p = true → (∀ d, y.head? = some d → p d = false) → (u ++ y).takeWhile p = u
  | [], [], _, _ => rfl
  | [], d :: y, _, h => by
    rw [List.nil_append, List.takeWhile_cons, h d rfl]; rfl
  | c :: u, y, hu, h => by
    rw [List.all_cons, Bool.and_eq_true] at hu
    rw [List.cons_append, List.takeWhile_cons, hu.1]
    simp only [if_true]
    rw [tw_of u y hu.2 h]
theorem tw_head {p : UInt8 → Bool} : ∀ (m : List UInt8) (d : UInt8), (m.drop (m.takeWhile p).length).head? = some d → p d = false
  | [], d, h => by simp at h
  | c :: m, d, h => by
    rw [List.takeWhile_cons] at h
    cases hc : p c
    · rw [hc] at h
      simp at h
      rw [← h]; exact hc
    · rw [hc] at h
      simp only [if_true, List.length_cons, List.drop_succ_cons] at h
      exact tw_head m d h
theorem stop_dig {d : UInt8} (h : stopB d = true) : digB d = false := by
  have := all_bytes (p := fun c => !stopB c || !digB c) (by decide +kernel) d
  simpa [h] using this
theorem stop_let {d : UInt8} (h : stopB d = true) : letB d = false := by
  have := all_bytes (p := fun c => !stopB c || !letB c) (by decide +kernel) d
  simpa [h] using this
theorem stop_sym {c d : UInt8} (h : stopB d = true) : symB [c, d] = false := by
  have e : d = 32 ∨ d = 9 ∨ d = 10 ∨ d = 37 := by simpa [stopB, or_assoc] using h
  rcases e with rfl | rfl | rfl | rfl
  · have := all_bytes (p := fun c => !symB [c, 32]) (by decide +kernel) c
    simpa using this
  · have := all_bytes (p := fun c => !symB [c, 9]) (by decide +kernel) c
    simpa using this
  · have := all_bytes (p := fun c => !symB [c, 10]) (by decide +kernel) c
    simpa using this
  · have := all_bytes (p := fun c => !symB [c, 37]) (by decide +kernel) c
    simpa using this

/-- What is behind a token may be something else, if it begins alike or with a blank. -/
theorem next_same {m y : List UInt8} (hm : m ≠ []) (hok : isTok (nextL m).1 = true)
    (hd : y.head? = (m.drop (nextL m).2).head? ∨ ∃ d, y.head? = some d ∧ stopB d = true) : nextL (m.take (nextL m).2 ++ y) = nextL m := by
  cases m with
  | nil => exact absurd rfl hm
  | cons c r =>
    have key : ∀ {p : UInt8 → Bool} (l : List UInt8), (∀ d, stopB d = true → p d = false) → (y.head? = (l.drop (l.takeWhile p).length).head? ∨ ∃ d, y.head? = some d ∧ stopB d = true) → (l.takeWhile p ++ y).takeWhile p = l.takeWhile p := by
      intro p l hs h
      refine tw_of _ _ (takeWhile_all l) fun d hy => ?_
      rcases h with h | ⟨d', h1, h2⟩
      · exact tw_head l d (h.symm.trans hy)
      · rw [h1] at hy
        obtain rfl := Option.some.inj hy
        exact hs _ h2
    by_cases h2 : kindI c.toNat = 2
    · have hn := next_dig (r := r) h2
      rw [hn] at hd ⊢
      simp only at hd ⊢
      rw [take_tw]
      have hk := key (c :: r) (fun d => stop_dig) hd
      have hcons : (c :: r).takeWhile digB = c :: r.takeWhile digB := by
        rw [List.takeWhile_cons, (kindI_dig c).1 h2]; rfl
      have hx : (c :: r).takeWhile digB ++ y = c :: (r.takeWhile digB ++ y) := by rw [hcons]; rfl
      rw [hx] at hk ⊢
      rw [next_dig h2, hk]
    by_cases h6 : kindI c.toNat = 6
    · have hn := next_tilde (r := r) h6
      rw [hn] at hd ⊢
      simp only at hd ⊢
      rw [Nat.add_comm 1, List.drop_succ_cons] at hd
      rw [Nat.add_comm 1, List.take_succ_cons, take_tw, List.cons_append, next_tilde h6, key r (fun d => stop_dig) hd, Nat.add_comm 1]
    by_cases h3 : kindI c.toNat = 3
    · have hn := next_small (r := r) h3
      rw [hn] at hd ⊢
      simp only at hd ⊢
      rw [take_tw]
      have hk := key (c :: r) (fun d => stop_let) hd
      have hcons : (c :: r).takeWhile letB = c :: r.takeWhile letB := by
        rw [List.takeWhile_cons, let_of_kind c (.inl h3)]; rfl
      have hx : (c :: r).takeWhile letB ++ y = c :: (r.takeWhile letB ++ y) := by rw [hcons]; rfl
      rw [hx] at hk ⊢
      rw [next_small h3, hk]
    by_cases h4 : kindI c.toNat = 4
    · have hn := next_cap (r := r) h4
      rw [hn] at hd ⊢
      simp only at hd ⊢
      rw [take_tw]
      have hk := key (c :: r) (fun d => stop_let) hd
      have hcons : (c :: r).takeWhile letB = c :: r.takeWhile letB := by
        rw [List.takeWhile_cons, let_of_kind c (.inr h4)]; rfl
      have hx : (c :: r).takeWhile letB ++ y = c :: (r.takeWhile letB ++ y) := by rw [hcons]; rfl
      rw [hx] at hk ⊢
      rw [next_cap h4, hk]
    by_cases h7 : kindI c.toNat = 7
    · by_cases hq : 39 ∈ r
      · have hn := next_quote h7 hq
        rw [hn] at hd ⊢
        simp only at hd ⊢
        have ht := tw_sub hq
        rw [show (r.takeWhile (· != 39)).length + 2 = ((r.takeWhile (· != 39)).length + 1) + 1 by omega, List.take_succ_cons, ht, List.cons_append, List.append_assoc, List.singleton_append,
          next_quote h7 (by simp), tw_of _ _ (takeWhile_all r) (fun d h => by
            obtain rfl : 39 = d := by simpa using h
            rfl)]
      · rw [next_open h7 hq] at hok
        simp [isTok] at hok
    · have hn := next_sym (r := r) h2 h6 h3 h4 h7
      have hb := next_bounds (l := c :: r) (by simp)
      have hb1 := hb.1
      rw [hn] at hd hb1 ⊢
      simp only at hd hb1 ⊢
      have hs12 : symL (c :: r) = 1 ∨ (symL (c :: r) = 2 ∧ 1 < (c :: r).length ∧ symB ((c :: r).take 2) = true) := by
        unfold symL
        split
        · rename_i h; exact .inr ⟨rfl, h⟩
        · exact .inl rfl
      rcases hs12 with h1 | ⟨h2', h3', h4'⟩
      · rw [h1] at hd ⊢
        have hsx : symL (c :: y) = 1 := by
          unfold symL
          rw [if_neg]
          rintro ⟨a1, a2⟩
          cases y with
          | nil => simp at a1
          | cons d y =>
            have a2' : symB [c, d] = true := a2
            rcases hd with hd | ⟨d', e1, e2⟩
            · cases r with
              | nil => simp at hd
              | cons d' r =>
                have e : d = d' := by simpa using hd
                subst e
                unfold symL at h1
                rw [if_pos ⟨by simp, a2'⟩] at h1
                cases h1
            · have e : d = d' := by simpa using e1
              subst e
              rw [stop_sym e2] at a2'
              cases a2'
        rw [List.take_succ_cons, List.take_zero, List.singleton_append, next_sym h2 h6 h3 h4 h7, hsx]
        simp
      · rw [h2']
        cases r with
        | nil => simp at h3'
        | cons d r =>
          have hsx : symL (c :: d :: y) = 2 := by
            unfold symL
            rw [if_pos ⟨by simp, h4'⟩]
          rw [show (c :: d :: r).take 2 ++ y = c :: d :: y from rfl, next_sym h2 h6 h3 h4 h7, hsx]
          simp
end Go.Lx
