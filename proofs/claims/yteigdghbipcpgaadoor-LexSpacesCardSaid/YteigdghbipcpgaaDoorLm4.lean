/- Two sources with a newline between them: P3.5. No program in this text. -/
import Derived.Test.YteigdghbipcpgaaDoorLm3
namespace Go.Lx
open Go.Lib

theorem gap_app (t : List UInt8) : ∀ (b : Bool) (m : List UInt8), gapL b (m ++ 10 :: t) = if gapL b m = m.length then m.length + 1 + gapL false t else gapL b m
  | false, [] => by
    rw [List.nil_append, gap_false, if_neg (by decide), if_pos (by decide)]
    simp [gapL]
  | true, [] => by
    rw [List.nil_append, gap_true, if_pos rfl]
    simp [gapL]
  | false, c :: r => by
    have h1 := gap_app t true r
    have h2 := gap_app t false r
    rw [List.cons_append, gap_false, gap_false]
    split
    · rw [h1]
      simp only [List.length_cons]
      split <;> split <;> omega
    · split
      · rw [h2]
        simp only [List.length_cons]
        split <;> split <;> omega
      · rw [if_neg (by simp)]
  | true, c :: r => by
    have h1 := gap_app t true r
    have h2 := gap_app t false r
    rw [List.cons_append, gap_true, gap_true]
    split
    · rw [h2]
      simp only [List.length_cons]
      split <;> split <;> omega
    · rw [h1]
      simp only [List.length_cons]
      split <;> split <;> omega

theorem tw_ne' {b c : UInt8} {l : List UInt8} (h : ¬ b = c) : (b :: l).takeWhile (· != c) = b :: l.takeWhile (· != c) := by
  rw [List.takeWhile_cons]
  simp [h]
theorem tw_stop {p : UInt8 → Bool} (hp : p 10 = false) (t : List UInt8) : ∀ (m : List UInt8), (m ++ 10 :: t).takeWhile p = m.takeWhile p
  | [] => by rw [List.nil_append, List.takeWhile_cons, hp]; rfl
  | c :: m => by
    rw [List.cons_append, List.takeWhile_cons, List.takeWhile_cons, tw_stop hp t m]
theorem tw_mem {r : List UInt8} (q : List UInt8) (h : 39 ∈ r) : (r ++ q).takeWhile (· != 39) = r.takeWhile (· != 39) := by
  induction r with
  | nil => cases h
  | cons c r ih =>
    by_cases hc : c = 39
    · subst hc; simp
    · rw [List.cons_append, tw_ne' hc, tw_ne' hc, ih (by
        rcases List.mem_cons.1 h with e | e
        · exact absurd e.symm hc
        · exact e)]
theorem sym_nl (c : UInt8) : symB [c, 10] = false := by
  have := all_bytes (p := fun c => !symB [c, 10]) (by decide +kernel) c
  simpa using this
theorem symL_app (c : UInt8) (r t : List UInt8) : symL (c :: r ++ 10 :: t) = symL (c :: r) := by
  unfold symL
  cases r with
  | nil =>
    rw [if_neg, if_neg]
    · rintro ⟨h, _⟩; simp at h
    · rintro ⟨_, h⟩
      have e : ([c] ++ 10 :: t).take 2 = [c, 10] := rfl
      rw [e, sym_nl] at h
      cases h
  | cons d r =>
    have e : (c :: d :: r ++ 10 :: t).take 2 = (c :: d :: r).take 2 := by simp
    rw [e]
    have h1 : 1 < (c :: d :: r ++ 10 :: t).length := by simp
    have h2 : 1 < (c :: d :: r).length := by simp
    simp only [h1, h2]

theorem next_app {m : List UInt8} (hm : m ≠ []) (t : List UInt8) :
    isTok (nextL (m ++ 10 :: t)).1 = isTok (nextL m).1 ∧ (isTok (nextL m).1 = true → nextL (m ++ 10 :: t) = nextL m) := by
  cases m with
  | nil => exact absurd rfl hm
  | cons c r =>
    have hd := tw_stop (p := digB) (by decide) t
    have hl := tw_stop (p := letB) (by decide) t
    have hcons : c :: r ++ 10 :: t = c :: (r ++ 10 :: t) := rfl
    have hd1 := hd (c :: r)
    have hl1 := hl (c :: r)
    rw [hcons] at hd1 hl1 ⊢
    by_cases h2 : kindI c.toNat = 2
    · have e : nextL (c :: (r ++ 10 :: t)) = nextL (c :: r) := by rw [next_dig h2, next_dig h2, hd1]
      rw [e]; exact ⟨rfl, fun _ => rfl⟩
    by_cases h6 : kindI c.toNat = 6
    · have e : nextL (c :: (r ++ 10 :: t)) = nextL (c :: r) := by rw [next_tilde h6, next_tilde h6, hd r]
      rw [e]; exact ⟨rfl, fun _ => rfl⟩
    by_cases h3 : kindI c.toNat = 3
    · have e : nextL (c :: (r ++ 10 :: t)) = nextL (c :: r) := by rw [next_small h3, next_small h3, hl1]
      rw [e]; exact ⟨rfl, fun _ => rfl⟩
    by_cases h4 : kindI c.toNat = 4
    · have e : nextL (c :: (r ++ 10 :: t)) = nextL (c :: r) := by rw [next_cap h4, next_cap h4, hl1]
      rw [e]; exact ⟨rfl, fun _ => rfl⟩
    by_cases h7 : kindI c.toNat = 7
    · by_cases hq : 39 ∈ r
      · have e : nextL (c :: (r ++ 10 :: t)) = nextL (c :: r) := by
          rw [next_quote h7 (List.mem_append_left _ hq), next_quote h7 hq, tw_mem _ hq]
        rw [e]; exact ⟨rfl, fun _ => rfl⟩
      · have n1 : isTok (nextL (c :: r)).1 = false := by rw [next_open h7 hq]; simp [isTok]
        have n2 : isTok (nextL (c :: (r ++ 10 :: t))).1 = false := by
          by_cases hq2 : 39 ∈ r ++ 10 :: t
          · rw [next_quote h7 hq2]
            have htw : 10 ∈ (r ++ 10 :: t).takeWhile (· != 39) := by
              clear hd hl hd1 hl1 h2 h6 h3 h4 h7 n1 hq2 hcons hm
              induction r with
              | nil => simp
              | cons x r ih =>
                have hx : ¬ x = 39 := fun e => hq (by subst e; exact List.mem_cons_self ..)
                rw [List.cons_append, tw_ne' hx]
                exact List.mem_cons_of_mem _ (ih (fun h => hq (List.mem_cons_of_mem _ h)))
            generalize (r ++ 10 :: t).takeWhile (· != 39) = x at htw
            show atB x = false
            unfold atB
            have w1 : wdB 3 x = false := by
              cases hw : wdB 3 x
              · rfl
              · obtain ⟨_, _, _, _, ha⟩ := wd_parts hw
                have := List.all_eq_true.1 ha 10 htw
                revert this; decide
            have w2 : (x == [124]) = false := by
              rw [beq_eq_false_iff_ne]; rintro rfl; simp at htw
            have w3 : (x == [35]) = false := by
              rw [beq_eq_false_iff_ne]; rintro rfl; simp at htw
            rw [w1, w2, w3]; rfl
          · rw [next_open h7 hq2]; simp [isTok]
        rw [n1, n2]
        exact ⟨rfl, fun h => by cases h⟩
    · have hs := symL_app c r t
      rw [hcons] at hs
      have e : nextL (c :: (r ++ 10 :: t)) = nextL (c :: r) := by
        rw [next_sym h2 h6 h3 h4 h7, next_sym h2 h6 h3 h4 h7, hs]
        have hle := (next_bounds (l := c :: r) (by simp)).1
        rw [next_sym h2 h6 h3 h4 h7] at hle
        simp only at hle
        congr 2
        rw [← hcons]
        exact List.take_append_of_le_length hle
      rw [e]; exact ⟨rfl, fun _ => rfl⟩
end Go.Lx
