/- Tokens written and read again: P3.1. No program in this text. -/
import Derived.Test.YteigdghbipcpgaaDoorLm2
namespace Go.Lx
open Go.Lib

theorem src_head {t : Tok} (h : isTok t = true) : ∃ c d, srcL t = c :: d ∧ spB c = false ∧ c ≠ 37 := by
  obtain ⟨k, x, p⟩ := t
  unfold isTok at h
  simp only at h
  have dig : ∀ c : UInt8, digB c = true → spB c = false ∧ c ≠ 37 := fun c hc => by
    have := all_bytes (p := fun c => !digB c || (!spB c && c != 37)) (by decide +kernel) c
    simpa [hc] using this
  have lt : ∀ c : UInt8, (kindI c.toNat = 3 ∨ kindI c.toNat = 4) → spB c = false ∧ c ≠ 37 := fun c hc => by
    have := all_bytes (p := fun c => !decide (kindI c.toNat = 3 ∨ kindI c.toNat = 4) || (!spB c && c != 37)) (by decide +kernel) c
    simpa [hc] using this
  by_cases h1 : k = 1
  · subst h1
    simp only [if_true] at h
    rw [intB_eq] at h
    unfold srcL
    simp only [if_true]
    cases x with
    | nil => exact absurd h (by decide)
    | cons c d =>
      rw [numB_cons] at h
      rw [srcN_cons]
      by_cases hc : c = 45
      · rw [if_pos hc]
        exact ⟨126, d, rfl, by decide, by decide⟩
      · rw [if_neg hc] at h ⊢
        have ha : (c :: d).all digB = true := by
          unfold magB at h
          simp only [Bool.and_eq_true] at h
          exact h.1.1.2
        rw [List.all_cons, Bool.and_eq_true] at ha
        exact ⟨c, d, rfl, dig c ha.1⟩
  rw [if_neg h1] at h
  by_cases h2 : k = 2
  · subst h2
    rw [if_pos rfl] at h
    unfold srcL
    simp only [true_and]
    rw [if_neg (by decide)]
    by_cases hq : kwB x = true ∨ x = [124] ∨ x = [35]
    · rw [if_pos hq]
      exact ⟨39, _, rfl, by decide, by decide⟩
    · rw [if_neg hq]
      have hw : wdB 3 x = true := by
        unfold atB at h
        simp only [Bool.or_eq_true, beq_iff_eq] at h
        rcases h with (h | h) | h
        · exact absurd (.inr (.inl h)) hq
        · exact absurd (.inr (.inr h)) hq
        · exact h
      obtain ⟨c, d, rfl, hk, _⟩ := wd_parts hw
      exact ⟨c, d, rfl, lt c (.inl hk)⟩
  rw [if_neg h2] at h
  have hs : srcL ⟨k, x, p⟩ = x := by
    unfold srcL
    simp only
    rw [if_neg h1, if_neg (fun h => h2 h.1)]
  rw [hs]
  by_cases h3 : k = 3
  · subst h3
    rw [if_pos rfl] at h
    obtain ⟨c, d, rfl, hk, _⟩ := wd_parts h
    exact ⟨c, d, rfl, lt c (.inr hk)⟩
  rw [if_neg h3] at h
  by_cases h4 : k = 4
  · subst h4
    rw [if_pos rfl] at h
    obtain ⟨c, d, rfl, hk, _⟩ := wd_parts (kw_word h)
    exact ⟨c, d, rfl, lt c (.inl hk)⟩
  rw [if_neg h4] at h
  by_cases h5 : k = 5
  · subst h5
    rw [if_pos rfl] at h
    obtain ⟨c, d, rfl, _, _, _, _, _, _, e1, e2⟩ := sym_parts h
    exact ⟨c, d, rfl, e1, e2⟩
  rw [if_neg h5] at h
  cases h

theorem join_two (x y : List UInt8) (r : List (List UInt8)) : join (x :: y :: r) [32] = x ++ 32 :: join (y :: r) [32] := by
  rw [join_cons, join_cons]
  simp [joinTail]

theorem gap_src {t : Tok} (h : isTok t = true) (r : List UInt8) : gapL false (srcL t ++ r) = 0 := by
  obtain ⟨c, d, e, h1, h2⟩ := src_head h
  rw [e, List.cons_append, gap_stop h1 h2]

theorem read_text : ∀ (ts : List Tok), ts.all isTok = true → TokL (join (ts.map srcL) [32]) (ts.map fun t => { t with pos := 0 }) ∧ gapL false (join (ts.map srcL) [32]) = 0
  | [], _ => ⟨.nil, rfl⟩
  | [t], h => by
    have ht : isTok t = true := by simpa using h
    obtain ⟨c, d, e, _, _⟩ := src_head ht
    have hr := read_tok ht (r := []) (.inl rfl)
    rw [List.append_nil] at hr
    have hg := gap_src ht []
    rw [List.append_nil] at hg
    simp only [List.map_cons, List.map_nil, join_one]
    refine ⟨?_, hg⟩
    have := TokL.cons (m := srcL t) (ts := []) (by rw [e]; simp) (by rw [hr]; exact ht) (by
      rw [hr]
      simp only [List.drop_length, gapL, Nat.add_zero]
      exact .nil)
    rwa [hr] at this
  | t :: u :: ts, h => by
    rw [List.all_cons, Bool.and_eq_true] at h
    obtain ⟨ih, ihg⟩ := read_text (u :: ts) h.2
    obtain ⟨c, d, e, _, _⟩ := src_head h.1
    simp only [List.map_cons, join_two] at ih ihg ⊢
    refine ⟨?_, gap_src h.1 _⟩
    have hr := read_tok h.1 (r := 32 :: join (srcL u :: ts.map srcL) [32]) (.inr rfl)
    have hd : (srcL t ++ 32 :: join (srcL u :: ts.map srcL) [32]).drop (srcL t).length = 32 :: join (srcL u :: ts.map srcL) [32] := List.drop_left
    have hg : gapL false (32 :: join (srcL u :: ts.map srcL) [32]) = 1 := by
      rw [gap_false, if_neg (by decide), if_pos (by decide), ihg]
    have := TokL.cons (m := srcL t ++ 32 :: join (srcL u :: ts.map srcL) [32]) (ts := { u with pos := 0 } :: ts.map fun t => { t with pos := 0 }) (by rw [e]; simp) (by rw [hr]; exact h.1) (by
      rw [hr]
      simp only [hd, hg]
      rw [← List.drop_drop, hd]
      exact ih)
    rwa [hr] at this

/-- Two lists of tokens are equal, but for their places, if these do not matter. -/
def Same (p : Bool) (ts us : List Tok) : Prop := ts.length = us.length ∧ ∀ (j : Nat) (t u : Tok), ts[j]? = some t → us[j]? = some u → t.kind = u.kind ∧ t.text = u.text ∧ (p = true → t.pos = u.pos)
theorem Same.refl (p : Bool) (ts : List Tok) : Same p ts ts := ⟨rfl, fun j t u h1 h2 => by
  rw [h1] at h2
  obtain rfl := Option.some.inj h2
  exact ⟨rfl, rfl, fun _ => rfl⟩⟩

/-- P3.1: what is written is read. -/
theorem back {ts : List Tok} {s : List UInt8} (h : textL ts = .ok s) : ∃ us, scanL s = .ok us ∧ Same false ts us := by
  unfold textL at h
  split at h
  · cases h
  rename_i ha
  split at h
  · cases h
  rename_i hb
  injection h with h
  subst h
  have ha' : ts.all isTok = true := by simpa using ha
  obtain ⟨h1, h2⟩ := read_text ts ha'
  obtain ⟨us, hu, hl, hsame⟩ := h1.toks (join (ts.map srcL) [32]) 0 rfl
  rw [List.length_map] at hl
  refine ⟨us, (scanL_ok _ _).2 ⟨by omega, by omega, by rw [h2]; exact hu⟩, hl.symm, fun j t u ht hu => ?_⟩
  have := hsame j { t with pos := 0 } u (by rw [List.getElem?_map, ht]; rfl) hu
  exact ⟨this.1, this.2, fun h => by cases h⟩

theorem src_le {m : List UInt8} (hm : m ≠ []) (h : isTok (nextL m).1 = true) : (srcL (nextL m).1).length ≤ (nextL m).2 := by
  cases m with
  | nil => exact absurd rfl hm
  | cons c r =>
    by_cases h2 : kindI c.toNat = 2
    · rw [next_dig h2]
      simp only [srcL, if_true, srcN_len]
      exact Nat.le_refl _
    by_cases h6 : kindI c.toNat = 6
    · rw [next_tilde h6]
      simp only [srcL, if_true, srcN_len, List.length_cons]
      omega
    by_cases h3 : kindI c.toNat = 3
    · rw [next_small h3]
      by_cases hk : kwB ((c :: r).takeWhile letB) = true
      · rw [hk]; simp [srcL]
      · rw [show kwB ((c :: r).takeWhile letB) = false by simpa using hk]
        have hw : (c :: r).takeWhile letB = c :: r.takeWhile letB := by rw [List.takeWhile_cons, let_of_kind c (.inl h3)]; rfl
        unfold srcL
        simp only [Bool.false_eq_true, if_false]
        rw [if_neg (by decide), if_neg]
        · exact Nat.le_refl _
        · rintro ⟨_, h | h | h⟩
          · exact hk h
          · rw [hw] at h; injection h with h; rw [h] at h3; revert h3; decide
          · rw [hw] at h; injection h with h; rw [h] at h3; revert h3; decide
    by_cases h4 : kindI c.toNat = 4
    · rw [next_cap h4]; simp [srcL]
    by_cases h7 : kindI c.toNat = 7
    · by_cases hq : 39 ∈ r
      · rw [next_quote h7 hq]
        unfold srcL
        simp only
        rw [if_neg (by decide)]
        split <;> simp <;> omega
      · rw [next_open h7 hq] at h
        simp [isTok] at h
    · rw [next_sym h2 h6 h3 h4 h7]
      simp only [srcL]
      rw [if_neg (by decide), if_neg (by simp)]
      rw [List.length_take]
      omega

theorem src_pos (t : Tok) (p : Int) : srcL { t with pos := p } = srcL t := rfl
theorem join_len (xs : List (List UInt8)) : (join xs [32]).length ≤ (xs.map fun x => x.length + 1).sum := by
  match xs with
  | [] => simp [join_nil]
  | [x] => rw [join_one]; simp
  | x :: y :: r =>
    have := join_len (y :: r)
    rw [join_two]
    simp only [List.map_cons, List.sum_cons, List.length_append, List.length_cons] at this ⊢
    omega
theorem toks_sum {l : List UInt8} {p : Nat} {ts : List Tok} (h : Toks l p ts) : ts.all isTok = true ∧ ((ts.map srcL).map fun x => x.length + 1).sum ≤ 2 * (l.length - p) ∧ ts.length ≤ l.length - p := by
  induction h with
  | nil h => exact ⟨rfl, by simp, by simp⟩
  | @cons p ts hne hok rest ih =>
    have hb := next_bounds hne
    have h1 := hb.2 hok
    have h2 := hb.1
    have h3 := src_le hne hok
    rw [List.length_drop] at h2
    have hlt : p < l.length := by
      rcases Nat.lt_or_ge p l.length with h | h
      · exact h
      · exact absurd (List.drop_of_length_le h) hne
    obtain ⟨i1, i2, i3⟩ := ih
    refine ⟨?_, ?_, ?_⟩
    · rw [List.all_cons, isTok_pos, hok, i1]; rfl
    · simp only [List.map_cons, List.sum_cons, src_pos] at i2 ⊢
      omega
    · simp only [List.length_cons]; omega
/-- P3.1: what is read, is written and read again. -/
theorem again {s : List UInt8} {ts : List Tok} (hs : s.length ≤ 1000) (h : scanL s = .ok ts) : ∃ t us, textL ts = .ok t ∧ t.length ≤ 4000 ∧ scanL t = .ok us ∧ Same false ts us := by
  obtain ⟨_, h2, h3⟩ := (scanL_ok s ts).1 h
  obtain ⟨i1, i2, i3⟩ := toks_sum h3
  have hj := join_len (ts.map srcL)
  have ht : textL ts = .ok (join (ts.map srcL) [32]) := by
    unfold textL
    rw [if_neg (by rw [i1]; simp), if_neg (by omega)]
  obtain ⟨us, hu, hsm⟩ := back ht
  exact ⟨_, us, ht, by omega, hu, hsm⟩
end Go.Lx
