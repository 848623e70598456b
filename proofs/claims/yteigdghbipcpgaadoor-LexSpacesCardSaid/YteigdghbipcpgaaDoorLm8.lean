/- More blanks between tokens: P3.4. No program in this text. -/
import Derived.Test.YteigdghbipcpgaaDoorLm7
namespace Go.Lx
open Go.Lib

theorem gap_pre : ∀ (b : Bool) (l x : List UInt8), l.drop (gapL b l) ≠ [] → gapL b (l.take (gapL b l) ++ x) = gapL b l + gapL false x
  | false, [], x, h => absurd rfl h
  | true, [], x, h => absurd rfl h
  | false, c :: r, x, h => by
    rw [gap_false] at h ⊢
    by_cases hc : c = 37
    · rw [if_pos hc, Nat.add_comm 1, List.drop_succ_cons] at h
      rw [if_pos hc, Nat.add_comm 1, List.take_succ_cons, List.cons_append, gap_false, if_pos hc, gap_pre true r x h]
      omega
    · rw [if_neg hc] at h ⊢
      by_cases hs : spB c = true
      · rw [if_pos hs, Nat.add_comm 1, List.drop_succ_cons] at h
        rw [if_pos hs, Nat.add_comm 1, List.take_succ_cons, List.cons_append, gap_false, if_neg hc, if_pos hs, gap_pre false r x h]
        omega
      · rw [if_neg hs]; simp
  | true, c :: r, x, h => by
    rw [gap_true] at h ⊢
    by_cases hc : c = 10
    · rw [if_pos hc, Nat.add_comm 1, List.drop_succ_cons] at h
      rw [if_pos hc, Nat.add_comm 1, List.take_succ_cons, List.cons_append, gap_true, if_pos hc, gap_pre false r x h]
      omega
    · rw [if_neg hc, Nat.add_comm 1, List.drop_succ_cons] at h
      rw [if_neg hc, Nat.add_comm 1, List.take_succ_cons, List.cons_append, gap_true, if_neg hc, gap_pre true r x h]
      omega
theorem gap_rest0 : ∀ (b : Bool) (l : List UInt8), gapL false (l.drop (gapL b l)) = 0
  | false, [] => rfl
  | true, [] => rfl
  | false, c :: r => by
    rw [gap_false]
    by_cases hc : c = 37
    · rw [if_pos hc, Nat.add_comm 1, List.drop_succ_cons, gap_rest0 true r]
    · rw [if_neg hc]
      by_cases hs : spB c = true
      · rw [if_pos hs, Nat.add_comm 1, List.drop_succ_cons, gap_rest0 false r]
      · rw [if_neg hs, List.drop_zero, gap_false, if_neg hc, if_neg hs]
  | true, c :: r => by
    rw [gap_true]
    by_cases hc : c = 10
    · rw [if_pos hc, Nat.add_comm 1, List.drop_succ_cons, gap_rest0 false r]
    · rw [if_neg hc, Nat.add_comm 1, List.drop_succ_cons, gap_rest0 true r]
theorem gap_head {x y : List UInt8} (h : x.head? = y.head?) (hy : gapL false y = 0) : gapL false x = 0 := by
  cases x with
  | nil => rfl
  | cons c x =>
    cases y with
    | nil => simp at h
    | cons d y =>
      obtain rfl : c = d := by simpa using h
      rw [gap_false] at hy ⊢
      split at hy
      · omega
      · rename_i hc
        rw [if_neg hc]
        split at hy
        · omega
        · rename_i hs; rw [if_neg hs]

def chunkL : Nat → List UInt8
  | 0 => [32]
  | 1 => [10]
  | 2 => [9]
  | 3 => [37, 32, 88, 61, 10]
  | _ => [32, 32]
theorem chunk_gap (k : Nat) (x : List UInt8) : gapL false (chunkL k ++ x) = (chunkL k).length + gapL false x := by
  unfold chunkL
  split
  · simp [gap_false, spB]
  · simp [gap_false, spB]
  · simp [gap_false, spB]
  · simp [gap_false, gap_true]; omega
  · simp [gap_false, spB]; omega
theorem chunk_head (k : Nat) (x : List UInt8) : ∃ d, (chunkL k ++ x).head? = some d ∧ stopB d = true := by
  unfold chunkL
  split
  · exact ⟨32, rfl, rfl⟩
  · exact ⟨10, rfl, rfl⟩
  · exact ⟨9, rfl, rfl⟩
  · exact ⟨37, rfl, rfl⟩
  · exact ⟨32, rfl, rfl⟩
theorem chunk_len (k : Nat) : (chunkL k).length ≤ 5 := by
  unfold chunkL
  split <;> simp
def chunkO : List UInt8 → List UInt8
  | [] => []
  | m :: _ => chunkL (m.toNat % 5)
theorem chunkO_gap (more x : List UInt8) : gapL false (chunkO more ++ x) = (chunkO more).length + gapL false x := by
  cases more with
  | nil => simp [chunkO]
  | cons m r => exact chunk_gap _ _
theorem chunkO_len (more : List UInt8) : (chunkO more).length ≤ 5 := by
  cases more with
  | nil => simp [chunkO]
  | cons m r => exact chunk_len _

/-- The source from p on, these tokens behind, with more blanks before them. -/
def V (l : List UInt8) : Nat → List Tok → List UInt8 → List UInt8
  | p, [], _ => l.drop p ++ [10]
  | p, t :: ts, more => (l.drop p).take (t.pos.toNat - p) ++ (chunkO more ++ V l t.pos.toNat ts more.tail)

theorem Toks.here {l : List UInt8} {p : Nat} {t : Tok} {ts : List Tok} (h : Toks l p (t :: ts)) : t.pos.toNat = p ∧ t.pos = p ∧ l.drop p ≠ [] := by
  cases h with
  | cons hne hok rest => exact ⟨by simp, rfl, hne⟩
theorem Toks.step {l : List UInt8} {p : Nat} {t : Tok} {ts : List Tok} (h : Toks l p (t :: ts)) : ∃ n, n = (nextL (l.drop p)).2 ∧ 1 ≤ n ∧ p + n ≤ l.length ∧ isTok (nextL (l.drop p)).1 = true ∧ t = { (nextL (l.drop p)).1 with pos := (p : Int) } ∧
    Toks l (p + (n + gapL false (l.drop (p + n)))) ts := by
  cases h with
  | cons hne hok rest =>
    have hb := next_bounds hne
    have hb2 := hb.2 hok
    have hb1 := hb.1
    rw [List.length_drop] at hb1
    exact ⟨_, rfl, hb2, by omega, hok, rfl, rest⟩

theorem V_head {l : List UInt8} {p : Nat} {t : Tok} {ts : List Tok} (h : Toks l p (t :: ts)) (more : List UInt8) : (V l p ts more).head? = (l.drop p).head? := by
  have hne := h.here.2.2
  obtain ⟨n, hn, hn1, _, _, _, hr⟩ := h.step
  cases ts with
  | nil =>
    unfold V
    cases hd : l.drop p with
    | nil => exact absurd hd hne
    | cons c r => rfl
  | cons t2 ts =>
    unfold V
    rw [hr.here.1]
    cases hd : l.drop p with
    | nil => exact absurd hd hne
    | cons c r =>
      rw [show p + (n + gapL false (l.drop (p + n))) - p = (n + gapL false (l.drop (p + n)) - 1) + 1 by omega]
      rfl
theorem V_len {l : List UInt8} : ∀ (ts : List Tok) (p : Nat) (t : Tok) (more : List UInt8), Toks l p (t :: ts) → (V l p ts more).length ≤ (l.length - p) + 1 + 5 * ts.length
  | [], p, t, more, h => by
    unfold V
    simp
  | t2 :: ts, p, t, more, h => by
    obtain ⟨n, hn, hn1, hle, _, _, hr⟩ := h.step
    have ih := V_len ts _ t2 more.tail hr
    have hc := chunkO_len more
    have hg := gap_le false (l.drop (p + n))
    rw [List.length_drop] at hg
    unfold V
    rw [hr.here.1]
    simp only [List.length_append, List.length_take, List.length_drop, List.length_cons]
    omega

theorem same_cons {t u : Tok} {ts us : List Tok} (h1 : t.kind = u.kind) (h2 : t.text = u.text) (h : Same false ts us) : Same false (t :: ts) (u :: us) := by
  refine ⟨by simp [h.1], fun j a b ha hb => ?_⟩
  cases j with
  | zero =>
    obtain rfl : t = a := by simpa using ha
    obtain rfl : u = b := by simpa using hb
    exact ⟨h1, h2, fun e => by cases e⟩
  | succ j =>
    rw [List.getElem?_cons_succ] at ha hb
    exact h.2 j a b ha hb

theorem spaced {l : List UInt8} : ∀ (ts : List Tok) (t : Tok) (p : Nat) (more : List UInt8), Toks l p (t :: ts) → ∀ (U : List UInt8) (P : Nat), U.drop P = V l p ts more → ∃ us, Toks U P us ∧ Same false (t :: ts) us
  | [], t, p, more, h, U, P, hU => by
    have hne := h.here.2.2
    obtain ⟨n, hn, hn1, hle, hok, ht, hr⟩ := h.step
    have hg := gap_le false (l.drop (p + n))
    rw [List.length_drop] at hg
    have hend : l.drop (p + (n + gapL false (l.drop (p + n)))) = [] := by cases hr with | nil h => exact h
    have hge := List.drop_eq_nil_iff.1 hend
    unfold V at hU
    have hna := next_app hne []
    have hnx : nextL (U.drop P) = nextL (l.drop p) := by rw [hU]; exact hna.2 hok
    have hU1 : U.drop (P + n) = l.drop (p + n) ++ [10] := by
      rw [← List.drop_drop, hU, List.drop_append_of_le_length (by rw [List.length_drop]; omega), List.drop_drop]
    have hg1 : gapL false (U.drop (P + n)) = (l.drop (p + n)).length + 1 := by
      rw [hU1]
      have := gap_app [] false (l.drop (p + n))
      rw [if_pos (by rw [List.length_drop]; omega)] at this
      exact this
    refine ⟨_, .cons (by rw [hU]; simp) (by rw [hnx]; exact hok) (ts := []) ?_, ?_⟩
    · rw [hnx, ← hn, hg1]
      refine .nil ?_
      rw [← Nat.add_assoc, ← List.drop_drop, hU1]
      exact List.drop_of_length_le (by simp)
    · rw [hnx]
      refine same_cons ?_ ?_ (Same.refl _ _)
      · rw [ht]
      · rw [ht]
  | t2 :: ts, t, p, more, h, U, P, hU => by
    have hne := h.here.2.2
    obtain ⟨n, hn, hn1, hle, hok, ht, hr⟩ := h.step
    have hpos := hr.here.1
    have hne2 := hr.here.2.2
    have hvh := V_head hr more.tail
    generalize hg : gapL false (l.drop (p + n)) = g at *
    unfold V at hU
    rw [hpos, show p + (n + g) - p = n + g by omega, List.take_add, List.drop_drop, List.append_assoc] at hU
    have hd2 : (l.drop (p + n)).drop g = l.drop (p + (n + g)) := by rw [List.drop_drop, Nat.add_assoc]
    have hgV : gapL false (V l (p + (n + g)) ts more.tail) = 0 := by
      refine gap_head hvh ?_
      have := gap_rest0 false (l.drop (p + n))
      rw [hg, hd2] at this
      exact this
    have hgy : gapL false ((l.drop (p + n)).take g ++ (chunkO more ++ V l (p + (n + g)) ts more.tail)) = g + (chunkO more).length := by
      have := gap_pre false (l.drop (p + n)) (chunkO more ++ V l (p + (n + g)) ts more.tail) (by rw [hg, hd2]; exact hne2)
      rw [hg] at this
      rw [this, chunkO_gap, hgV]
      rfl
    have hlg : g ≤ (l.drop (p + n)).length := by rw [← hg]; exact gap_le _ _
    have hnx : nextL (U.drop P) = nextL (l.drop p) := by
      rw [hU, hn]
      refine next_same hne hok ?_
      rw [← hn, List.drop_drop]
      rcases Nat.eq_zero_or_pos g with h0 | h0
      · subst h0
        rw [List.take_zero, List.nil_append]
        cases more with
        | nil =>
          left
          simp only [chunkO, List.nil_append]
          rw [hvh, Nat.add_zero]
        | cons m r =>
          right
          exact chunk_head _ _
      · left
        cases hd : l.drop (p + n) with
        | nil => rw [hd] at hlg; simp at hlg; omega
        | cons c r =>
          obtain ⟨g', rfl⟩ : ∃ g', g = g' + 1 := ⟨g - 1, by omega⟩
          rfl
    have hln : ((l.drop p).take n).length = n := by rw [List.length_take, List.length_drop]; omega
    have hU1 : U.drop (P + n) = (l.drop (p + n)).take g ++ (chunkO more ++ V l (p + (n + g)) ts more.tail) := by
      rw [← List.drop_drop, hU]
      conv => lhs; arg 1; rw [← hln]
      exact List.drop_left
    have hU2 : U.drop (P + (n + (g + (chunkO more).length))) = V l (p + (n + g)) ts more.tail := by
      rw [← Nat.add_assoc, ← List.drop_drop, hU1, ← List.append_assoc]
      have e : g + (chunkO more).length = ((l.drop (p + n)).take g ++ chunkO more).length := by
        rw [List.length_append, List.length_take, Nat.min_eq_left hlg]
      rw [e]
      exact List.drop_left
    obtain ⟨us, hus, hsame⟩ := spaced ts t2 _ more.tail hr U _ hU2
    refine ⟨_, .cons (ts := us) ?_ (by rw [hnx]; exact hok) ?_, ?_⟩
    · rw [hU]
      intro e
      have := congrArg List.length e
      rw [List.length_append, hln] at this
      simp only [List.length_nil] at this
      omega
    · rw [hnx, ← hn, hU1, hgy]
      exact hus
    · rw [hnx]
      refine same_cons ?_ ?_ hsame
      · rw [ht]
      · rw [ht]

/-- P3.4. -/
theorem spaces {l : List UInt8} {ts : List Tok} (hl : l.length ≤ 400) (h : scanL l = .ok ts) (more : List UInt8) : (V l 0 ts more).length ≤ 3000 ∧ ∃ us, scanL (V l 0 ts more) = .ok us ∧ Same false ts us := by
  obtain ⟨_, h12, ht⟩ := (scanL_ok l ts).1 h
  cases ts with
  | nil =>
    have hend : gapL false l = l.length := by
      have h1 := gap_le false l
      cases ht with
      | nil h =>
        have := List.drop_eq_nil_iff.1 h
        omega
    have hlen : (V l 0 [] more).length ≤ 3000 := by simp [V]; omega
    refine ⟨hlen, [], (scanL_ok _ _).2 ⟨by omega, by simp, .nil ?_⟩, Same.refl _ _⟩
    have := gap_app [] false l
    rw [if_pos hend] at this
    have e : V l 0 [] more = l ++ 10 :: [] := by simp [V]
    rw [e, this]
    exact List.drop_of_length_le (by simp)
  | cons t ts =>
    have hsum := (toks_sum ht).2.2
    have hV := V_len ts _ t more.tail ht
    have hne := ht.here.2.2
    have hvh := V_head ht more.tail
    have hg0 := gap_rest0 false l
    have hgl := gap_le false l
    generalize hg : gapL false l = g at *
    have e : V l 0 (t :: ts) more = l.take g ++ (chunkO more ++ V l g ts more.tail) := by
      conv => lhs; unfold V
      rw [ht.here.1, List.drop_zero, Nat.sub_zero]
    have hc := chunkO_len more
    have hlen : (V l 0 (t :: ts) more).length ≤ 3000 := by
      rw [e]
      simp only [List.length_append, List.length_take, List.length_cons] at hsum ⊢
      omega
    have hgX : gapL false (V l 0 (t :: ts) more) = g + (chunkO more).length := by
      rw [e]
      have := gap_pre false l (chunkO more ++ V l g ts more.tail) (by rw [hg]; exact hne)
      rw [hg] at this
      rw [this, chunkO_gap, gap_head hvh hg0]
      rfl
    have hdX : (V l 0 (t :: ts) more).drop (g + (chunkO more).length) = V l g ts more.tail := by
      rw [e, ← List.append_assoc]
      have e2 : g + (chunkO more).length = (l.take g ++ chunkO more).length := by
        rw [List.length_append, List.length_take, Nat.min_eq_left hgl]
      rw [e2]
      exact List.drop_left
    obtain ⟨us, hus, hsame⟩ := spaced ts t g more.tail ht (V l 0 (t :: ts) more) _ hdX
    refine ⟨hlen, us, (scanL_ok _ _).2 ⟨by omega, by rw [← hsame.1]; exact h12, ?_⟩, hsame⟩
    rw [hgX]
    exact hus
end Go.Lx
