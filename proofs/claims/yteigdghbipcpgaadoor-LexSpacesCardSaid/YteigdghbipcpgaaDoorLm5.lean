/- Two sources with a newline between them: P3.5. No program in this text. -/
import Derived.Test.YteigdghbipcpgaaDoorLm4
namespace Go.Lx
open Go.Lib

def shiftT (d : Nat) (t : Tok) : Tok := { t with pos := t.pos + d }

/-- How often a scan goes round does not matter, if it is often enough. -/
theorem scanF_fuel (l : List UInt8) : ∀ (f g p : Nat) (out : List Tok), l.length - p ≤ f → l.length - p ≤ g → scanF f (l.drop p) p out = scanF g (l.drop p) p out
  | 0, g, p, out, hf, hg => by
    have hd : l.drop p = [] := List.drop_of_length_le (by omega)
    rw [hd]; cases g <;> rfl
  | f + 1, 0, p, out, hf, hg => by
    have hd : l.drop p = [] := List.drop_of_length_le (by omega)
    rw [hd]; rfl
  | f + 1, g + 1, p, out, hf, hg => by
    unfold scanF
    by_cases hd : l.drop p = []
    · rw [if_pos hd, if_pos hd]
    rw [if_neg hd, if_neg hd]
    have hlt : p < l.length := by
      rcases Nat.lt_or_ge p l.length with h | h
      · exact h
      · exact absurd (List.drop_of_length_le h) hd
    by_cases hok : isTok (nextL (l.drop p)).1 = false
    · rw [if_pos hok, if_pos hok]
    rw [if_neg hok, if_neg hok]
    have hb := (next_bounds hd).2 (by simpa using hok)
    by_cases h12 : out.length = 1200
    · rw [if_pos h12, if_pos h12]
    rw [if_neg h12, if_neg h12]
    simp only [List.drop_drop]
    exact scanF_fuel l f g _ _ (by omega) (by omega)

/-- The second source, behind whatever tokens, at another place. -/
theorem scanF_shift (t : List UInt8) (d : Nat) (A : List Tok) : ∀ (f q : Nat) (out : List Tok), t.length - q ≤ f → A.length + out.length + (t.length - q) ≤ 1200 →
    scanF f (t.drop q) (d + q) (A ++ out.map (shiftT d)) = match scanF f (t.drop q) q out with
      | .ok b => .ok (A ++ b.map (shiftT d))
      | .form k => .form (d + k)
      | .long => .long
  | 0, q, out, hf, hn => by
    have hd : t.drop q = [] := List.drop_of_length_le (by omega)
    rw [hd]; rfl
  | f + 1, q, out, hf, hn => by
    by_cases hd : t.drop q = []
    · rw [hd]; rfl
    have hlt : q < t.length := by
      rcases Nat.lt_or_ge q t.length with h | h
      · exact h
      · exact absurd (List.drop_of_length_le h) hd
    by_cases hok : isTok (nextL (t.drop q)).1 = false
    · have e1 : scanF (f + 1) (t.drop q) (d + q) (A ++ out.map (shiftT d)) = .form (d + q) := by unfold scanF; rw [if_neg hd, if_pos hok]
      have e2 : scanF (f + 1) (t.drop q) q out = .form q := by unfold scanF; rw [if_neg hd, if_pos hok]
      rw [e1, e2]
    have hok' : isTok (nextL (t.drop q)).1 = true := by simpa using hok
    have hb := (next_bounds hd).2 hok'
    have e1 : scanF (f + 1) (t.drop q) (d + q) (A ++ out.map (shiftT d)) = scanF f (t.drop (q + ((nextL (t.drop q)).2 + gapL false (t.drop (q + (nextL (t.drop q)).2))))) (d + (q + ((nextL (t.drop q)).2 + gapL false (t.drop (q + (nextL (t.drop q)).2))))) (A ++ (out ++ [{ (nextL (t.drop q)).1 with pos := (q : Int) }]).map (shiftT d)) := by
      conv => lhs; unfold scanF
      rw [if_neg hd, if_neg hok, if_neg (by simp; omega)]
      simp only [List.drop_drop]
      rw [Nat.add_assoc]
      congr 1
      simp only [List.map_append, List.map_cons, List.map_nil, List.append_assoc, shiftT]
      congr 4
      omega
    have e2 : scanF (f + 1) (t.drop q) q out = scanF f (t.drop (q + ((nextL (t.drop q)).2 + gapL false (t.drop (q + (nextL (t.drop q)).2))))) (q + ((nextL (t.drop q)).2 + gapL false (t.drop (q + (nextL (t.drop q)).2)))) (out ++ [{ (nextL (t.drop q)).1 with pos := (q : Int) }]) := by
      conv => lhs; unfold scanF
      rw [if_neg hd, if_neg hok, if_neg (by omega)]
      simp only [List.drop_drop]
    rw [e1, e2]
    exact scanF_shift t d A f _ _ (by omega) (by simp; omega)

/-- Where a place of the first source stands in both. -/
def placeU (s t : List UInt8) (p : Nat) : Nat := if p < s.length then p else s.length + 1 + gapL false t
theorem drop_u {s t : List UInt8} {p : Nat} (h : p ≤ s.length) : (s ++ 10 :: t).drop p = s.drop p ++ 10 :: t := List.drop_append_of_le_length h
theorem gap_u {s t : List UInt8} {p : Nat} (h : p ≤ s.length) : p + gapL false ((s ++ 10 :: t).drop p) = placeU s t (p + gapL false (s.drop p)) := by
  have hl := gap_le false (s.drop p)
  have hlen : (s.drop p).length = s.length - p := List.length_drop
  rw [drop_u h, gap_app]
  unfold placeU
  split
  · rw [if_neg (by omega)]
    omega
  · rw [if_pos (by omega)]

/-- The first source, with the second behind it. -/
theorem scanF_first (s t : List UInt8) : ∀ (f p F : Nat) (out : List Tok), p ≤ s.length → s.length - p ≤ f → (s ++ 10 :: t).length - p ≤ F → out.length + (s.length - p) < 1200 →
    scanF F ((s ++ 10 :: t).drop (placeU s t p)) (placeU s t p) out = match scanF f (s.drop p) p out with
      | .ok a => scanF F ((s ++ 10 :: t).drop (s.length + 1 + gapL false t)) (s.length + 1 + gapL false t) a
      | .form k => .form k
      | .long => .long
  | f, p, F, out, hp, hf, hF, hn => by
    have hul : (s ++ 10 :: t).length = s.length + 1 + t.length := by simp; omega
    by_cases hlt : p < s.length
    · have hd : s.drop p ≠ [] := by
        intro h; have := List.drop_eq_nil_iff.1 h; omega
      have hP : placeU s t p = p := by unfold placeU; rw [if_pos hlt]
      rw [hP]
      match f with
      | 0 => omega
      | f + 1 =>
      match F with
      | 0 => omega
      | F + 1 =>
      have hdu := drop_u (t := t) hp
      obtain ⟨n1, n2⟩ := next_app hd t
      have hdu' : s.drop p ++ 10 :: t ≠ [] := by simp
      by_cases hok : isTok (nextL (s.drop p)).1 = false
      · have e1 : scanF (f + 1) (s.drop p) p out = .form p := by unfold scanF; rw [if_neg hd, if_pos hok]
        rw [e1, hdu]
        unfold scanF
        rw [if_neg hdu', if_pos (by rw [n1]; exact hok)]
      · have hok' : isTok (nextL (s.drop p)).1 = true := by simpa using hok
        have hb := next_bounds hd
        have hb1 := hb.2 hok'
        have hb2 := hb.1
        rw [List.length_drop] at hb2
        have e2 : scanF (f + 1) (s.drop p) p out = scanF f (s.drop (p + ((nextL (s.drop p)).2 + gapL false (s.drop (p + (nextL (s.drop p)).2))))) (p + ((nextL (s.drop p)).2 + gapL false (s.drop (p + (nextL (s.drop p)).2)))) (out ++ [{ (nextL (s.drop p)).1 with pos := (p : Int) }]) := by
          conv => lhs; unfold scanF
          rw [if_neg hd, if_neg hok, if_neg (by omega)]
          simp only [List.drop_drop]
        have e1 : scanF (F + 1) ((s ++ 10 :: t).drop p) p out = scanF F ((s ++ 10 :: t).drop (p + ((nextL (s.drop p)).2 + gapL false ((s ++ 10 :: t).drop (p + (nextL (s.drop p)).2))))) (p + ((nextL (s.drop p)).2 + gapL false ((s ++ 10 :: t).drop (p + (nextL (s.drop p)).2)))) (out ++ [{ (nextL (s.drop p)).1 with pos := (p : Int) }]) := by
          have n2' := n2 hok'
          rw [← hdu] at n1 n2' hdu'
          conv => lhs; unfold scanF
          rw [if_neg hdu', if_neg (by rw [n1]; exact hok), if_neg (by omega)]
          simp only [List.drop_drop]
          rw [n2']
        have hgu := gap_u (s := s) (t := t) (p := p + (nextL (s.drop p)).2) (by omega)
        have hgl := gap_le false (s.drop (p + (nextL (s.drop p)).2))
        rw [List.length_drop] at hgl
        rw [e1, e2, ← Nat.add_assoc, hgu, ← Nat.add_assoc]
        have ih := scanF_first s t f (p + (nextL (s.drop p)).2 + gapL false (s.drop (p + (nextL (s.drop p)).2))) F (out ++ [{ (nextL (s.drop p)).1 with pos := (p : Int) }]) (by omega) (by omega) (by omega) (by simp; omega)
        rw [ih]
        have hfuel : ∀ a, scanF F ((s ++ 10 :: t).drop (s.length + 1 + gapL false t)) (s.length + 1 + gapL false t) a = scanF (F + 1) ((s ++ 10 :: t).drop (s.length + 1 + gapL false t)) (s.length + 1 + gapL false t) a := fun a =>
          scanF_fuel _ _ _ _ _ (by omega) (by omega)
        cases scanF f (s.drop (p + (nextL (s.drop p)).2 + gapL false (s.drop (p + (nextL (s.drop p)).2)))) (p + (nextL (s.drop p)).2 + gapL false (s.drop (p + (nextL (s.drop p)).2))) (out ++ [{ (nextL (s.drop p)).1 with pos := (p : Int) }]) with
        | ok a => exact hfuel a
        | form k => rfl
        | long => rfl
    · have hd : s.drop p = [] := List.drop_of_length_le (by omega)
      have hP : placeU s t p = s.length + 1 + gapL false t := by unfold placeU; rw [if_neg hlt]
      rw [hP, hd]
      have : scanF f [] p out = .ok out := by cases f <;> rfl
      rw [this]
termination_by f => f

theorem scan_not_long {l : List UInt8} (h : l.length ≤ 1000) : scanL l ≠ .long := by
  intro hl
  unfold scanL at hl
  rw [if_neg (by omega)] at hl
  have key : ∀ (f p : Nat) (out : List Tok), out.length + (l.length - p) < 1200 → scanF f (l.drop p) p out ≠ .long := by
    intro f
    induction f with
    | zero => intro p out _ h; simp [scanF] at h
    | succ f ih =>
      intro p out hn h
      unfold scanF at h
      by_cases hd : l.drop p = []
      · rw [if_pos hd] at h; cases h
      rw [if_neg hd] at h
      have hlt : p < l.length := by
        rcases Nat.lt_or_ge p l.length with h | h
        · exact h
        · exact absurd (List.drop_of_length_le h) hd
      by_cases hok : isTok (nextL (l.drop p)).1 = false
      · rw [if_pos hok] at h; cases h
      rw [if_neg hok, if_neg (by omega)] at h
      have hb := (next_bounds hd).2 (by simpa using hok)
      simp only [List.drop_drop] at h
      exact ih _ _ (by simp; omega) h
  exact key _ _ _ (by simp; omega) hl

/-- P3.5. -/
theorem joined {s t : List UInt8} (hs : s.length ≤ 400) (ht : t.length ≤ 400) : scanL (s ++ 10 :: t) = match scanL s with
    | .ok a => (match scanL t with
      | .ok b => .ok (a ++ b.map (shiftT (s.length + 1)))
      | .form k => .form (s.length + 1 + k)
      | .long => .long)
    | .form k => .form k
    | .long => .long := by
  have hul : (s ++ 10 :: t).length = s.length + 1 + t.length := by simp; omega
  have hg := gap_u (s := s) (t := t) (p := 0) (Nat.zero_le _)
  simp only [Nat.zero_add, List.drop_zero] at hg
  have hgs := gap_le false s
  have hgt := gap_le false t
  have hS : scanL s = scanF s.length (s.drop (gapL false s)) (gapL false s) [] := by unfold scanL; rw [if_neg (by omega)]
  have hT : scanL t = scanF t.length (t.drop (gapL false t)) (gapL false t) [] := by unfold scanL; rw [if_neg (by omega)]
  have hU : scanL (s ++ 10 :: t) = scanF (s ++ 10 :: t).length ((s ++ 10 :: t).drop (placeU s t (gapL false s))) (placeU s t (gapL false s)) [] := by
    unfold scanL; rw [if_neg (by omega), hg]
  rw [hU, scanF_first s t s.length (gapL false s) _ [] hgs (by omega) (by omega) (by simp; omega), ← hS]
  cases hsc : scanL s with
  | form k => rfl
  | long => rfl
  | ok a =>
    simp only
    have hal : a.length ≤ 400 := by
      obtain ⟨_, _, h3⟩ := (scanL_ok s a).1 hsc
      have := (toks_sum h3).2.2
      omega
    have hdt : (s ++ 10 :: t).drop (s.length + 1 + gapL false t) = t.drop (gapL false t) := by
      have e : s ++ 10 :: t = (s ++ [10]) ++ t := by simp
      rw [e, ← List.drop_drop]
      congr 1
      have : s.length + 1 = (s ++ [10]).length := by simp
      rw [this]
      exact List.drop_left
    have hfu := scanF_fuel (s ++ 10 :: t) (s ++ 10 :: t).length t.length (s.length + 1 + gapL false t) a (by omega) (by omega)
    rw [hfu, hdt]
    have hsh := scanF_shift t (s.length + 1) a t.length (gapL false t) [] (by omega) (by simp; omega)
    simp only [List.map_nil, List.append_nil] at hsh
    rw [hsh, ← hT]
end Go.Lx
