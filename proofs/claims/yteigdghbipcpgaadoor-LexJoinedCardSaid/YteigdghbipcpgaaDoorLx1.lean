/- Tokens, on lists of bytes: what both sides compute. No program in this text. -/
import Derived.Lib.Strings
import Derived.Lib.ItoaNum
import Derived.Lib.AtoiTie
namespace Go.Lx
open Go.Lib

theorem all_bytes {p : UInt8 → Bool} (h : ((List.range 256).all fun n => p (UInt8.ofNat n)) = true) (c : UInt8) : p c = true := by
  have := List.all_eq_true.1 h c.toNat (List.mem_range.2 c.toNat_lt)
  simpa using this

def kindI (c : Int) : Int :=
  if c = 32 ∨ c = 10 ∨ c = 9 then 1
  else if 48 ≤ c ∧ c ≤ 57 then 2
  else if 97 ≤ c ∧ c ≤ 122 then 3
  else if 65 ≤ c ∧ c ≤ 90 then 4
  else if c = 95 then 5
  else if c = 126 then 6
  else if c = 39 then 7
  else 0
def inB (ks : List Int) (c : UInt8) : Bool := ks.contains (kindI c.toNat)
def runL (ks : List Int) (l : List UInt8) : Nat := (l.takeWhile (inB ks)).length
def ltrI (c : Int) : Bool := decide ((97 ≤ c ∧ c ≤ 122) ∨ (65 ≤ c ∧ c ≤ 90) ∨ (48 ≤ c ∧ c ≤ 57) ∨ c = 95)
def letB (c : UInt8) : Bool := ltrI c.toNat
def digB (c : UInt8) : Bool := decide (48 ≤ c.toNat ∧ c.toNat ≤ 57)
def spB (c : UInt8) : Bool := decide (c.toNat = 32 ∨ c.toNat = 10 ∨ c.toNat = 9)

theorem letB_eq : letB = inB [3, 4, 2, 5] := by
  funext c
  have := all_bytes (p := fun c => letB c == inB [3, 4, 2, 5] c) (by decide +kernel) c
  simpa using this
theorem digB_eq : digB = inB [2] := by
  funext c
  have := all_bytes (p := fun c => digB c == inB [2] c) (by decide +kernel) c
  simpa using this
theorem spB_eq : spB = inB [1] := by
  funext c
  have := all_bytes (p := fun c => spB c == inB [1] c) (by decide +kernel) c
  simpa using this

def kws : List (List UInt8) := [[115, 107, 105, 112], [108, 111, 99, 97, 108], [105, 110], [101, 110, 100], [105, 102], [116, 104, 101, 110], [101, 108, 115, 101], [99, 97, 115, 101], [111, 102], [112, 114, 111, 99], [102, 117, 110], [116, 104, 114, 101, 97, 100], [116, 114, 121], [99, 97, 116, 99, 104], [114, 97, 105, 115, 101], [108, 97, 122, 121], [99, 104, 111, 111, 115, 101]]
def syms : List (List UInt8) := [[123], [125], [40], [41], [91], [93], [91, 93], [124], [36], [61], [61, 61], [92, 61], [60], [61, 60], [62], [62, 61], [43], [45], [42], [95]]
def kwB (l : List UInt8) : Bool := kws.any fun k => l == k
def symB (l : List UInt8) : Bool := syms.any fun k => l == k

def headK (l : List UInt8) : Int := match l with
  | [] => -1
  | c :: _ => kindI c.toNat
/-- A word whose first byte is of some kind. -/
def wdB (k : Int) (l : List UInt8) : Bool := decide (1 ≤ l.length ∧ l.length ≤ 16) && decide (headK l = k) && l.all letB
def atB (l : List UInt8) : Bool := l == [124] || l == [35] || wdB 3 l
/-- An integer, as the program tests it. -/
def intB (l : List UInt8) : Bool := match atoiAll l with
  | .ok n => decide (-1099511627776 ≤ n ∧ n ≤ 1099511627776) && itoa n == l
  | _ => false
def decV (l : List UInt8) : Nat := l.foldl (fun n c => 10 * n + (c.toNat - 48)) 0
/-- Digits that are right behind a sign, or without. -/
def magB (neg : Bool) (d : List UInt8) : Bool := decide (1 ≤ d.length ∧ d.length ≤ 13) && d.all digB && !(decide (d.head? = some 48) && (decide (1 < d.length) || neg)) && decide (decV d ≤ 1099511627776)
/-- An integer, as the document's own answers test it. -/
def numB (l : List UInt8) : Bool := match l with
  | 45 :: d => magB true d
  | d => magB false d

structure Tok where
  kind : Int
  text : List UInt8
  pos : Int
  deriving DecidableEq

def isTok (t : Tok) : Bool :=
  if t.kind = 1 then intB t.text
  else if t.kind = 2 then atB t.text
  else if t.kind = 3 then wdB 4 t.text
  else if t.kind = 4 then kwB t.text
  else if t.kind = 5 then symB t.text
  else false

def symL (l : List UInt8) : Nat := if 1 < l.length ∧ symB (l.take 2) = true then 2 else 1

/-- The token with which a list begins (its place left open), as the program has it. -/
def nextL (l : List UInt8) : Tok × Nat := match l with
  | [] => (⟨0, [], 0⟩, 0)
  | c :: r =>
    if kindI c.toNat = 2 then (⟨1, l.takeWhile digB, 0⟩, (l.takeWhile digB).length)
    else if kindI c.toNat = 6 then (⟨1, 45 :: r.takeWhile digB, 0⟩, 1 + (r.takeWhile digB).length)
    else if kindI c.toNat = 3 then (⟨if kwB (l.takeWhile letB) then 4 else 2, l.takeWhile letB, 0⟩, (l.takeWhile letB).length)
    else if kindI c.toNat = 4 then (⟨3, l.takeWhile letB, 0⟩, (l.takeWhile letB).length)
    else if kindI c.toNat = 7 then
      if 39 ∈ r then (⟨2, r.takeWhile (· != 39), 0⟩, (r.takeWhile (· != 39)).length + 2) else (⟨0, [], 0⟩, 0)
    else (⟨5, l.take (symL l), 0⟩, symL l)

/-- Blanks and remarks. -/
def gapL : Bool → List UInt8 → Nat
  | _, [] => 0
  | false, c :: r => if c = 37 then 1 + gapL true r else if spB c then 1 + gapL false r else 0
  | true, c :: r => if c = 10 then 1 + gapL false r else 1 + gapL true r

inductive Res where
  | ok (ts : List Tok)
  | form (at_ : Nat)
  | long
  deriving DecidableEq

def scanF : Nat → List UInt8 → Nat → List Tok → Res
  | 0, _, _, out => .ok out
  | f + 1, l, pos, out =>
    if l = [] then .ok out
    else if isTok (nextL l).1 = false then .form pos
    else if out.length = 1200 then .long
    else
      let n := (nextL l).2
      let g := gapL false (l.drop n)
      scanF f (l.drop (n + g)) (pos + (n + g)) (out ++ [{ (nextL l).1 with pos := pos }])
def scanL (l : List UInt8) : Res :=
  if 4000 < l.length then .long else scanF l.length (l.drop (gapL false l)) (gapL false l) []

/-- The token at a place, as the document's own answers have it. -/
def refTok (l : List UInt8) : Option (Tok × Nat) := match l with
  | [] => none
  | c :: r =>
    if digB c = true then
      if magB false (l.takeWhile digB) then some (⟨1, l.takeWhile digB, 0⟩, (l.takeWhile digB).length) else none
    else if c = 126 then
      if magB true (r.takeWhile digB) then some (⟨1, 45 :: r.takeWhile digB, 0⟩, 1 + (r.takeWhile digB).length) else none
    else if c = 39 then
      if 39 ∈ r ∧ atB (r.takeWhile (· != 39)) = true then some (⟨2, r.takeWhile (· != 39), 0⟩, (r.takeWhile (· != 39)).length + 2) else none
    else if c ≠ 95 ∧ letB c = true then
      if kwB (l.takeWhile letB) then some (⟨4, l.takeWhile letB, 0⟩, (l.takeWhile letB).length)
      else if wdB 4 (l.takeWhile letB) then some (⟨3, l.takeWhile letB, 0⟩, (l.takeWhile letB).length)
      else if atB (l.takeWhile letB) then some (⟨2, l.takeWhile letB, 0⟩, (l.takeWhile letB).length) else none
    else if 2 ≤ l.length ∧ symB (l.take 2) = true then some (⟨5, l.take 2, 0⟩, 2)
    else if symB (l.take 1) = true then some (⟨5, l.take 1, 0⟩, 1)
    else none

theorem kw_head {l : List UInt8} (h : kwB l = true) : headK l = 3 := by
  unfold kwB at h
  rw [List.any_eq_true] at h
  obtain ⟨k, hk, he⟩ := h
  have he : l = k := by simpa using he
  subst he
  have : (kws.all fun k => decide (headK k = 3)) = true := by decide +kernel
  simpa using List.all_eq_true.1 this _ hk
theorem kw_word {l : List UInt8} (h : kwB l = true) : wdB 3 l = true := by
  unfold kwB at h
  rw [List.any_eq_true] at h
  obtain ⟨k, hk, he⟩ := h
  have he : l = k := by simpa using he
  subst he
  have : (kws.all fun k => wdB 3 k) = true := by decide +kernel
  exact List.all_eq_true.1 this _ hk

/-! ### Integers -/

theorem decFrom_append : ∀ (l r : List UInt8) (acc : Nat), decFrom acc (l ++ r) = (decFrom acc l).bind fun a => decFrom a r
  | [], r, acc => by simp [decFrom]
  | c :: l, r, acc => by
    simp only [List.cons_append, decFrom]
    cases digitVal c with
    | none => rfl
    | some d => exact decFrom_append l r _
theorem digit_byte {d : Nat} (h : d < 10) : (UInt8.ofNat (48 + d)).toNat = 48 + d := by
  simp; omega
theorem decFrom_digits (u : Nat) : decFrom 0 (decDigits u) = some u := by
  induction u using Nat.strongRecOn with
  | _ u ih =>
    by_cases h : u < 10
    · rw [decDigits_one h]
      have e := digit_byte h
      simp only [decFrom, digitVal, e]
      rw [if_pos (by omega)]
      simp
    · rw [decDigits, dif_neg h, decFrom_append, ih (u / 10) (by omega)]
      have e := digit_byte (show u % 10 < 10 by omega)
      simp only [Option.bind_some, decFrom, digitVal, e]
      rw [if_pos (by omega)]
      simp only [Option.some.injEq]
      omega
theorem decDigits_ne (u : Nat) : decDigits u ≠ [] := by
  intro h
  have := decDigits_length u
  rw [h] at this
  have := nDigits_pos u
  simp at *
  omega
theorem decDigits_all (u : Nat) : (decDigits u).all digB = true := by
  induction u using Nat.strongRecOn with
  | _ u ih =>
    by_cases h : u < 10
    · rw [decDigits_one h]
      have e := digit_byte h
      simp only [List.all_cons, List.all_nil, Bool.and_true, digB, e, decide_eq_true_eq]
      omega
    · rw [decDigits, dif_neg h, List.all_append, ih (u / 10) (by omega)]
      have e := digit_byte (show u % 10 < 10 by omega)
      simp only [List.all_cons, List.all_nil, Bool.and_true, digB, e, decide_eq_true_eq, Bool.true_and]
      omega
theorem decV_append (l : List UInt8) (c : UInt8) : decV (l ++ [c]) = 10 * decV l + (c.toNat - 48) := by
  unfold decV; rw [List.foldl_append]; rfl
theorem decV_digits (u : Nat) : decV (decDigits u) = u := by
  induction u using Nat.strongRecOn with
  | _ u ih =>
    by_cases h : u < 10
    · rw [decDigits_one h]
      have e := digit_byte h
      simp only [decV, List.foldl_cons, List.foldl_nil, e]
      omega
    · rw [decDigits, dif_neg h, decV_append, ih (u / 10) (by omega)]
      have e := digit_byte (show u % 10 < 10 by omega)
      rw [e]
      omega
theorem head_app {l r : List UInt8} (h : l ≠ []) : (l ++ r).head? = l.head? := by
  cases l with
  | nil => exact absurd rfl h
  | cons c l => rfl
theorem decDigits_head (u : Nat) (hu : 1 ≤ u) : (decDigits u).head? ≠ some 48 := by
  induction u using Nat.strongRecOn with
  | _ u ih =>
    by_cases h : u < 10
    · rw [decDigits_one h]
      have e := digit_byte h
      simp only [List.head?_cons, ne_eq, Option.some.injEq]
      intro he
      rw [he] at e
      simp at e
      omega
    · rw [decDigits, dif_neg h]
      have hne := decDigits_ne (u / 10)
      rw [head_app hne]
      exact ih (u / 10) (by omega) (by omega)
theorem nDigits_le {u k : Nat} (h : u < 10 ^ k) (hk : 1 ≤ k) : nDigits u ≤ k := by
  induction k generalizing u with
  | zero => omega
  | succ k ih =>
    by_cases hs : u < 10
    · rw [nDigits_small hs]; omega
    · rw [nDigits_big hs]
      rw [Nat.pow_succ] at h
      have hk1 : 1 ≤ k := by
        rcases Nat.eq_zero_or_pos k with rfl | hp
        · simp at h; omega
        · exact hp
      have := ih (u := u / 10) (by omega) hk1
      omega

/-- Digits without a zero ahead are the numeral of their number. -/
theorem digits_of : ∀ (n : Nat) (d : List UInt8), d.length = n → d ≠ [] → d.all digB = true → (d.head? = some 48 → d.length = 1) → decDigits (decV d) = d := by
  intro n
  induction n with
  | zero => intro d hd hne; exact absurd (List.length_eq_zero_iff.1 hd) hne
  | succ n ih =>
    intro d hd hne hall hz
    have hsp : d = d.dropLast ++ [d.getLast hne] := (List.dropLast_concat_getLast hne).symm
    generalize d.dropLast = p at hsp
    generalize d.getLast hne = c at hsp
    subst hsp
    rw [List.all_append] at hall
    have hp : p.all digB = true := by
      cases hx : p.all digB
      · rw [hx] at hall; simp at hall
      · rfl
    have hc : 48 ≤ c.toNat ∧ c.toNat ≤ 57 := by
      rw [hp] at hall
      simpa [digB] using hall
    have hb : UInt8.ofNat (48 + (c.toNat - 48)) = c := by
      rw [show 48 + (c.toNat - 48) = c.toNat by omega]
      simp
    rw [decV_append]
    by_cases hpe : p = []
    · subst hpe
      simp only [decV, List.foldl_nil, Nat.mul_zero, Nat.zero_add, List.nil_append]
      rw [decDigits_one (by omega), hb]
    · have hh : p.head? ≠ some 48 := by
        intro h
        have := hz (by rw [head_app hpe]; exact h)
        simp at this
        exact hpe this
      have ihp := ih p (by simp at hd; omega) hpe hp (fun h => absurd h hh)
      have hpos : 1 ≤ decV p := by
        rcases Nat.eq_zero_or_pos (decV p) with e | e
        · rw [e, decDigits_one (by omega)] at ihp
          rw [← ihp] at hh
          exact absurd rfl hh
        · exact e
      rw [decDigits, dif_neg (by omega)]
      rw [show (10 * decV p + (c.toNat - 48)) / 10 = decV p by omega, show (10 * decV p + (c.toNat - 48)) % 10 = c.toNat - 48 by omega, ihp, hb]

theorem mag_iff (neg : Bool) (d : List UInt8) : magB neg d = true ↔ ∃ u, u ≤ 1099511627776 ∧ d = decDigits u ∧ (neg = true → 1 ≤ u) := by
  constructor
  · intro h
    unfold magB at h
    simp only [Bool.and_eq_true, decide_eq_true_eq, Bool.not_eq_true', Bool.and_eq_false_iff, decide_eq_false_iff_not, Bool.or_eq_false_iff] at h
    obtain ⟨⟨⟨⟨h1, h2⟩, h3⟩, h4⟩, h5⟩ := h
    have hne : d ≠ [] := by intro e; subst e; simp at h1
    have key := digits_of _ d rfl hne h3 (fun hz => by
      rcases h4 with h4 | h4
      · exact absurd hz h4
      · omega)
    refine ⟨decV d, h5, key.symm, fun hn => ?_⟩
    rcases Nat.eq_zero_or_pos (decV d) with e | e
    · rw [e, decDigits_one (by omega)] at key
      rcases h4 with h4 | h4
      · rw [← key] at h4; exact absurd rfl h4
      · rw [hn] at h4; simp at h4
    · exact e
  · rintro ⟨u, hu, rfl, hn⟩
    have h1 := nDigits_le (u := u) (k := 13) (by omega) (by omega)
    have h2 := nDigits_pos u
    unfold magB
    rw [decDigits_all, decV_digits, decDigits_length]
    simp only [Bool.and_eq_true, decide_eq_true_eq, Bool.and_true, Bool.not_eq_true', Bool.and_eq_false_iff, decide_eq_false_iff_not, Bool.or_eq_false_iff]
    refine ⟨⟨⟨h2, h1⟩, ?_⟩, hu⟩
    rcases Nat.eq_zero_or_pos u with e | e
    · right
      subst e
      refine ⟨by rw [nDigits_small (by omega)]; omega, ?_⟩
      cases neg
      · rfl
      · have := hn rfl; omega
    · left; exact decDigits_head u e

theorem numB_iff (l : List UInt8) : numB l = true ↔ ∃ n : Int, (-1099511627776 ≤ n ∧ n ≤ 1099511627776) ∧ itoa n = l := by
  constructor
  · intro h
    unfold numB at h
    split at h
    · obtain ⟨u, hu, rfl, hn⟩ := (mag_iff _ _).1 h
      have := hn rfl
      refine ⟨-(u : Int), by omega, ?_⟩
      unfold itoa
      rw [if_pos (by omega)]
      simp
    · obtain ⟨u, hu, rfl, -⟩ := (mag_iff _ _).1 h
      refine ⟨(u : Int), by omega, ?_⟩
      unfold itoa
      rw [if_neg (by omega)]
      simp
  · rintro ⟨n, hn, rfl⟩
    unfold itoa
    split
    · exact (mag_iff _ _).2 ⟨n.natAbs, by omega, rfl, fun _ => by omega⟩
    · have h := (mag_iff false (decDigits n.toNat)).2 ⟨n.toNat, by omega, rfl, fun h => by cases h⟩
      unfold numB
      split
      · rename_i d hd
        have hall := decDigits_all n.toNat
        rw [hd] at hall
        simp [digB] at hall
      · exact h

theorem atoi_itoa (n : Int) (h : -1099511627776 ≤ n ∧ n ≤ 1099511627776) : atoiAll (itoa n) = .ok n := by
  have hlen : (itoa n).length ≤ 18 := by
    unfold itoa
    split
    · have := nDigits_le (u := n.natAbs) (k := 13) (by omega) (by omega)
      simp only [List.length_cons, decDigits_length]; omega
    · have := nDigits_le (u := n.toNat) (k := 13) (by omega) (by omega)
      simp only [decDigits_length]; omega
  rw [atoiAll_short _ hlen]
  have key : ∀ u, decNat (decDigits u) = some u := fun u => by
    unfold decNat
    rw [if_neg (by simpa using decDigits_ne u)]
    exact decFrom_digits u
  have : atoi (itoa n) = some n := by
    unfold itoa
    split
    · simp only [atoi, key]
      simp
      omega
    · have hne := decDigits_ne n.toNat
      have hall := decDigits_all n.toNat
      have hk := key n.toNat
      cases hd : decDigits n.toNat with
      | nil => exact absurd hd hne
      | cons c r =>
        rw [hd] at hall hk
        have hc : 48 ≤ c.toNat ∧ c.toNat ≤ 57 := by
          have := List.all_eq_true.1 hall c (List.mem_cons_self ..)
          simpa [digB] using this
        have h45 : c ≠ 45 := by intro e; subst e; simp at hc
        have h43 : c ≠ 43 := by intro e; subst e; simp at hc
        simp [atoi, h45, h43, hk]
        omega
  rw [this]
  rfl

theorem intB_eq (l : List UInt8) : intB l = numB l := by
  rw [Bool.eq_iff_iff, numB_iff]
  unfold intB
  constructor
  · intro h
    split at h
    · rename_i n hn
      simp only [Bool.and_eq_true, decide_eq_true_eq, beq_iff_eq] at h
      exact ⟨n, h.1, h.2⟩
    · cases h
  · rintro ⟨n, hn, rfl⟩
    rw [atoi_itoa n hn]
    simp [hn]

end Go.Lx
