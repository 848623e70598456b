import Derived.Test.YtbjcopckkgdmgaaGreatDoorProg
import Derived.WalkKit
import Derived.ProofKit
import Derived.RowKit3
import Derived.Lib.Hide
import Derived.Shelf.Spec.SlicesInsertGrow
import Derived.Outline
/- The small functions of Valid. -/
namespace Go.Ev
open Go.Proofs Go.RowKit

set_option maxRecDepth 100000

theorem isIndex_ok (n c : Int) (w : World) : Calls Tryz.prog 41 #[.int .i64 n, .int .i64 c] w fun e w' => e = .returned (.bool (decide (0 ≤ n ∧ n < c))) ∧ w' = w := by
  go_enter Tryz.func41, Tryz.ntmps41
  go_wp2
  all_goals go_ret
  all_goals refine ⟨?_, rfl⟩
  · simp_all
  · simp_all; omega

def smallB (c : Int) : Bool := decide (97 ≤ c ∧ c ≤ 122)
def letterB (c : Int) : Bool := decide ((97 ≤ c ∧ c ≤ 122) ∨ (65 ≤ c ∧ c ≤ 90) ∨ (48 ≤ c ∧ c ≤ 57) ∨ c = 95)
theorem isSmall_ok (c : Int) (w : World) : Calls Tryz.prog 82 #[.int .u8 c] w fun e w' => e = .returned (.bool (smallB c)) ∧ w' = w := by
  go_enter Tryz.func82, Tryz.ntmps82
  go_wp2
  all_goals go_ret
  all_goals refine ⟨?_, rfl⟩
  · simp_all [smallB]
  · simp_all [smallB]; omega

theorem isWordByte_ok (c : Int) (w : World) : Calls Tryz.prog 83 #[.int .u8 c] w fun e w' => e = .returned (.bool (letterB c)) ∧ w' = w := by
  go_enter Tryz.func83, Tryz.ntmps83
  go_wp2
  all_goals go_ret
  all_goals refine ⟨?_, rfl⟩
  all_goals rw [show letterB c = decide ((97 ≤ c ∧ c ≤ 122) ∨ (65 ≤ c ∧ c ≤ 90) ∨ (48 ≤ c ∧ c ≤ 57) ∨ c = 95) from rfl]
  all_goals simp
  all_goals try rw [Bool.eq_iff_iff]
  all_goals try simp
  all_goals omega

theorem letter_ok (c : Int) (w : World) : Calls Tryz.prog 114 #[.int .u8 c] w fun e w' => e = .returned (.bool (letterB c)) ∧ w' = w := by
  go_enter Tryz.func114, Tryz.ntmps114
  go_wp2
  all_goals go_ret
  all_goals refine ⟨?_, rfl⟩
  all_goals rw [show letterB c = decide ((97 ≤ c ∧ c ≤ 122) ∨ (65 ≤ c ∧ c ≤ 90) ∨ (48 ≤ c ∧ c ≤ 57) ∨ c = 95) from rfl]
  all_goals simp
  all_goals try rw [Bool.eq_iff_iff]
  all_goals try simp
  all_goals omega

def nameB (s : ByteArray) : Bool := s.toList == [112, 114, 111, 99] || s.toList == [99, 101, 108, 108] || s.toList == [112, 111, 114, 116]
theorem isNameLabel_ok (s : ByteArray) (w : World) : Calls Tryz.prog 57 #[.string s] w fun e w' => e = .returned (.bool (nameB s)) ∧ w' = w := by
  go_enter Tryz.func57, Tryz.ntmps57
  go_wp2
  all_goals go_ret
  all_goals refine ⟨?_, rfl⟩
  all_goals simp_all [nameB]

end Go.Ev

/- Atoms. -/
namespace Go.Ev
open Go.Proofs Go.RowKit
set_option maxRecDepth 100000

def lettersB (l : List UInt8) : Bool := l.all fun c => letterB c.toNat
def headB : List UInt8 → Bool
  | [] => false
  | c :: _ => smallB c.toNat
def atomB (s : ByteArray) : Bool := (s.toList == [124] || s.toList == [35]) || (decide (1 ≤ s.size ∧ s.size ≤ 16) && (headB s.data.toList && lettersB s.data.toList))

theorem take_snoc (s : ByteArray) (k : Nat) (h : k < s.size) : s.data.toList.take (k + 1) = s.data.toList.take k ++ [s[k]] := by
  rw [List.take_succ_eq_append_getElem (by simpa using h)]; rfl
theorem letters_snoc (s : ByteArray) (k : Nat) (h : k < s.size) : lettersB (s.data.toList.take (k + 1)) = (lettersB (s.data.toList.take k) && letterB s[k].toNat) := by
  rw [take_snoc s k h]
  simp [lettersB]
theorem letters_not {s : ByteArray} {k : Nat} (h : k < s.size) (hb : letterB s[k].toNat = false) : lettersB s.data.toList = false := by
  unfold lettersB
  rw [List.all_eq_false]
  exact ⟨s[k], by show s.data[k] ∈ _; simp, by rw [hb]; simp⟩
theorem head_of {s : ByteArray} (h : 0 < s.size) : headB s.data.toList = smallB (s[0]'h).toNat := by
  have : s.data.toList = s.data.toList := rfl
  cases hl : s.data.toList with
  | nil =>
    have h1 : s.data.toList.length = 0 := by rw [hl]; rfl
    rw [Array.length_toList] at h1
    have h' : 0 < s.data.size := h
    omega
  | cons c r =>
    have : s.data.toList[0]? = some c := by rw [hl]; rfl
    have h2 : s.data[0]? = some c := by simpa using this
    have h3 : s.data[0]'h = c := by
      rw [Array.getElem?_eq_getElem h] at h2
      exact Option.some.inj h2
    show smallB c.toNat = smallB (s.data[0]'h).toNat
    rw [h3]

set_option maxHeartbeats 1000000 in
theorem isAtom_ok (s : ByteArray) (hs : s.size ≤ 9223372036854775807) (w : World) : Calls Tryz.prog 55 #[.string s] w fun e w' => e = .returned (.bool (atomB s)) ∧ w' = w := by
  go_enter Tryz.func55, Tryz.ntmps55
  go_wp2_with (first
    | (go_at_call 82; refine (isSmall_ok _ _).mono ?_; rintro e w' ⟨rfl, rfl⟩)
    | (go_at_call 83; refine (isWordByte_ok _ _).mono ?_; rintro e w' ⟨rfl, rfl⟩)
    | go_in)
  · go_ret
    refine ⟨?_, rfl⟩
    simp_all [atomB]
  · go_ret
    refine ⟨?_, rfl⟩
    simp_all [atomB]
  · go_ret
    refine ⟨?_, rfl⟩
    have h0 : 0 < s.size := by assumption
    have hh := head_of h0
    have hsm : smallB (s[0]'h0).toNat = false := by
      rcases ‹(_ ∨ _) ∨ _› with (h | h) | h
      · omega
      · omega
      · simpa using h
    rw [hsm] at hh
    simp_all [atomB]
  · rename ((_ ∧ _) ∧ _ = false) => hc
    have h0 : 0 < s.size := by assumption
    have hsm : smallB (s[0]'h0).toNat = true := by simpa using hc.2
    have hx1 : decide ((s.size : Int) < 1) = false := by simp; omega
    have hx2 : decide (16 < (s.size : Int)) = false := by simp; omega
    have HC := (show Hid (smallB (s[0]'h0).toNat = true) from hsm)
    simp only [hsm, hx1, hx2, Bool.not_true, Bool.or_false]
    clear hc hsm hx1 hx2
    go_loop [26] (fun i => ∃ k : Nat, k ≤ s.size ∧ i = .int .i64 k ∧ lettersB (s.data.toList.take k) = true) (fun i => s.size - (intOf i).toNat)
    case atStart => exact ⟨0, Nat.zero_le _, rfl, rfl⟩
    case round =>
      obtain ⟨k, hk, rfl, hl⟩ := hrel
      by_cases hlt : k < s.size
      · have hsn := letters_snoc s k hlt
        have HS : Hid (lettersB (s.data.toList.take (k + 1)) = (lettersB (s.data.toList.take k) && letterB s[k].toNat)) := hsn
        have HL : Hid (lettersB (s.data.toList.take k) = true) := hl
        clear hsn hl
        go_wp2_with (first
          | (go_at_call 83; refine (isWordByte_ok _ _).mono ?_; rintro e w' ⟨rfl, rfl⟩)
          | go_in)
        · go_ret
          refine ⟨?_, rfl⟩
          have hb : letterB s[k].toNat = false := by simp_all
          have hn := letters_not hlt hb
          rw [show atomB s = false by unfold atomB; rw [hn]; simp_all]
          rfl
        · have hb : letterB s[k].toNat = true := by simp_all
          go_round
          case rel => exact ⟨k + 1, by omega, by go_num, by rw [HS.out, HL.out, hb]; rfl⟩
          case measure => simp [intOf]; omega
      · have HL : Hid (lettersB (s.data.toList.take k) = true) := hl
        clear hl
        go_wp2
        go_ret
        refine ⟨?_, rfl⟩
        have hl := HL.out
        rw [List.take_of_length_le (by simp; have h' : ¬ k < s.data.size := hlt; omega)] at hl
        have hh := head_of h0
        rw [HC.out] at hh
        rw [show atomB s = true by unfold atomB; rw [hl, hh]; simp; omega]
        rfl
  · go_ret
    refine ⟨?_, rfl⟩
    rw [show atomB s = false by unfold atomB; rw [show decide (1 ≤ s.size ∧ s.size ≤ 16) = false by simp; omega]; simp_all]
    rfl
  · go_ret
    refine ⟨?_, rfl⟩
    rw [show atomB s = false by unfold atomB; rw [show decide (1 ≤ s.size ∧ s.size ≤ 16) = false by simp; omega]; simp_all]
    rfl
end Go.Ev

/- Atoms, as the document's own answers say it. -/
namespace Go.Ev
open Go.Proofs Go.RowKit
set_option maxRecDepth 100000

def wordB (s : ByteArray) : Bool := decide (1 ≤ s.size ∧ s.size ≤ 16) && lettersB s.data.toList

set_option maxHeartbeats 1000000 in
theorem word_ok (s : ByteArray) (hs : s.size ≤ 9223372036854775807) (w : World) : Calls Tryz.prog 81 #[.string s] w fun e w' => e = .returned (.bool (wordB s)) ∧ w' = w := by
  go_enter Tryz.func81, Tryz.ntmps81
  go_wp2
  · go_ret
    refine ⟨?_, rfl⟩
    rw [show wordB s = false by unfold wordB; rw [show decide (1 ≤ s.size ∧ s.size ≤ 16) = false by simp; omega]; simp]
    rfl
  · rename_i h1 h2 _ _
    have hx1 : decide ((s.size : Int) < 1) = false := by simp; omega
    have hx2 : decide (16 < (s.size : Int)) = false := by simp; omega
    simp only [hx1, hx2, Bool.or_false]
    clear hx1 hx2
    go_loop [3] (fun i => ∃ k : Nat, k ≤ s.size ∧ i = .int .i64 k ∧ lettersB (s.data.toList.take k) = true) (fun i => s.size - (intOf i).toNat)
    case atStart => exact ⟨0, Nat.zero_le _, rfl, rfl⟩
    case round =>
      obtain ⟨k, hk, rfl, hl⟩ := hrel
      by_cases hlt : k < s.size
      · have hsn := letters_snoc s k hlt
        have HS : Hid (lettersB (s.data.toList.take (k + 1)) = (lettersB (s.data.toList.take k) && letterB s[k].toNat)) := hsn
        have HL : Hid (lettersB (s.data.toList.take k) = true) := hl
        clear hsn hl
        go_wp2_with (first
          | (go_at_call 114; refine (letter_ok _ _).mono ?_; rintro e w' ⟨rfl, rfl⟩)
          | go_in)
        · go_ret
          refine ⟨?_, rfl⟩
          have hb : letterB s[k].toNat = false := by simp_all
          have hn := letters_not hlt hb
          rw [show wordB s = false by unfold wordB; rw [hn]; simp]
          rfl
        · have hb : letterB s[k].toNat = true := by simp_all
          go_round
          case rel => exact ⟨k + 1, by omega, by go_num, by rw [HS.out, HL.out, hb]; rfl⟩
          case measure => simp [intOf]; omega
      · have HL : Hid (lettersB (s.data.toList.take k) = true) := hl
        clear hl
        go_wp2
        go_ret
        refine ⟨?_, rfl⟩
        have hl := HL.out
        rw [List.take_of_length_le (by simp; have h' : ¬ k < s.data.size := hlt; omega)] at hl
        rw [show wordB s = true by unfold wordB; rw [hl]; simp; omega]
        rfl
  · go_ret
    refine ⟨?_, rfl⟩
    rw [show wordB s = false by unfold wordB; rw [show decide (1 ≤ s.size ∧ s.size ≤ 16) = false by simp; omega]; simp]
    rfl

theorem atom_eq (s : ByteArray) : atomB s = (s.toList == [124] || s.toList == [35] || (wordB s && headB s.data.toList)) := by
  unfold atomB wordB
  cases decide (1 ≤ s.size ∧ s.size ≤ 16) <;> cases headB s.data.toList <;> cases lettersB s.data.toList <;> simp

set_option maxHeartbeats 1000000 in
theorem atom_ok (s : ByteArray) (hs : s.size ≤ 9223372036854775807) (w : World) : Calls Tryz.prog 54 #[.string s] w fun e w' => e = .returned (.bool (atomB s)) ∧ w' = w := by
  go_enter Tryz.func54, Tryz.ntmps54
  by_cases hw : wordB s = true
  · have hsz : 1 ≤ s.size ∧ s.size ≤ 16 := by
      have h1 := hw
      unfold wordB at h1
      simp at h1
      exact h1.1
    have h0 : 0 < s.size := by omega
    have hh := head_of h0
    go_wp2_with (first
      | (go_at_call 81; refine (word_ok _ hs _).mono ?_; rintro e w' ⟨rfl, rfl⟩)
      | go_in)
    all_goals go_ret
    all_goals refine ⟨?_, rfl⟩
    all_goals rw [atom_eq, hw, hh]
    · simp_all
    · simp_all
    · simp_all [smallB]
    · simp_all [smallB]
      try omega
  · go_wp2_with (first
      | (go_at_call 81; refine (word_ok _ hs _).mono ?_; rintro e w' ⟨rfl, rfl⟩)
      | go_in)
    all_goals go_ret
    all_goals refine ⟨?_, rfl⟩
    all_goals rw [atom_eq, show wordB s = false by simpa using hw]
    all_goals simp_all
end Go.Ev

/- Arguments. -/
namespace Go.Ev
open Go.Proofs Go.RowKit
set_option maxRecDepth 100000

def argsB (xs : List Int) (count : Int) : Bool := decide (1 ≤ xs.length ∧ xs.length ≤ 8) && xs.all fun x => decide (0 ≤ x ∧ x < count)

def goodB (count : Int) (xs : List Int) : Bool := xs.all fun x => decide (0 ≤ x ∧ x < count)
theorem good_snoc {count : Int} {xs : List Int} {k : Nat} (h : k < xs.length) : goodB count (xs.take (k + 1)) = (goodB count (xs.take k) && decide (0 ≤ xs[k] ∧ xs[k] < count)) := by
  unfold goodB
  rw [List.take_succ_eq_append_getElem h, List.all_append]
  simp
theorem good_not {count : Int} {xs : List Int} {k : Nat} (h : k < xs.length) (hb : decide (0 ≤ xs[k] ∧ xs[k] < count) = false) : goodB count xs = false := by
  unfold goodB
  rw [List.all_eq_false]
  exact ⟨xs[k], List.getElem_mem h, by rw [hb]; simp⟩
theorem args_eq (xs : List Int) (count : Int) : argsB xs count = (decide (1 ≤ xs.length ∧ xs.length ≤ 8) && goodB count xs) := rfl

set_option maxHeartbeats 1000000 in
theorem validArgs_ok (b off n c : Nat) (xs : List Int) (count : Int) (w : World) (hn : xs.length = n) (_hc : n ≤ c) (hc2 : n ≤ 9223372036854775807)
    (hcell : ∀ j x, xs[j]? = some x → w.cell? ⟨b, off + j, none⟩ = some (.int .i64 x)) :
    Calls Tryz.prog 56 #[.slice (some ⟨b, off, none⟩) n c, .int .i64 count] w fun e w' => e = .returned (.bool (argsB xs count)) ∧ w' = w := by
  have HN := Lib.hid hn
  have HC := Lib.hid hcell
  clear hn hcell
  go_enter Tryz.func56, Tryz.ntmps56
  go_wp2
  · go_ret
    refine ⟨?_, rfl⟩
    rw [show argsB xs count = false by rw [args_eq, HN.out, show decide (1 ≤ n ∧ n ≤ 8) = false by simp; omega]; simp]
    rfl
  · have hx1 : decide ((n : Int) < 1) = false := by simp; omega
    have hx2 : decide (8 < (n : Int)) = false := by simp; omega
    simp only [hx1, hx2, Bool.or_false]
    clear hx1 hx2
    go_loop [17] (fun i => ∃ k : Nat, k ≤ n ∧ i = .int .i64 k ∧ goodB count (xs.take k) = true) (fun i => n - (intOf i).toNat)
    case atStart => exact ⟨0, Nat.zero_le _, rfl, rfl⟩
    case round =>
      obtain ⟨k, hk, rfl, hl⟩ := hrel
      by_cases hlt : k < n
      · have hlx : k < xs.length := by rw [HN.out]; exact hlt
        have hsn := good_snoc (count := count) hlx
        have HS : Hid (goodB count (xs.take (k + 1)) = (goodB count (xs.take k) && decide (0 ≤ xs[k] ∧ xs[k] < count))) := hsn
        have HL : Hid (goodB count (xs.take k) = true) := hl
        have hg : w.cell? ⟨b, off + k, none⟩ = some (.int .i64 xs[k]) := HC.out k _ (List.getElem?_eq_getElem hlx)
        clear hsn hl
        go_wp2_with (first
          | (go_at_call 41; refine (isIndex_ok _ _ _).mono ?_; rintro e w' ⟨rfl, rfl⟩)
          | go_in)
        · go_ret
          refine ⟨?_, rfl⟩
          have hb : decide (0 ≤ xs[k] ∧ xs[k] < count) = false := by
            rename ((!decide _) = true ∨ _) => hx
            simp at hx ⊢
            omega
          rw [show argsB xs count = false by rw [args_eq, good_not hlx hb]; simp]
          rfl
        · have hb : decide (0 ≤ xs[k] ∧ xs[k] < count) = true := by
            rename ((!decide _) = false ∧ _) => hx
            simp at hx ⊢
            omega
          go_round
          case rel => exact ⟨k + 1, by omega, by go_num, by rw [HS.out, HL.out, hb]; rfl⟩
          case measure => simp [intOf]; omega
      · have HL : Hid (goodB count (xs.take k) = true) := hl
        clear hl
        go_wp2
        go_ret
        refine ⟨?_, rfl⟩
        have hl := HL.out
        rw [List.take_of_length_le (by rw [HN.out]; omega)] at hl
        rw [show argsB xs count = true by rw [args_eq, hl, HN.out]; simp; omega]
        rfl
  · go_ret
    refine ⟨?_, rfl⟩
    rw [show argsB xs count = false by rw [args_eq, HN.out, show decide (1 ≤ n ∧ n ≤ 8) = false by simp; omega]; simp]
    rfl
end Go.Ev

/- Nodes. -/
namespace Go.Ev
open Go.Proofs Go.RowKit Go.Lib
set_option maxRecDepth 100000

/-- The value is a slice of these integers. -/
inductive ArgsV (w : World) : Value → List Int → Prop where
  | empty (base : Option Addr) (c : Nat) : ArgsV w (.slice base 0 c) []
  | row (b off c : Nat) (xs : List Int) (hc : xs.length ≤ c) (hc2 : xs.length ≤ 9223372036854775807) (hcell : ∀ j x, xs[j]? = some x → w.cell? ⟨b, off + j, none⟩ = some (.int .i64 x)) : ArgsV w (.slice (some ⟨b, off, none⟩) xs.length c) xs

theorem ArgsV.len {w : World} {v : Value} {xs : List Int} (h : ArgsV w v xs) : ∃ base c, v = .slice base xs.length c := by
  cases h with
  | empty base c => exact ⟨_, _, rfl⟩
  | row b off c => exact ⟨_, _, rfl⟩

set_option maxHeartbeats 1000000 in
theorem validArgs_any (v : Value) (xs : List Int) (count : Int) (w : World) (h : ArgsV w v xs) :
    Calls Tryz.prog 56 #[v, .int .i64 count] w fun e w' => e = .returned (.bool (argsB xs count)) ∧ w' = w := by
  cases h with
  | row b off c xs hc hc2 hcell => exact validArgs_ok b off xs.length c xs count w rfl hc hc2 hcell
  | empty base c =>
    go_enter Tryz.func56, Tryz.ntmps56
    go_wp2
    go_ret
    exact ⟨rfl, rfl⟩

theorem ArgsV.alloc {w : World} {v : Value} {xs : List Int} (h : ArgsV w v xs) (o : Obj) : ArgsV (w.alloc o) v xs := by
  cases h with
  | empty base c => exact .empty base c
  | row b off c xs hc hc2 hcell =>
    refine .row b off c xs hc hc2 fun j x hj => ?_
    have h1 := hcell j x hj
    rw [World.cell?_alloc_past _ b _ (block_lt_of_cell h1)]
    exact h1

def nodeB (kind i : Int) (s : ByteArray) (xs : List Int) (count : Int) : Bool :=
  if kind = 0 then decide (0 ≤ i) && s.toList == [] && decide (xs.length = 0)
  else if kind = 1 then decide (-1099511627776 ≤ i) && decide (i ≤ 1099511627776) && s.toList == [] && decide (xs.length = 0)
  else if kind = 2 then decide (i = 0) && atomB s && decide (xs.length = 0)
  else if kind = 3 then decide (i = 0) && atomB s && argsB xs count
  else if kind = 4 then decide (0 ≤ i) && nameB s && decide (xs.length = 0)
  else false

set_option maxHeartbeats 2000000 in
theorem validNode_ok (kind i : Int) (s : ByteArray) (hs : s.size ≤ 9223372036854775807) (base : Option Addr) (n c : Nat) (xs : List Int) (count : Int) (w : World) (hn : n = xs.length) (h : ArgsV w (.slice base n c) xs) :
    Calls Tryz.prog 42 #[.agg #[.int .i64 kind, .int .i64 i, .string s, .slice base n c], .int .i64 count] w fun e w' => e = .returned (.bool (nodeB kind i s xs count)) ∧ Grown w w' := by
  have HN := Lib.hid hn
  have HA := Lib.hid h
  clear hn h
  go_enter Tryz.func42, Tryz.ntmps42
  go_wp2_with (first
    | (go_at_call 55; refine (isAtom_ok _ hs _).mono ?_; rintro e w' ⟨rfl, rfl⟩)
    | (go_at_call 57; refine (isNameLabel_ok _ _).mono ?_; rintro e w' ⟨rfl, rfl⟩)
    | (go_at_call 56; refine (validArgs_any _ _ _ _ (HA.out.alloc _)).mono ?_; rintro e w' ⟨rfl, rfl⟩)
    | go_in)
  all_goals go_ret
  all_goals refine ⟨?_, by repeat (first | exact Grown.refl _ | apply Grown.drew | apply Grown.alloc)⟩
  all_goals have hn := HN.out
  all_goals clear HN HA
  all_goals simp_all [nodeB]
  all_goals try omega
  have hx : ¬ xs = [] := List.ne_nil_of_length_pos (by assumption)
  simp [hx]
end Go.Ev

/- Nodes, as the document's own answers say it. -/
namespace Go.Ev
open Go.Proofs Go.RowKit Go.Lib
set_option maxRecDepth 100000

theorem cell_alloc {w : World} {b o : Nat} {v : Value} (h : w.cell? ⟨b, o, none⟩ = some v) (ob : Obj) : (w.alloc ob).cell? ⟨b, o, none⟩ = some v := by
  rw [World.cell?_alloc_past _ b _ (block_lt_of_cell h)]
  exact h

set_option maxHeartbeats 4000000 in
theorem right_nil (kind i : Int) (s : ByteArray) (hs : s.size ≤ 9223372036854775807) (base : Option Addr) (c : Nat) (count : Int) (w : World) :
    Calls Tryz.prog 40 #[.agg #[.int .i64 kind, .int .i64 i, .string s, .slice base 0 c], .int .i64 count] w fun e w' => e = .returned (.bool (nodeB kind i s [] count)) ∧ Grown w w' := by
  go_enter Tryz.func40, Tryz.ntmps40
  go_wp2_with (first
    | (go_at_call 54; refine (atom_ok _ hs _).mono ?_; rintro e w' ⟨rfl, rfl⟩)
    | go_in)
  all_goals go_ret
  all_goals refine ⟨?_, by repeat (first | exact Grown.refl _ | apply Grown.drew | apply Grown.alloc)⟩
  all_goals first
    | (simp_all [nodeB, nameB, args_eq]; done)
    | (simp_all [nodeB]; omega)
    | skip
  all_goals have hk : kind = 4 := by rename ((kind == 4) = true) => h; simpa using h
  all_goals subst hk
  all_goals rw [show nodeB 4 i s [] count = false by simp_all [nodeB, nameB]]
  all_goals rfl

set_option maxHeartbeats 4000000 in
theorem right_row (kind i : Int) (s : ByteArray) (hs : s.size ≤ 9223372036854775807) (b off n c : Nat) (xs : List Int) (count : Int) (w : World) (hn : n = xs.length) (_hc : n ≤ c) (hc2 : n ≤ 9223372036854775807)
    (hcell : ∀ j x, xs[j]? = some x → w.cell? ⟨b, off + j, none⟩ = some (.int .i64 x)) :
    Calls Tryz.prog 40 #[.agg #[.int .i64 kind, .int .i64 i, .string s, .slice (some ⟨b, off, none⟩) n c], .int .i64 count] w fun e w' => e = .returned (.bool (nodeB kind i s xs count)) ∧ Grown w w' := by
  have HZ := Lib.hid (show ((n : Int) == 0) = decide (xs.length = 0) by rw [hn, Bool.eq_iff_iff]; simp)
  have HN := Lib.hid hn
  have HC := Lib.hid hcell
  clear hn hcell
  go_enter Tryz.func40, Tryz.ntmps40
  go_wp2_with (first
    | (go_at_call 54; refine (atom_ok _ hs _).mono ?_; rintro e w' ⟨rfl, rfl⟩)
    | go_in)
  all_goals try (go_ret; refine ⟨?_, by repeat (first | exact Grown.refl _ | apply Grown.drew | apply Grown.alloc)⟩; have hn := HN.out; clear HN HC; simp_all [nodeB]; done)
  all_goals try (go_ret; refine ⟨?_, by repeat (first | exact Grown.refl _ | apply Grown.drew | apply Grown.alloc)⟩; have hn := HN.out; clear HN HC; simp_all [nodeB]; omega)
  all_goals try (go_ret; refine ⟨?_, by repeat (first | exact Grown.refl _ | apply Grown.drew | apply Grown.alloc)⟩; have hz := HZ.out; simp only [Array.getD_eq_getD_getElem?, List.getElem?_toArray]; simp only [hz]; clear hz HZ HN HC; simp_all [nodeB, nameB]; done)
  · go_ret
    refine ⟨?_, by repeat (first | exact Grown.refl _ | apply Grown.drew | apply Grown.alloc)⟩
    have hn := HN.out
    have hk : kind = 4 := by rename ((kind == 4) = true) => h; simpa using h
    subst hk
    rw [show nodeB 4 i s xs count = false by simp_all [nodeB, nameB]]
    rfl
  · go_ret
    refine ⟨?_, by repeat (first | exact Grown.refl _ | apply Grown.drew | apply Grown.alloc)⟩
    have hn := HN.out
    have hk : kind = 3 := by rename ((kind == 3) = true) => h; simpa using h
    subst hk
    rw [show nodeB 3 i s xs count = false by unfold nodeB; rw [args_eq, ← hn, show decide (1 ≤ n ∧ n ≤ 8) = false by simp; omega]; simp]
    rename (_ ∨ _) => h
    simp
  · have hk : kind = 3 := by rename ((kind == 3) = true) => h; simpa using h
    have hle : 1 ≤ n ∧ n ≤ 8 := by
      rename (1 ≤ (n : Int) ∧ (n : Int) ≤ 8) => h
      omega
    have HV := Lib.hid (show nodeB kind 0 s xs count = goodB count xs by
      have hn := HN.out
      subst hk
      unfold nodeB
      rw [args_eq, ← hn, show decide (1 ≤ n ∧ n ≤ 8) = true by simp; omega, ‹atomB s = true›]
      simp)
    clear HZ hk
    obtain ⟨hle1, hle2⟩ := hle
    go_loop [5] (fun i => ∃ k : Nat, k ≤ n ∧ i = .int .i64 k ∧ goodB count (xs.take k) = true) (fun i => n - (RowKit.intOf i).toNat)
    case atStart => exact ⟨0, Nat.zero_le _, rfl, rfl⟩
    case round =>
      obtain ⟨k, hk, rfl, hl⟩ := hrel
      by_cases hlt : k < n
      · have hlx : k < xs.length := by rw [← HN.out]; exact hlt
        have hsn := good_snoc (count := count) hlx
        have HS : Hid (goodB count (xs.take (k + 1)) = (goodB count (xs.take k) && decide (0 ≤ xs[k] ∧ xs[k] < count))) := hsn
        have HL : Hid (goodB count (xs.take k) = true) := hl
        have hg : w.cell? ⟨b, off + k, none⟩ = some (.int .i64 xs[k]) := HC.out k _ (List.getElem?_eq_getElem hlx)
        have hg' := fun ob => cell_alloc hg ob
        clear hsn hl
        go_wp2
        · go_ret
          refine ⟨?_, by repeat (first | exact Grown.refl _ | apply Grown.drew | apply Grown.alloc)⟩
          have hb : decide (0 ≤ xs[k] ∧ xs[k] < count) = false := by
            rename (_ ∨ _) => hx
            simp at hx ⊢
            omega
          rw [HV.out, good_not hlx hb]
          rename (_ ∨ _) => hx
          simp
        · have hb : decide (0 ≤ xs[k] ∧ xs[k] < count) = true := by
            rename (0 ≤ xs[k] ∧ _) => hx
            simp at hx ⊢
            omega
          go_round
          case rel => exact ⟨k + 1, by omega, by go_num, by rw [HS.out, HL.out, hb]; rfl⟩
          case measure => simp [RowKit.intOf]; omega
        · go_ret
          refine ⟨?_, by repeat (first | exact Grown.refl _ | apply Grown.drew | apply Grown.alloc)⟩
          have hb : decide (0 ≤ xs[k] ∧ xs[k] < count) = false := by
            rename (xs[k] < 0) => hx
            simp
            omega
          rw [HV.out, good_not hlx hb]
          rfl
      · have HL : Hid (goodB count (xs.take k) = true) := hl
        clear hl
        go_wp2
        go_ret
        refine ⟨?_, by repeat (first | exact Grown.refl _ | apply Grown.drew | apply Grown.alloc)⟩
        have hl := HL.out
        rw [List.take_of_length_le (by rw [← HN.out]; omega)] at hl
        rw [HV.out, hl]
        rfl
  · go_ret
    refine ⟨?_, by repeat (first | exact Grown.refl _ | apply Grown.drew | apply Grown.alloc)⟩
    have hn := HN.out
    have hk : kind = 3 := by rename ((kind == 3) = true) => h; simpa using h
    subst hk
    rw [show nodeB 3 0 s xs count = false by unfold nodeB; rw [args_eq, ← hn, show decide (1 ≤ n ∧ n ≤ 8) = false by simp; omega]; simp]
    simp

theorem right_ok (kind i : Int) (s : ByteArray) (hs : s.size ≤ 9223372036854775807) (v : Value) (xs : List Int) (count : Int) (w : World) (h : ArgsV w v xs) :
    Calls Tryz.prog 40 #[.agg #[.int .i64 kind, .int .i64 i, .string s, v], .int .i64 count] w fun e w' => e = .returned (.bool (nodeB kind i s xs count)) ∧ Grown w w' := by
  cases h with
  | empty base c => exact right_nil kind i s hs base c count w
  | row b off c xs hc hc2 hcell => exact right_row kind i s hs b off xs.length c xs count w rfl hc hc2 hcell
end Go.Ev
