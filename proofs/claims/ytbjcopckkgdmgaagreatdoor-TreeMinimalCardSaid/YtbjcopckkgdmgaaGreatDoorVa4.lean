import Derived.Test.YtbjcopckkgdmgaaGreatDoorVa3
/- Arguments. -/
namespace Go.Ev
open Go.Proofs Go.RowKit
set_option maxRecDepth 100000

def argsB (xs : List Int) (count : Int) : Bool := decide (1 ≤ xs.length ∧ xs.length ≤ 8) && xs.all fun x => decide (0 ≤ x ∧ x < count)

def goodB (count : Int) (xs : List Int) : Bool := xs.all fun x => decide (0 ≤ x ∧ x < count)
theorem good_snoc {count : Int} {xs : List Int} {k : Nat} (h : k < xs.length) : goodB count (xs.take (k + 1)) = (goodB count (xs.take k) && decide (0 ≤ xs[k] ∧ xs[k] < count)) := by
  unfold goodB
  rw [List.take_succ_eq_append_getElem h, List.all_append]
  simp
theorem good_not {count : Int} {xs : List Int} {k : Nat} (h : k < xs.length) (hb : decide (0 ≤ xs[k] ∧ xs[k] < count) = false) : goodB count xs = false := by
  unfold goodB
  rw [List.all_eq_false]
  exact ⟨xs[k], List.getElem_mem h, by rw [hb]; simp⟩
theorem args_eq (xs : List Int) (count : Int) : argsB xs count = (decide (1 ≤ xs.length ∧ xs.length ≤ 8) && goodB count xs) := rfl

set_option maxHeartbeats 1000000 in
theorem validArgs_ok (b off n c : Nat) (xs : List Int) (count : Int) (w : World) (hn : xs.length = n) (hc : n ≤ c) (hc2 : n ≤ 9223372036854775807)
    (hcell : ∀ j x, xs[j]? = some x → w.cell? ⟨b, off + j, none⟩ = some (.int .i64 x)) :
    Calls Tryz.prog 56 #[.slice (some ⟨b, off, none⟩) n c, .int .i64 count] w fun e w' => e = .returned (.bool (argsB xs count)) ∧ w' = w := by
  have HN := Lib.hid hn
  have HC := Lib.hid hcell
  clear hn hcell
  go_enter Tryz.func56, Tryz.ntmps56
  go_wp2
  · go_ret
    refine ⟨?_, rfl⟩
    rw [show argsB xs count = false by rw [args_eq, HN.out, show decide (1 ≤ n ∧ n ≤ 8) = false by simp; omega]; simp]
    rfl
  · have hx1 : decide ((n : Int) < 1) = false := by simp; omega
    have hx2 : decide (8 < (n : Int)) = false := by simp; omega
    simp only [hx1, hx2, Bool.or_false]
    clear hx1 hx2
    go_loop [17] (fun i => ∃ k : Nat, k ≤ n ∧ i = .int .i64 k ∧ goodB count (xs.take k) = true) (fun i => n - (intOf i).toNat)
    case atStart => exact ⟨0, Nat.zero_le _, rfl, rfl⟩
    case round =>
      obtain ⟨k, hk, rfl, hl⟩ := hrel
      by_cases hlt : k < n
      · have hlx : k < xs.length := by rw [HN.out]; exact hlt
        have hsn := good_snoc (count := count) hlx
        have HS : Hid (goodB count (xs.take (k + 1)) = (goodB count (xs.take k) && decide (0 ≤ xs[k] ∧ xs[k] < count))) := hsn
        have HL : Hid (goodB count (xs.take k) = true) := hl
        have hg : w.cell? ⟨b, off + k, none⟩ = some (.int .i64 xs[k]) := HC.out k _ (List.getElem?_eq_getElem hlx)
        clear hsn hl
        go_wp2_with (first
          | (go_at_call 41; refine (isIndex_ok _ _ _).mono ?_; rintro e w' ⟨rfl, rfl⟩)
          | go_in)
        · go_ret
          refine ⟨?_, rfl⟩
          have hb : decide (0 ≤ xs[k] ∧ xs[k] < count) = false := by
            rename ((!decide _) = true ∨ _) => hx
            simp at hx ⊢
            omega
          rw [show argsB xs count = false by rw [args_eq, good_not hlx hb]; simp]
          rfl
        · have hb : decide (0 ≤ xs[k] ∧ xs[k] < count) = true := by
            rename ((!decide _) = false ∧ _) => hx
            simp at hx ⊢
            omega
          go_round
          case rel => exact ⟨k + 1, by omega, by go_num, by rw [HS.out, HL.out, hb]; rfl⟩
          case measure => simp [intOf]; omega
      · have HL : Hid (goodB count (xs.take k) = true) := hl
        clear hl
        go_wp2
        go_ret
        refine ⟨?_, rfl⟩
        have hl := HL.out
        rw [List.take_of_length_le (by rw [HN.out]; omega)] at hl
        rw [show argsB xs count = true by rw [args_eq, hl, HN.out]; simp; omega]
        rfl
  · go_ret
    refine ⟨?_, rfl⟩
    rw [show argsB xs count = false by rw [args_eq, HN.out, show decide (1 ≤ n ∧ n ≤ 8) = false by simp; omega]; simp]
    rfl
end Go.Ev
