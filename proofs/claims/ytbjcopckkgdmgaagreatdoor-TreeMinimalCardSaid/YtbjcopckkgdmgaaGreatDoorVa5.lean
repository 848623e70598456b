import Derived.Test.YtbjcopckkgdmgaaGreatDoorVa4
import Derived.Shelf.Spec.SlicesInsertGrow
/- Nodes. -/
namespace Go.Ev
open Go.Proofs Go.RowKit Go.Lib
set_option maxRecDepth 100000

/-- The value is a slice of these integers. -/
inductive ArgsV (w : World) : Value → List Int → Prop where
  | empty (base : Option Addr) (c : Nat) : ArgsV w (.slice base 0 c) []
  | row (b off c : Nat) (xs : List Int) (hc : xs.length ≤ c) (hc2 : xs.length ≤ 9223372036854775807) (hcell : ∀ j x, xs[j]? = some x → w.cell? ⟨b, off + j, none⟩ = some (.int .i64 x)) : ArgsV w (.slice (some ⟨b, off, none⟩) xs.length c) xs

theorem ArgsV.len {w : World} {v : Value} {xs : List Int} (h : ArgsV w v xs) : ∃ base c, v = .slice base xs.length c := by
  cases h with
  | empty base c => exact ⟨_, _, rfl⟩
  | row b off c => exact ⟨_, _, rfl⟩

set_option maxHeartbeats 1000000 in
theorem validArgs_any (v : Value) (xs : List Int) (count : Int) (w : World) (h : ArgsV w v xs) :
    Calls Tryz.prog 56 #[v, .int .i64 count] w fun e w' => e = .returned (.bool (argsB xs count)) ∧ w' = w := by
  cases h with
  | row b off c xs hc hc2 hcell => exact validArgs_ok b off xs.length c xs count w rfl hc hc2 hcell
  | empty base c =>
    go_enter Tryz.func56, Tryz.ntmps56
    go_wp2
    go_ret
    exact ⟨rfl, rfl⟩

theorem ArgsV.alloc {w : World} {v : Value} {xs : List Int} (h : ArgsV w v xs) (o : Obj) : ArgsV (w.alloc o) v xs := by
  cases h with
  | empty base c => exact .empty base c
  | row b off c xs hc hc2 hcell =>
    refine .row b off c xs hc hc2 fun j x hj => ?_
    have h1 := hcell j x hj
    rw [World.cell?_alloc_past _ b _ (block_lt_of_cell h1)]
    exact h1

def nodeB (kind i : Int) (s : ByteArray) (xs : List Int) (count : Int) : Bool :=
  if kind = 0 then decide (0 ≤ i) && s.toList == [] && decide (xs.length = 0)
  else if kind = 1 then decide (-1099511627776 ≤ i) && decide (i ≤ 1099511627776) && s.toList == [] && decide (xs.length = 0)
  else if kind = 2 then decide (i = 0) && atomB s && decide (xs.length = 0)
  else if kind = 3 then decide (i = 0) && atomB s && argsB xs count
  else if kind = 4 then decide (0 ≤ i) && nameB s && decide (xs.length = 0)
  else false

set_option maxHeartbeats 2000000 in
theorem validNode_ok (kind i : Int) (s : ByteArray) (hs : s.size ≤ 9223372036854775807) (base : Option Addr) (n c : Nat) (xs : List Int) (count : Int) (w : World) (hn : n = xs.length) (h : ArgsV w (.slice base n c) xs) :
    Calls Tryz.prog 42 #[.agg #[.int .i64 kind, .int .i64 i, .string s, .slice base n c], .int .i64 count] w fun e w' => e = .returned (.bool (nodeB kind i s xs count)) ∧ Grown w w' := by
  have HN := Lib.hid hn
  have HA := Lib.hid h
  clear hn h
  go_enter Tryz.func42, Tryz.ntmps42
  go_wp2_with (first
    | (go_at_call 55; refine (isAtom_ok _ hs _).mono ?_; rintro e w' ⟨rfl, rfl⟩)
    | (go_at_call 57; refine (isNameLabel_ok _ _).mono ?_; rintro e w' ⟨rfl, rfl⟩)
    | (go_at_call 56; refine (validArgs_any _ _ _ _ (HA.out.alloc _)).mono ?_; rintro e w' ⟨rfl, rfl⟩)
    | go_in)
  all_goals go_ret
  all_goals refine ⟨?_, by repeat (first | exact Grown.refl _ | apply Grown.drew | apply Grown.alloc)⟩
  all_goals have hn := HN.out
  all_goals clear HN HA
  all_goals simp_all [nodeB]
  all_goals try omega
  have hx : ¬ xs = [] := List.ne_nil_of_length_pos (by assumption)
  simp [hx]
end Go.Ev
