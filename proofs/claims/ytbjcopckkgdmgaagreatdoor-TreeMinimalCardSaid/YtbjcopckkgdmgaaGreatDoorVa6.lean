import Derived.Test.YtbjcopckkgdmgaaGreatDoorVa5
import Derived.Outline
/- Nodes, as the document's own answers say it. -/
namespace Go.Ev
open Go.Proofs Go.RowKit Go.Lib
set_option maxRecDepth 100000

theorem cell_alloc {w : World} {b o : Nat} {v : Value} (h : w.cell? ⟨b, o, none⟩ = some v) (ob : Obj) : (w.alloc ob).cell? ⟨b, o, none⟩ = some v := by
  rw [World.cell?_alloc_past _ b _ (block_lt_of_cell h)]
  exact h

set_option maxHeartbeats 4000000 in
theorem right_nil (kind i : Int) (s : ByteArray) (hs : s.size ≤ 9223372036854775807) (base : Option Addr) (c : Nat) (count : Int) (w : World) :
    Calls Tryz.prog 40 #[.agg #[.int .i64 kind, .int .i64 i, .string s, .slice base 0 c], .int .i64 count] w fun e w' => e = .returned (.bool (nodeB kind i s [] count)) ∧ Grown w w' := by
  go_enter Tryz.func40, Tryz.ntmps40
  go_wp2_with (first
    | (go_at_call 54; refine (atom_ok _ hs _).mono ?_; rintro e w' ⟨rfl, rfl⟩)
    | go_in)
  all_goals go_ret
  all_goals refine ⟨?_, by repeat (first | exact Grown.refl _ | apply Grown.drew | apply Grown.alloc)⟩
  all_goals first
    | (simp_all [nodeB, nameB, args_eq]; done)
    | (simp_all [nodeB, nameB, args_eq]; omega)
    | skip
  all_goals have hk : kind = 4 := by rename ((kind == 4) = true) => h; simpa using h
  all_goals subst hk
  all_goals rw [show nodeB 4 i s [] count = false by simp_all [nodeB, nameB]]
  all_goals rfl

set_option maxHeartbeats 4000000 in
theorem right_row (kind i : Int) (s : ByteArray) (hs : s.size ≤ 9223372036854775807) (b off n c : Nat) (xs : List Int) (count : Int) (w : World) (hn : n = xs.length) (hc : n ≤ c) (hc2 : n ≤ 9223372036854775807)
    (hcell : ∀ j x, xs[j]? = some x → w.cell? ⟨b, off + j, none⟩ = some (.int .i64 x)) :
    Calls Tryz.prog 40 #[.agg #[.int .i64 kind, .int .i64 i, .string s, .slice (some ⟨b, off, none⟩) n c], .int .i64 count] w fun e w' => e = .returned (.bool (nodeB kind i s xs count)) ∧ Grown w w' := by
  have HZ := Lib.hid (show ((n : Int) == 0) = decide (xs.length = 0) by rw [hn, Bool.eq_iff_iff]; simp)
  have HN := Lib.hid hn
  have HC := Lib.hid hcell
  clear hn hcell
  go_enter Tryz.func40, Tryz.ntmps40
  go_wp2_with (first
    | (go_at_call 54; refine (atom_ok _ hs _).mono ?_; rintro e w' ⟨rfl, rfl⟩)
    | go_in)
  all_goals try (go_ret; refine ⟨?_, by repeat (first | exact Grown.refl _ | apply Grown.drew | apply Grown.alloc)⟩; have hn := HN.out; clear HN HC; simp_all [nodeB]; done)
  all_goals try (go_ret; refine ⟨?_, by repeat (first | exact Grown.refl _ | apply Grown.drew | apply Grown.alloc)⟩; have hn := HN.out; clear HN HC; simp_all [nodeB]; omega)
  all_goals try (go_ret; refine ⟨?_, by repeat (first | exact Grown.refl _ | apply Grown.drew | apply Grown.alloc)⟩; have hz := HZ.out; simp only [Array.getD_eq_getD_getElem?, List.getElem?_toArray]; simp only [hz]; clear hz HZ HN HC; simp_all [nodeB, nameB]; done)
  · go_ret
    refine ⟨?_, by repeat (first | exact Grown.refl _ | apply Grown.drew | apply Grown.alloc)⟩
    have hn := HN.out
    have hk : kind = 4 := by rename ((kind == 4) = true) => h; simpa using h
    subst hk
    rw [show nodeB 4 i s xs count = false by simp_all [nodeB, nameB]]
    rfl
  · go_ret
    refine ⟨?_, by repeat (first | exact Grown.refl _ | apply Grown.drew | apply Grown.alloc)⟩
    have hn := HN.out
    have hk : kind = 3 := by rename ((kind == 3) = true) => h; simpa using h
    subst hk
    rw [show nodeB 3 i s xs count = false by unfold nodeB; rw [args_eq, ← hn, show decide (1 ≤ n ∧ n ≤ 8) = false by simp; omega]; simp]
    rename (_ ∨ _) => h
    simp [h]
  · have hk : kind = 3 := by rename ((kind == 3) = true) => h; simpa using h
    have hle : 1 ≤ n ∧ n ≤ 8 := by
      rename (1 ≤ (n : Int) ∧ (n : Int) ≤ 8) => h
      omega
    have HV := Lib.hid (show nodeB kind 0 s xs count = goodB count xs by
      have hn := HN.out
      subst hk
      unfold nodeB
      rw [args_eq, ← hn, show decide (1 ≤ n ∧ n ≤ 8) = true by simp; omega, ‹atomB s = true›]
      simp)
    clear HZ hk
    obtain ⟨hle1, hle2⟩ := hle
    go_loop [5] (fun i => ∃ k : Nat, k ≤ n ∧ i = .int .i64 k ∧ goodB count (xs.take k) = true) (fun i => n - (RowKit.intOf i).toNat)
    case atStart => exact ⟨0, Nat.zero_le _, rfl, rfl⟩
    case round =>
      obtain ⟨k, hk, rfl, hl⟩ := hrel
      by_cases hlt : k < n
      · have hlx : k < xs.length := by rw [← HN.out]; exact hlt
        have hsn := good_snoc (count := count) hlx
        have HS : Hid (goodB count (xs.take (k + 1)) = (goodB count (xs.take k) && decide (0 ≤ xs[k] ∧ xs[k] < count))) := hsn
        have HL : Hid (goodB count (xs.take k) = true) := hl
        have hg : w.cell? ⟨b, off + k, none⟩ = some (.int .i64 xs[k]) := HC.out k _ (List.getElem?_eq_getElem hlx)
        have hg' := fun ob => cell_alloc hg ob
        clear hsn hl
        go_wp2
        · go_ret
          refine ⟨?_, by repeat (first | exact Grown.refl _ | apply Grown.drew | apply Grown.alloc)⟩
          have hb : decide (0 ≤ xs[k] ∧ xs[k] < count) = false := by
            rename (_ ∨ _) => hx
            simp at hx ⊢
            omega
          rw [HV.out, good_not hlx hb]
          rename (_ ∨ _) => hx
          simp [hx]
        · have hb : decide (0 ≤ xs[k] ∧ xs[k] < count) = true := by
            rename (0 ≤ xs[k] ∧ _) => hx
            simp at hx ⊢
            omega
          go_round
          case rel => exact ⟨k + 1, by omega, by go_num, by rw [HS.out, HL.out, hb]; rfl⟩
          case measure => simp [RowKit.intOf]; omega
        · go_ret
          refine ⟨?_, by repeat (first | exact Grown.refl _ | apply Grown.drew | apply Grown.alloc)⟩
          have hb : decide (0 ≤ xs[k] ∧ xs[k] < count) = false := by
            rename (xs[k] < 0) => hx
            simp
            omega
          rw [HV.out, good_not hlx hb]
          rfl
      · have HL : Hid (goodB count (xs.take k) = true) := hl
        clear hl
        go_wp2
        go_ret
        refine ⟨?_, by repeat (first | exact Grown.refl _ | apply Grown.drew | apply Grown.alloc)⟩
        have hl := HL.out
        rw [List.take_of_length_le (by rw [← HN.out]; omega)] at hl
        rw [HV.out, hl]
        rfl
  · go_ret
    refine ⟨?_, by repeat (first | exact Grown.refl _ | apply Grown.drew | apply Grown.alloc)⟩
    have hn := HN.out
    have hk : kind = 3 := by rename ((kind == 3) = true) => h; simpa using h
    subst hk
    rw [show nodeB 3 0 s xs count = false by unfold nodeB; rw [args_eq, ← hn, show decide (1 ≤ n ∧ n ≤ 8) = false by simp; omega]; simp]
    simp

theorem right_ok (kind i : Int) (s : ByteArray) (hs : s.size ≤ 9223372036854775807) (v : Value) (xs : List Int) (count : Int) (w : World) (h : ArgsV w v xs) :
    Calls Tryz.prog 40 #[.agg #[.int .i64 kind, .int .i64 i, .string s, v], .int .i64 count] w fun e w' => e = .returned (.bool (nodeB kind i s xs count)) ∧ Grown w w' := by
  cases h with
  | empty base c => exact right_nil kind i s hs base c count w
  | row b off c xs hc hc2 hcell => exact right_row kind i s hs b off xs.length c xs count w rfl hc hc2 hcell
end Go.Ev
