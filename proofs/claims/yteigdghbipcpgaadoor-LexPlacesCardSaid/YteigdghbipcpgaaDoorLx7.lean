/- Tokens: the program's next. -/
import Derived.Test.YteigdghbipcpgaaDoorLx6
namespace Go.Lx
open Go.Proofs Go.RowKit Go.Lib Go.Ev
set_option maxRecDepth 100000

theorem cell_alloc {w : World} {b o : Nat} {v : Value} (h : w.cell? ⟨b, o, none⟩ = some v) (ob : Obj) : (w.alloc ob).cell? ⟨b, o, none⟩ = some v := by
  rw [World.cell?_alloc_past _ b _ (block_lt_of_cell h)]
  exact h
theorem kp_drewN {B : Nat} {a w : World} (h : Kp B a w) (n : Nat) : Kp B a (w.drewN n) := ⟨h.os, h.output, h.size, h.block⟩
theorem tw_eq_self {l : List UInt8} {c : UInt8} (h : c ∉ l) : l.takeWhile (· != c) = l := by
  induction l with
  | nil => rfl
  | cons b l ih =>
    rw [tw_ne (fun e => h (by subst e; exact List.mem_cons_self ..)), ih (fun hm => h (List.mem_cons_of_mem _ hm))]
theorem idx_mem {l : List UInt8} {c : UInt8} : 0 ≤ indexByte l c ↔ c ∈ l := by
  constructor
  · intro h
    induction l with
    | nil => simp [indexByte] at h
    | cons b l ih =>
      unfold indexByte at h
      by_cases hb : b = c
      · subst hb; exact List.mem_cons_self ..
      · have hb' : (b == c) = false := by simpa using hb
        simp only [hb', Bool.false_eq_true, if_false] at h
        refine List.mem_cons_of_mem _ (ih ?_)
        split at h
        · omega
        · rename_i h1
          have h2 : indexByte l c ≠ -1 := by simpa using h1
          omega
  · intro h
    refine Decidable.byContradiction fun hn => ?_
    have e := idx_miss hn
    have := takeWhile_all (p := (· != c)) l
    rw [e, List.all_eq_true] at this
    have := this c h
    simp at this
theorem cut_one (l : List UInt8) (c : UInt8) : Lib.cut l [c] = if c ∈ l then (l.takeWhile (· != c), l.drop ((l.takeWhile (· != c)).length + 1), true) else (l, [], false) := by
  unfold Lib.cut
  rw [index_one]
  by_cases h : 0 ≤ indexByte l c
  · rw [if_pos h, if_pos (idx_mem.1 h), idx_hit h]
    congr 1
    simp only [Int.toNat_natCast]
    conv => lhs; arg 2; rw [← List.takeWhile_append_dropWhile (p := (· != c)) (l := l)]
    exact List.take_left
  · rw [if_neg h, if_neg (fun hm => h (idx_mem.2 hm))]

theorem cut_quote (s : ByteArray) (m : Int) (w : World) (hs : s.size < 4294967281) (hm : w.cell? ⟨0, 0, none⟩ = some (.int .i64 m)) :
    Calls Tryd.prog 60 #[.string (s.extract 1 s.size), .string ⟨#[39]⟩] w fun e w' => ∃ rest : ByteArray, e = .returned (.tuple #[.string ⟨((s.data.toList.drop 1).takeWhile (· != 39)).toArray⟩, .string rest, .bool (decide (39 ∈ s.data.toList.drop 1))]) ∧ ∃ n, w' = w.drewN n := by
  have hz : (s.extract 1 s.size).size < 4294967281 := by
    rw [Lib.size_eq, ext_drop, List.length_drop]
    have : s.size = s.data.toList.length := Lib.size_eq s
    omega
  refine (Tryd.strings_Cut (s.extract 1 s.size) ⟨#[39]⟩ m w hz hm).mono ?_
  rintro e w' ⟨rfl, hw⟩
  rw [ext_drop]
  rw [show (⟨#[39]⟩ : ByteArray).data.toList = [39] from rfl, cut_one]
  by_cases h : 39 ∈ s.data.toList.drop 1
  · rw [if_pos h, decide_eq_true h]
    exact ⟨_, rfl, hw⟩
  · rw [if_neg h, decide_eq_false h, tw_eq_self h]
    exact ⟨_, rfl, hw⟩

theorem box3' {w : World} {a b c : Value} {t : TypeId} (n : Nat) (B : Nat) (hB : B ≤ w.heap.size) : Kp B w ((w.alloc (.cells #[a, b, c] t)).drewN n) := by
  have h := (Kp.refl B w).alloc hB (.cells #[a, b, c] t)
  exact ⟨h.os, h.output, h.size, h.block⟩

def quoteL (r : List UInt8) : Tok × Nat := if 39 ∈ r then (⟨2, r.takeWhile (· != 39), 0⟩, (r.takeWhile (· != 39)).length + 2) else (⟨0, [], 0⟩, 0)

set_option maxHeartbeats 1000000 in
theorem quoted_ok (s : ByteArray) (h0 : 0 < s.size) (hs : s.size < 4294967281) (m : Int) (w : World) (hm : w.cell? ⟨0, 0, none⟩ = some (.int .i64 m)) :
    Calls Tryd.prog 40 #[.string s] w fun e w' => e = .returned (.tuple #[tokV (quoteL (s.data.toList.drop 1)).1, .int .i64 (quoteL (s.data.toList.drop 1)).2]) ∧ Kp w.heap.size w w' := by
  have C60 := fun w hm => cut_quote s m w hs hm
  have hle : ((s.data.toList.drop 1).takeWhile (· != 39)).length ≤ s.size := by
    have h1 := tw_le (p := (· != 39)) (s.data.toList.drop 1)
    rw [List.length_drop] at h1
    have : s.size = s.data.toList.length := Lib.size_eq s
    omega
  unfold quoteL tokV
  have hq : ((⟨((s.data.toList.drop 1).takeWhile (· != 39)).toArray⟩ : ByteArray).size : Int) = ((s.data.toList.drop 1).takeWhile (· != 39)).length := by rw [Lib.size_eq]
  have hqle : (⟨((s.data.toList.drop 1).takeWhile (· != 39)).toArray⟩ : ByteArray).size ≤ s.size := by rw [Lib.size_eq]; exact hle
  by_cases h : 39 ∈ s.data.toList.drop 1
  · rw [if_pos h]
    simp only [decide_eq_true h] at C60
    have hM := fun ob => cell_alloc hm ob
    generalize s.data.toList.drop 1 = r at *
    rw [show (((r.takeWhile (· != 39)).length + 2 : Nat) : Int) = ((r.takeWhile (· != 39)).length : Int) + 2 from rfl, ← hq]
    generalize (⟨(r.takeWhile (· != 39)).toArray⟩ : ByteArray) = t at *
    clear h hq hle hm
    go_enter Tryd.func40, Tryd.ntmps40
    go_wp2_with (go_at_call 60; refine (C60 _ (hM _)).mono ?_; rintro e w' ⟨rest, rfl, n, rfl⟩)
    refine bodyPost_ret (v := .tuple #[.agg #[.int .i64 2, .string t, .int .i64 0], .int .i64 (t.size + 2)]) ?_ rfl ⟨rfl, ?_⟩
    · simp [results, Tryd.results40, go_sem]
    · exact ((((kp_drewN ((Kp.refl _ _).alloc (Nat.le_refl _) _) _).setCell (Nat.le_refl _) _).setCell (Nat.le_refl _) _).setCell (Nat.le_refl _) _)
  · rw [if_neg h]
    simp only [decide_eq_false h] at C60
    have hM := fun ob => cell_alloc hm ob
    generalize s.data.toList.drop 1 = r at *
    generalize (⟨(r.takeWhile (· != 39)).toArray⟩ : ByteArray) = t at *
    clear h hq hle hm
    go_enter Tryd.func40, Tryd.ntmps40
    go_wp2_with (go_at_call 60; refine (C60 _ (hM _)).mono ?_; rintro e w' ⟨rest, rfl, n, rfl⟩)
    refine bodyPost_ret (v := .tuple #[.agg #[.int .i64 0, .string ⟨#[]⟩, .int .i64 0], .int .i64 0]) ?_ rfl ⟨rfl, ?_⟩
    · simp [results, Tryd.results40, go_sem]
    · exact ((((kp_drewN ((Kp.refl _ _).alloc (Nat.le_refl _) _) _).setCell (Nat.le_refl _) _).setCell (Nat.le_refl _) _).setCell (Nat.le_refl _) _)

theorem head_cons {s : ByteArray} (h : 0 < s.size) : s.data.toList = s[0] :: s.data.toList.drop 1 := by
  cases hl : s.data.toList with
  | nil =>
    have h1 : s.size = 0 := by rw [Lib.size_eq, hl]; rfl
    omega
  | cons c r =>
    have h2 : s.data.toList[0]? = some s[0] := by
      rw [List.getElem?_eq_getElem (by simpa using h)]; rfl
    rw [hl] at h2
    simp only [List.getElem?_cons_zero, Option.some.injEq] at h2
    rw [h2]; rfl

/-- The digits behind a sign. -/
theorem ext_tilde (s : ByteArray) : s.extract 1 (1 + ((s.data.toList.drop 1).takeWhile digB).length) = ⟨((s.data.toList.drop 1).takeWhile digB).toArray⟩ := by
  rw [extract_eq, Nat.add_sub_cancel_left]
  congr 2
  generalize s.data.toList.drop 1 = r
  conv => lhs; arg 2; rw [← List.takeWhile_append_dropWhile (p := digB) (l := r)]
  exact List.take_left
end Go.Lx
