/- Runs, gaps, words. -/
import Derived.Test.YteigdghbipcpgaaDoorLx3
namespace Go.Lx
open Go.Proofs Go.RowKit Go.Lib Go.Ev
set_option maxRecDepth 100000

theorem ints_new (w : World) (zs : List Int) (t : TypeId) (h : zs.length ≤ 100) : IntsV (w.alloc (.cells (zs.map (Value.int .i64)).toArray t)) (.slice (some ⟨w.heap.size, 0, none⟩) zs.length zs.length) zs := by
  refine .row _ _ _ _ (Nat.le_refl _) (by omega) fun j x hj => ?_
  rw [World.cell?_alloc_new, Nat.zero_add]
  simp [hj]

theorem wordRun_ok (s : ByteArray) (hs : s.size ≤ 9223372036854775807) (w : World) :
    Calls Tryd.prog 39 #[.string s] w fun e w' => e = .returned (.int .i64 (s.data.toList.takeWhile letB).length) ∧ Kp w.heap.size w w' := by
  rw [letB_eq]
  go_enter Tryd.func39, Tryd.ntmps39
  go_wp2_with (go_at_call 34; refine (run_ok s hs _ [3, 4, 2, 5] _ (ints_new w [3, 4, 2, 5] _ (by simp))).mono ?_; rintro e w' ⟨rfl, rfl⟩)
  go_ret
  exact ⟨rfl, (Kp.refl _ _).alloc (Nat.le_refl _) _⟩

theorem tw_ne {b c : UInt8} {l : List UInt8} (h : ¬ b = c) : (b :: l).takeWhile (· != c) = b :: l.takeWhile (· != c) := by
  rw [List.takeWhile_cons]
  simp [h]
theorem idx_hit : ∀ {l : List UInt8} {c : UInt8}, 0 ≤ indexByte l c → indexByte l c = (l.takeWhile (· != c)).length
  | [], c, h => by simp [indexByte] at h
  | b :: l, c, h => by
    unfold indexByte at h ⊢
    by_cases hb : b = c
    · subst hb; simp
    · have hb' : (b == c) = false := by simpa using hb
      simp only [hb'] at h ⊢
      rw [tw_ne hb]
      by_cases h1 : indexByte l c = -1
      · simp [h1] at h
      · have h2 : (indexByte l c == -1) = false := by simpa using h1
        simp only [h2, Bool.false_eq_true, if_false] at h ⊢
        have h3 : -1 ≤ indexByte l c := by
          clear h h1 h2
          induction l with
          | nil => simp [indexByte]
          | cons x l ih => unfold indexByte; split; · omega
                           · split; · omega
                             · omega
        have := idx_hit (l := l) (c := c) (by omega)
        rw [this]
        simp
theorem idx_miss : ∀ {l : List UInt8} {c : UInt8}, ¬ 0 ≤ indexByte l c → l.takeWhile (· != c) = l
  | [], c, _ => rfl
  | b :: l, c, h => by
    unfold indexByte at h
    by_cases hb : b = c
    · subst hb; simp at h
    · have hb' : (b == c) = false := by simpa using hb
      simp only [hb', Bool.false_eq_true, if_false] at h
      rw [tw_ne hb]
      by_cases h1 : 0 ≤ indexByte l c
      · have h2 : (indexByte l c == -1) = false := by simp; omega
        simp only [h2, Bool.false_eq_true, if_false] at h
        omega
      · rw [idx_miss h1]

theorem remark_ok (s : ByteArray) (w : World) :
    Calls Tryd.prog 36 #[.string s] w fun e w' => e = .returned (.int .i64 (s.data.toList.takeWhile (· != 10)).length) ∧ w' = w := by
  have C := Tryd.strings_IndexByte s 10 w
  have hv : (10 : Int).toNat.toUInt8 = 10 := rfl
  rw [hv] at C
  have h1 : 0 ≤ indexByte s.data.toList 10 → ((s.data.toList.takeWhile (· != 10)).length : Int) = indexByte s.data.toList 10 := fun h => (idx_hit h).symm
  have h2 : ¬ 0 ≤ indexByte s.data.toList 10 → ((s.data.toList.takeWhile (· != 10)).length : Int) = s.size := fun h => by rw [idx_miss h]; simp
  generalize indexByte s.data.toList 10 = z at *
  generalize ((s.data.toList.takeWhile (· != 10)).length : Int) = y at *
  have H1 := Lib.hid h1
  have H2 := Lib.hid h2
  clear h1 h2 hv
  go_enter Tryd.func36, Tryd.ntmps36
  go_wp2_with (go_at_call 59; refine C.mono ?_; rintro e w' ⟨rfl, rfl⟩)
  · go_ret
    refine ⟨?_, rfl⟩
    rw [H1.out (by assumption)]
    rfl
  · go_ret
    refine ⟨?_, rfl⟩
    rw [H2.out (by omega)]
    rfl

theorem ext_drop (s : ByteArray) (a : Nat) : (s.extract a s.size).data.toList = s.data.toList.drop a := by
  rw [extract_data]
  refine List.take_of_length_le ?_
  simp
theorem ext_size (s : ByteArray) (a : Nat) (h : s.size ≤ 9223372036854775807) : (s.extract a s.size).size ≤ 9223372036854775807 := by
  rw [Lib.size_eq, ext_drop]
  simp
  have : s.data.size ≤ 9223372036854775807 := h
  omega

theorem prefix_one (l : List UInt8) (c : UInt8) : Lib.hasPrefix l [c] = decide (l.head? = some c) := by
  cases l with
  | nil => rfl
  | cons b l =>
    show (c == b && List.isPrefixOf [] l) = decide (some b = some c)
    by_cases h : c = b
    · subst h; simp
    · have h' : ¬ b = c := fun e => h e.symm
      simp [h, h']

/-- What holds of the place where a gap's loop stands: blanks are behind it. -/
def GapAt (l : List UInt8) (k : Nat) : Prop := k ≤ l.length ∧ gapL false l = k + gapL false (l.drop k) ∧ (l.drop k).takeWhile spB = []

theorem gapAt_start (l : List UInt8) : GapAt l (l.takeWhile spB).length := by
  refine ⟨tw_le l, gap_run l, ?_⟩
  have h : l.drop (l.takeWhile spB).length = l.dropWhile spB := by
    have := List.takeWhile_append_dropWhile (p := spB) (l := l)
    conv => lhs; arg 2; rw [← this]
    exact List.drop_left
  rw [h]
  cases hd : l.dropWhile spB with
  | nil => rfl
  | cons c r =>
    have := List.head_dropWhile_not (p := spB) (l := l) (by rw [hd]; simp)
    simp only [hd, List.head_cons] at this
    rw [List.takeWhile_cons, this]
    rfl
theorem gapAt_step {l : List UInt8} {k : Nat} (h : GapAt l k) (hc : (l.drop k).head? = some 37) :
    let m := ((l.drop k).takeWhile (· != 10)).length
    1 ≤ m ∧ GapAt l (k + m + ((l.drop (k + m)).takeWhile spB).length) := by
  obtain ⟨h1, h2, h3⟩ := h
  intro m
  have hm : m = ((l.drop k).takeWhile (· != 10)).length := rfl
  clear_value m
  cases hd : l.drop k with
  | nil => rw [hd] at hc; simp at hc
  | cons c r =>
    rw [hd] at hc hm
    obtain rfl : c = 37 := by simpa using hc
    have hg := gap_rem r
    rw [← hm, ← hd, List.drop_drop] at hg
    have hm1 : 1 ≤ m := by rw [hm, List.takeWhile_cons, if_pos (by decide)]; simp
    have hml : m ≤ (l.drop k).length := by rw [hm, hd]; exact tw_le _
    rw [List.length_drop] at hml
    obtain ⟨g1, g2, g3⟩ := gapAt_start (l.drop (k + m))
    rw [List.drop_drop] at g2 g3
    rw [List.length_drop] at g1
    refine ⟨hm1, by omega, by omega, g3⟩
theorem gapAt_end {l : List UInt8} {k : Nat} (h : GapAt l k) (hc : (l.drop k).head? ≠ some 37) : gapL false l = k := by
  obtain ⟨h1, h2, h3⟩ := h
  rw [h2]
  cases hd : l.drop k with
  | nil => rfl
  | cons c r =>
    rw [hd] at hc h3
    have hs : spB c = false := by
      cases hx : spB c
      · rfl
      · rw [List.takeWhile_cons, hx] at h3; simp at h3
    rw [gap_stop hs (by simpa using hc)]
    rfl
end Go.Lx
