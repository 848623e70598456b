/- What the library's calls read of package-level variables; integers, words. -/
import Derived.Test.YteigdghbipcpgaaDoorLx9
import Derived.Lib.AtoiErrMem
import Derived.Lib.LaidTab
namespace Go.Lx
open Go.Proofs Go.RowKit Go.Lib Go.Ev
set_option maxRecDepth 100000

/-- The listed variables, as the library's calls want them. -/
structure Glb (w : World) : Prop where
  len : ∃ m, w.cell? ⟨0, 0, none⟩ = some (.int .i64 m)
  syn : ∃ tp p, w.var? Tryd.prog "strconv.ErrSyntax" = some #[.iface tp p]
  rng : ∃ tp p, w.var? Tryd.prog "strconv.ErrRange" = some #[.iface tp p]
  tab : Lib.TabIs Tryd.prog w "internal/strconv.uint64pow10" .u64 Lib.pow10Tab

theorem var_kp {w w' : World} (hk : Kp w.heap.size w w') {n : String} {cs : Array Value} (h : w.var? Tryd.prog n = some cs) : w'.var? Tryd.prog n = some cs := by
  unfold World.var? at h ⊢
  cases hg : Tryd.prog.globalNamed n with
  | none => rw [hg] at h; cases h
  | some g =>
    rw [hg] at h
    simp only [Option.bind_some] at h ⊢
    cases hb : w.heap[g]? with
    | none => rw [hb] at h; cases h
    | some o =>
      have hlt : g < w.heap.size := (Array.getElem?_eq_some_iff.1 hb).1
      rw [hk.block g hlt, hb]
      rw [hb] at h
      exact h
theorem Glb.kp {w w' : World} (h : Glb w) (hk : Kp w.heap.size w w') : Glb w' := by
  obtain ⟨⟨m, hm⟩, ⟨t1, p1, h1⟩, ⟨t2, p2, h2⟩, h3⟩ := h
  exact ⟨⟨m, hk.cells hm⟩, ⟨t1, p1, var_kp hk h1⟩, ⟨t2, p2, var_kp hk h2⟩, var_kp hk h3⟩
theorem Glb.alloc {w : World} (h : Glb w) (o : Obj) : Glb (w.alloc o) := h.kp ((Kp.refl _ _).alloc (Nat.le_refl _) _)

theorem kp_then {w a b : World} (h : Kp w.heap.size w a) (k : Kp a.heap.size a b) : Kp w.heap.size w b := h.trans (k.mono h.size)

theorem kp_grow (w : World) (k : Nat) (os : Array Obj) : Kp w.heap.size w (Sort.grow (w.drewN k) os) := by
  refine ⟨rfl, rfl, ?_, fun i hi => ?_⟩
  · show w.heap.size ≤ (w.heap ++ os).size
    simp
  · show (w.heap ++ os)[i]? = _
    exact Array.getElem?_append_left hi

theorem atoi_kp (s : ByteArray) (hs : s.size ≤ 281474976710656) (w : World) (hg : Glb w) (v : Int) (h : atoiAll s.data.toList = .ok v) :
    Calls Tryd.prog 61 #[.string s] w fun e w' => e = .returned (.tuple #[.int .i64 v, .nilIface]) ∧ Kp w.heap.size w w' := by
  refine (Tryd.strconv_Atoi_ok s (by omega) v h w).mono ?_
  rintro e w' ⟨rfl, hw⟩
  refine ⟨rfl, ?_⟩
  rcases hw with rfl | ⟨t, rfl⟩
  · exact Kp.refl _ _
  · exact .of_below (Lib.bytesWorld_below _ _ _)
theorem atoi_not (s : ByteArray) (hs : s.size ≤ 281474976710656) (w : World) (hg : Glb w) (h : ∀ v, atoiAll s.data.toList ≠ .ok v) :
    Calls Tryd.prog 61 #[.string s] w fun e w' => (∃ (z : Int) (N : Nat), e = .returned (.tuple #[.int .i64 z, .iface 86 (.pointer (some ⟨N, 0, none⟩))])) ∧ Kp w.heap.size w w' := by
  cases hv : atoiAll s.data.toList with
  | ok v => exact absurd hv (h v)
  | range =>
    obtain ⟨tp, p, hp⟩ := hg.rng
    refine (Tryd.strconv_Atoi_range_var s hs hv tp p w hp).mono ?_
    rintro e w' ⟨N, rfl, _, _, hb⟩
    exact ⟨⟨_, N, rfl⟩, .of_below hb⟩
  | _ =>
    obtain ⟨tp, p, hp⟩ := hg.syn
    refine (Tryd.strconv_Atoi_syntax_var s hs hv tp p w hp).mono ?_
    rintro e w' ⟨N, rfl, _, _, hb⟩
    exact ⟨⟨_, N, rfl⟩, .of_below hb⟩
theorem itoa_kp (n : Int) (h0 : -9223372036854775808 ≤ n) (h1 : n ≤ 9223372036854775807) (w : World) (hg : Glb w) :
    Calls Tryd.prog 62 #[.int .i64 n] w fun e w' => e = .returned (.string ⟨(Lib.itoa n).toArray⟩) ∧ Kp w.heap.size w w' := by
  refine (Tryd.strconv_Itoa n h0 h1 w hg.tab).mono ?_
  rintro e w' ⟨rfl, k, os, rfl⟩
  exact ⟨rfl, kp_grow w k os⟩

set_option maxHeartbeats 400000 in
theorem isInt_ok (s : ByteArray) (hs : s.size ≤ 281474976710656) (w : World) (hg : Glb w) :
    Calls Tryd.prog 42 #[.string s] w fun e w' => e = .returned (.bool (intB s.data.toList)) ∧ Kp w.heap.size w w' := by
  by_cases hv : ∃ v, atoiAll s.data.toList = .ok v
  · obtain ⟨v, hv⟩ := hv
    have C61 := atoi_kp s hs w hg v hv
    have hb := Lib.atoiAll_bounds hv
    have C62 := fun w hg => itoa_kp v hb.1 hb.2 w hg
    have he : intB s.data.toList = (decide (-1099511627776 ≤ v ∧ v ≤ 1099511627776) && itoa v == s.data.toList) := by
      unfold intB; rw [hv]
    rw [he]
    clear he hv
    have HG := Lib.hid hg
    clear hg
    obtain ⟨hb1, hb2⟩ := hb
    have hx : (⟨(Lib.itoa v).toArray⟩ : ByteArray).toList = itoa v := by rw [toList_data]
    by_cases hr : -1099511627776 ≤ v ∧ v ≤ 1099511627776
    · have hr1 : decide (-1099511627776 ≤ v) = true := by simp; omega
      have hr2 : decide (v ≤ 1099511627776) = true := by simp; omega
      have HX := Lib.hid hx
      clear hx
      rw [show decide (-1099511627776 ≤ v ∧ v ≤ 1099511627776) = true from decide_eq_true hr, Bool.true_and]
      generalize (⟨(Lib.itoa v).toArray⟩ : ByteArray) = t at *
      generalize Lib.itoa v = l at *
      go_enter Tryd.func42, Tryd.ntmps42
      go_wp2_with (first
        | (go_at_call 61; refine C61.mono ?_; rintro e w' ⟨rfl, hk⟩; have HK := Lib.hid hk; have HG1 := Lib.hid (HG.out.kp hk); clear hk)
        | (go_at_call 62; refine (C62 _ HG1.out).mono ?_; rintro e w' ⟨rfl, hk⟩; have HK2 := Lib.hid hk; clear hk))
      go_ret
      refine ⟨?_, kp_then HK.out HK2.out⟩
      rw [← HX.out, ← toList_data s]
      rfl
    · rw [show decide (-1099511627776 ≤ v ∧ v ≤ 1099511627776) = false from decide_eq_false hr, Bool.false_and]
      clear hx
      go_enter Tryd.func42, Tryd.ntmps42
      by_cases hr1 : -1099511627776 ≤ v
      · have hr2 : decide (v ≤ 1099511627776) = false := by simp; omega
        have hr1 : decide (-1099511627776 ≤ v) = true := by simp; omega
        clear hr
        go_wp2_with (go_at_call 61; refine C61.mono ?_; rintro e w' ⟨rfl, hk⟩; have HK := Lib.hid hk; clear hk)
        go_ret
        exact ⟨rfl, HK.out⟩
      · have hr1 : decide (-1099511627776 ≤ v) = false := by simp; omega
        clear hr
        go_wp2_with (go_at_call 61; refine C61.mono ?_; rintro e w' ⟨rfl, hk⟩; have HK := Lib.hid hk; clear hk)
        go_ret
        exact ⟨rfl, HK.out⟩
  · have C61 := atoi_not s hs w hg (fun v h => hv ⟨v, h⟩)
    have he : intB s.data.toList = false := by
      unfold intB
      split
      · rename_i n hn; exact absurd ⟨n, hn⟩ hv
      · rfl
    rw [he]
    clear he hv hg
    go_enter Tryd.func42, Tryd.ntmps42
    go_wp2_with (go_at_call 61; refine C61.mono ?_; rintro e w' ⟨⟨z, N, rfl⟩, hk⟩; have HK := Lib.hid hk; clear hk)
    go_ret
    exact ⟨rfl, HK.out⟩

theorem all_tw {p : UInt8 → Bool} {l : List UInt8} : l.all p = decide ((l.takeWhile p).length = l.length) := by
  induction l with
  | nil => rfl
  | cons c l ih =>
    rw [List.all_cons, List.takeWhile_cons]
    cases h : p c
    · simp
    · simp only [Bool.true_and, if_true, List.length_cons, ih]
      rw [Bool.eq_iff_iff]; simp

set_option maxHeartbeats 400000 in
theorem isWord_ok (s : ByteArray) (hs : s.size ≤ 9223372036854775807) (k : Int) (w : World) :
    Calls Tryd.prog 43 #[.string s, .int .i64 k] w fun e w' => e = .returned (.bool (wdB k s.data.toList)) ∧ Kp w.heap.size w w' := by
  have C39 := fun w => wordRun_ok s hs w
  have hv : wdB k s.data.toList = (decide (1 ≤ s.size ∧ s.size ≤ 16) && decide (headK s.data.toList = k) && decide ((s.data.toList.takeWhile letB).length = s.size)) := by
    unfold wdB
    rw [all_tw, ← Lib.size_eq s]
  rw [hv]
  clear hv
  by_cases h1 : 1 ≤ s.size
  · have h0 : 0 < s.size := h1
    have C37 := fun w => kindOf_ok (s[0].toNat : Int) w
    have hh : headK s.data.toList = kindI (s[0].toNat : Int) := by
      rw [head_cons h0]; rfl
    rw [hh]
    clear hh
    have hx1 : decide (1 ≤ (s.size : Int)) = true := by simp; omega
    by_cases h2 : s.size ≤ 16
    · have hx2 : decide ((s.size : Int) ≤ 16) = true := by simp; omega
      rw [show decide (1 ≤ s.size ∧ s.size ≤ 16) = true from decide_eq_true ⟨h1, h2⟩]
      generalize kindI (s[0].toNat : Int) = q at *
      by_cases h3 : q = k
      · have h3' : (q == k) = true := by simpa using h3
        rw [show decide (q = k) = true from decide_eq_true h3]
        generalize (s.data.toList.takeWhile letB).length = n at *
        have hn : ((n : Int) == (s.size : Int)) = decide (n = s.size) := by rw [Bool.eq_iff_iff]; simp; omega
        have HN := Lib.hid hn
        clear hn h3
        go_enter Tryd.func43, Tryd.ntmps43
        go_wp2_with (first
          | (go_at_call 37; refine (C37 _).mono ?_; rintro e w' ⟨rfl, rfl⟩)
          | (go_at_call 39; refine (C39 _).mono ?_; rintro e w' ⟨rfl, hk⟩; have HK := Lib.hid hk; clear hk))
        go_ret
        refine ⟨?_, HK.out⟩
        rw [Bool.true_and, Bool.true_and, ← HN.out]
        rfl
      · have h3' : (q == k) = false := by simpa using h3
        rw [show decide (q = k) = false from decide_eq_false h3, Bool.and_false, Bool.false_and]
        clear h3
        go_enter Tryd.func43, Tryd.ntmps43
        go_wp2_with (first
          | (go_at_call 37; refine (C37 _).mono ?_; rintro e w' ⟨rfl, rfl⟩))
        go_ret
        exact ⟨rfl, Kp.refl _ _⟩
    · have hx2 : decide ((s.size : Int) ≤ 16) = false := by simp; omega
      rw [show decide (1 ≤ s.size ∧ s.size ≤ 16) = false from decide_eq_false (fun h => h2 h.2), Bool.false_and, Bool.false_and]
      go_enter Tryd.func43, Tryd.ntmps43
      go_wp2_with fail
      go_ret
      exact ⟨rfl, Kp.refl _ _⟩
  · have hx1 : decide (1 ≤ (s.size : Int)) = false := by simp; omega
    rw [show decide (1 ≤ s.size ∧ s.size ≤ 16) = false from decide_eq_false (fun h => h1 h.1), Bool.false_and, Bool.false_and]
    go_enter Tryd.func43, Tryd.ntmps43
    go_wp2_with fail
    go_ret
    exact ⟨rfl, Kp.refl _ _⟩
end Go.Lx
