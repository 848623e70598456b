import Derived.Test.YtbjcopckkgdmgaaGreatDoorN13
import Derived.Test.YtbjcopckkgdmgaaGreatDoorN13
import Derived.Test.YtbjcopckkgdmgaaGreatDoorN13
import Derived.Test.YtbjcopckkgdmgaaGreatDoorLa1
import Derived.Test.YtbjcopckkgdmgaaGreatDoorLn1
import Derived.Test.YtbjcopckkgdmgaaGreatDoorCq1
import Derived.Test.YtbjcopckkgdmgaaGreatDoorRe1
import Derived.Deep.RegionWith
/- TreeMinimal: the law. -/
namespace Go.Ev
open Go.Proofs Go.RowKit Go.Lib
set_option maxRecDepth 100000

set_option maxHeartbeats 2000000 in
/-- A tree at another root. -/
theorem at_ok (v : Value) (z r : Int) (hv : ∃ a n c, v = .slice a n c) (W : World) : Calls Tryz.prog 39 #[.agg #[v, .int .i64 z], .int .i64 r] W fun e w' => e = .returned (.agg #[v, .int .i64 r]) ∧ Kp W.heap.size W w' := by
  obtain ⟨a, n, c, rfl⟩ := hv
  go_enter Tryz.func39, Tryz.ntmps39
  go_wp2_with fail
  refine bodyPost_ret (v := .agg #[.slice a n c, .int .i64 r]) ?_ rfl ⟨rfl, ?_⟩
  · simp [results, Tryz.results39, go_sem]
  · exact ((Kp.refl _ _).alloc (Nat.le_refl _) _).alloc (by simp) _

set_option maxHeartbeats 4000000 in
theorem treeMinimal_bad (va : Value) (A : List Nd) (za : Int) (W : World) (ha : NodesV W va A) (hva : validB A za = false) :
    Calls Tryz.prog 9 #[.agg #[va, .int .i64 za]] W fun e w' => e = .returned (.bool true) ∧ Kp W.heap.size W w' := by
  have GA := fun w (h : L1 W va za w) => great_ok va A za w (ha.kp h.kp)
  have TB := fun w (h : L1 W va za w) => tleast_bad va A za w (ha.kp h.kp) hva
  have RV := fun w (h : L1 W va za w) => rvalid_ok va A za w (ha.kp h.kp)
  rw [hva] at RV
  have s0 : L1 W va za (W.alloc (Obj.cells #[va, Value.int IntKind.i64 za] 24)) := ⟨by go_simp, by go_simp, (Kp.refl _ _).alloc (Nat.le_refl _) _⟩
  obtain ⟨W2, hW2⟩ : ∃ W2, W2 = W.alloc (Obj.cells #[va, Value.int IntKind.i64 za] 24) := ⟨_, rfl⟩
  rw [← hW2] at s0
  clear ha hva
  generalize decide (60 < (A.length : Int)) = ga at GA
  go_enter Tryz.func9, Tryz.ntmps9
  go_wp2_with fail
  rw [← hW2]
  clear hW2
  refine (GA _ s0).mono ?_
  rintro e w1 ⟨rfl, k1⟩
  have S1 := Lib.hid (s0.step k1)
  obtain ⟨a0, a1, -⟩ := s0.step k1
  clear s0 k1 GA
  cases ga
  · go_wp2_with fail
    refine (TB _ S1.out).mono ?_
    rintro e w2 ⟨rfl, k2⟩
    have S2 := Lib.hid (S1.out.step k2)
    obtain ⟨a0, a1, -⟩ := S1.out.step k2
    have ka := (Kp.refl w2.heap.size w2).alloc (Nat.le_refl _) (Obj.cells #[Value.slice none 0 0, Value.int IntKind.i64 0] 24)
    have S3 := Lib.hid (S2.out.step ka)
    have hal : w2.heap.size < (w2.alloc (Obj.cells #[Value.slice none 0 0, Value.int IntKind.i64 0] 24)).heap.size := by simp
    have x0 : (w2.alloc (Obj.cells #[Value.slice none 0 0, Value.int IntKind.i64 0] 24)).cell? ⟨w2.heap.size, 0, none⟩ = some (.slice none 0 0) := by go_simp
    have X0 := Lib.hid x0
    have A0 := Lib.hid a0
    have hlt : W.heap.size < w2.heap.size := block_lt_of_cell a0
    clear k2 TB ka x0
    go_wp2_with fail
    refine (RV _ S3.out).mono ?_
    rintro e w4 ⟨rfl, k4⟩
    have S4 := Lib.hid (S3.out.step k4)
    have x4 := k4.cells X0.out
    clear k4 RV
    go_wp2_with fail
    go_wp2_with (go_at_call 19; refine (alive_kp _).mono ?_; rintro e w7 ⟨rfl, k7⟩; have S7 := Lib.hid (S4.out.step k7); clear k7)
    go_ret
    exact ⟨rfl, S7.out.kp⟩
  · go_wp2_with (go_at_call 19; refine (alive_kp _).mono ?_; rintro e w7 ⟨rfl, k7⟩; have S7 := Lib.hid (S1.out.step k7); clear k7)
    go_ret
    exact ⟨rfl, S7.out.kp⟩

set_option maxHeartbeats 16000000 in
theorem treeMinimal_ok (va : Value) (A : List Nd) (za : Int) (W : World) (ha : NodesV W va A) (hva : validB A za = true) (hfit : ∀ n ∈ A, FitN n) :
    Calls Tryz.prog 9 #[.agg #[va, .int .i64 za]] W fun e w' => e = .returned (.bool true) ∧ Kp W.heap.size W w' := by
  obtain ⟨ra, rfl, hra, hA8, hA⟩ := valid_nodes hva
  obtain ⟨ab, ao, ac, rfl⟩ := ha.shape (by omega)
  have GA := fun w (h : L1 W (.slice (some ⟨ab, ao, none⟩) A.length ac) ra w) => great_ok _ A ra w (ha.kp h.kp)
  have TL := fun w (h : L1 W (.slice (some ⟨ab, ao, none⟩) A.length ac) ra w) => tleast_ok _ A ra w (ha.kp h.kp) hva hfit
  have s0 : L1 W (.slice (some ⟨ab, ao, none⟩) A.length ac) ra (W.alloc (Obj.cells #[.slice (some ⟨ab, ao, none⟩) A.length ac, Value.int IntKind.i64 ra] 24)) := ⟨by go_simp, by go_simp, (Kp.refl _ _).alloc (Nat.le_refl _) _⟩
  obtain ⟨W2, hW2⟩ : ∃ W2, W2 = W.alloc (Obj.cells #[.slice (some ⟨ab, ao, none⟩) A.length ac, Value.int IntKind.i64 ra] 24) := ⟨_, rfl⟩
  rw [← hW2] at s0
  have HA := Lib.hid ha
  have HVA := Lib.hid hva
  have HFT := Lib.hid hfit
  have HTL := Lib.hid TL
  clear ha hva hfit TL hA
  generalize decide (60 < (A.length : Int)) = ga at GA
  go_enter Tryz.func9, Tryz.ntmps9
  go_wp2_with fail
  rw [← hW2]
  clear hW2
  refine (GA _ s0).mono ?_
  rintro e w1 ⟨rfl, k1⟩
  have S1 := Lib.hid (s0.step k1)
  obtain ⟨a0, a1, -⟩ := s0.step k1
  clear s0 k1 GA
  cases ga
  · go_wp2_with fail
    refine (HTL.out _ S1.out).mono ?_
    rintro e w2 ⟨L, v, us, rfl, hon, hcan, hbis, hle, k2⟩
    have hL0 := hcan.some
    have hnod := hon.nodes
    obtain ⟨xb, xo, xc, rfl⟩ := hnod.shape hL0
    obtain ⟨n, hn⟩ : ∃ n, n = L.length := ⟨_, rfl⟩
    have S2 := Lib.hid (S1.out.step k2)
    obtain ⟨a0, a1, -⟩ := S1.out.step k2
    obtain ⟨w3, hw3⟩ : ∃ w3, w3 = w2.alloc (Obj.cells #[.slice (some ⟨xb, xo, none⟩) L.length xc, Value.int IntKind.i64 0] 24) := ⟨_, rfl⟩
    have k23 : Kp w2.heap.size w2 w3 := by rw [hw3]; exact (Kp.refl _ _).alloc (Nat.le_refl _) _
    have S3 := Lib.hid (S2.out.step k23)
    have hlt : W.heap.size < w2.heap.size := block_lt_of_cell a0
    have x0 : w3.cell? ⟨w2.heap.size, 0, none⟩ = some (.slice (some ⟨xb, xo, none⟩) L.length xc) := by rw [hw3]; go_simp
    have x1 : w3.cell? ⟨w2.heap.size, 1, none⟩ = some (.int .i64 0) := by rw [hw3]; go_simp
    have hvL := fun (x : Nat) (hx : x < L.length) => least_valid hcan (by simpa using hbis) HVA.out hle x hx
    have hfL := least_fit hcan (by simpa using hbis) HFT.out
    have SA := same_ok _ _ A L ra 0 w3 (HA.out.kp S3.out.kp) (hnod.kp k23) HVA.out (by simpa using hvL 0 hL0)
    have HN := Lib.hid (hnod.kp k23)
    have HCN := Lib.hid hcan
    have HBS := Lib.hid hbis
    have HVL := Lib.hid hvL
    have HFL := Lib.hid hfL
    obtain ⟨X, hX⟩ : ∃ X, X = w2.heap.size := ⟨_, rfl⟩
    rw [← hX] at x0 x1
    have X0 := Lib.hid x0
    have X1 := Lib.hid x1
    have HX := Lib.hid hX
    have hhle := hle
    have HW3 := Lib.hid hw3
    clear x0 x1 hw3 hon hcan hbis hnod k2 k23 hvL hfL hX hle hn
    go_wp2_with fail
    rw [← HW3.out, ← HX.out]
    refine SA.mono ?_
    rintro e w4 ⟨c, rfl, hc, k4⟩
    obtain rfl : c = 0 := (cmp_zero hc).2 (by simpa using HBS.out.symm)
    have S4 := Lib.hid (S3.out.step k4)
    obtain ⟨d0, d1, -⟩ := S3.out.step k4
    have y0 := k4.cells X0.out
    have y1 := k4.cells X1.out
    have HN4 := Lib.hid (HN.out.kp k4)
    have TX := tleast_ok _ L 0 w4 HN4.out (by simpa using HVL.out 0 hL0) HFL.out
    clear hc SA k4 a0 a1 hlt
    have HTX := Lib.hid TX
    clear TX
    go_wp2_with fail
    refine HTX.out.mono ?_
    rintro e w5 ⟨L', v', us', rfl, hon', hcan', hbis', -, k5⟩
    have hLL : L' = L := Canon.unique hcan' HCN.out (by simpa using hbis')
    rw [hLL] at hon'
    clear hcan' hbis' hLL
    obtain ⟨yb, yo, yc, rfl⟩ := hon'.nodes.shape hL0
    have S5 := Lib.hid (S4.out.step k5)
    obtain ⟨d0, d1, -⟩ := S4.out.step k5
    have hlt : W.heap.size < w5.heap.size := block_lt_of_cell d0
    have y0 := k5.cells y0
    have y1 := k5.cells y1
    have hltX : X < w5.heap.size := block_lt_of_cell y0
    obtain ⟨w6, hw6⟩ : ∃ w6, w6 = w5.alloc (Obj.cells #[.slice (some ⟨yb, yo, none⟩) L.length yc, Value.int IntKind.i64 0] 24) := ⟨_, rfl⟩
    have k56 : Kp w5.heap.size w5 w6 := by rw [hw6]; exact (Kp.refl _ _).alloc (Nat.le_refl _) _
    have S6 := Lib.hid (S5.out.step k56)
    have HN6 := HN4.out.kp k5 |>.kp k56
    have HM6 := hon'.nodes.kp k56
    have EQ := rEqual_ok L L 0 0 w6 xb xo xc yb yo yc HCN.out.closed (by omega) (by omega) HN6 HM6
    have X6 := Lib.hid (And.intro (k56.cells y0) (k56.cells y1))
    have HW6 := Lib.hid hw6
    have HNX := Lib.hid HN6
    have HEQ := Lib.hid EQ
    clear hw6 HN6 HM6 EQ hon' k5 k56
    go_wp2_with fail
    rw [← HW6.out]
    refine HEQ.out.mono ?_
    rintro e w7 ⟨r, rfl, hr, k7⟩
    obtain rfl : r = true := hr.2 ⟨rfl, rfl⟩
    have S7 := Lib.hid (S6.out.step k7)
    obtain ⟨t0, t1, -⟩ := S6.out.step k7
    have x0 := k7.cells X6.out.1
    have x1 := k7.cells X6.out.2
    have HN7 := HNX.out.kp k7
    have RE := reached_ok L 0 w7 xb xo xc HCN.out.closed hL0 (by omega) HN7
    have HN7' := Lib.hid HN7
    have HRE := Lib.hid RE
    clear hr k7 HN7 RE d0 d1 y0 y1 hlt hltX
    go_wp2_with fail
    refine HRE.out.mono ?_
    rintro e w8 ⟨ob, oo, oc, rfl, hseg, k8⟩
    have hro := HCN.out.order
    rw [hro, List.length_range] at hseg
    rw [hro, List.length_range]
    have S8 := Lib.hid (S7.out.step k8)
    have x0 := k8.cells x0
    have x1 := k8.cells x1
    have HN8 := Lib.hid (HN7'.out.kp k8)
    have HSEG := Lib.hid hseg
    have X8 := Lib.hid (And.intro x0 x1)
    clear hseg hro k8
    go_wp2_with fail
    have hL8 : L.length ≤ 8000 := by omega
    have HKEEP := Lib.hid (show ∀ w, Kp w8.heap.size w8 w → w.cell? ⟨X, 0, none⟩ = some (.slice (some ⟨xb, xo, none⟩) L.length xc) ∧ w.cell? ⟨X, 1, none⟩ = some (.int .i64 0) ∧ NodesV w (.slice (some ⟨xb, xo, none⟩) L.length xc) L from fun w hk => ⟨hk.cells X8.out.1, hk.cells X8.out.2, HN8.out.kp hk⟩)
    clear a0 a1 t0 t1 x0 x1
    clear x0 x1
    go_loopw [10, 11, 12, 13] (fun v10 _ _ _ wr => ∃ i : Nat, i ≤ L.length ∧ v10 = .int .i64 (i : Int) ∧ Kp w8.heap.size w8 wr) (fun v10 _ _ _ _ => L.length - (RowKit.intOf v10).toNat)
    case atStart => exact ⟨0, Nat.zero_le _, rfl, Kp.refl _ _⟩
    case round =>
      obtain ⟨i, hi, rfl, hkr⟩ := hrel
      by_cases hil : i < L.length
      · have hcell := hkr.cells (HSEG.out.cell (j := i) (u := .int .i64 (i : Int)) (by unfold intsV; rw [List.getElem?_map, List.getElem?_range hil]; rfl))
        have hfit := HSEG.out.fit
        obtain ⟨wo, rfl⟩ : ∃ wo : World, wo = wr := ⟨_, rfl⟩
        have HKR := Lib.hid hkr
        clear hkr
        go_wp2_with fail
        go_loopw [11, 12, 13] (fun v11 _ _ wr => ∃ k : Nat, k ≤ i ∧ v11 = .int .i64 (k : Int) ∧ Kp w8.heap.size w8 wr) (fun v11 _ _ _ => i - (RowKit.intOf v11).toNat)
        case atStart => exact ⟨0, Nat.zero_le _, rfl, HKR.out⟩
        case round =>
          obtain ⟨k, hk, rfl, hkr⟩ := hrel
          by_cases hki : k < i
          · have KC := Lib.hid hkr.drew
            obtain ⟨z0, z1, -⟩ := HKEEP.out _ hkr.drew
            have HVI := Lib.hid (HVL.out i hil)
            have HVK := Lib.hid (HVL.out k (by omega))
            have hkl : k < L.length := by omega
            have HNB := Lib.hid (show ¬ Bis L i L k from fun hb => by have := HCN.out.apart i k hil hkl hb; omega)
            clear hkr
            go_wp2_with fail
            go_region_with (first
              | (go_at_call 39; refine (at_ok _ _ _ ⟨_, _, _, rfl⟩ _).mono ?_; rintro e w9 ⟨rfl, k9⟩; have KC := Lib.hid (KC.out.trans (k9.mono KC.out.size)); obtain ⟨z0, z1, -⟩ := HKEEP.out _ KC.out; clear k9)
              | (go_at_call 28; go_loud (refine (same_ok _ _ L L i k _ (HKEEP.out _ KC.out).2.2 (HKEEP.out _ KC.out).2.2 HVI.out HVK.out).mono ?_); rintro e w10 ⟨c, rfl, hc, k10⟩; have hcz : (c == 0) = false := (by
                  rw [beq_eq_false_iff_ne]; intro h; exact HNB.out (by simpa using (cmp_zero hc).1 h)); rw [hcz]; have KC := Lib.hid (KC.out.trans (k10.mono KC.out.size)); clear hc hcz k10))
            all_goals
              go_wp2_with fail
              go_roundw
              case rel => exact ⟨k + 1, by omega, by go_num, KC.out⟩
              case measure => simp [RowKit.intOf]; omega
          · obtain rfl : k = i := by omega
            have KC := Lib.hid hkr
            clear hkr
            go_wp2_with fail
            go_roundw
            case rel => exact ⟨k + 1, by omega, by go_num, KC.out⟩
            case measure => simp [RowKit.intOf]; omega
      · obtain rfl : i = L.length := by omega
        have HS := Lib.hid (S8.out.step hkr)
        clear hkr
        go_wp2_with (go_at_call 19; refine (alive_kp _).mono ?_; rintro e w9 ⟨rfl, k9⟩; have S9 := Lib.hid (HS.out.step k9); clear k9)
        go_ret
        exact ⟨rfl, S9.out.kp⟩
  · go_wp2_with (go_at_call 19; refine (alive_kp _).mono ?_; rintro e w7 ⟨rfl, k7⟩; have S7 := Lib.hid (S1.out.step k7); clear k7)
    go_ret
    exact ⟨rfl, S7.out.kp⟩

theorem treeMinimal_true (va : Value) (A : List Nd) (za : Int) (W : World) (ha : NodesV W va A) (hfit : ∀ n ∈ A, FitN n) :
    Calls Tryz.prog 9 #[.agg #[va, .int .i64 za]] W fun e w' => e = .returned (.bool true) ∧ Kp W.heap.size W w' := by
  cases hv : validB A za with
  | false => exact treeMinimal_bad va A za W ha hv
  | true => exact treeMinimal_ok va A za W ha hv hfit
end Go.Ev
