/- The document's own answers: Scan. -/
import Derived.Test.YteigdghbipcpgaaDoorLx19
namespace Go.Lx
open Go.Proofs Go.RowKit Go.Lib Go.Ev
set_option maxRecDepth 100000

set_option maxHeartbeats 4000000 in
theorem rscan_ok (s : ByteArray) (hs : s.size ≤ 140737488355328) (w : World) :
    Calls Tryd.prog 16 #[.string s] w (Scanned (scanL s.data.toList) w) := by
  have HLEN := Lib.hid (Lib.size_eq s).symm
  obtain ⟨i35, hi0, hz0, hz1, hz2⟩ := info_parts Tryd.info35
  by_cases hlong : 4000 < s.size
  · have hR : scanL s.data.toList = .long := by unfold scanL; rw [HLEN.out, if_pos hlong]
    rw [hR]
    clear hR hi0 hz0 hz1 hz2
    have hx : decide (4000 < (s.size : Int)) = true := by simp; omega
    go_enter Tryd.func16, Tryd.ntmps16
    go_wp2_with fail
    go_ret3
    exact ⟨Kp.refl _ _, rfl⟩
  · have hR : scanL s.data.toList = scanF s.size (s.data.toList.drop (gapL false s.data.toList)) (gapL false s.data.toList) [] := by unfold scanL; rw [HLEN.out, if_neg hlong]
    generalize scanL s.data.toList = R at *
    have hgle := gap_le false s.data.toList
    rw [HLEN.out] at hgle
    have C27 := fun w => between_ok s (by omega) 0 (by omega) w
    rw [List.drop_zero, Nat.zero_add] at C27
    generalize gapL false s.data.toList = g0 at *
    have HR := Lib.hid hR
    have hx : decide (4000 < (s.size : Int)) = false := by simp; omega
    have HZ := Lib.hid (And.intro hi0 (And.intro hz0 (And.intro hz1 hz2)))
    have hsm : s.size ≤ 4000 := by omega
    clear hR hlong hi0 hz0 hz1 hz2
    go_enter Tryd.func16, Tryd.ntmps16
    go_wp2_with (go_at_call 27; refine (C27 _).mono ?_; rintro e w0 ⟨rfl, rfl⟩)
    rename World => w
    go_loopg [5, 6] s.size (fun gk v5 v6 wr => ∃ (ts : List Tok) (k f : Nat), v6 = .int .i64 k ∧ k ≤ s.size ∧ s.size - k ≤ gk ∧ s.size - k ≤ f ∧ ts.length ≤ 1200 ∧ Own w.heap.size 3 wr v5 ts.length (toksCells ts) ∧ Kp w.heap.size w wr ∧ scanF f (s.data.toList.drop k) k ts = R)
    case atStart => exact ⟨[], g0, s.size, rfl, hgle, by omega, by omega, by simp, ⟨rfl, .inl ⟨rfl, rfl⟩⟩, Kp.refl _ _, HR.out.symm⟩
    case round =>
      obtain ⟨ts, k, f, rfl, hk, hgk, hf, htl, how, hkp, hsc⟩ := hrel
      have HOW := Lib.hid how
      have HKP := Lib.hid hkp
      have HSC := Lib.hid hsc
      obtain ⟨sa, sc, rfl, hsa⟩ := own_slice how
      clear how hkp hsc hsa
      by_cases hlt : k < s.size
      · have hdl : s.data.toList.drop k ≠ [] := by
          intro h
          have := List.drop_eq_nil_iff.1 h
          rw [HLEN.out] at this
          omega
        have C28 := fun w => token_ok s (by omega) k hlt w
        rw [refTok_eq _ hdl] at C28
        have hnb := next_bounds hdl
        rw [List.length_drop, HLEN.out] at hnb
        have HDL := Lib.hid hdl
        have HNB := Lib.hid hnb
        clear hdl hnb
        obtain ⟨T, hT⟩ : ∃ T, (nextL (s.data.toList.drop k)).1 = T := ⟨_, rfl⟩
        obtain ⟨n, hn⟩ : ∃ n, (nextL (s.data.toList.drop k)).2 = n := ⟨_, rfl⟩
        have hTn : nextL (s.data.toList.drop k) = (T, n) := by rw [← hT, ← hn]
        rw [hTn] at C28
        have HT := Lib.hid hT
        have HN := Lib.hid hn
        clear hT hn hTn
        obtain ⟨tk, tt, tp⟩ := T
        obtain ⟨f, rfl⟩ : ∃ f', f = f' + 1 := ⟨f - 1, by omega⟩
        simp only [] at C28
        cases hib : isTok ⟨tk, tt, tp⟩
        · have hv : R = .form k := by
            rw [← HSC.out, scanF_form HDL.out (by rw [HT.out]; exact hib)]
          rw [hib] at C28
          simp only [Bool.false_eq_true, if_false, TokAns] at C28
          have HV := Lib.hid hv
          clear hib hv
          go_wp2_with (go_at_call 28; refine (C28 _).mono ?_; rintro e w1 ⟨⟨x, y, z, p, rfl⟩, hk1⟩; have HK1 := Lib.hid hk1; clear hk1)
          go_ret3
          refine ⟨(kp_then HKP.out HK1.out).trans (((Kp.refl _ _).alloc (by have := HKP.out.size; have := HK1.out.size; omega) _)), ?_⟩
          rw [HV.out]
          rfl
        rw [hib] at C28
        simp only [if_true, TokAns, tokV] at C28
        have HIB := Lib.hid hib
        clear hib
        by_cases h12 : ts.length = 1200
        · have hv : R = .long := by
            rw [← HSC.out, scanF_long HDL.out (by rw [HT.out]; exact HIB.out) h12]
          have hx2 : decide (1200 ≤ (ts.length : Int)) = true := by simp [h12]
          have HV := Lib.hid hv
          clear hv h12
          go_wp2_with (go_at_call 28; refine (C28 _).mono ?_; rintro e w1 ⟨rfl, hk1⟩; have HK1 := Lib.hid hk1; clear hk1)
          go_ret3
          refine ⟨(kp_then HKP.out HK1.out).trans (((Kp.refl _ _).alloc (by have := HKP.out.size; have := HK1.out.size; omega) _)), ?_⟩
          rw [HV.out]
          rfl
        · have hx2 : decide (1200 ≤ (ts.length : Int)) = false := by simp; omega
          have hv := HSC.out
          rw [scanF_step HDL.out (by rw [HT.out]; exact HIB.out) h12, HT.out, HN.out, List.drop_drop, List.drop_drop] at hv
          have hnb := HNB.out
          rw [HT.out, HN.out] at hnb
          have hn1 := hnb.2 HIB.out
          have hn2 := hnb.1
          clear hnb
          have hq := gap_le false (s.data.toList.drop (k + n))
          rw [List.length_drop, HLEN.out] at hq
          have C27' := fun w => between_ok s (by omega) (k + n) (by omega) w
          generalize gapL false (s.data.toList.drop (k + n)) = q at *
          have HV := Lib.hid hv
          have htl2 : ts.length < 1200 := by omega
          clear hv h12
          obtain ⟨m, hm⟩ : ∃ m, k + n = m := ⟨_, rfl⟩
          rw [hm] at C27' C28
          have HM := Lib.hid hm
          clear hm
          go_wp2_with (first
            | (go_at_call 28; refine (C28 _).mono ?_; rintro e w1 ⟨rfl, hk1⟩; have HK1 := Lib.hid hk1; have hz1 := Lib.hid hk1.size; clear hk1; have HAL := Lib.hid (show Kp wr.heap.size wr ((w1.alloc (.cells #[.int .i64 tk, .string ⟨tt.toArray⟩, .int .i64 k] 35)).alloc (.cells #[.int .i64 tk, .string ⟨tt.toArray⟩, .int .i64 k] 35)) from (HK1.out.alloc hz1.out _).alloc (by have := hz1.out; simp; omega) _); have hnw := news_alloc (w1.alloc (.cells #[.int .i64 tk, .string ⟨tt.toArray⟩, .int .i64 k] 35)) [.int .i64 tk, .string ⟨tt.toArray⟩, .int .i64 k] 35; rw [show (w1.alloc (.cells #[.int .i64 tk, .string ⟨tt.toArray⟩, .int .i64 k] 35)).heap.size = w1.heap.size + 1 by simp] at hnw; have HNW := Lib.hid hnw; clear hnw)
            | (at_builtin; obtain ⟨hi0, hz0, hz1', hz2⟩ := HZ.out; refine wpList_append_mine rfl (.tmp 32) (.tmp 34) 24 rfl w.heap.size 35 i35 (.agg #[.int .i64 0, .string ⟨#[]⟩, .int .i64 0]) 3 32 Tryd.underlying24 hi0 hz0 hz1' hz2 rfl (by decide) (.slice sa ts.length sc) ts.length (toksCells ts) rfl (HOW.out.kp HAL.out) ⟨w1.heap.size + 1, 0, none⟩ 1 1 [.int .i64 tk, .string ⟨tt.toArray⟩, .int .i64 k] rfl rfl HNW.out (by simp [Value.oneCell']) (by unfold maxLen; omega) (by omega) (by have := HKP.out.size; have := HAL.out.size; omega) ?_; clear hi0 hz0 hz1' hz2; intro v' w8 hown8 hgr8 hblk8; have H8 := Lib.hid hown8; have K8 := Lib.hid (Kp.of_grown_mine (kp_then HKP.out HAL.out) (HOW.out.kp HAL.out) hgr8 (by have := HKP.out.size; have := HAL.out.size; omega)); clear hown8 hgr8 hblk8)
            | (go_at_call 27; refine (C27' _).mono ?_; rintro e w9 ⟨rfl, rfl⟩))
          rename World => w8
          have H9 := Lib.hid (show Own w.heap.size 3 w8 v' (ts ++ [(⟨tk, tt, (k : Int)⟩ : Tok)]).length (toksCells (ts ++ [(⟨tk, tt, (k : Int)⟩ : Tok)])) by
            rw [toksCells_snoc, List.length_append]
            exact H8.out)
          have hm := HM.out
          have V9 := Lib.hid (show scanF f (s.data.toList.drop (m + q)) (m + q) (ts ++ [(⟨tk, tt, (k : Int)⟩ : Tok)]) = R by
            have := HV.out
            rwa [show k + (n + q) = m + q by omega] at this)
          go_roundg (s.size - (m + q))
          case measure => omega
          case rel => exact ⟨ts ++ [(⟨tk, tt, (k : Int)⟩ : Tok)], m + q, f, by go_num, by omega, Nat.le_refl _, by omega, by simp; omega, H9.out, K8.out, V9.out⟩
      · have hkk : k = s.size := by omega
        have hv : R = .ok ts := by
          rw [← HSC.out, List.drop_of_length_le (by rw [HLEN.out]; omega), scanF_nil]
        have HV := Lib.hid hv
        clear hv hkk
        go_wp2_with fail
        go_ret3
        refine ⟨HKP.out, ?_⟩
        rw [HV.out]
        exact ⟨_, rfl, HOW.out⟩
end Go.Lx
