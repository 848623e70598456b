/- Tokens in memory; Scan. -/
import Derived.Test.YteigdghbipcpgaaDoorLx11
import Derived.StillTailTactics
import Derived.Laws.DeepStrings4
namespace Go.Lx
open Go.Proofs Go.RowKit Go.Lib Go.Ev
set_option maxRecDepth 100000

def tokCells (t : Tok) : List Value := [.int .i64 t.kind, .string ⟨t.text.toArray⟩, .int .i64 t.pos]
def toksCells (ts : List Tok) : List Value := ts.flatMap tokCells
theorem toksCells_snoc (ts : List Tok) (t : Tok) : toksCells (ts ++ [t]) = toksCells ts ++ tokCells t := by simp [toksCells]

theorem scanF_nil (f : Nat) (pos : Nat) (out : List Tok) : scanF f [] pos out = .ok out := by cases f <;> rfl
theorem scanF_form {f : Nat} {l : List UInt8} {pos : Nat} {out : List Tok} (hl : l ≠ []) (h : isTok (nextL l).1 = false) : scanF (f + 1) l pos out = .form pos := by
  unfold scanF; rw [if_neg hl, if_pos h]
theorem scanF_long {f : Nat} {l : List UInt8} {pos : Nat} {out : List Tok} (hl : l ≠ []) (h : isTok (nextL l).1 = true) (ho : out.length = 1200) : scanF (f + 1) l pos out = .long := by
  unfold scanF; rw [if_neg hl, if_neg (by rw [h]; simp), if_pos ho]
theorem scanF_step {f : Nat} {l : List UInt8} {pos : Nat} {out : List Tok} (hl : l ≠ []) (h : isTok (nextL l).1 = true) (ho : out.length ≠ 1200) :
    scanF (f + 1) l pos out = scanF f (l.drop ((nextL l).2 + gapL false (l.drop (nextL l).2))) (pos + ((nextL l).2 + gapL false (l.drop (nextL l).2))) (out ++ [{ (nextL l).1 with pos := pos }]) := by
  conv => lhs; unfold scanF
  rw [if_neg hl, if_neg (by rw [h]; simp), if_neg ho]

theorem next_text (l : List UInt8) : (nextL l).1.text.length ≤ l.length := by
  cases l with
  | nil => simp [nextL]
  | cons c r =>
    by_cases h2 : kindI c.toNat = 2
    · rw [next_dig h2]; exact tw_le _
    by_cases h6 : kindI c.toNat = 6
    · rw [next_tilde h6]
      have := tw_le (p := digB) r
      simp only [List.length_cons]; omega
    by_cases h3 : kindI c.toNat = 3
    · rw [next_small h3]; exact tw_le _
    by_cases h4 : kindI c.toNat = 4
    · rw [next_cap h4]; exact tw_le _
    by_cases h7 : kindI c.toNat = 7
    · by_cases hm : 39 ∈ r
      · rw [next_quote h7 hm]
        have := tw_le (p := (· != 39)) r
        simp only [List.length_cons]; omega
      · rw [next_open h7 hm]; simp
    · rw [next_sym h2 h6 h3 h4 h7]
      simp only [List.length_take]; omega

/-- What a scan hands back. -/
def Scanned (R : Res) (w : World) (e : Ending) (w' : World) : Prop :=
  Kp w.heap.size w w' ∧ match R with
  | .ok ts => ∃ v, e = .returned (.tuple #[v, .int .i64 0, .int .i64 0]) ∧ Own w.heap.size 3 w' v ts.length (toksCells ts)
  | .form k => e = .returned (.tuple #[.slice none 0 0, .int .i64 k, .int .i64 2])
  | .long => e = .returned (.tuple #[.slice none 0 0, .int .i64 0, .int .i64 3])

theorem Tryd.info35 : (Tryd.prog.info? 35).map (fun i => (i.zero, i.size, i.bytes)) = some (some (.agg #[.int .i64 0, .string ⟨#[]⟩, .int .i64 0]), 3, 32) := by kernel_rfl

set_option maxHeartbeats 4000000 in
theorem scan_ok (s : ByteArray) (hs : s.size ≤ 140737488355328) (w : World) (hg : Glb w) :
    Calls Tryd.prog 15 #[.string s] w (Scanned (scanL s.data.toList) w) := by
  have HG := Lib.hid hg
  clear hg
  have HLEN := Lib.hid (Lib.size_eq s).symm
  obtain ⟨i35, hi0, hz0, hz1, hz2⟩ := info_parts Tryd.info35
  by_cases hlong : 4000 < s.size
  · have hR : scanL s.data.toList = .long := by unfold scanL; rw [HLEN.out, if_pos hlong]
    rw [hR]
    clear hR hi0 hz0 hz1 hz2
    have hx : decide (4000 < (s.size : Int)) = true := by simp; omega
    go_enter Tryd.func15, Tryd.ntmps15
    go_wp2_with fail
    go_ret3
    exact ⟨Kp.refl _ _, rfl⟩
  · have hR : scanL s.data.toList = scanF s.size (s.data.toList.drop (gapL false s.data.toList)) (gapL false s.data.toList) [] := by unfold scanL; rw [HLEN.out, if_neg hlong]
    generalize scanL s.data.toList = R at *
    have hgle := gap_le false s.data.toList
    rw [HLEN.out] at hgle
    have C24 := fun w => gap_ok s (by omega) w
    generalize gapL false s.data.toList = g0 at *
    have HR := Lib.hid hR
    have hx : decide (4000 < (s.size : Int)) = false := by simp; omega
    have HZ := Lib.hid (And.intro hi0 (And.intro hz0 (And.intro hz1 hz2)))
    have hsm : s.size ≤ 4000 := by omega
    clear hR hlong hi0 hz0 hz1 hz2
    go_enter Tryd.func15, Tryd.ntmps15
    go_wp2_with (go_at_call 24; refine (C24 _).mono ?_; rintro e w0 ⟨rfl, hk⟩; have HK0 := Lib.hid hk; have HG0 := Lib.hid (HG.out.kp hk); clear hk)
    go_loopg [5, 6] s.size (fun gk v5 v6 wr => ∃ (ts : List Tok) (k f : Nat), v6 = .int .i64 k ∧ k ≤ s.size ∧ s.size - k ≤ gk ∧ s.size - k ≤ f ∧ ts.length ≤ 1200 ∧ Own w.heap.size 3 wr v5 ts.length (toksCells ts) ∧ Kp w.heap.size w wr ∧ scanF f (s.data.toList.drop k) k ts = R)
    case atStart => exact ⟨[], g0, s.size, rfl, hgle, by omega, by omega, by simp, ⟨rfl, .inl ⟨rfl, rfl⟩⟩, HK0.out, HR.out.symm⟩
    case round =>
      obtain ⟨ts, k, f, rfl, hk, hgk, hf, htl, how, hkp, hsc⟩ := hrel
      have HOW := Lib.hid how
      have HKP := Lib.hid hkp
      have HSC := Lib.hid hsc
      obtain ⟨sa, sc, rfl, hsa⟩ := own_slice how
      clear how hkp hsc hsa
      by_cases hlt : k < s.size
      · have hdl : s.data.toList.drop k ≠ [] := by
          intro h
          have := List.drop_eq_nil_iff.1 h
          rw [HLEN.out] at this
          omega
        have hes : (s.extract k s.size).size = s.size - k := by rw [Lib.size_eq, ext_drop, List.length_drop, HLEN.out]
        have C25 := fun m hm => next_ok (s.extract k s.size) (by omega) (by omega) wr m hm
        rw [ext_drop] at C25
        obtain ⟨m, hm⟩ := (HG.out.kp HKP.out).len
        have C25 := C25 m hm
        clear hm hes
        have hnb := next_bounds hdl
        rw [List.length_drop, HLEN.out] at hnb
        have HDL := Lib.hid hdl
        have HNB := Lib.hid hnb
        clear hdl hnb
        have HT : Hid (∀ x y z, (nextL (s.data.toList.drop k)).1 = ⟨x, y, z⟩ → True) := Lib.hid (fun _ _ _ _ => trivial)
        clear HT
        obtain ⟨T, hT⟩ : ∃ T, (nextL (s.data.toList.drop k)).1 = T := ⟨_, rfl⟩
        obtain ⟨n, hn⟩ : ∃ n, (nextL (s.data.toList.drop k)).2 = n := ⟨_, rfl⟩
        rw [hT, hn] at C25
        have htx := next_text (s.data.toList.drop k)
        rw [hT, List.length_drop, HLEN.out] at htx
        have HT := Lib.hid hT
        have HN := Lib.hid hn
        clear hT hn
        obtain ⟨tk, tt, tp⟩ := T
        simp only [] at htx
        have hts : (⟨tt.toArray⟩ : ByteArray).size ≤ 281474976710656 := by rw [Lib.size_eq]; simp; omega
        have C26 := fun w hg => isTok_ok tk tp ⟨tt.toArray⟩ hts w hg
        simp only at C26
        clear htx hts
        unfold tokV at C25
        simp only [] at C25
        obtain ⟨f, rfl⟩ : ∃ f', f = f' + 1 := ⟨f - 1, by omega⟩
        cases hib : isTok ⟨tk, tt, tp⟩
        · have hv : R = .form k := by
            rw [← HSC.out, scanF_form HDL.out (by rw [HT.out]; exact hib)]
          rw [hib] at C26
          have HV := Lib.hid hv
          clear hib hv
          go_wp2_with (first
            | (go_at_call 25; refine C25.mono ?_; rintro e w1 ⟨rfl, hk1⟩; have HK1 := Lib.hid hk1; have hz1 := Lib.hid hk1.size; have HG1 := Lib.hid ((HG.out.kp HKP.out).kp hk1); clear hk1)
            | (go_at_call 26; refine (C26 _ (HG1.out.alloc _)).mono ?_; rintro e w3 ⟨rfl, hk3⟩; obtain ⟨hc0, hc1, hc2, hf, hz3, hkp3⟩ := box3 hk3; have HK3 := Lib.hid hkp3; clear hk3 hkp3))
          go_ret3
          refine ⟨kp_then (kp_then HKP.out HK1.out) HK3.out, ?_⟩
          rw [HV.out]
          rfl
        rw [hib] at C26
        have HIB := Lib.hid hib
        clear hib
        by_cases h12 : ts.length = 1200
        · have hv : R = .long := by
            rw [← HSC.out, scanF_long HDL.out (by rw [HT.out]; exact HIB.out) h12]
          have hx2 : ((ts.length : Int) == 1200) = true := by simp [h12]
          have HV := Lib.hid hv
          clear hv h12
          go_wp2_with (first
            | (go_at_call 25; refine C25.mono ?_; rintro e w1 ⟨rfl, hk1⟩; have HK1 := Lib.hid hk1; have hz1 := Lib.hid hk1.size; have HG1 := Lib.hid ((HG.out.kp HKP.out).kp hk1); clear hk1)
            | (go_at_call 26; refine (C26 _ (HG1.out.alloc _)).mono ?_; rintro e w3 ⟨rfl, hk3⟩; obtain ⟨hc0, hc1, hc2, hf, hz3, hkp3⟩ := box3 hk3; have HK3 := Lib.hid hkp3; clear hk3 hkp3))
          go_ret3
          refine ⟨kp_then (kp_then HKP.out HK1.out) HK3.out, ?_⟩
          rw [HV.out]
          rfl
        · have hx2 : ((ts.length : Int) == 1200) = false := by simp; omega
          have hv := HSC.out
          rw [scanF_step HDL.out (by rw [HT.out]; exact HIB.out) h12, HT.out, HN.out, List.drop_drop, List.drop_drop] at hv
          have hnb := HNB.out
          rw [HT.out, HN.out] at hnb
          have hn1 := hnb.2 HIB.out
          have hn2 := hnb.1
          clear hnb
          have hq := gap_le false (s.data.toList.drop (k + n))
          rw [List.length_drop, HLEN.out] at hq
          have C24' := fun w => gap_ok (s.extract (k + n) s.size) (ext_size s _ (by omega)) w
          rw [ext_drop] at C24'
          generalize gapL false (s.data.toList.drop (k + n)) = q at *
          have HV := Lib.hid hv
          have htl2 : ts.length < 1200 := by omega
          clear hv h12
          go_wp2_with (first
            | (go_at_call 25; refine C25.mono ?_; rintro e w1 ⟨rfl, hk1⟩; have HK1 := Lib.hid hk1; have hz1 := Lib.hid hk1.size; have HG1 := Lib.hid ((HG.out.kp HKP.out).kp hk1); clear hk1)
            | (go_at_call 26; refine (C26 _ (HG1.out.alloc _)).mono ?_; rintro e w3 ⟨rfl, hk3⟩; obtain ⟨hc0, hc1, hc2, hf, hz3, hkp3⟩ := box3 hk3; have HK3 := Lib.hid hkp3; clear hk3 hkp3; have HAL := Lib.hid (show Kp wr.heap.size wr ((w3.setCell ⟨w1.heap.size, 2, none⟩ (.int .i64 k)).alloc (.cells #[.int .i64 tk, .string ⟨tt.toArray⟩, .int .i64 k] 35)) from ((kp_then HK1.out HK3.out).setCell hz1.out _).alloc (by have := hz1.out; simp; omega) _); have hnw := news_alloc (w3.setCell ⟨w1.heap.size, 2, none⟩ (.int .i64 k)) [.int .i64 tk, .string ⟨tt.toArray⟩, .int .i64 k] 35; rw [show (w3.setCell ⟨w1.heap.size, 2, none⟩ (.int .i64 k)).heap.size = w3.heap.size by simp] at hnw; have HNW := Lib.hid hnw; clear hnw)
            | (at_builtin; obtain ⟨hi0, hz0, hz1', hz2⟩ := HZ.out; refine wpList_append_mine rfl (.tmp 34) (.tmp 36) 24 rfl w.heap.size 35 i35 (.agg #[.int .i64 0, .string ⟨#[]⟩, .int .i64 0]) 3 32 Tryd.underlying24 hi0 hz0 hz1' hz2 rfl (by decide) (.slice sa ts.length sc) ts.length (toksCells ts) rfl (HOW.out.kp HAL.out) ⟨w3.heap.size, 0, none⟩ 1 1 [.int .i64 tk, .string ⟨tt.toArray⟩, .int .i64 k] rfl rfl HNW.out (by simp [Value.oneCell']) (by unfold maxLen; omega) (by omega) (by have := HKP.out.size; have := HAL.out.size; omega) ?_; clear hi0 hz0 hz1' hz2; intro v' w8 hown8 hgr8 hblk8; have H8 := Lib.hid hown8; have K8 := Lib.hid (Kp.of_grown_mine (kp_then HKP.out HAL.out) (HOW.out.kp HAL.out) hgr8 (by have := HKP.out.size; have := HAL.out.size; omega)); have hz8 := Lib.hid K8.out.size; clear hown8 hgr8 hblk8)
            | (go_at_call 24; refine (C24' _).mono ?_; rintro e w9 ⟨rfl, hk⟩; have HK9 := Lib.hid hk; clear hk))
          have K9 := Lib.hid (K8.out.trans (HK9.out.mono hz8.out))
          have H9 := Lib.hid (show Own w.heap.size 3 w9 v' (ts ++ [(⟨tk, tt, (k : Int)⟩ : Tok)]).length (toksCells (ts ++ [(⟨tk, tt, (k : Int)⟩ : Tok)])) by
            rw [toksCells_snoc, List.length_append]
            exact H8.out.kp HK9.out)
          have V9 := Lib.hid (show scanF f (s.data.toList.drop (k + n + q)) (k + n + q) (ts ++ [(⟨tk, tt, (k : Int)⟩ : Tok)]) = R by
            have := HV.out
            rwa [show k + (n + q) = k + n + q by omega] at this)
          go_roundg (s.size - (k + n + q))
          case measure => omega
          case rel => exact ⟨ts ++ [(⟨tk, tt, (k : Int)⟩ : Tok)], k + n + q, f, by go_num, by omega, Nat.le_refl _, by omega, by simp; omega, H9.out, K9.out, V9.out⟩
      · have hkk : k = s.size := by omega
        have hv : R = .ok ts := by
          rw [← HSC.out, List.drop_of_length_le (by rw [HLEN.out]; omega), scanF_nil]
        have HV := Lib.hid hv
        clear hv hkk
        go_wp2_with fail
        go_ret3
        refine ⟨HKP.out, ?_⟩
        rw [HV.out]
        exact ⟨_, rfl, HOW.out⟩
end Go.Lx
