/- LexPlaces. -/
import Derived.Test.YteigdghbipcpgaaDoorLx33
import Derived.Laws.Strings2
namespace Go.Lx
open Go.Proofs Go.RowKit Go.Lib Go.Ev
set_option maxRecDepth 100000

theorem ext_len (s : ByteArray) {a b : Nat} (hab : a ≤ b) (hb : b ≤ s.size) : (s.extract a b).size = b - a := by
  rw [Lib.size_eq, extract_data, List.length_take, List.length_drop, ← Lib.size_eq]; omega

theorem blank_kp (s : ByteArray) (hs : s.size ≤ 9223372036854775800) (h : gapL false s.data.toList = s.size) (w : World) :
    Calls Tryd.prog 22 #[.string s] w fun e w' => e = .returned (.bool true) ∧ Kp w.heap.size w w' :=
  (blank_ok s hs h w).mono fun e w' ⟨h1, k, h2⟩ => ⟨h1, by subst h2; exact kp_drewN (Kp.refl _ _) k⟩

set_option maxHeartbeats 4000000 in
theorem lexPlaces_true (s : ByteArray) (hs : s.size ≤ 140737488355328) (w : World) (hg : Glb w) : Calls Tryd.prog 9 #[.string s] w fun e w' => e = .returned (.bool true) ∧ Kp w.heap.size w w' := by
  have HG := Lib.hid hg
  clear hg
  go_enter Tryd.func9, Tryd.ntmps9
  by_cases h1 : 1000 < s.size
  · have hx1 : decide (1000 < (s.size : Int)) = true := by simp; omega
    go_wp2_with (go_at_call 14; refine (alive_ok _ HG.out).mono ?_; rintro e w4 ⟨rfl, hk⟩; have HK4 := Lib.hid hk; clear hk)
    go_ret
    exact ⟨rfl, HK4.out⟩
  have hx1 : decide (1000 < (s.size : Int)) = false := by simp; omega
  have C15 := fun w hg => scanV s hs w hg
  cases hR : scanL s.data.toList with
  | form k =>
    rw [hR] at C15
    simp only [outM, outE, outTs] at C15
    clear hR
    go_wp2_with (first
      | (go_at_call 15; refine (C15 _ HG.out).mono ?_; rintro e w1 ⟨v1, rfl, hv, hk⟩; have HK1 := Lib.hid hk; have HG1 := Lib.hid (HG.out.kp hk); clear hk hv)
      | (go_at_call 14; refine (alive_ok _ HG1.out).mono ?_; rintro e w4 ⟨rfl, hk⟩; have HK4 := Lib.hid hk; clear hk))
    go_ret
    exact ⟨rfl, kp_then HK1.out HK4.out⟩
  | long => exact absurd hR (scan_not_long (by rw [← Lib.size_eq]; omega))
  | ok ts =>
    rw [hR] at C15
    simp only [outM, outE, outTs] at C15
    have HT := Lib.hid ((scanL_ok _ _).1 hR).2.2
    have htl : ts.length ≤ 1200 := ((scanL_ok _ _).1 hR).2.1
    clear hR
    go_wp2_with (go_at_call 15; refine (C15 _ HG.out).mono ?_; rintro e w1 ⟨v1, rfl, hv, hk⟩; obtain ⟨base, c, rfl⟩ := hv.len; have HV1 := Lib.hid hv; have HK1 := Lib.hid hk; have HG1 := Lib.hid (HG.out.kp hk); clear hk hv)
    go_loopg [6, 7] ts.length (fun gk v6 v7 wr => Kp w1.heap.size w1 wr ∧ ∃ j last p : Nat, v6 = .int .i64 last ∧ v7 = .int .i64 j ∧ j + gk = ts.length ∧ last ≤ s.size ∧ p = last + gapL false (s.data.toList.drop last) ∧ Toks s.data.toList p (ts.drop j))
    case atStart => exact ⟨Kp.refl _ _, 0, 0, gapL false s.data.toList, rfl, rfl, by omega, Nat.zero_le _, by simp, by simpa using HT.out⟩
    case round =>
      obtain ⟨hkr, j, last, p, rfl, rfl, hgk, hlast, hp, hts⟩ := hrel
      have HKR := Lib.hid hkr
      clear hkr
      by_cases hlt : j < ts.length
      · obtain ⟨t, ht⟩ : ∃ t, ts[j]? = some t := ⟨_, List.getElem?_eq_getElem hlt⟩
        have hdr : ts.drop j = t :: ts.drop (j + 1) := by
          rw [List.drop_eq_getElem_cons hlt]
          rw [List.getElem?_eq_getElem hlt] at ht
          rw [Option.some.inj ht]
        rw [hdr] at hts
        obtain ⟨f1, f2, f3, f4, f5, f6, f7, p', f8, f9⟩ := hts.first hp
        obtain ⟨b, off, cc, hve, hcap, hc0, hc1, hc2⟩ := HV1.out.row3 ht
        injection hve with e1 e2 e3
        subst e1 e3
        have hc0 := HKR.out.cells hc0
        have hc1 := HKR.out.cells hc1
        have hc2 := HKR.out.cells hc2
        rw [f2] at hc2
        obtain ⟨tk, tt, tp⟩ := t
        simp only [] at hc0 hc1 hc2 f4 f5 f6 f7 f8 f9
        rw [← Lib.size_eq s] at f1 f5 f6
        have hlp : last ≤ p := by omega
        have C23 := fun w => size_ok s (by omega) tk tt (by omega) p f1 w
        have C22 := fun w => blank_kp (s.extract last p) (by rw [ext_len s hlp (by omega)]; omega) (by rw [extract_data, ext_len s hlp (by omega)]; exact f3) w
        obtain ⟨sz, hsz⟩ : ∃ sz, sz = sizeT s.data.toList p tt := ⟨_, rfl⟩
        rw [← hsz] at C23 f4 f5 f7 f8
        have F7 := Lib.hid f7
        have F8 := Lib.hid (And.intro f8 f9)
        have hx : decide ((j : Int) < (ts.length : Int)) = true := by simp; omega
        have hsum : IntKind.i64.wrap ((p : Int) + (sz : Int)) = (p : Int) + (sz : Int) := IntWalk.i64_in _ (by omega)
        have y1 : decide ((p : Int) < (last : Int)) = false := by simp; omega
        have y2 : decide ((s.size : Int) ≤ (p : Int)) = false := by simp; omega
        have y3 : decide ((s.size : Int) < (p : Int) + (sz : Int)) = false := by simp; omega
        have z1 : decide (p < last) = false := by simp; omega
        have z2 : decide (s.size ≤ p) = false := by simp; omega
        have z3 : decide (s.size < p + sz) = false := by simp; omega
        clear f2 f3 f6 f7 f8 f9 hsz hts hp hdr ht e2
        generalize hy : (⟨tt.toArray⟩ : ByteArray) = y at *
        have HY := Lib.hid hy
        clear hy
        have hjl : (j : Int) < (ts.length : Int) := by omega
        have hpn : p ≤ s.size := by omega
        have hpn2 : (p : Int) ≤ (s.size : Int) := by omega
        have hl0 : (0 : Int) ≤ (last : Int) := by omega
        have hp0 : (0 : Int) ≤ (p : Int) := by omega
        have hpl : (p : Int) < (s.size : Int) := by omega
        have hlp2 : (last : Int) ≤ (p : Int) := by omega
        have hps : (p : Int) + (sz : Int) ≤ (s.size : Int) := by omega
        go_wp2_with fail
        go_region_held3 (fun w' => w'.cell? ⟨wr.heap.size, 0, none⟩ = some (.int .i64 tk) ∧ w'.cell? ⟨wr.heap.size, 1, none⟩ = some (.string y) ∧ w'.cell? ⟨wr.heap.size, 2, none⟩ = some (.int .i64 p) ∧ Kp wr.heap.size wr w')
          (first
            | exact ⟨by go_simp, by go_simp, by go_simp, ((Kp.refl _ _).alloc (Nat.le_refl _) _).drew⟩
            | assumption
            | (rename Kp _ _ _ => hk
               rename (_ ∧ _ ∧ _ ∧ Kp wr.heap.size wr _) => hS
               exact ⟨hk.cells hS.1, hk.cells hS.2.1, hk.cells hS.2.2.1, hS.2.2.2.trans (hk.mono hS.2.2.2.size)⟩))
          (first
            | (go_at_call 23; refine (C23 _).mono ?_; rintro e w' ⟨rfl, hk⟩)
            | (go_at_call 22; refine (C22 _).mono ?_; rintro e w' ⟨rfl, hk⟩))
        clear C22
        rename (_ ∧ _ ∧ _ ∧ Kp wr.heap.size wr _) => hS
        rename World => w5
        obtain ⟨d0, d1, d2, hK⟩ := hS
        have HK5 := Lib.hid (kp_then HKR.out hK)
        clear hK
        generalize wr.heap.size = N0 at *
        have htn : ((p : Int) + (sz : Int)).toNat = p + sz := by omega
        have hq1 : (p : Int) ≤ (p : Int) + (sz : Int) := by omega
        have hq2 : p + sz ≤ s.size := by omega
        have hq3 : p ≤ p + sz := by omega
        go_wp2_with fail
        go_region_held3 (fun w' => w'.cell? ⟨N0, 0, none⟩ = some (.int .i64 tk) ∧ w'.cell? ⟨N0, 1, none⟩ = some (.string y) ∧ w'.cell? ⟨N0, 2, none⟩ = some (.int .i64 p) ∧ Kp w5.heap.size w5 w')
          (first
            | exact ⟨d0, d1, d2, (Kp.refl _ _).drew⟩
            | assumption
            | (rename Kp _ _ _ => hk
               rename (_ ∧ _ ∧ _ ∧ Kp w5.heap.size w5 _) => hS
               exact ⟨hk.cells hS.1, hk.cells hS.2.1, hk.cells hS.2.2.1, hS.2.2.2.trans (hk.mono hS.2.2.2.size)⟩))
          (first
            | (go_at_call 23; refine (C23 _).mono ?_; rintro e w' ⟨rfl, hk⟩))
        rename (_ ∧ _ ∧ _ ∧ Kp w5.heap.size w5 _) => hS
        rename World => w6
        clear d0 d1 d2
        obtain ⟨d0, d1, d2, hK⟩ := hS
        have HK6 := Lib.hid (kp_then HK5.out hK)
        clear hK
        have hzl : (s.extract p (p + sz)).data.toList = (s.data.toList.drop p).take sz := by rw [extract_data, Nat.add_sub_cancel_left]
        have hzs : (s.extract p (p + sz)).size = sz := by rw [ext_len s hq3 hq2, Nat.add_sub_cancel_left]
        generalize s.extract p (p + sz) = z at *
        have hz0 : 0 < z.size := by omega
        have hz0i : (0 : Int) < (z.size : Int) := by omega
        have hat : at0 z.data.toList 0 = z[0] := at0_get hz0
        have hyl : y.data.toList = tt := by rw [← HY.out]
        have hys : y.size = tt.length := by rw [Lib.size_eq, hyl]
        rcases F7.out with ⟨hc, hxx, hn, h0, h1'⟩ | ⟨r, hc, hxx, ht', hn⟩ | ⟨hc1, hc2, hxx, hn, h0⟩
        · have hz39 : z[0] = 39 := by rw [← hat, hzl, hxx]; rfl
          have g1 : ((z[0].toNat : Int) == 39) = true := by rw [hz39]; rfl
          have hw : IntKind.i64.wrap ((z.size : Int) - 1) = (z.size : Int) - 1 := IntWalk.i64_in _ (by omega)
          have hb1 : (1 : Int) ≤ (z.size : Int) - 1 := by omega
          have hb2 : (z.size : Int) - 1 ≤ (z.size : Int) := by omega
          have hb3 : ((z.size : Int) - 1).toNat = z.size - 1 := by omega
          have hze : z.extract 1 (sz - 1) = y := by
            apply ByteArray.ext
            apply Array.ext'
            rw [extract_data, hzl, hxx, hyl, hn, List.drop_succ_cons, List.drop_zero, show tt.length + 2 - 1 - 1 = tt.length by omega]
            simp
          have hy0 : 0 < y.size := by omega
          have hy0i : (0 : Int) < (y.size : Int) := by omega
          have hy126 : y[0] ≠ 126 := by rw [← at0_get hy0, hyl]; exact h1'
          have g2 : ((y[0].toNat : Int) == 126) = false := by rw [show (126 : Int) = ((126 : UInt8).toNat : Int) from rfl, byte_eq]; simpa using hy126
          clear hc hxx hn h0 h1' hz39 hat hzl hyl hys hy126
          go_wp2_with fail
          go_region_held3 (fun w' => w'.cell? ⟨N0, 0, none⟩ = some (.int .i64 tk) ∧ w'.cell? ⟨N0, 1, none⟩ = some (.string y) ∧ w'.cell? ⟨N0, 2, none⟩ = some (.int .i64 p) ∧ Kp w6.heap.size w6 w')
          (first
            | exact ⟨d0, d1, d2, (Kp.refl _ _).drew⟩
            | assumption
            | (rename Kp _ _ _ => hk
               rename (_ ∧ _ ∧ _ ∧ Kp w6.heap.size w6 _) => hS
               exact ⟨hk.cells hS.1, hk.cells hS.2.1, hk.cells hS.2.2.1, hS.2.2.2.trans (hk.mono hS.2.2.2.size)⟩))
          (first
            | (go_at_call 23; refine (C23 _).mono ?_; rintro e w' ⟨rfl, hk⟩))
          rename (_ ∧ _ ∧ _ ∧ Kp w6.heap.size w6 _) => hS
          have HK7 := Lib.hid (kp_then HK6.out hS.2.2.2)
          clear hS
          go_wp2_with fail
          go_roundg (ts.length - (j + 1))
          case measure => omega
          case rel => exact ⟨HK7.out, j + 1, p + sz, p', by go_num, by go_num, by omega, hq2, F8.out.1, F8.out.2⟩
        · have hz126 : z[0] = 126 := by rw [← hat, hzl, hxx]; rfl
          have g1 : ((z[0].toNat : Int) == 39) = false := by rw [hz126]; rfl
          have g2 : ((z[0].toNat : Int) == 126) = true := by rw [hz126]; rfl
          have hb1 : (1 : Int) ≤ (z.size : Int) := by omega
          have hb2 : 1 ≤ z.size := by omega
          have hze : (⟨#[45]⟩ : ByteArray) ++ z.extract 1 sz = y := by
            apply ByteArray.ext
            apply Array.ext'
            rw [← hzs, ByteArray.data_append, Array.toList_append, ext_drop, hzl, hxx, hyl, ht']
            rfl
          clear hc hxx hn ht' hz126 hat hzl hyl hys
          go_wp2_with fail
          go_region_held3 (fun w' => w'.cell? ⟨N0, 0, none⟩ = some (.int .i64 tk) ∧ w'.cell? ⟨N0, 1, none⟩ = some (.string y) ∧ w'.cell? ⟨N0, 2, none⟩ = some (.int .i64 p) ∧ Kp w6.heap.size w6 w')
          (first
            | exact ⟨d0, d1, d2, (Kp.refl _ _).drew⟩
            | assumption
            | (rename Kp _ _ _ => hk
               rename (_ ∧ _ ∧ _ ∧ Kp w6.heap.size w6 _) => hS
               exact ⟨hk.cells hS.1, hk.cells hS.2.1, hk.cells hS.2.2.1, hS.2.2.2.trans (hk.mono hS.2.2.2.size)⟩))
          (first
            | (go_at_call 23; refine (C23 _).mono ?_; rintro e w' ⟨rfl, hk⟩))
          rename (_ ∧ _ ∧ _ ∧ Kp w6.heap.size w6 _) => hS
          have HK7 := Lib.hid (kp_then HK6.out hS.2.2.2)
          clear hS
          go_wp2_with fail
          go_roundg (ts.length - (j + 1))
          case measure => omega
          case rel => exact ⟨HK7.out, j + 1, p + sz, p', by go_num, by go_num, by omega, hq2, F8.out.1, F8.out.2⟩
        · have hz1 : z[0] = at0 s.data.toList p := by
            obtain ⟨n', rfl⟩ : ∃ n', sz = n' + 1 := ⟨sz - 1, by omega⟩
            rw [← hat, hzl, drop_at (by rw [← Lib.size_eq]; exact f1)]
            rfl
          have hz39 : z[0] ≠ 39 := by rw [hz1]; exact hc1
          have hz126 : z[0] ≠ 126 := by rw [hz1]; exact hc2
          have g1 : ((z[0].toNat : Int) == 39) = false := by rw [show (39 : Int) = ((39 : UInt8).toNat : Int) from rfl, byte_eq]; simpa using hz39
          have g2 : ((z[0].toNat : Int) == 126) = false := by rw [show (126 : Int) = ((126 : UInt8).toNat : Int) from rfl, byte_eq]; simpa using hz126
          have hze : y = z := by
            apply ByteArray.ext
            apply Array.ext'
            rw [hyl, hzl, hxx]
          clear hc1 hc2 hxx hn h0 hz39 hz126 hz1 hat hzl hyl hys
          subst hze
          go_wp2_with fail
          go_region_held3 (fun w' => w'.cell? ⟨N0, 0, none⟩ = some (.int .i64 tk) ∧ w'.cell? ⟨N0, 1, none⟩ = some (.string y) ∧ w'.cell? ⟨N0, 2, none⟩ = some (.int .i64 p) ∧ Kp w6.heap.size w6 w')
          (first
            | exact ⟨d0, d1, d2, (Kp.refl _ _).drew⟩
            | assumption
            | (rename Kp _ _ _ => hk
               rename (_ ∧ _ ∧ _ ∧ Kp w6.heap.size w6 _) => hS
               exact ⟨hk.cells hS.1, hk.cells hS.2.1, hk.cells hS.2.2.1, hS.2.2.2.trans (hk.mono hS.2.2.2.size)⟩))
          (first
            | (go_at_call 23; refine (C23 _).mono ?_; rintro e w' ⟨rfl, hk⟩))
          rename (_ ∧ _ ∧ _ ∧ Kp w6.heap.size w6 _) => hS
          have HK7 := Lib.hid (kp_then HK6.out hS.2.2.2)
          clear hS
          go_wp2_with fail
          go_roundg (ts.length - (j + 1))
          case measure => omega
          case rel => exact ⟨HK7.out, j + 1, p + sz, p', by go_num, by go_num, by omega, hq2, F8.out.1, F8.out.2⟩
      · have hx : decide ((j : Int) < (ts.length : Int)) = false := by simp; omega
        rw [List.drop_of_length_le (by omega)] at hts
        have hgl := hts.last hp (by rw [← Lib.size_eq]; exact hlast)
        have C22 := fun w => blank_kp (s.extract last s.size) (by rw [ext_len s hlast (Nat.le_refl _)]; omega) (by rw [ext_drop, ext_len s hlast (Nat.le_refl _), hgl, ← Lib.size_eq]) w
        have HG2 := Lib.hid (HG1.out.kp HKR.out)
        have hl1 : (last : Int) ≤ (s.size : Int) := by omega
        have hl0 : (0 : Int) ≤ (last : Int) := by omega
        clear hts hp hgl
        go_wp2_with (first
          | (go_at_call 22; refine (C22 _).mono ?_; rintro e w5 ⟨rfl, hk⟩; have HK5 := Lib.hid hk; have HG5 := Lib.hid (HG2.out.kp hk); clear hk)
          | (go_at_call 14; refine (alive_ok _ HG5.out).mono ?_; rintro e w4 ⟨rfl, hk⟩; have HK4 := Lib.hid hk; clear hk))
        go_ret
        exact ⟨rfl, kp_then HK1.out (kp_then HKR.out (kp_then HK5.out HK4.out))⟩
end Go.Lx
