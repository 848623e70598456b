/- LexSpaces. -/
import Derived.Test.YteigdghbipcpgaaDoorLx34
import Derived.Test.YteigdghbipcpgaaDoorLm8
namespace Go.Lx
open Go.Proofs Go.RowKit Go.Lib Go.Ev
set_option maxRecDepth 100000

/-- The value is a slice of these bytes. -/
inductive U8V (w : World) : Value → List UInt8 → Prop where
  | empty (base : Option Addr) (c : Nat) : U8V w (.slice base 0 c) []
  | row (b off c : Nat) (xs : List UInt8) (hc : xs.length ≤ c) (hcell : ∀ j x, xs[j]? = some x → w.cell? ⟨b, off + j, none⟩ = some (.int .u8 x.toNat)) : U8V w (.slice (some ⟨b, off, none⟩) xs.length c) xs
theorem U8V.len {w : World} {v : Value} {xs : List UInt8} (h : U8V w v xs) : ∃ base c, v = .slice base xs.length c := by
  cases h with
  | empty base c => exact ⟨_, _, rfl⟩
  | row b off c => exact ⟨_, _, rfl⟩
theorem U8V.at_ {w : World} {v : Value} {xs : List UInt8} (h : U8V w v xs) {j : Nat} {x : UInt8} (hj : xs[j]? = some x) : ∃ b off c, v = .slice (some ⟨b, off, none⟩) xs.length c ∧ w.cell? ⟨b, off + j, none⟩ = some (.int .u8 x.toNat) := by
  cases h with
  | empty base c => simp at hj
  | row b off c xs hc hcell => exact ⟨b, off, c, rfl, hcell j x hj⟩
def chunkS (k : Nat) : ByteArray := ⟨(chunkL k).toArray⟩

set_option maxHeartbeats 4000000 in
theorem lexSpaces_true (s : ByteArray) (v : Value) (more : List UInt8) (hs : s.size ≤ 140737488355328) (w : World) (hv : U8V w v more) (hmn : more.length ≤ 9223372036854775807) (hg : Glb w) :
    Calls Tryd.prog 11 #[.string s, v] w fun e w' => e = .returned (.bool true) ∧ Kp w.heap.size w w' := by
  have HG := Lib.hid hg
  have HM := Lib.hid hv
  obtain ⟨mb, mc, rfl⟩ := hv.len
  clear hg hv
  go_enter Tryd.func11, Tryd.ntmps11
  by_cases h1 : 400 < s.size
  · have hx1 : decide (400 < (s.size : Int)) = true := by simp; omega
    go_wp2_with (go_at_call 14; refine (alive_ok _ HG.out).mono ?_; rintro e w4 ⟨rfl, hk⟩; have HK4 := Lib.hid hk; clear hk)
    go_ret
    exact ⟨rfl, HK4.out⟩
  have hx1 : decide (400 < (s.size : Int)) = false := by simp; omega
  have C15 := fun w hg => scanV s hs w hg
  cases hR : scanL s.data.toList with
  | form k =>
    rw [hR] at C15
    simp only [outM, outE, outTs] at C15
    clear hR
    go_wp2_with (first
      | (go_at_call 15; refine (C15 _ HG.out).mono ?_; rintro e w1 ⟨v1, rfl, hv, hk⟩; have HK1 := Lib.hid hk; have HG1 := Lib.hid (HG.out.kp hk); clear hk hv)
      | (go_at_call 14; refine (alive_ok _ HG1.out).mono ?_; rintro e w4 ⟨rfl, hk⟩; have HK4 := Lib.hid hk; clear hk))
    go_ret
    exact ⟨rfl, kp_then HK1.out HK4.out⟩
  | long => exact absurd hR (scan_not_long (by rw [← Lib.size_eq]; omega))
  | ok ts =>
    rw [hR] at C15
    simp only [outM, outE, outTs] at C15
    obtain ⟨hXl, us, hus, hsame⟩ := spaces (by rw [← Lib.size_eq]; omega) hR more
    have HS := Lib.hid hsame
    have HT := Lib.hid ((scanL_ok _ _).1 hR).2.2
    have htl : ts.length ≤ 1200 := ((scanL_ok _ _).1 hR).2.1
    obtain ⟨X, hX⟩ : ∃ X, X = V s.data.toList 0 ts more := ⟨_, rfl⟩
    rw [← hX] at hXl hus
    have CX := fun (z : ByteArray) (hz : z.data.toList = X) w hg => scanV z (by rw [Lib.size_eq, hz]; omega) w hg
    have HX := Lib.hid hX
    have HU := Lib.hid hus
    clear hR hsame hX hus
    go_wp2_with (go_at_call 15; refine (C15 _ HG.out).mono ?_; rintro e w1 ⟨v1, rfl, hv, hk⟩; obtain ⟨base, c, rfl⟩ := hv.len; have HV1 := Lib.hid hv; have HK1 := Lib.hid hk; have HG1 := Lib.hid (HG.out.kp hk); clear hk hv)
    go_loopg [8, 9, 10] ts.length (fun gk v8 v9 v10 wr => Kp w1.heap.size w1 wr ∧ ∃ (T : ByteArray) (j last p : Nat), v8 = .string T ∧ v9 = .int .i64 last ∧ v10 = .int .i64 j ∧ j + gk = ts.length ∧ last ≤ s.size ∧ last ≤ p ∧ Toks s.data.toList p (ts.drop j) ∧ T.data.toList ++ V s.data.toList last (ts.drop j) (more.drop j) = X)
    case atStart => exact ⟨Kp.refl _ _, ⟨#[]⟩, 0, 0, gapL false s.data.toList, rfl, rfl, rfl, by omega, Nat.zero_le _, Nat.zero_le _, by simpa using HT.out, by simpa using HX.out.symm⟩
    case round =>
      obtain ⟨hkr, T, j, last, p, rfl, rfl, rfl, hgk, hlast, hlp, hts, hTX⟩ := hrel
      have HKR := Lib.hid hkr
      clear hkr
      have hT : T.size ≤ 3000 := by
        have := congrArg List.length hTX
        rw [List.length_append, ← Lib.size_eq] at this
        omega
      by_cases hlt : j < ts.length
      · obtain ⟨t, ht⟩ : ∃ t, ts[j]? = some t := ⟨_, List.getElem?_eq_getElem hlt⟩
        have hdr : ts.drop j = t :: ts.drop (j + 1) := by
          rw [List.drop_eq_getElem_cons hlt]
          rw [List.getElem?_eq_getElem hlt] at ht
          rw [Option.some.inj ht]
        rw [hdr] at hts hTX
        obtain ⟨hp1, hp2, hp3⟩ := hts.here
        obtain ⟨n, _, hn1, hpn, _, _, hr⟩ := hts.step
        rw [← Lib.size_eq s] at hpn
        unfold V at hTX
        rw [hp1] at hTX
        obtain ⟨b, off, cc, hve, hcap, hc0, hc1, hc2⟩ := HV1.out.row3 ht
        injection hve with e1 e2 e3
        subst e1 e3
        have hc2 := HKR.out.cells hc2
        rw [hp2] at hc2
        have hpl : p ≤ p + (n + gapL false (s.data.toList.drop (p + n))) := by omega
        have HR := Lib.hid hr
        have HTX := Lib.hid hTX
        have hps : p ≤ s.size := by omega
        clear hts hTX hdr ht hp1 hp2 hp3 hr hc0 hc1 e2
        have hx : decide ((j : Int) < (ts.length : Int)) = true := by simp; omega
        have hjl : (j : Int) < (ts.length : Int) := by omega
        have hl0 : (0 : Int) ≤ (last : Int) := by omega
        have hlp2 : (last : Int) ≤ (p : Int) := by omega
        have hps2 : (p : Int) ≤ (s.size : Int) := by omega
        have hext : (T ++ s.extract last p).data.toList = T.data.toList ++ (s.data.toList.drop last).take (p - last) := by
          rw [ByteArray.data_append, Array.toList_append, extract_data]
        have HE := Lib.hid hext
        have hE1 : (s.extract last p).size ≤ 400 := by rw [ext_len s hlp hps]; omega
        have hE2 : (T ++ s.extract last p).size ≤ 3400 := by rw [size_app]; omega
        clear hext
        by_cases hjm : j < more.length
        · obtain ⟨x, hxm⟩ : ∃ x, more[j]? = some x := ⟨_, List.getElem?_eq_getElem hjm⟩
          have hmd : more.drop j = x :: more.drop (j + 1) := by
            rw [List.drop_eq_getElem_cons hjm]
            rw [List.getElem?_eq_getElem hjm] at hxm
            rw [Option.some.inj hxm]
          obtain ⟨b2, off2, c2, hve2, hm0⟩ := HM.out.at_ hxm
          injection hve2 with e1 e2 e3
          subst e1 e3
          have hm0 := (HK1.out.trans (HKR.out.mono HK1.out.size)).cells hm0
          have hm1 := ((Kp.refl wr.heap.size wr).alloc (Nat.le_refl _) (.cells #[.string ⟨#[32]⟩, .string ⟨#[10]⟩, .string ⟨#[9]⟩, .string ⟨#[37, 32, 88, 61, 10]⟩, .string ⟨#[32, 32]⟩] 9)).cells hm0
          have hc3 := ((Kp.refl wr.heap.size wr).alloc (Nat.le_refl _) (.cells #[.string ⟨#[32]⟩, .string ⟨#[10]⟩, .string ⟨#[9]⟩, .string ⟨#[37, 32, 88, 61, 10]⟩, .string ⟨#[32, 32]⟩] 9)).cells hc2
          have htx := HTX.out
          rw [hmd] at htx
          simp only [chunkO, List.tail_cons] at htx
          have HTX2 := Lib.hid htx
          have hxj : decide ((j : Int) < (more.length : Int)) = true := by simp; omega
          have hjl2 : (j : Int) < (more.length : Int) := by omega
          have hxb := x.toNat_lt
          clear htx hmd hxm e2
          obtain ⟨k, hk⟩ : ∃ k, k = x.toNat % 5 := ⟨_, rfl⟩
          rw [← hk] at HTX2
          have hmod : ((x.toNat : Int) % 5) = (k : Int) := by omega
          have hmod2 : ((x.toNat : Int).tmod 5) = (k : Int) := by rw [Int.tmod_eq_emod_of_nonneg (by omega)]; omega
          have hk5 : k = 0 ∨ k = 1 ∨ k = 2 ∨ k = 3 ∨ k = 4 := by omega
          clear hk
          rcases hk5 with rfl | rfl | rfl | rfl | rfl
          · go_wp2_with fail
            have HR2 := Lib.hid (show (T ++ s.extract last p ++ ⟨#[32]⟩).data.toList ++ V s.data.toList p (ts.drop (j + 1)) (more.drop (j + 1)) = X by
              rw [ByteArray.data_append, Array.toList_append, HE.out, List.append_assoc, List.append_assoc]; exact HTX2.out)
            go_roundg (ts.length - (j + 1))
            case measure => omega
            case rel => exact ⟨HKR.out.alloc HKR.out.size _, T ++ s.extract last p ++ ⟨#[32]⟩, j + 1, p, _, rfl, rfl, by go_num, by omega, hps, hpl, HR.out, HR2.out⟩
          · go_wp2_with fail
            have HR2 := Lib.hid (show (T ++ s.extract last p ++ ⟨#[10]⟩).data.toList ++ V s.data.toList p (ts.drop (j + 1)) (more.drop (j + 1)) = X by
              rw [ByteArray.data_append, Array.toList_append, HE.out, List.append_assoc, List.append_assoc]; exact HTX2.out)
            go_roundg (ts.length - (j + 1))
            case measure => omega
            case rel => exact ⟨HKR.out.alloc HKR.out.size _, T ++ s.extract last p ++ ⟨#[10]⟩, j + 1, p, _, rfl, rfl, by go_num, by omega, hps, hpl, HR.out, HR2.out⟩
          · go_wp2_with fail
            have HR2 := Lib.hid (show (T ++ s.extract last p ++ ⟨#[9]⟩).data.toList ++ V s.data.toList p (ts.drop (j + 1)) (more.drop (j + 1)) = X by
              rw [ByteArray.data_append, Array.toList_append, HE.out, List.append_assoc, List.append_assoc]; exact HTX2.out)
            go_roundg (ts.length - (j + 1))
            case measure => omega
            case rel => exact ⟨HKR.out.alloc HKR.out.size _, T ++ s.extract last p ++ ⟨#[9]⟩, j + 1, p, _, rfl, rfl, by go_num, by omega, hps, hpl, HR.out, HR2.out⟩
          · go_wp2_with fail
            have HR2 := Lib.hid (show (T ++ s.extract last p ++ ⟨#[37, 32, 88, 61, 10]⟩).data.toList ++ V s.data.toList p (ts.drop (j + 1)) (more.drop (j + 1)) = X by
              rw [ByteArray.data_append, Array.toList_append, HE.out, List.append_assoc, List.append_assoc]; exact HTX2.out)
            go_roundg (ts.length - (j + 1))
            case measure => omega
            case rel => exact ⟨HKR.out.alloc HKR.out.size _, T ++ s.extract last p ++ ⟨#[37, 32, 88, 61, 10]⟩, j + 1, p, _, rfl, rfl, by go_num, by omega, hps, hpl, HR.out, HR2.out⟩
          · go_wp2_with fail
            have HR2 := Lib.hid (show (T ++ s.extract last p ++ ⟨#[32, 32]⟩).data.toList ++ V s.data.toList p (ts.drop (j + 1)) (more.drop (j + 1)) = X by
              rw [ByteArray.data_append, Array.toList_append, HE.out, List.append_assoc, List.append_assoc]; exact HTX2.out)
            go_roundg (ts.length - (j + 1))
            case measure => omega
            case rel => exact ⟨HKR.out.alloc HKR.out.size _, T ++ s.extract last p ++ ⟨#[32, 32]⟩, j + 1, p, _, rfl, rfl, by go_num, by omega, hps, hpl, HR.out, HR2.out⟩
        · have hxj : decide ((j : Int) < (more.length : Int)) = false := by simp; omega
          have hmd : more.drop j = [] := List.drop_of_length_le (by omega)
          have hmd2 : more.drop (j + 1) = [] := List.drop_of_length_le (by omega)
          have htx := HTX.out
          rw [hmd] at htx
          simp only [chunkO, List.tail_nil, List.nil_append] at htx
          have HR2 := Lib.hid (show (T ++ s.extract last p).data.toList ++ V s.data.toList p (ts.drop (j + 1)) (more.drop (j + 1)) = X by
            rw [hmd2, HE.out, List.append_assoc]; exact htx)
          clear htx hmd hmd2
          go_wp2_with fail
          go_roundg (ts.length - (j + 1))
          case measure => omega
          case rel => exact ⟨HKR.out, T ++ s.extract last p, j + 1, p, _, rfl, rfl, by go_num, by omega, hps, hpl, HR.out, HR2.out⟩
      · have hx : decide ((j : Int) < (ts.length : Int)) = false := by simp; omega
        have hts0 : ts.drop j = [] := List.drop_of_length_le (by omega)
        rw [hts0] at hTX hts
        unfold V at hTX
        have hz : (T ++ s.extract last s.size ++ ⟨#[10]⟩).data.toList = X := by
          rw [ByteArray.data_append, ByteArray.data_append, Array.toList_append, Array.toList_append, ext_drop, List.append_assoc]
          exact hTX
        have CZ := CX _ hz
        rw [hz, HU.out] at CZ
        simp only [outM, outE, outTs] at CZ
        have hl0 : (0 : Int) ≤ (last : Int) := by omega
        have hl1 : (last : Int) ≤ (s.size : Int) := by omega
        have hE1 : (s.extract last s.size).size ≤ 400 := by rw [ext_len s hlast (Nat.le_refl _)]; omega
        have hE2 : (T ++ s.extract last s.size).size ≤ 3400 := by rw [size_app]; omega
        have HG2 := Lib.hid (HG1.out.kp HKR.out)
        clear hts0 hTX hts hz CX
        go_wp2_with (first
          | (go_at_call 15; refine (CZ _ HG2.out).mono ?_; rintro e w5 ⟨v5, rfl, hv, hk⟩; have HV5 := Lib.hid hv; have HK5 := Lib.hid hk; have HG5 := Lib.hid (HG2.out.kp hk); clear hv hk)
          | (go_at_call 17; refine (tokens_ok _ _ ts us false _ (HV1.out.kp (kp_then HKR.out HK5.out)) HV5.out HS.out).mono ?_; rintro e w6 ⟨rfl, hk⟩; have HK6 := Lib.hid hk; have HG6 := Lib.hid (HG5.out.kp hk); clear hk)
          | (go_at_call 14; refine (alive_ok _ HG6.out).mono ?_; rintro e w7 ⟨rfl, hk⟩; have HK7 := Lib.hid hk; clear hk))
        go_ret
        exact ⟨rfl, kp_then HK1.out (kp_then HKR.out (kp_then HK5.out (kp_then HK6.out HK7.out)))⟩
end Go.Lx
