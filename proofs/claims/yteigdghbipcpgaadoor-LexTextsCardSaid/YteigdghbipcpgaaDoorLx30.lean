/- Tokens as a text, as the document's own answers have it; LexTexts. -/
import Derived.Test.YteigdghbipcpgaaDoorLx29
namespace Go.Lx
open Go.Proofs Go.RowKit Go.Lib Go.Ev
set_option maxRecDepth 100000

def joinTo (ts : List Tok) (j : Nat) : List UInt8 := join ((ts.take j).map srcL) [32]
theorem join_snoc : ∀ (xs : List (List UInt8)) (y : List UInt8), join (xs ++ [y]) [32] = if xs = [] then y else join xs [32] ++ 32 :: y
  | [], y => by simp [join_one]
  | [x], y => by
    show join (x :: y :: []) [32] = _
    rw [join_two, join_one, join_one, if_neg (by simp)]
  | x :: z :: r, y => by
    have ih := join_snoc (z :: r) y
    rw [if_neg (by simp)] at ih
    show join (x :: z :: (r ++ [y])) [32] = _
    rw [join_two, if_neg (by simp), join_two]
    have : z :: (r ++ [y]) = (z :: r) ++ [y] := rfl
    rw [this, ih]
    simp
theorem joinTo_succ {ts : List Tok} {j : Nat} {t : Tok} (h : ts[j]? = some t) : joinTo ts (j + 1) = if j = 0 then srcL t else joinTo ts j ++ 32 :: srcL t := by
  obtain ⟨hj, ht⟩ := List.getElem?_eq_some_iff.1 h
  unfold joinTo
  rw [List.take_succ_eq_append_getElem hj, ht, List.map_append, List.map_cons, List.map_nil, join_snoc]
  by_cases h0 : j = 0
  · subst h0; simp
  · rw [if_neg, if_neg h0]
    intro e
    have h1 : ((ts.take j).map srcL).length = 0 := by rw [e]; rfl
    rw [List.length_map, List.length_take] at h1
    omega
theorem joinTo_mono {ts : List Tok} {j : Nat} {t : Tok} (h : ts[j]? = some t) : (joinTo ts j).length ≤ (joinTo ts (j + 1)).length := by
  rw [joinTo_succ h]
  split
  · rename_i h0; subst h0; simp [joinTo, join_nil]
  · simp

set_option maxHeartbeats 4000000 in
theorem rtext_ok (v : Value) (ts : List Tok) (w : World) (hv : ToksV w v ts) (hsz : ∀ t ∈ ts, t.text.length ≤ 140737488355328) (hn : ts.length ≤ 4398046511104) :
    Calls Tryd.prog 19 #[v] w fun e w' => e = .returned (.tuple #[.string ⟨(tText (textL ts)).toArray⟩, .int .i64 (tErr (textL ts))]) ∧ Kp w.heap.size w w' := by
  have HV := Lib.hid hv
  have HSZ := Lib.hid hsz
  obtain ⟨base, c, rfl⟩ := hv.len
  clear hv hsz
  go_enter Tryd.func19, Tryd.ntmps19
  go_wp2_with fail
  go_loopg [4, 5, 6] ts.length (fun gk v4 v5 v6 wr => ∃ (j : Nat) (s : ByteArray) (b : Bool), v4 = .string s ∧ v5 = .bool b ∧ v6 = .int .i64 j ∧ j + gk = ts.length ∧ (ts.take j).all isTok = true ∧
    b = decide (1200 < ts.length ∨ 4000 < (joinTo ts j).length) ∧ (b = false → s.data.toList = joinTo ts j) ∧ Kp w.heap.size w wr)
  case atStart => exact ⟨0, ⟨#[]⟩, decide (1200 < ts.length), rfl, by simp; omega, rfl, by omega, by simp, by simp [joinTo, join_nil], fun _ => rfl, Kp.refl _ _⟩
  case round =>
    obtain ⟨j, s, b, rfl, rfl, rfl, hgk, hall, hb, hsj, hkp⟩ := hrel
    have HALL := Lib.hid hall
    have HKP := Lib.hid hkp
    have HB := Lib.hid hb
    have HSJ := Lib.hid hsj
    clear hall hkp hb hsj
    by_cases hlt : j < ts.length
    · obtain ⟨t, ht⟩ : ∃ t, ts[j]? = some t := ⟨_, List.getElem?_eq_getElem hlt⟩
      obtain ⟨b0, off, cc, hve, hcap, hc0, hc1, hc2⟩ := HV.out.row3 ht
      injection hve with e1 e2 e3
      subst e1 e3
      have hc0 := HKP.out.cells hc0
      have hc1 := HKP.out.cells hc1
      have hc2 := HKP.out.cells hc2
      have htx := HSZ.out t (List.mem_of_getElem? ht)
      have htake : ts.take (j + 1) = ts.take j ++ [t] := by
        rw [List.take_succ_eq_append_getElem hlt]
        rw [List.getElem?_eq_getElem hlt] at ht
        rw [Option.some.inj ht]
      have HTK := Lib.hid htake
      have HT := Lib.hid ht
      have HJ := Lib.hid (joinTo_succ ht)
      have HMO := Lib.hid (joinTo_mono ht)
      clear htake ht e2
      obtain ⟨tk, tt, tp⟩ := t
      simp only [] at hc0 hc1 hc2 htx
      have hyl : (⟨tt.toArray⟩ : ByteArray).size = tt.length := by rw [Lib.size_eq]
      have C31 := fun w => rword_ok tk tp ⟨tt.toArray⟩ (by omega) w
      simp only [List.toList_toArray] at C31
      clear hyl htx
      have hjl : (j : Int) < (ts.length : Int) := by omega
      have hx : decide ((j : Int) < (ts.length : Int)) = true := by simp; omega
      cases hib : isTok ⟨tk, tt, tp⟩
      · rw [hib] at C31
        have hv : textL ts = .form := by
          unfold textL
          rw [if_pos]
          rw [List.all_eq_false]
          exact ⟨_, List.mem_of_getElem? HT.out, by rw [hib]; simp⟩
        have HF := Lib.hid hv
        clear hv hib
        generalize (⟨tt.toArray⟩ : ByteArray) = y at *
        go_wp2_with (go_at_call 31; refine (C31 _).mono ?_; rintro e w3 ⟨⟨z, rfl, _⟩, hk3⟩; have HK3 := Lib.hid hk3; clear hk3)
        go_ret2
        rw [HF.out]
        exact ⟨rfl, kp_then HKP.out HK3.out⟩
      · rw [hib] at C31
        have HIB := Lib.hid hib
        have HSH := Lib.hid (src_short hib)
        clear hib
        generalize (⟨tt.toArray⟩ : ByteArray) = y at *
        have HA9 := Lib.hid (show (ts.take (j + 1)).all isTok = true by
          rw [HTK.out, List.all_append, HALL.out]
          simp [HIB.out])
        cases b
        · have hs := HSJ.out rfl
          have hbb := of_decide_eq_false HB.out.symm
          have hsl : s.size ≤ 4000 := by rw [Lib.size_eq, hs]; omega
          have hn12 : ts.length ≤ 1200 := by omega
          have hsi : (s.size : Int) ≤ 8388608 := by omega
          have HN12 := Lib.hid hn12
          clear hbb hs
          by_cases hj0 : j = 0
          · have hx2 : decide (0 < j) = false := by simp; omega
            have HJ0 := Lib.hid hj0
            clear hj0
            go_wp2_with (go_at_call 31; refine (C31 _).mono ?_; rintro e w3 ⟨⟨z, rfl, hz⟩, hk3⟩; have HK3 := Lib.hid hk3; have hzs := hz rfl; have hzl : z.size ≤ 18 := (by rw [hzs, Lib.size_eq]; exact HSH.out); have hzi : (z.size : Int) ≤ 8388608 := (by omega); have HZS := Lib.hid hzs; clear hk3 hz hzs)
            have hsum : (s ++ z).data.toList = joinTo ts (j + 1) := by
              rw [HJ.out, if_pos HJ0.out, ByteArray.data_append, Array.toList_append, HSJ.out trivial, HZS.out, HJ0.out]
              simp [joinTo, join_nil]
            have hdec : decide (4000 < (s.size : Int) + (z.size : Int)) = decide (1200 < ts.length ∨ 4000 < (joinTo ts (j + 1)).length) := by
              have h12 := HN12.out
              have hq := size_app s z
              rw [Lib.size_eq (s ++ z), hsum] at hq
              rw [Bool.eq_iff_iff, decide_eq_true_iff, decide_eq_true_iff]
              omega
            have HD := Lib.hid hdec
            have HSUM := Lib.hid hsum
            clear hdec hsum
            go_roundg (ts.length - (j + 1))
            case measure => omega
            case rel => exact ⟨j + 1, s ++ z, _, rfl, rfl, by go_num, by omega, HA9.out, HD.out, (fun _ => HSUM.out), kp_then HKP.out HK3.out⟩
          · have hx2 : decide (0 < j) = true := by simp; omega
            have HJ0 := Lib.hid hj0
            clear hj0
            have hs1 : (s ++ ⟨#[32]⟩).size = s.size + 1 := by rw [size_app]; rfl
            have hs2 : ((s ++ ⟨#[32]⟩).size : Int) ≤ 8388608 := by omega
            go_wp2_with (go_at_call 31; refine (C31 _).mono ?_; rintro e w3 ⟨⟨z, rfl, hz⟩, hk3⟩; have HK3 := Lib.hid hk3; have hzs := hz rfl; have hzl : z.size ≤ 18 := (by rw [hzs, Lib.size_eq]; exact HSH.out); have hzi : (z.size : Int) ≤ 8388608 := (by omega); have HZS := Lib.hid hzs; clear hk3 hz hzs)
            have hsum : (s ++ ⟨#[32]⟩ ++ z).data.toList = joinTo ts (j + 1) := by
              rw [HJ.out, if_neg HJ0.out, ByteArray.data_append, ByteArray.data_append, Array.toList_append, Array.toList_append, HSJ.out trivial, HZS.out]
              simp
            have hdec : decide (4000 < (s.size : Int) + 1 + (z.size : Int)) = decide (1200 < ts.length ∨ 4000 < (joinTo ts (j + 1)).length) := by
              have h12 := HN12.out
              have hq := size_app (s ++ ⟨#[32]⟩) z
              rw [Lib.size_eq (s ++ ⟨#[32]⟩ ++ z), hsum, hs1] at hq
              rw [Bool.eq_iff_iff, decide_eq_true_iff, decide_eq_true_iff]
              omega
            have HD := Lib.hid hdec
            have HSUM := Lib.hid hsum
            clear hdec hsum
            go_roundg (ts.length - (j + 1))
            case measure => omega
            case rel => exact ⟨j + 1, s ++ ⟨#[32]⟩ ++ z, _, rfl, rfl, by go_num, by omega, HA9.out, HD.out, (fun _ => HSUM.out), kp_then HKP.out HK3.out⟩
        · have HB9 := Lib.hid (show true = decide (1200 < ts.length ∨ 4000 < (joinTo ts (j + 1)).length) by
            have h := HB.out
            have hm := HMO.out
            rw [eq_comm, decide_eq_true_iff] at h ⊢
            omega)
          go_wp2_with (go_at_call 31; refine (C31 _).mono ?_; rintro e w3 ⟨⟨z, rfl, _⟩, hk3⟩; have HK3 := Lib.hid hk3; clear hk3)
          go_roundg (ts.length - (j + 1))
          case measure => omega
          case rel => exact ⟨j + 1, s, true, rfl, rfl, by go_num, by omega, HA9.out, HB9.out, (fun h => by cases h), kp_then HKP.out HK3.out⟩
    · have hj : j = ts.length := by omega
      have hall := HALL.out
      have hJ : joinTo ts j = join (ts.map srcL) [32] := by unfold joinTo; rw [hj, List.take_length]
      rw [hj, List.take_length] at hall
      have hx : decide ((j : Int) < (ts.length : Int)) = false := by simp; omega
      have hb := HB.out
      rw [hJ] at hb
      cases b
      · have hv : textL ts = .ok s.data.toList := by
          rw [HSJ.out rfl, hJ]
          unfold textL
          rw [if_neg (by rw [hall]; simp), if_neg]
          exact of_decide_eq_false hb.symm
        have HF := Lib.hid hv
        clear hv hb hJ hall
        go_wp2_with fail
        go_ret2
        rw [HF.out]
        simp only [tText, tErr, Lib.mk_data]
        exact ⟨rfl, HKP.out⟩
      · have hv : textL ts = .long := by
          unfold textL
          rw [if_neg (by rw [hall]; simp), if_pos]
          exact of_decide_eq_true hb.symm
        have HF := Lib.hid hv
        clear hv hb hJ hall
        go_wp2_with fail
        go_ret2
        rw [HF.out]
        exact ⟨rfl, HKP.out⟩
end Go.Lx
