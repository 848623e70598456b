/- Tokens as a text. -/
import Derived.Test.YteigdghbipcpgaaDoorLx25
namespace Go.Lx
open Go.Proofs Go.RowKit Go.Lib Go.Ev
set_option maxRecDepth 100000

theorem num_len {l : List UInt8} (h : numB l = true) : l.length ≤ 14 := by
  cases l with
  | nil => simp
  | cons c d =>
    rw [numB_cons] at h
    split at h
    · unfold magB at h
      simp only [Bool.and_eq_true, decide_eq_true_eq] at h
      have := h.1.1.1.2
      simp only [List.length_cons]; omega
    · unfold magB at h
      simp only [Bool.and_eq_true, decide_eq_true_eq] at h
      have := h.1.1.1.2
      omega
theorem wd_len {k : Int} {l : List UInt8} (h : wdB k l = true) : l.length ≤ 16 := by
  unfold wdB at h
  simp only [Bool.and_eq_true, decide_eq_true_eq] at h
  exact h.1.1.2
theorem src_short {t : Tok} (h : isTok t = true) : (srcL t).length ≤ 18 := by
  obtain ⟨k, x, p⟩ := t
  unfold isTok at h
  simp only at h
  by_cases h1 : k = 1
  · subst h1
    simp only [if_true] at h
    rw [intB_eq] at h
    unfold srcL
    simp only [if_true, srcN_len]
    have := num_len h
    omega
  rw [if_neg h1] at h
  unfold srcL
  simp only
  rw [if_neg h1]
  have hx : x.length ≤ 16 := by
    by_cases h2 : k = 2
    · rw [if_pos h2] at h
      unfold atB at h
      simp only [Bool.or_eq_true, beq_iff_eq] at h
      rcases h with (h | h) | h
      · subst h; simp
      · subst h; simp
      · exact wd_len h
    rw [if_neg h2] at h
    by_cases h3 : k = 3
    · rw [if_pos h3] at h; exact wd_len h
    rw [if_neg h3] at h
    by_cases h4 : k = 4
    · rw [if_pos h4] at h; exact wd_len (kw_word h)
    rw [if_neg h4] at h
    by_cases h5 : k = 5
    · rw [if_pos h5] at h
      obtain ⟨c, d, rfl, hd, _⟩ := sym_parts h
      simp only [List.length_cons]; omega
    rw [if_neg h5] at h
    cases h
  split
  · simp only [List.length_cons, List.length_append, List.length_nil]; omega
  · omega
theorem join_short : ∀ (ts : List Tok), ts.all isTok = true → (join (ts.map srcL) [32]).length ≤ 19 * ts.length := fun ts h => by
  have h1 := join_len (ts.map srcL)
  have h2 : ((ts.map srcL).map fun x => x.length + 1).sum ≤ 19 * ts.length := by
    clear h1
    induction ts with
    | nil => simp
    | cons t ts ih =>
      rw [List.all_cons, Bool.and_eq_true] at h
      have := src_short h.1
      have := ih h.2
      simp only [List.map_cons, List.sum_cons, List.length_cons] at this ⊢
      omega
  omega

/-- What a text of tokens hands back. -/
def tText : TRes → List UInt8
  | .ok s => s
  | _ => []
def tErr : TRes → Int
  | .ok _ => 0
  | .form => 2
  | .long => 3
def strC (xs : List (List UInt8)) : List Value := xs.map fun x => .string ⟨x.toArray⟩

theorem Tryd.info9 : (Tryd.prog.info? 9).map (fun i => (i.zero, i.size, i.bytes)) = some (some (.string ⟨#[]⟩), 1, 16) := by kernel_rfl

theorem all_take' {p : Tok → Bool} {l : List Tok} (h : l.all p = true) (k : Nat) : (l.take k).all p = true := by
  rw [List.all_eq_true] at h ⊢
  exact fun c hc => h c (List.mem_of_mem_take hc)

/-- strings.Join at a slice of the call's own. -/
theorem join_ok (xs : List (List UInt8)) (B : Nat) (v : Value) (w : World) (h : Own B 1 w v xs.length (strC xs)) (hN : xs.length ≤ 140737488355328) (hlen : (join xs [32]).length ≤ 140737488355328) :
    Calls Tryd.prog 30 #[v, .string ⟨#[32]⟩] w fun e w' => e = .returned (.string ⟨(join xs [32]).toArray⟩) ∧ Kp w.heap.size w w' := by
  rcases Nat.eq_zero_or_pos xs.length with h0 | h0
  · obtain rfl := List.length_eq_zero_iff.1 h0
    obtain ⟨a, c, rfl, _⟩ := own_slice h
    refine (Tryd.strings_Join_none a c ⟨#[32]⟩ w).mono ?_
    rintro e w' ⟨rfl, rfl⟩
    exact ⟨rfl, Kp.refl _ _⟩
  · obtain ⟨b, off, cap, rfl, hs⟩ := h.seg h0
    have e : (xs.map fun x => (⟨x.toArray⟩ : ByteArray)).map (·.data.toList) = xs := by
      rw [List.map_map]
      conv => rhs; rw [← List.map_id xs]
      apply List.map_congr_left
      intro x _
      simp
    have hl : (xs.map fun x => (⟨x.toArray⟩ : ByteArray)).length = xs.length := by simp
    have := Tryd.strings_Join b off cap (xs.map fun x => ⟨x.toArray⟩) ⟨#[32]⟩ w (fun j x hj => by
      apply hs.cell
      unfold strC
      rw [List.getElem?_map] at hj ⊢
      cases hx : xs[j]? with
      | none => rw [hx] at hj; cases hj
      | some y =>
        rw [hx] at hj
        simp only [Option.map_some, Option.some.injEq] at hj
        subst hj
        rfl) hs.lt (by rw [hl]; exact hN) (by rw [hl]; exact hs.fit) (by rw [e]; exact hlen)
    rw [e, hl] at this
    exact this.mono fun e w' ⟨h1, h2⟩ => ⟨h1, .of_below h2⟩

set_option maxHeartbeats 4000000 in
theorem text_ok (v : Value) (ts : List Tok) (w : World) (hv : ToksV w v ts) (hsz : ∀ t ∈ ts, t.text.length ≤ 140737488355328) (hn : ts.length ≤ 4398046511104) (hg : Glb w) :
    Calls Tryd.prog 18 #[v] w fun e w' => e = .returned (.tuple #[.string ⟨(tText (textL ts)).toArray⟩, .int .i64 (tErr (textL ts))]) ∧ Kp w.heap.size w w' := by
  have HG := Lib.hid hg
  have HV := Lib.hid hv
  have HSZ := Lib.hid hsz
  obtain ⟨base, c, rfl⟩ := hv.len
  clear hg hv hsz
  obtain ⟨i9, hi0, hz0, hz1, hz2⟩ := info_parts Tryd.info9
  have HZ := Lib.hid (And.intro hi0 (And.intro hz0 (And.intro hz1 hz2)))
  clear hi0 hz0 hz1 hz2
  go_enter Tryd.func18, Tryd.ntmps18
  go_wp2_with fail
  go_loopg [4, 10] ts.length (fun gk v4 v10 wr => ∃ j : Nat, v10 = .int .i64 j ∧ j + gk = ts.length ∧ (ts.take j).all isTok = true ∧ Own w.heap.size 1 wr v4 j (strC ((ts.take j).map srcL)) ∧ Kp w.heap.size w wr)
  case atStart => exact ⟨0, rfl, by omega, by simp, ⟨rfl, .inl ⟨rfl, rfl⟩⟩, Kp.refl _ _⟩
  case round =>
    obtain ⟨j, rfl, hgk, hall, how, hkp⟩ := hrel
    have HALL := Lib.hid hall
    have HOW := Lib.hid how
    have HKP := Lib.hid hkp
    obtain ⟨sa, sc, rfl, hsa⟩ := own_slice how
    clear hall how hkp hsa
    by_cases hlt : j < ts.length
    · obtain ⟨t, ht⟩ : ∃ t, ts[j]? = some t := ⟨_, List.getElem?_eq_getElem hlt⟩
      obtain ⟨b, off, cc, hve, hcap, hc0, hc1, hc2⟩ := HV.out.row3 ht
      injection hve with e1 e2 e3
      subst e1 e3
      have hc0 := HKP.out.cells hc0
      have hc1 := HKP.out.cells hc1
      have hc2 := HKP.out.cells hc2
      have htx := HSZ.out t (List.mem_of_getElem? ht)
      have htake : ts.take (j + 1) = ts.take j ++ [t] := by
        rw [List.take_succ_eq_append_getElem hlt]
        rw [List.getElem?_eq_getElem hlt] at ht
        rw [Option.some.inj ht]
      have HTK := Lib.hid htake
      have HT := Lib.hid ht
      clear htake ht e2
      obtain ⟨tk, tt, tp⟩ := t
      simp only [] at hc0 hc1 hc2 htx
      have hyl : (⟨tt.toArray⟩ : ByteArray).size = tt.length := by rw [Lib.size_eq]
      have C26 := fun w hg => isTok_ok tk tp ⟨tt.toArray⟩ (by omega) w hg
      have C29 := fun w => source_ok tk tp ⟨tt.toArray⟩ (by omega) w
      simp only [List.toList_toArray] at C26 C29
      clear hyl htx
      generalize hsr : srcL ⟨tk, tt, tp⟩ = sr at C29
      have HSR := Lib.hid hsr
      clear hsr
      have hjl : (j : Int) < (ts.length : Int) := by omega
      have hx : decide ((j : Int) < (ts.length : Int)) = true := by simp; omega
      cases hib : isTok ⟨tk, tt, tp⟩
      · rw [hib] at C26
        have hv : textL ts = .form := by
          unfold textL
          rw [if_pos]
          rw [List.all_eq_false]
          exact ⟨_, List.mem_of_getElem? HT.out, by rw [hib]; simp⟩
        have HF := Lib.hid hv
        clear hv hib
        generalize (⟨tt.toArray⟩ : ByteArray) = y at *
        go_wp2_with (go_at_call 26; refine (C26 _ ((HG.out.kp HKP.out).alloc _)).mono ?_; rintro e w3 ⟨rfl, hk3⟩; have HK3 := Lib.hid (kp_box hk3); clear hk3)
        go_ret2
        rw [HF.out]
        exact ⟨rfl, kp_then HKP.out HK3.out⟩
      · rw [hib] at C26
        have HIB := Lib.hid hib
        clear hib
        generalize (⟨tt.toArray⟩ : ByteArray) = y at *
        generalize hz : (⟨sr.toArray⟩ : ByteArray) = z at *
        have HZZ := Lib.hid hz
        clear hz
        go_wp2_with (first
          | (go_at_call 26; refine (C26 _ ((HG.out.kp HKP.out).alloc _)).mono ?_; rintro e w3 ⟨rfl, hk3⟩; obtain ⟨d0, d1, d2, hf, hz3, hkp3⟩ := box3 hk3; have HK3 := Lib.hid hkp3; clear hk3 hkp3)
          | (go_at_call 29; refine (C29 _).mono ?_; rintro e w5 ⟨rfl, hk5⟩; have HK5 := Lib.hid hk5; clear hk5; have HAL := Lib.hid (show Kp wr.heap.size wr (w5.alloc (.cells #[.string z] 9)) from (kp_then HK3.out HK5.out).alloc (by have := HK3.out.size; have := HK5.out.size; omega) _); have HNW := Lib.hid (news_alloc w5 [.string z] 9))
          | (at_builtin; obtain ⟨hi0, hz0, hz1, hz2⟩ := HZ.out; refine wpList_append_mine rfl (.tmp 17) (.tmp 20) 38 rfl w.heap.size 9 i9 (.string ⟨#[]⟩) 1 16 Tryd.underlying38 hi0 hz0 hz1 hz2 rfl (by decide) (.slice sa j sc) j (strC ((ts.take j).map srcL)) rfl (HOW.out.kp HAL.out) ⟨w5.heap.size, 0, none⟩ 1 1 [.string z] rfl rfl HNW.out (by simp [Value.oneCell']) (by unfold maxLen; omega) (by omega) (by have := HKP.out.size; have := HAL.out.size; omega) ?_; clear hi0 hz0 hz1 hz2; intro v' w8 hown8 hgr8 hblk8; have H8 := Lib.hid hown8; have K8 := Lib.hid (Kp.of_grown_mine (kp_then HKP.out HAL.out) (HOW.out.kp HAL.out) hgr8 (by have := HKP.out.size; have := HAL.out.size; omega)); clear hown8 hgr8 hblk8))
        have H9 := Lib.hid (show Own w.heap.size 1 w8 v' (j + 1) (strC ((ts.take (j + 1)).map srcL)) by
          rw [HTK.out, List.map_append]
          have e : strC ((ts.take j).map srcL ++ [srcL ⟨tk, tt, tp⟩]) = strC ((ts.take j).map srcL) ++ [Value.string z] := by
            unfold strC
            rw [List.map_append, HSR.out]
            simp [HZZ.out]
          simp only [List.map_cons, List.map_nil]
          rw [e]
          exact H8.out)
        have HA9 := Lib.hid (show (ts.take (j + 1)).all isTok = true by
          rw [HTK.out, List.all_append, HALL.out]
          simp [HIB.out])
        go_roundg (ts.length - (j + 1))
        case measure => omega
        case rel => exact ⟨j + 1, by go_num, by omega, HA9.out, H9.out, K8.out⟩
    · have hj : j = ts.length := by omega
      subst hj
      have hall := HALL.out
      rw [List.take_length] at hall
      have hown := HOW.out
      rw [List.take_length] at hown
      have hjs := join_short ts hall
      have C30 := fun w' hk => join_ok (ts.map srcL) w.heap.size (.slice sa ts.length sc) w' (by rw [List.length_map]; exact hown.kp hk) (by rw [List.length_map]; omega) (by omega)
      have hv : textL ts = if 1200 < ts.length ∨ 4000 < (join (ts.map srcL) [32]).length then .long else .ok (join (ts.map srcL) [32]) := by
        unfold textL
        rw [if_neg (by rw [hall]; simp)]
      have HVV := Lib.hid hv
      generalize join (ts.map srcL) [32] = J at *
      have hJ : (⟨J.toArray⟩ : ByteArray).size = J.length := by rw [Lib.size_eq]
      rw [← hJ] at hv
      have HV2 := Lib.hid hv
      clear hv hall hown
      by_cases h12 : 1200 < ts.length
      · have hf : textL ts = .long := by rw [HVV.out, if_pos (.inl h12)]
        have HF := Lib.hid hf
        have hx1 : decide (1200 < (ts.length : Int)) = true := by simp; omega
        clear hf
        generalize (⟨J.toArray⟩ : ByteArray) = z at *
        go_wp2_with (go_at_call 30; refine (C30 _ (Kp.refl _ _)).mono ?_; rintro e w5 ⟨rfl, hk5⟩; have HK5 := Lib.hid hk5; clear hk5)
        go_ret2
        rw [HF.out]
        exact ⟨rfl, kp_then HKP.out HK5.out⟩
      have hx1 : decide (1200 < (ts.length : Int)) = false := by simp; omega
      by_cases h40 : 4000 < J.length
      · have hf : textL ts = .long := by rw [HVV.out, if_pos (.inr h40)]
        have HF := Lib.hid hf
        have hx2 : decide (4000 < ((⟨J.toArray⟩ : ByteArray).size : Int)) = true := by simp; omega
        clear hf
        generalize (⟨J.toArray⟩ : ByteArray) = z at *
        go_wp2_with (go_at_call 30; refine (C30 _ (Kp.refl _ _)).mono ?_; rintro e w5 ⟨rfl, hk5⟩; have HK5 := Lib.hid hk5; clear hk5)
        go_ret2
        rw [HF.out]
        exact ⟨rfl, kp_then HKP.out HK5.out⟩
      · have hf : textL ts = .ok J := by rw [HVV.out, if_neg (by omega)]
        have HF := Lib.hid hf
        have hx2 : decide (4000 < ((⟨J.toArray⟩ : ByteArray).size : Int)) = false := by simp; omega
        clear hf
        go_wp2_with (go_at_call 30; refine (C30 _ (Kp.refl _ _)).mono ?_; rintro e w5 ⟨rfl, hk5⟩; have HK5 := Lib.hid hk5; clear hk5)
        go_ret2
        rw [HF.out]
        exact ⟨rfl, kp_then HKP.out HK5.out⟩
end Go.Lx
