/- How a token is written, as the document's own answers have it: integers. -/
import Derived.Test.YteigdghbipcpgaaDoorLx27
namespace Go.Lx
open Go.Proofs Go.RowKit Go.Lib Go.Ev
set_option maxRecDepth 100000

/-- What the document's own Word hands back. -/
def WordAns (ok : Bool) (src : List UInt8) (e : Ending) : Prop := ∃ z : ByteArray, e = .returned (.tuple #[.string z, .bool ok]) ∧ (ok = true → z = ⟨src.toArray⟩)
theorem mag_nodig {neg : Bool} {d : List UInt8} (h : d.all digB = false) : magB neg d = false := by
  unfold magB; rw [h]; simp
theorem word_no {src : List UInt8} {ok : Bool} (z : ByteArray) (h : ok = false) : WordAns ok src (.returned (.tuple #[.string z, .bool false])) := by
  subst h
  exact ⟨z, rfl, fun h => by cases h⟩
theorem word_yes {src : List UInt8} {ok : Bool} (z : ByteArray) (h : ok = true) (hz : z = ⟨src.toArray⟩) : WordAns ok src (.returned (.tuple #[.string z, .bool true])) := by
  subst h
  exact ⟨z, rfl, fun _ => hz⟩

set_option maxHeartbeats 2000000 in
theorem word_neg (y : ByteArray) (hs : y.size ≤ 140737488355328) (h0 : 0 < y.size) (hc : y[0] = 45) (p : Int) (w : World) (ok : Bool) (hok : ok = magB true (y.extract 1 y.size).data.toList) :
    Calls Tryd.prog 31 #[.agg #[.int .i64 1, .string y, .int .i64 p]] w fun e w' => WordAns ok (126 :: (y.extract 1 y.size).data.toList) e ∧ Kp w.heap.size w w' := by
  have e0 : ((y[0].toNat : Int) == 45) = true := by rw [show (45 : Int) = ((45 : UInt8).toNat : Int) from rfl, byte_eq]; simpa using hc
  clear hc
  have h0' : (0 : Int) < (y.size : Int) := by omega
  have hDs : (y.extract 1 y.size).size = y.size - 1 := by rw [Lib.size_eq, ext_drop, List.length_drop, ← Lib.size_eq y]
  have hsl : (1 : Int) ≤ (y.size : Int) := by omega
  obtain ⟨D, hD⟩ : ∃ D, y.extract 1 y.size = D := ⟨_, rfl⟩
  rw [hD] at hok hDs ⊢
  have hDl : D.size ≤ 140737488355328 := by omega
  have hDl2 : (D.size : Int) ≤ 140737488355328 := by omega
  clear hDs
  have HM := Lib.hid hok
  clear hok
  have hall : ∀ k (h : k < D.size), (D.data.toList.take (k + 1)).all digB = ((D.data.toList.take k).all digB && digB D[k]) := fun k h => all_step h
  have hnot : ∀ k (h : k < D.size), digB D[k] = false → D.data.toList.all digB = false := fun k h hb => all_not h hb
  have HALL := Lib.hid hall
  have HNOT := Lib.hid hnot
  have hlen : D.data.toList.length = D.size := (Lib.size_eq D).symm
  have HLEN := Lib.hid hlen
  clear hall hnot hlen
  have C45 : ∀ (k : Nat) (h : k < D.size) w, Calls Tryd.prog 45 #[.string D, .int .i64 k] w fun e w' => e = .returned (.bool (digB D[k])) ∧ w' = w := fun k h w => by
    have := rdigit_ok D (by omega) k w
    rwa [pAt_lt h] at this
  go_enter Tryd.func31, Tryd.ntmps31
  by_cases hz1 : D.size < 1
  · have y1 : decide ((D.size : Int) < 1) = true := by simp; omega
    have HV := Lib.hid (show ok = false by rw [HM.out]; exact mag_none (.inl (by rw [HLEN.out]; omega)))
    go_wp2_with fail
    go_ret2
    exact ⟨word_no _ HV.out, (Kp.refl _ _).alloc (Nat.le_refl _) _⟩
  have y1 : decide ((D.size : Int) < 1) = false := by simp; omega
  by_cases hz2 : 13 < D.size
  · have y2 : decide (13 < (D.size : Int)) = true := by simp; omega
    have HV := Lib.hid (show ok = false by rw [HM.out]; exact mag_none (.inr (.inl (by rw [HLEN.out]; exact hz2))))
    go_wp2_with fail
    go_ret2
    exact ⟨word_no _ HV.out, (Kp.refl _ _).alloc (Nat.le_refl _) _⟩
  have y2 : decide (13 < (D.size : Int)) = false := by simp; omega
  go_wp2_with fail
  go_loopg [6] D.size (fun gk v wr => wr = w.alloc (.cells #[.int .i64 1, .string y, .int .i64 p] 35) ∧ ∃ k : Nat, v = .int .i64 k ∧ k + gk = D.size ∧ (D.data.toList.take k).all digB = true)
  case atStart => exact ⟨rfl, 0, rfl, by omega, by simp⟩
  case round =>
    obtain ⟨rfl, k, rfl, hgk, hl⟩ := hrel
    have HL := Lib.hid hl
    clear hl
    by_cases hlt : k < D.size
    · have CK := C45 k hlt
      have hx : decide ((k : Int) < (D.size : Int)) = true := by simp; omega
      cases hb : digB D[k]
      · rw [hb] at CK
        have HV := Lib.hid (show ok = false by rw [HM.out]; exact mag_nodig (HNOT.out k hlt hb))
        clear hb
        go_wp2_with (go_at_call 45; refine (CK _).mono ?_; rintro e w' ⟨rfl, rfl⟩)
        go_ret2
        exact ⟨word_no _ HV.out, (Kp.refl _ _).alloc (Nat.le_refl _) _⟩
      · rw [hb] at CK
        have HB := Lib.hid (show (D.data.toList.take (k + 1)).all digB = true by rw [HALL.out k hlt, HL.out, hb]; rfl)
        clear hb
        go_wp2_with (go_at_call 45; refine (CK _).mono ?_; rintro e w' ⟨rfl, rfl⟩)
        go_roundg (D.size - (k + 1))
        case measure => omega
        case rel => exact ⟨rfl, k + 1, by go_num, by omega, HB.out⟩
    · have hx : decide ((k : Int) < (D.size : Int)) = false := by simp; omega
      have hda := HL.out
      rw [List.take_of_length_le (by rw [HLEN.out]; omega)] at hda
      have HDA := Lib.hid hda
      clear hda
      have hd0 : 0 < D.size := by omega
      have hdi : (0 : Int) < (D.size : Int) := by omega
      have hh : D.data.toList.head? = some D[0] := by rw [head_cons hd0]; rfl
      by_cases h48 : D[0] = 48
      · have z1 : ((D[0].toNat : Int) == 48) = true := by rw [h48]; rfl
        by_cases hz3 : 1 < D.size
        · have y3 : decide (1 < (D.size : Int)) = true := by simp; omega
          have HV := Lib.hid (show ok = false by rw [HM.out]; exact mag_none (.inr (.inr ⟨by rw [hh, h48], .inl (by rw [HLEN.out]; exact hz3)⟩)))
          clear hh h48
          go_wp2_with fail
          go_ret2
          exact ⟨word_no _ HV.out, (Kp.refl _ _).alloc (Nat.le_refl _) _⟩
        have y3 : decide (1 < (D.size : Int)) = false := by simp; omega
        have HV := Lib.hid (show ok = false by rw [HM.out]; exact mag_none (.inr (.inr ⟨by rw [hh, h48], .inr rfl⟩)))
        clear hh h48
        go_wp2_with fail
        go_ret2
        exact ⟨word_no _ HV.out, (Kp.refl _ _).alloc (Nat.le_refl _) _⟩
      · have z1 : ((D[0].toNat : Int) == 48) = false := by rw [show (48 : Int) = ((48 : UInt8).toNat : Int) from rfl, byte_eq]; simpa using h48
        have hv : ok = decide (decV D.data.toList ≤ 1099511627776) := by
          rw [HM.out]
          exact mag_ok (by rw [HLEN.out]; omega) (by rw [HLEN.out]; omega) HDA.out (.inl (by rw [hh]; simpa using h48))
        have C56 := fun w => decimal_ok D (by omega) HDA.out w
        clear hh h48
        generalize decV D.data.toList = n at *
        by_cases hn : n ≤ 1099511627776
        · have z2 : decide (1099511627776 < (n : Int)) = false := by simp; omega
          have HV := Lib.hid (show ok = true by rw [hv]; exact decide_eq_true hn)
          clear hv
          go_wp2_with (go_at_call 56; refine (C56 _).mono ?_; rintro e w' ⟨rfl, rfl⟩)
          go_ret2
          exact ⟨word_yes _ HV.out (by apply ByteArray.ext; simp), (Kp.refl _ _).alloc (Nat.le_refl _) _⟩
        · have z2 : decide (1099511627776 < (n : Int)) = true := by simp; omega
          have HV := Lib.hid (show ok = false by rw [hv]; exact decide_eq_false hn)
          clear hv
          go_wp2_with (go_at_call 56; refine (C56 _).mono ?_; rintro e w' ⟨rfl, rfl⟩)
          go_ret2
          exact ⟨word_no _ HV.out, (Kp.refl _ _).alloc (Nat.le_refl _) _⟩

set_option maxHeartbeats 2000000 in
theorem word_pos (y : ByteArray) (hs : y.size ≤ 140737488355328) (h0 : 0 < y.size) (hc : y[0] ≠ 45) (p : Int) (w : World) (ok : Bool) (hok : ok = magB false y.data.toList) :
    Calls Tryd.prog 31 #[.agg #[.int .i64 1, .string y, .int .i64 p]] w fun e w' => WordAns ok (y.data.toList) e ∧ Kp w.heap.size w w' := by
  have e0 : ((y[0].toNat : Int) == 45) = false := by rw [show (45 : Int) = ((45 : UInt8).toNat : Int) from rfl, byte_eq]; simpa using hc
  clear hc
  have h0' : (0 : Int) < (y.size : Int) := by omega
  have HM := Lib.hid hok
  clear hok
  have hall : ∀ k (h : k < y.size), (y.data.toList.take (k + 1)).all digB = ((y.data.toList.take k).all digB && digB y[k]) := fun k h => all_step h
  have hnot : ∀ k (h : k < y.size), digB y[k] = false → y.data.toList.all digB = false := fun k h hb => all_not h hb
  have HALL := Lib.hid hall
  have HNOT := Lib.hid hnot
  have hlen : y.data.toList.length = y.size := (Lib.size_eq y).symm
  have HLEN := Lib.hid hlen
  clear hall hnot hlen
  have C45 : ∀ (k : Nat) (h : k < y.size) w, Calls Tryd.prog 45 #[.string y, .int .i64 k] w fun e w' => e = .returned (.bool (digB y[k])) ∧ w' = w := fun k h w => by
    have := rdigit_ok y (by omega) k w
    rwa [pAt_lt h] at this
  go_enter Tryd.func31, Tryd.ntmps31
  by_cases hz1 : y.size < 1
  · omega
  have y1 : decide ((y.size : Int) < 1) = false := by simp; omega
  by_cases hz2 : 13 < y.size
  · have y2 : decide (13 < (y.size : Int)) = true := by simp; omega
    have HV := Lib.hid (show ok = false by rw [HM.out]; exact mag_none (.inr (.inl (by rw [HLEN.out]; exact hz2))))
    go_wp2_with fail
    go_ret2
    exact ⟨word_no _ HV.out, (Kp.refl _ _).alloc (Nat.le_refl _) _⟩
  have y2 : decide (13 < (y.size : Int)) = false := by simp; omega
  go_wp2_with fail
  go_loopg [6] y.size (fun gk v wr => wr = w.alloc (.cells #[.int .i64 1, .string y, .int .i64 p] 35) ∧ ∃ k : Nat, v = .int .i64 k ∧ k + gk = y.size ∧ (y.data.toList.take k).all digB = true)
  case atStart => exact ⟨rfl, 0, rfl, by omega, by simp⟩
  case round =>
    obtain ⟨rfl, k, rfl, hgk, hl⟩ := hrel
    have HL := Lib.hid hl
    clear hl
    by_cases hlt : k < y.size
    · have CK := C45 k hlt
      have hx : decide ((k : Int) < (y.size : Int)) = true := by simp; omega
      cases hb : digB y[k]
      · rw [hb] at CK
        have HV := Lib.hid (show ok = false by rw [HM.out]; exact mag_nodig (HNOT.out k hlt hb))
        clear hb
        go_wp2_with (go_at_call 45; refine (CK _).mono ?_; rintro e w' ⟨rfl, rfl⟩)
        go_ret2
        exact ⟨word_no _ HV.out, (Kp.refl _ _).alloc (Nat.le_refl _) _⟩
      · rw [hb] at CK
        have HB := Lib.hid (show (y.data.toList.take (k + 1)).all digB = true by rw [HALL.out k hlt, HL.out, hb]; rfl)
        clear hb
        go_wp2_with (go_at_call 45; refine (CK _).mono ?_; rintro e w' ⟨rfl, rfl⟩)
        go_roundg (y.size - (k + 1))
        case measure => omega
        case rel => exact ⟨rfl, k + 1, by go_num, by omega, HB.out⟩
    · have hx : decide ((k : Int) < (y.size : Int)) = false := by simp; omega
      have hda := HL.out
      rw [List.take_of_length_le (by rw [HLEN.out]; omega)] at hda
      have HDA := Lib.hid hda
      clear hda
      have hd0 : 0 < y.size := by omega
      have hdi : (0 : Int) < (y.size : Int) := by omega
      have hh : y.data.toList.head? = some y[0] := by rw [head_cons hd0]; rfl
      by_cases h48 : y[0] = 48
      · have z1 : ((y[0].toNat : Int) == 48) = true := by rw [h48]; rfl
        by_cases hz3 : 1 < y.size
        · have y3 : decide (1 < (y.size : Int)) = true := by simp; omega
          have HV := Lib.hid (show ok = false by rw [HM.out]; exact mag_none (.inr (.inr ⟨by rw [hh, h48], .inl (by rw [HLEN.out]; exact hz3)⟩)))
          clear hh h48
          go_wp2_with fail
          go_ret2
          exact ⟨word_no _ HV.out, (Kp.refl _ _).alloc (Nat.le_refl _) _⟩
        have y3 : decide (1 < (y.size : Int)) = false := by simp; omega
        have hv : ok = decide (decV y.data.toList ≤ 1099511627776) := by
          rw [HM.out]
          exact mag_ok (by rw [HLEN.out]; omega) (by rw [HLEN.out]; omega) HDA.out (.inr ⟨by rw [HLEN.out]; omega, rfl⟩)
        have C56 := fun w => decimal_ok y (by omega) HDA.out w
        clear hh h48
        generalize decV y.data.toList = n at *
        by_cases hn : n ≤ 1099511627776
        · have z2 : decide (1099511627776 < (n : Int)) = false := by simp; omega
          have HV := Lib.hid (show ok = true by rw [hv]; exact decide_eq_true hn)
          clear hv
          go_wp2_with (go_at_call 56; refine (C56 _).mono ?_; rintro e w' ⟨rfl, rfl⟩)
          go_ret2
          exact ⟨word_yes _ HV.out (by rw [mk_data]), (Kp.refl _ _).alloc (Nat.le_refl _) _⟩
        · have z2 : decide (1099511627776 < (n : Int)) = true := by simp; omega
          have HV := Lib.hid (show ok = false by rw [hv]; exact decide_eq_false hn)
          clear hv
          go_wp2_with (go_at_call 56; refine (C56 _).mono ?_; rintro e w' ⟨rfl, rfl⟩)
          go_ret2
          exact ⟨word_no _ HV.out, (Kp.refl _ _).alloc (Nat.le_refl _) _⟩
      · have z1 : ((y[0].toNat : Int) == 48) = false := by rw [show (48 : Int) = ((48 : UInt8).toNat : Int) from rfl, byte_eq]; simpa using h48
        have hv : ok = decide (decV y.data.toList ≤ 1099511627776) := by
          rw [HM.out]
          exact mag_ok (by rw [HLEN.out]; omega) (by rw [HLEN.out]; omega) HDA.out (.inl (by rw [hh]; simpa using h48))
        have C56 := fun w => decimal_ok y (by omega) HDA.out w
        clear hh h48
        generalize decV y.data.toList = n at *
        by_cases hn : n ≤ 1099511627776
        · have z2 : decide (1099511627776 < (n : Int)) = false := by simp; omega
          have HV := Lib.hid (show ok = true by rw [hv]; exact decide_eq_true hn)
          clear hv
          go_wp2_with (go_at_call 56; refine (C56 _).mono ?_; rintro e w' ⟨rfl, rfl⟩)
          go_ret2
          exact ⟨word_yes _ HV.out (by rw [mk_data]), (Kp.refl _ _).alloc (Nat.le_refl _) _⟩
        · have z2 : decide (1099511627776 < (n : Int)) = true := by simp; omega
          have HV := Lib.hid (show ok = false by rw [hv]; exact decide_eq_false hn)
          clear hv
          go_wp2_with (go_at_call 56; refine (C56 _).mono ?_; rintro e w' ⟨rfl, rfl⟩)
          go_ret2
          exact ⟨word_no _ HV.out, (Kp.refl _ _).alloc (Nat.le_refl _) _⟩

end Go.Lx
