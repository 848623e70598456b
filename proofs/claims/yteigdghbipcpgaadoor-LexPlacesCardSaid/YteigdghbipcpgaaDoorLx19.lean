/- The document's own answers: the token at a place: symbols; whole. -/
import Derived.Test.YteigdghbipcpgaaDoorLx18
namespace Go.Lx
open Go.Proofs Go.RowKit Go.Lib Go.Ev
set_option maxRecDepth 100000

theorem ext_two (s : ByteArray) (k z : Nat) : s.extract k (k + z) = ⟨((s.data.toList.drop k).take z).toArray⟩ := by
  rw [extract_eq, Nat.add_sub_cancel_left]

section
variable (s : ByteArray) (hs : s.size ≤ 9223372036854775800) (k : Nat) (hk : k < s.size) (w : World)
include hs hk

set_option maxHeartbeats 4000000 in
theorem token_sym (hd : digB s[k] = false) (h126 : s[k] ≠ 126) (h39 : s[k] ≠ 39) (hl : ¬ (s[k] ≠ 95 ∧ letB s[k] = true)) :
    Calls Tryd.prog 28 #[.string s, .int .i64 k] w fun e w' => TokAns (refTok (s.data.toList.drop k)) k e ∧ Kp w.heap.size w w' := by
  have C45 := fun w => rdigit_ok s (by omega) k w
  rw [pAt_lt hk, hd] at C45
  have e1 : ((s[k].toNat : Int) == 126) = false := by rw [show (126 : Int) = ((126 : UInt8).toNat : Int) from rfl, byte_eq]; simpa using h126
  have e2 : ((s[k].toNat : Int) == 39) = false := by rw [show (39 : Int) = ((39 : UInt8).toNat : Int) from rfl, byte_eq]; simpa using h39
  have hlen : (s.data.toList.drop k).length = s.size - k := by rw [List.length_drop, ← Lib.size_eq s]
  have hr : refTok (s.data.toList.drop k) = if k + 2 ≤ s.size ∧ symB ((s.data.toList.drop k).take 2) = true then some (⟨5, (s.data.toList.drop k).take 2, 0⟩, 2)
      else if symB ((s.data.toList.drop k).take 1) = true then some (⟨5, (s.data.toList.drop k).take 1, 0⟩, 1) else none := by
    rw [drop_cons hk] at hlen ⊢
    simp only [refTok]
    rw [if_neg (by rw [hd]; simp), if_neg h126, if_neg h39, if_neg hl]
    by_cases h : k + 2 ≤ s.size
    · have h' : 2 ≤ (s[k] :: s.data.toList.drop (k + 1)).length := by rw [hlen]; omega
      simp only [h, h']
    · have h' : ¬ 2 ≤ (s[k] :: s.data.toList.drop (k + 1)).length := by rw [hlen]; omega
      simp only [h, h']
  have C32 : ∀ (z : Nat) v w, StrsV w v syms → Calls Tryd.prog 32 #[v, .string (s.extract k (k + z))] w fun e w' => e = .returned (.bool (symB ((s.data.toList.drop k).take z))) ∧ w' = w := fun z v w hv => by
    have := in_ok v syms (s.extract k (k + z)) w hv
    rwa [show (s.extract k (k + z)).data.toList = (s.data.toList.drop k).take z by rw [ext_two]] at this
  have C50 := fun w => symbols_ok w
  have fin : ∀ z : Nat, refTok (s.data.toList.drop k) = some (⟨5, (s.data.toList.drop k).take z, 0⟩, z) → TokAns (refTok (s.data.toList.drop k)) k (.returned (.tuple #[.agg #[.int .i64 5, .string (s.extract k (k + z)), .int .i64 k], .int .i64 ((k : Int) + z), .bool true])) := fun z h => by
    rw [h, ext_two]
    show _ = _
    rw [show ((k : Int) + (z : Int)) = ((k + z : Nat) : Int) by omega]
    rfl
  have FIN := Lib.hid fin
  have HR := Lib.hid hr
  have hw1 : IntKind.i64.wrap ((k : Int) + 1) = (k : Int) + 1 := IntWalk.i64_in _ (by omega)
  have hw2 : IntKind.i64.wrap ((k : Int) + 2) = (k : Int) + 2 := IntWalk.i64_in _ (by omega)
  have hw3 : ((k : Int) + 1).toNat = k + 1 := by omega
  have hw4 : ((k : Int) + 2).toNat = k + 2 := by omega
  have hw5 : (0 : Int) ≤ (k : Int) + 1 := by omega
  have hw6 : (0 : Int) ≤ (k : Int) + 2 := by omega
  have HW := Lib.hid (And.intro hw1 (And.intro hw2 (And.intro hw3 (And.intro hw4 (And.intro hw5 hw6)))))
  have hlet : s[k] ≠ 95 → ltrI (s[k].toNat : Int) = false := fun h => by
    cases hx : ltrI (s[k].toNat : Int)
    · rfl
    · exact absurd ⟨h, hx⟩ hl
  clear hw1 hw2 hw3 hw4 hw5 hw6 fin hr hd h126 h39 hlen hl
  generalize hg2 : symB ((s.data.toList.drop k).take 2) = b2
  generalize hg1 : symB ((s.data.toList.drop k).take 1) = b1
  have HG2 := Lib.hid hg2
  have HG1 := Lib.hid hg1
  clear hg1 hg2
  by_cases h95 : s[k] = 95
  · have e3 : ((s[k].toNat : Int) != 95) = false := by rw [bne, show (95 : Int) = ((95 : UInt8).toNat : Int) from rfl, byte_eq]; simpa using h95
    clear h95 hlet
    go_enter Tryd.func28, Tryd.ntmps28
    go_wp2_with (first
      | (go_at_call 45; refine (C45 _).mono ?_; rintro e w' ⟨rfl, rfl⟩))
    go_loopg [10] 3 (fun gk v wr => Kp (w.alloc (.cells #[.int .i64 0, .string ⟨#[]⟩, .int .i64 0] 35)).heap.size (w.alloc (.cells #[.int .i64 0, .string ⟨#[]⟩, .int .i64 0] 35)) wr ∧
      (v = .int .i64 2 ∧ gk = 3 ∨ (¬ (k + 2 ≤ s.size ∧ b2 = true) ∧ (v = .int .i64 1 ∧ gk = 2 ∨ b1 = false ∧ v = .int .i64 0 ∧ gk = 1))))
    case atStart => exact ⟨Kp.refl _ _, .inl ⟨rfl, rfl⟩⟩
    case round =>
      obtain ⟨hkp, hrel⟩ := hrel
      obtain ⟨hc0, hc1, hc2, hf, hz, hkp2⟩ := box3 hkp
      have HKP := Lib.hid hkp
      have HK2 := Lib.hid hkp2
      clear hkp hkp2
      rcases hrel with ⟨rfl, rfl⟩ | ⟨hn2, ⟨rfl, rfl⟩ | ⟨rfl, rfl, rfl⟩⟩
      · by_cases h2 : k + 2 ≤ s.size
        · have hx1 : (k : Int) + 2 ≤ (s.size : Int) := by omega
          have hx : decide ((k : Int) + 2 ≤ (s.size : Int)) = true := by simp; omega
          have hx2 : (k : Int) ≤ (k : Int) + 2 := by omega
          have C32' := C32 2
          rw [HG2.out] at C32'
          cases b2
          · have HN := Lib.hid (show ¬ (k + 2 ≤ s.size ∧ false = true) from fun h => by cases h.2)
            go_wp2_with fail
            obtain ⟨hw1, hw2, hw3, hw4, hw5, hw6⟩ := HW.out
            go_region_held3 (fun w' => Kp wr.heap.size wr w')
              (first
                | exact (Kp.refl _ _).drew
                | assumption
                | (rename Kp _ _ _ => hk1; rename (StrsV _ _ _) => hsv; rename (Kp wr.heap.size wr _) => hS; exact hS.trans (hk1.mono hS.size)))
              (first
                | (go_at_call 50; refine (C50 _).mono ?_; rintro e w1 ⟨v, rfl, hv, hk1⟩; have HV := Lib.hid hv)
                | (go_at_call 32; refine (C32' _ _ HV.out).mono ?_; rintro e w' ⟨rfl, rfl⟩))
            rename (Kp wr.heap.size wr _) => hS
            have HS := Lib.hid (HKP.out.trans (hS.mono HKP.out.size))
            clear hS hv HV hw1 hw2 hw3 hw4 hw5 hw6 hc0 hc1 hc2 hf hz
            rename World => w5
            obtain ⟨hc0, hc1, hc2, hf, hz, hkp5⟩ := box3 HS.out
            have HK5 := Lib.hid hkp5
            clear hkp5 hk1
            go_wp2_with fail
            go_roundg 2
            case measure => omega
            case rel => exact ⟨HS.out, .inr ⟨HN.out, .inl ⟨rfl, rfl⟩⟩⟩
          · have hz2 : refTok (s.data.toList.drop k) = some (⟨5, (s.data.toList.drop k).take 2, 0⟩, 2) := by rw [HR.out, if_pos ⟨h2, HG2.out⟩]
            have HRZ := Lib.hid hz2
            clear hz2
            go_wp2_with fail
            obtain ⟨hw1, hw2, hw3, hw4, hw5, hw6⟩ := HW.out
            go_region_held3 (fun w' => Kp wr.heap.size wr w')
              (first
                | exact (Kp.refl _ _).drew
                | assumption
                | (rename Kp _ _ _ => hk1; rename (StrsV _ _ _) => hsv; rename (Kp wr.heap.size wr _) => hS; exact hS.trans (hk1.mono hS.size)))
              (first
                | (go_at_call 50; refine (C50 _).mono ?_; rintro e w1 ⟨v, rfl, hv, hk1⟩; have HV := Lib.hid hv)
                | (go_at_call 32; refine (C32' _ _ HV.out).mono ?_; rintro e w' ⟨rfl, rfl⟩))
            rename (Kp wr.heap.size wr _) => hS
            have HS := Lib.hid (HKP.out.trans (hS.mono HKP.out.size))
            clear hS hv HV hw1 hw2 hw3 hw4 hw5 hw6 hc0 hc1 hc2 hf hz
            rename World => w5
            obtain ⟨hc0, hc1, hc2, hf, hz, hkp5⟩ := box3 HS.out
            have HK5 := Lib.hid hkp5
            clear hkp5 hk1
            go_wp2_with fail
            refine bodyPost_ret (v := .tuple #[.agg #[.int .i64 5, .string (s.extract k (k + 2)), .int .i64 k], .int .i64 ((k : Int) + 2), .bool true]) ?_ rfl ⟨FIN.out 2 HRZ.out, ?_⟩
            · simp [results, Tryd.results28, go_sem, *]
            · exact ((HK5.out.setCell (Nat.le_refl _) _).setCell (Nat.le_refl _) _).setCell (Nat.le_refl _) _
        · have hx : decide ((k : Int) + 2 ≤ (s.size : Int)) = false := by simp; omega
          have HN := Lib.hid (show ¬ (k + 2 ≤ s.size ∧ b2 = true) from fun h => h2 h.1)
          go_wp2_with fail
          go_quiet (fail)
          go_wp2_with fail
          go_roundg 2
          case measure => omega
          case rel => exact ⟨⟨HKP.out.os, HKP.out.output, HKP.out.size, HKP.out.block⟩, .inr ⟨HN.out, .inl ⟨rfl, rfl⟩⟩⟩
      · have HN := Lib.hid hn2
        clear hn2
        have hx1 : (k : Int) + 1 ≤ (s.size : Int) := by omega
        have hx : decide ((k : Int) + 1 ≤ (s.size : Int)) = true := by simp; omega
        have hx2 : (k : Int) ≤ (k : Int) + 1 := by omega
        have C32' := C32 1
        rw [HG1.out] at C32'
        by_cases hT : True
        · cases b1
          · skip
            go_wp2_with fail
            obtain ⟨hw1, hw2, hw3, hw4, hw5, hw6⟩ := HW.out
            go_region_held3 (fun w' => Kp wr.heap.size wr w')
              (first
                | exact (Kp.refl _ _).drew
                | assumption
                | (rename Kp _ _ _ => hk1; rename (StrsV _ _ _) => hsv; rename (Kp wr.heap.size wr _) => hS; exact hS.trans (hk1.mono hS.size)))
              (first
                | (go_at_call 50; refine (C50 _).mono ?_; rintro e w1 ⟨v, rfl, hv, hk1⟩; have HV := Lib.hid hv)
                | (go_at_call 32; refine (C32' _ _ HV.out).mono ?_; rintro e w' ⟨rfl, rfl⟩))
            rename (Kp wr.heap.size wr _) => hS
            have HS := Lib.hid (HKP.out.trans (hS.mono HKP.out.size))
            clear hS hv HV hw1 hw2 hw3 hw4 hw5 hw6 hc0 hc1 hc2 hf hz
            rename World => w5
            obtain ⟨hc0, hc1, hc2, hf, hz, hkp5⟩ := box3 HS.out
            have HK5 := Lib.hid hkp5
            clear hkp5 hk1
            go_wp2_with fail
            go_roundg 1
            case measure => omega
            case rel => exact ⟨HS.out, .inr ⟨HN.out, .inr ⟨by simp, by go_num, rfl⟩⟩⟩
          · have hz2 : refTok (s.data.toList.drop k) = some (⟨5, (s.data.toList.drop k).take 1, 0⟩, 1) := by rw [HR.out, HG2.out, if_neg HN.out, if_pos HG1.out]
            have HRZ := Lib.hid hz2
            clear hz2
            go_wp2_with fail
            obtain ⟨hw1, hw2, hw3, hw4, hw5, hw6⟩ := HW.out
            go_region_held3 (fun w' => Kp wr.heap.size wr w')
              (first
                | exact (Kp.refl _ _).drew
                | assumption
                | (rename Kp _ _ _ => hk1; rename (StrsV _ _ _) => hsv; rename (Kp wr.heap.size wr _) => hS; exact hS.trans (hk1.mono hS.size)))
              (first
                | (go_at_call 50; refine (C50 _).mono ?_; rintro e w1 ⟨v, rfl, hv, hk1⟩; have HV := Lib.hid hv)
                | (go_at_call 32; refine (C32' _ _ HV.out).mono ?_; rintro e w' ⟨rfl, rfl⟩))
            rename (Kp wr.heap.size wr _) => hS
            have HS := Lib.hid (HKP.out.trans (hS.mono HKP.out.size))
            clear hS hv HV hw1 hw2 hw3 hw4 hw5 hw6 hc0 hc1 hc2 hf hz
            rename World => w5
            obtain ⟨hc0, hc1, hc2, hf, hz, hkp5⟩ := box3 HS.out
            have HK5 := Lib.hid hkp5
            clear hkp5 hk1
            go_wp2_with fail
            refine bodyPost_ret (v := .tuple #[.agg #[.int .i64 5, .string (s.extract k (k + 1)), .int .i64 k], .int .i64 ((k : Int) + 1), .bool true]) ?_ rfl ⟨FIN.out 1 HRZ.out, ?_⟩
            · simp [results, Tryd.results28, go_sem, *]
            · exact ((HK5.out.setCell (Nat.le_refl _) _).setCell (Nat.le_refl _) _).setCell (Nat.le_refl _) _
        · exact absurd trivial hT
      · have hz2 : refTok (s.data.toList.drop k) = none := by rw [HR.out, HG2.out, if_neg hn2, HG1.out]; rfl
        have HRZ := Lib.hid hz2
        clear hz2 hn2
        go_wp2_with fail
        refine bodyPost_ret (v := .tuple #[.agg #[.int .i64 0, .string ⟨#[]⟩, .int .i64 0], .int .i64 0, .bool false]) ?_ rfl ⟨by rw [HRZ.out]; exact ⟨_, _, _, _, rfl⟩, ?_⟩
        · simp [results, Tryd.results28, go_sem, *]
        · exact ((HK2.out.setCell (Nat.le_refl _) _).setCell (Nat.le_refl _) _).setCell (Nat.le_refl _) _
  · have e3 : ((s[k].toNat : Int) != 95) = true := by rw [bne, show (95 : Int) = ((95 : UInt8).toNat : Int) from rfl, byte_eq]; simpa using h95
    have hlt := hlet h95
    have hx0 : decide ((k : Int) < (s.size : Int)) = true := by simp; omega
    clear h95 hlet
    go_enter Tryd.func28, Tryd.ntmps28
    go_wp2_with (first
      | (go_at_call 45; refine (C45 _).mono ?_; rintro e w' ⟨rfl, rfl⟩))
    go_loopg [8] 1 (fun gk v wr => wr = w.alloc (.cells #[.int .i64 0, .string ⟨#[]⟩, .int .i64 0] 35) ∧ v = .int .i64 k)
    case atStart => exact ⟨rfl, rfl⟩
    case round =>
      obtain ⟨rfl, rfl⟩ := hrel
      go_wp2_with (go_at_call 48; refine (rletter_ok _ _).mono ?_; rintro e w' ⟨rfl, rfl⟩)
      go_loopg [10] 3 (fun gk v wr => Kp (w.alloc (.cells #[.int .i64 0, .string ⟨#[]⟩, .int .i64 0] 35)).heap.size (w.alloc (.cells #[.int .i64 0, .string ⟨#[]⟩, .int .i64 0] 35)) wr ∧
        (v = .int .i64 2 ∧ gk = 3 ∨ (¬ (k + 2 ≤ s.size ∧ b2 = true) ∧ (v = .int .i64 1 ∧ gk = 2 ∨ b1 = false ∧ v = .int .i64 0 ∧ gk = 1))))
      case atStart => exact ⟨Kp.refl _ _, .inl ⟨rfl, rfl⟩⟩
      case round =>
        obtain ⟨hkp, hrel⟩ := hrel
        obtain ⟨hc0, hc1, hc2, hf, hz, hkp2⟩ := box3 hkp
        have HKP := Lib.hid hkp
        have HK2 := Lib.hid hkp2
        clear hkp hkp2
        rcases hrel with ⟨rfl, rfl⟩ | ⟨hn2, ⟨rfl, rfl⟩ | ⟨rfl, rfl, rfl⟩⟩
        · by_cases h2 : k + 2 ≤ s.size
          · have hx1 : (k : Int) + 2 ≤ (s.size : Int) := by omega
            have hx : decide ((k : Int) + 2 ≤ (s.size : Int)) = true := by simp; omega
            have hx2 : (k : Int) ≤ (k : Int) + 2 := by omega
            have C32' := C32 2
            rw [HG2.out] at C32'
            cases b2
            · have HN := Lib.hid (show ¬ (k + 2 ≤ s.size ∧ false = true) from fun h => by cases h.2)
              go_wp2_with fail
              obtain ⟨hw1, hw2, hw3, hw4, hw5, hw6⟩ := HW.out
              go_region_held3 (fun w' => Kp wr.heap.size wr w')
                (first
                  | exact (Kp.refl _ _).drew
                  | assumption
                  | (rename Kp _ _ _ => hk1; rename (StrsV _ _ _) => hsv; rename (Kp wr.heap.size wr _) => hS; exact hS.trans (hk1.mono hS.size)))
                (first
                  | (go_at_call 50; refine (C50 _).mono ?_; rintro e w1 ⟨v, rfl, hv, hk1⟩; have HV := Lib.hid hv)
                  | (go_at_call 32; refine (C32' _ _ HV.out).mono ?_; rintro e w' ⟨rfl, rfl⟩))
              rename (Kp wr.heap.size wr _) => hS
              have HS := Lib.hid (HKP.out.trans (hS.mono HKP.out.size))
              clear hS hv HV hw1 hw2 hw3 hw4 hw5 hw6 hc0 hc1 hc2 hf hz
              rename World => w5
              obtain ⟨hc0, hc1, hc2, hf, hz, hkp5⟩ := box3 HS.out
              have HK5 := Lib.hid hkp5
              clear hkp5 hk1
              go_wp2_with fail
              go_roundg 2
              case measure => omega
              case rel => exact ⟨HS.out, .inr ⟨HN.out, .inl ⟨rfl, rfl⟩⟩⟩
            · have hz2 : refTok (s.data.toList.drop k) = some (⟨5, (s.data.toList.drop k).take 2, 0⟩, 2) := by rw [HR.out, if_pos ⟨h2, HG2.out⟩]
              have HRZ := Lib.hid hz2
              clear hz2
              go_wp2_with fail
              obtain ⟨hw1, hw2, hw3, hw4, hw5, hw6⟩ := HW.out
              go_region_held3 (fun w' => Kp wr.heap.size wr w')
                (first
                  | exact (Kp.refl _ _).drew
                  | assumption
                  | (rename Kp _ _ _ => hk1; rename (StrsV _ _ _) => hsv; rename (Kp wr.heap.size wr _) => hS; exact hS.trans (hk1.mono hS.size)))
                (first
                  | (go_at_call 50; refine (C50 _).mono ?_; rintro e w1 ⟨v, rfl, hv, hk1⟩; have HV := Lib.hid hv)
                  | (go_at_call 32; refine (C32' _ _ HV.out).mono ?_; rintro e w' ⟨rfl, rfl⟩))
              rename (Kp wr.heap.size wr _) => hS
              have HS := Lib.hid (HKP.out.trans (hS.mono HKP.out.size))
              clear hS hv HV hw1 hw2 hw3 hw4 hw5 hw6 hc0 hc1 hc2 hf hz
              rename World => w5
              obtain ⟨hc0, hc1, hc2, hf, hz, hkp5⟩ := box3 HS.out
              have HK5 := Lib.hid hkp5
              clear hkp5 hk1
              go_wp2_with fail
              refine bodyPost_ret (v := .tuple #[.agg #[.int .i64 5, .string (s.extract k (k + 2)), .int .i64 k], .int .i64 ((k : Int) + 2), .bool true]) ?_ rfl ⟨FIN.out 2 HRZ.out, ?_⟩
              · simp [results, Tryd.results28, go_sem, *]
              · exact ((HK5.out.setCell (Nat.le_refl _) _).setCell (Nat.le_refl _) _).setCell (Nat.le_refl _) _
          · have hx : decide ((k : Int) + 2 ≤ (s.size : Int)) = false := by simp; omega
            have HN := Lib.hid (show ¬ (k + 2 ≤ s.size ∧ b2 = true) from fun h => h2 h.1)
            go_wp2_with fail
            go_quiet (fail)
            go_wp2_with fail
            go_roundg 2
            case measure => omega
            case rel => exact ⟨⟨HKP.out.os, HKP.out.output, HKP.out.size, HKP.out.block⟩, .inr ⟨HN.out, .inl ⟨rfl, rfl⟩⟩⟩
        · have HN := Lib.hid hn2
          clear hn2
          have hx1 : (k : Int) + 1 ≤ (s.size : Int) := by omega
          have hx : decide ((k : Int) + 1 ≤ (s.size : Int)) = true := by simp; omega
          have hx2 : (k : Int) ≤ (k : Int) + 1 := by omega
          have C32' := C32 1
          rw [HG1.out] at C32'
          by_cases hT : True
          · cases b1
            · skip
              go_wp2_with fail
              obtain ⟨hw1, hw2, hw3, hw4, hw5, hw6⟩ := HW.out
              go_region_held3 (fun w' => Kp wr.heap.size wr w')
                (first
                  | exact (Kp.refl _ _).drew
                  | assumption
                  | (rename Kp _ _ _ => hk1; rename (StrsV _ _ _) => hsv; rename (Kp wr.heap.size wr _) => hS; exact hS.trans (hk1.mono hS.size)))
                (first
                  | (go_at_call 50; refine (C50 _).mono ?_; rintro e w1 ⟨v, rfl, hv, hk1⟩; have HV := Lib.hid hv)
                  | (go_at_call 32; refine (C32' _ _ HV.out).mono ?_; rintro e w' ⟨rfl, rfl⟩))
              rename (Kp wr.heap.size wr _) => hS
              have HS := Lib.hid (HKP.out.trans (hS.mono HKP.out.size))
              clear hS hv HV hw1 hw2 hw3 hw4 hw5 hw6 hc0 hc1 hc2 hf hz
              rename World => w5
              obtain ⟨hc0, hc1, hc2, hf, hz, hkp5⟩ := box3 HS.out
              have HK5 := Lib.hid hkp5
              clear hkp5 hk1
              go_wp2_with fail
              go_roundg 1
              case measure => omega
              case rel => exact ⟨HS.out, .inr ⟨HN.out, .inr ⟨by simp, by go_num, rfl⟩⟩⟩
            · have hz2 : refTok (s.data.toList.drop k) = some (⟨5, (s.data.toList.drop k).take 1, 0⟩, 1) := by rw [HR.out, HG2.out, if_neg HN.out, if_pos HG1.out]
              have HRZ := Lib.hid hz2
              clear hz2
              go_wp2_with fail
              obtain ⟨hw1, hw2, hw3, hw4, hw5, hw6⟩ := HW.out
              go_region_held3 (fun w' => Kp wr.heap.size wr w')
                (first
                  | exact (Kp.refl _ _).drew
                  | assumption
                  | (rename Kp _ _ _ => hk1; rename (StrsV _ _ _) => hsv; rename (Kp wr.heap.size wr _) => hS; exact hS.trans (hk1.mono hS.size)))
                (first
                  | (go_at_call 50; refine (C50 _).mono ?_; rintro e w1 ⟨v, rfl, hv, hk1⟩; have HV := Lib.hid hv)
                  | (go_at_call 32; refine (C32' _ _ HV.out).mono ?_; rintro e w' ⟨rfl, rfl⟩))
              rename (Kp wr.heap.size wr _) => hS
              have HS := Lib.hid (HKP.out.trans (hS.mono HKP.out.size))
              clear hS hv HV hw1 hw2 hw3 hw4 hw5 hw6 hc0 hc1 hc2 hf hz
              rename World => w5
              obtain ⟨hc0, hc1, hc2, hf, hz, hkp5⟩ := box3 HS.out
              have HK5 := Lib.hid hkp5
              clear hkp5 hk1
              go_wp2_with fail
              refine bodyPost_ret (v := .tuple #[.agg #[.int .i64 5, .string (s.extract k (k + 1)), .int .i64 k], .int .i64 ((k : Int) + 1), .bool true]) ?_ rfl ⟨FIN.out 1 HRZ.out, ?_⟩
              · simp [results, Tryd.results28, go_sem, *]
              · exact ((HK5.out.setCell (Nat.le_refl _) _).setCell (Nat.le_refl _) _).setCell (Nat.le_refl _) _
          · exact absurd trivial hT
        · have hz2 : refTok (s.data.toList.drop k) = none := by rw [HR.out, HG2.out, if_neg hn2, HG1.out]; rfl
          have HRZ := Lib.hid hz2
          clear hz2 hn2
          go_wp2_with fail
          refine bodyPost_ret (v := .tuple #[.agg #[.int .i64 0, .string ⟨#[]⟩, .int .i64 0], .int .i64 0, .bool false]) ?_ rfl ⟨by rw [HRZ.out]; exact ⟨_, _, _, _, rfl⟩, ?_⟩
          · simp [results, Tryd.results28, go_sem, *]
          · exact ((HK2.out.setCell (Nat.le_refl _) _).setCell (Nat.le_refl _) _).setCell (Nat.le_refl _) _
end

theorem token_ok (s : ByteArray) (hs : s.size ≤ 9223372036854775800) (k : Nat) (hk : k < s.size) (w : World) :
    Calls Tryd.prog 28 #[.string s, .int .i64 k] w fun e w' => TokAns (refTok (s.data.toList.drop k)) k e ∧ Kp w.heap.size w w' := by
  by_cases hd : digB s[k] = true
  · exact token_num s hs k hk w (.inl hd)
  by_cases h126 : s[k] = 126
  · exact token_num s hs k hk w (.inr h126)
  by_cases h39 : s[k] = 39
  · exact token_quote s hs k hk w h39
  have hd' : digB s[k] = false := by simpa using hd
  by_cases hl : s[k] ≠ 95 ∧ letB s[k] = true
  · exact token_word s hs k hk w hd' h126 h39 hl.1 hl.2
  · exact token_sym s hs k hk w hd' h126 h39 hl
end Go.Lx
