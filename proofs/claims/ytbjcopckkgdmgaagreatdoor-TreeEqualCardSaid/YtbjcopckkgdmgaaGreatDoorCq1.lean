import Derived.Test.YtbjcopckkgdmgaaGreatDoorCsB
import Derived.Test.YtbjcopckkgdmgaaGreatDoorOd2
import Derived.StillTailTactics
/- The document's own Equal. -/
namespace Go.Ev
open Go.Proofs Go.RowKit Go.Lib
set_option maxRecDepth 100000

def EqualPost (A B : List Nd) (za zb : Int) (W : World) (e : Ending) (w' : World) : Prop := ∃ r : Bool, e = .returned (.bool r) ∧ (r = true ↔ za = zb ∧ A = B) ∧ Kp W.heap.size W w'

theorem nd_ext {x y : Nd} (hf : alikeB x y = true) (ha : x.args = y.args) : x = y := by
  have h := alike_iff.1 hf
  unfold Nd.face at h
  injection h with h1 h2
  injection h2 with h2 h3
  injection h3 with h3 h4
  cases x; cases y
  simp only at *
  subst h1 ha h3 h4
  rfl
theorem take_same {α : Type} {l m : List α} {k : Nat} (h : l.take k = m.take k) (hl : k < l.length) (hm : k < m.length) (he : l[k] = m[k]) : l.take (k + 1) = m.take (k + 1) := by
  rw [List.take_succ_eq_append_getElem hl, List.take_succ_eq_append_getElem hm, h, he]

set_option maxHeartbeats 8000000 in
theorem rEqual_ok (A B : List Nd) (za zb : Int) (W : World) (ab ao ac bb bo bc : Nat) (hA : GClosed A) (hA8 : A.length ≤ 200000) (hB8 : B.length ≤ 200000)
    (ha : NodesV W (.slice (some ⟨ab, ao, none⟩) A.length ac) A) (hb : NodesV W (.slice (some ⟨bb, bo, none⟩) B.length bc) B) :
    Calls Tryz.prog 27 #[.agg #[.slice (some ⟨ab, ao, none⟩) A.length ac, .int .i64 za], .agg #[.slice (some ⟨bb, bo, none⟩) B.length bc, .int .i64 zb]] W (EqualPost A B za zb W) := by
  have HA := Lib.hid ha
  have HB := Lib.hid hb
  have HC := Lib.hid hA
  clear ha hb hA
  go_enter Tryz.func27, Tryz.ntmps27
  go_wp2_with fail
  · rename_i h0 h
    have HH := Lib.hid h
    clear h h0
    go_ret
    refine ⟨false, rfl, ⟨fun h => (by cases h), fun h => ?_⟩, ((Kp.refl _ _).alloc (Nat.le_refl _) _).alloc (by simp) _⟩
    have h1 := HH.out
    rw [h.2] at h1
    simp at h1
  · rename_i h0 h K0 ha0
    have hl : A.length = B.length := by
      have : (A.length : Int) = (B.length : Int) := by simpa using h
      omega
    subst h0
    have HL := Lib.hid hl
    have hl1 : A.length ≤ B.length := by omega
    have hl2 : B.length ≤ A.length := by omega
    clear h hl
    obtain ⟨W2, hW2⟩ : ∃ W2, W2 = (W.alloc (Obj.cells #[Value.slice (some ⟨ab, ao, none⟩) A.length ac, Value.int IntKind.i64 za] 24)).alloc (Obj.cells #[Value.slice (some ⟨bb, bo, none⟩) B.length bc, Value.int IntKind.i64 za] 24) := ⟨_, rfl⟩
    have hs2 : W.heap.size ≤ W2.heap.size := by rw [hW2]; simp; omega
    have hk2 : Kp W.heap.size W W2 := by rw [hW2]; exact ((Kp.refl _ _).alloc (Nat.le_refl _) _).alloc (by simp) _
    have a0 : W2.cell? ⟨W.heap.size, 0, none⟩ = some (.slice (some ⟨ab, ao, none⟩) A.length ac) := by rw [hW2]; go_simp
    have b0 : W2.cell? ⟨W.heap.size + 1, 0, none⟩ = some (.slice (some ⟨bb, bo, none⟩) B.length bc) := by rw [hW2]; go_simp
    rw [← hW2]
    clear hW2
    have HK2 := Lib.hid hk2
    clear hk2
    go_loopw [5] (fun v wr => ∃ k : Nat, v = .int .i64 k ∧ k ≤ A.length ∧ A.take k = B.take k ∧ Kp W2.heap.size W2 wr) (fun v _ => A.length - (RowKit.intOf v).toNat)
    case atStart => exact ⟨0, rfl, Nat.zero_le _, rfl, Kp.refl _ _⟩
    case round =>
      obtain ⟨k, rfl, hk, htk, hkp⟩ := hrel
      have HTK := Lib.hid htk
      replace a0 := hkp.cells a0
      replace b0 := hkp.cells b0
      have HKP := Lib.hid hkp
      have hsz := hkp.size
      clear htk hkp
      by_cases hkl : k < A.length
      · have hkl2 : k < B.length := by omega
        obtain ⟨x, hx0⟩ : ∃ x, A[k] = x := ⟨_, rfl⟩
        obtain ⟨y, hy0⟩ : ∃ y, B[k] = y := ⟨_, rfl⟩
        have hx : A[k]? = some x := by rw [List.getElem?_eq_getElem hkl, hx0]
        have hy : B[k]? = some y := by rw [List.getElem?_eq_getElem hkl2, hy0]
        have nX := HA.out.at_ hx
        have nY := HB.out.at_ hy
        obtain ⟨g0, g1, g2, _, vx, g3, hxv⟩ := nX
        obtain ⟨k0, k1, k2, _, vy, k3, hyv⟩ := nY
        obtain ⟨xb, xc, rfl⟩ := hxv.len
        obtain ⟨yb, yc, rfl⟩ := hyv.len
        have hkw : Kp W.heap.size W wr := HK2.out.trans (HKP.out.mono hs2)
        replace g0 := hkw.cells g0
        replace g1 := hkw.cells g1
        replace g2 := hkw.cells g2
        replace g3 := hkw.cells g3
        replace k0 := hkw.cells k0
        replace k1 := hkw.cells k1
        replace k2 := hkw.cells k2
        replace k3 := hkw.cells k3
        have hx8 := (HC.out x (List.mem_of_getElem? hx)).1
        have CA := fun w (h : Kp W.heap.size W w) => alike_ok x y (.slice xb x.args.length xc) (.slice yb y.args.length yc) w (hxv.grown fun _ _ _ h' => h.cells h') (hyv.grown fun _ _ _ h' => h.cells h')
        have HX0 := Lib.hid hx0
        have HY0 := Lib.hid hy0
        have HXV := Lib.hid hxv
        have HYV := Lib.hid hyv
        have HKW := Lib.hid hkw
        clear hx0 hy0 hx hy hxv hyv hkw
        cases ha : alikeB x y with
        | false =>
          rw [ha] at CA
          have HAL := Lib.hid ha
          clear ha
          go_wp2_with fail
          go_still_tail 10, (by kernel_rfl)
          go_wp2_with fail
          refine (CA wr.drew HKW.out.drew).mono ?_
          rintro e w6 ⟨rfl, k6⟩
          have k6' : Kp wr.heap.size wr w6 := ⟨k6.os, k6.output, k6.size, k6.block⟩
          have HK6 := Lib.hid (HKW.out.trans (k6'.mono HKW.out.size))
          clear k6 k6' CA
          go_wp2_with fail
          go_ret
          refine ⟨false, rfl, ⟨fun h => (by cases h), fun h => ?_⟩, HK6.out⟩
          have h1 := h.2
          have e : x = y := by
            have := HX0.out
            subst h1
            rw [← this, HY0.out]
          have h2 := HAL.out
          rw [e, alike_iff.2 rfl] at h2
          cases h2
        | true =>
          rw [ha] at CA
          have HAL := Lib.hid ha
          clear ha
          go_wp2_with fail
          go_still_tail 10, (by kernel_rfl)
          go_wp2_with fail
          refine (CA wr.drew HKW.out.drew).mono ?_
          rintro e w6 ⟨rfl, k6⟩
          have k6' : Kp wr.heap.size wr w6 := ⟨k6.os, k6.output, k6.size, k6.block⟩
          replace a0 := k6'.cells a0
          replace b0 := k6'.cells b0
          replace g3 := k6'.cells g3
          replace k3 := k6'.cells k3
          have hs6 := k6'.size
          have HK6 := Lib.hid (HKP.out.trans (k6'.mono HKP.out.size))
          clear k6 k6' CA g0 g1 g2 k0 k1 k2
          have hlen : x.args.length = y.args.length := by
            have hff := alike_iff.1 HAL.out
            unfold Nd.face at hff
            injection hff with _ h2
            injection h2 with h3 _
          have HLEN := Lib.hid hlen
          have hle1 : x.args.length ≤ y.args.length := by omega
          clear hlen
          go_wp2_with fail
          go_loopw [6] (fun v wi => ∃ q : Nat, v = .int .i64 q ∧ q ≤ x.args.length ∧ x.args.take q = y.args.take q ∧ Kp W2.heap.size W2 wi ∧ Kp w6.heap.size w6 wi) (fun v _ => x.args.length - (RowKit.intOf v).toNat)
          case atStart => exact ⟨0, rfl, Nat.zero_le _, rfl, HK6.out, Kp.refl _ _⟩
          case round =>
            obtain ⟨q, rfl, hq, htq, hkp, hk6⟩ := hrel
            have HTQ := Lib.hid htq
            replace a0 := hk6.cells a0
            replace b0 := hk6.cells b0
            replace g3 := hk6.cells g3
            replace k3 := hk6.cells k3
            have hsz6 := hk6.size
            have HKP2 := Lib.hid hkp
            have HK62 := Lib.hid hk6
            clear htq hkp hk6
            by_cases hql : q < x.args.length
            · have hql2 : q < y.args.length := by omega
              obtain ⟨b1, o1, rfl, hca⟩ := HXV.out.some hql
              obtain ⟨b2, o2, rfl, hcb⟩ := HYV.out.some hql2
              have hkw2 := HK2.out.trans (HKP2.out.mono hs2)
              replace hca := hkw2.cells hca
              replace hcb := hkw2.cells hcb
              rw [List.getD, List.getElem?_eq_getElem hql, Option.getD_some] at hca
              rw [List.getD, List.getElem?_eq_getElem hql2, Option.getD_some] at hcb
              obtain ⟨u, hu⟩ : ∃ u, x.args[q] = u := ⟨_, rfl⟩
              obtain ⟨v, hv⟩ : ∃ v, y.args[q] = v := ⟨_, rfl⟩
              rw [hu] at hca
              rw [hv] at hcb
              have HU := Lib.hid hu
              have HVV := Lib.hid hv
              have hqi1 : (q : Int) < (x.args.length : Int) := by omega
              have hqi2 : (q : Int) < (y.args.length : Int) := by omega
              clear hu hv hkw2
              by_cases huv : u = v
              · subst huv
                go_wp2_with fail
                go_quiet (fail)
                go_wp2_with fail
                go_roundw
                case rel => exact ⟨q + 1, by go_num, by omega, take_same HTQ.out hql hql2 (by rw [HU.out, HVV.out]), HKP2.out.drewN, HK62.out.drewN⟩
                case measure => simp [RowKit.intOf]; omega
              · have hne : (u != v) = true := by simpa using huv
                have HUV := Lib.hid huv
                clear huv
                go_wp2_with fail
                go_quiet (fail)
                go_wp2_with fail
                go_ret
                refine ⟨false, rfl, ⟨fun h => (by cases h), fun h => ?_⟩, HK2.out.trans (HKP2.out.drewN.mono hs2)⟩
                have h1 := h.2
                have e : x = y := by
                  have := HX0.out
                  subst h1
                  rw [← this, HY0.out]
                subst e
                exact absurd (HU.out.symm.trans HVV.out) HUV.out
            · have HEQ := Lib.hid (show x.args = y.args by
                have h1 := HTQ.out
                have h2 := HLEN.out
                rwa [List.take_of_length_le (by omega), List.take_of_length_le (by omega)] at h1)
              go_wp2_with fail
              go_roundw
              case rel => exact ⟨k + 1, by go_num, by omega, take_same HTK.out hkl hkl2 (by rw [HX0.out, HY0.out]; exact nd_ext HAL.out HEQ.out), HKP2.out⟩
              case measure => simp [RowKit.intOf]; omega
      · have HEQ := Lib.hid (show A = B by
          have h1 := HTK.out
          have h2 := HL.out
          rwa [List.take_of_length_le (by omega), List.take_of_length_le (by omega)] at h1)
        go_wp2_with fail
        go_ret
        exact ⟨true, rfl, ⟨fun _ => ⟨rfl, HEQ.out⟩, fun _ => rfl⟩, HK2.out.trans (HKP.out.mono hs2)⟩
  · rename_i h
    have HH := Lib.hid h
    clear h
    go_ret
    exact ⟨false, rfl, ⟨fun h => (by cases h), fun h => absurd h.1 HH.out⟩, ((Kp.refl _ _).alloc (Nat.le_refl _) _).alloc (by simp) _⟩
end Go.Ev
