import Derived.Test.YtbjcopckkgdmgaaGreatDoorCsB
import Derived.StillTailTactics
/- Classes: the walk. -/
namespace Go.Ev
open Go.Proofs Go.RowKit Go.Lib
set_option maxRecDepth 100000

theorem find_any (G : List Nd) (fs : List Nat) (v5 : Value) (i : Nat) (c : Nat → Nat) (_W0 W : World) (gb go gc cb cc B : Nat) (hG : GClosed G) (hg : NodesV W (.slice (some ⟨gb, go, none⟩) G.length gc) G) (hG8 : G.length ≤ 200000)
    (ho : Own B 1 W v5 fs.length (intsV fs)) (hfm : ∀ x ∈ fs, x < G.length) (hnd : fs.Nodup) (hi : i < G.length) (hc : IntsAt W cb 0 G.length c) :
    Calls Tryz.prog 93 #[.slice (some ⟨gb, go, none⟩) G.length gc, v5, .int .i64 i, .slice (some ⟨cb, 0, none⟩) G.length cc] W fun e w' => e = .returned (.int .i64 (firstOr (likeB G c i) i fs : Nat)) ∧ Kp W.heap.size W w' := by
  obtain ⟨h1, h2⟩ := ho
  rcases h2 with ⟨rfl, h2⟩ | ⟨b, off, cap, cs, t, rfl, hb, hh, hf, hm, hs, hx⟩
  · obtain rfl : fs = [] := List.length_eq_zero_iff.1 h2
    exact find_nil gb go G.length gc i cb 0 G.length cc W
  · exact find_ok G fs i c W gb go gc b off fs.length cap cb 0 cc hG hg hG8 (fun j hj => by rw [cell_of hh]; exact hx j _ (by simp [intsV, List.getD, hj])) rfl hfm (Nat.le_trans (nodup_le _ _ hnd hfm) hG8) hi hc

theorem segF_news {B b o n cap : Nat} {w : World} {f : Nat → Nat} (h : SegF B w b o n cap f) : ∀ (j : Nat) (u : Value), ((List.range n).map fun i => Value.int .i64 (f i : Int))[j]? = some u → w.cell? ((⟨b, o, none⟩ : Addr).add j) = some u := fun j u hj => by
  have h' := Seg.cell h hj
  unfold Addr.add
  split
  · rename_i e; subst e; exact h'
  · exact h'

theorem S3.drewN {G : List Nd} {W w : World} {b o cap nb no ncap : Nat} {v : Value} {c nx : Nat → Nat} {dn : Nat → Bool} (h : S3 G W b o cap nb no ncap v c nx dn w) (n : Nat) : S3 G W b o cap nb no ncap v c nx dn (w.drewN n) := h.grow (Kp.drewN (n := n) (Kp.refl _ _))

def ClassPost (G : List Nd) (W : World) (e : Ending) (w' : World) : Prop := ∃ b o cap c, e = .returned (.slice (some ⟨b, o, none⟩) G.length cap) ∧ SegF W.heap.size w' b o G.length cap c ∧ Classifies G c ∧ c 0 = 0 ∧ Kp W.heap.size W w'

set_option maxHeartbeats 16000000 in
theorem classes_ok (G : List Nd) (W : World) (gb go gc : Nat) (hG : GClosed G) (hn : 0 < G.length) (hG8 : G.length ≤ 200000) (hg : NodesV W (.slice (some ⟨gb, go, none⟩) G.length gc) G) (hp : ∀ x, x < G.length → ∃ t, nodeAt G 0 t = some x) :
    Calls Tryz.prog 61 #[.slice (some ⟨gb, go, none⟩) G.length gc] W (ClassPost G W) := by
  have HG := Lib.hid hG
  have HV := Lib.hid hg
  have HP := Lib.hid hp
  clear hG hg hp
  obtain ⟨i4, hi0, hz0, hz1, hz2⟩ := info_parts Tryz.info4
  obtain ⟨i3, hj0, hy0, hy1, hy2⟩ := info_parts Tryz.info3
  have hb4 : i4.bytes * G.length ≤ 281474976710656 := by rw [hz2]; omega
  have hb3 : i3.bytes * G.length ≤ 281474976710656 := by rw [hy2]; omega
  have H2 := Lib.hid hz2
  clear hz2
  go_enter Tryz.func61, Tryz.ntmps61
  go_wp2_with (first
    | (refine wpList_make_full _ rfl _ _ 43 rfl W.heap.size 3 i3 _ 1 Tryz.underlying43 hj0 hy0 hy1 .i64 .i64 G.length G.length G.length rfl rfl rfl rfl hb3 (by unfold maxLen; omega) (Nat.le_refl _) ?_; intro w1 hown1 hgr1)
    | (refine wpList_make_full _ rfl _ _ 57 rfl W.heap.size 4 i4 _ 1 Tryz.underlying57 hi0 hz0 hz1 .i64 .i64 G.length G.length G.length rfl rfl rfl rfl hb4 (by unfold maxLen; omega) hgr1.size ?_; intro w2 hown2 hgr2))
  have hcls := zeros_segF (RowI.made hown1) (Nat.le_refl _) (by unfold maxLen; omega)
  have hdon := RowB.made hown2
  rw [← boolsF_false] at hdon
  have hk1 : Kp W.heap.size W w1 := (Kp.refl _ _).grownBy hgr1 (Nat.le_refl _) (fun k hk => by cases hk)
  have hk2 : Kp w1.heap.size w1 w2 := (Kp.refl _ _).grownBy hgr2 (Nat.le_refl _) (fun k hk => by cases hk)
  have hcl := hcls.lt
  have H0 := Lib.hid (show S1 G W W.heap.size w1.heap.size (.slice none 0 0) (fun _ => 0) (fun _ => false) [] w2 from
    ⟨P1.start G, hcls.kp hk2, hdon, ⟨rfl, .inl ⟨rfl, rfl⟩⟩, ⟨by omega, by simp [Value.ownBlock], by simp [Value.ownBlock]⟩, hk1.size, hk1.trans (hk2.mono hk1.size)⟩)
  have hdb : W.heap.size ≤ w1.heap.size := hk1.size
  generalize w1.heap.size = db at *
  clear hcls hdon hk1 hk2 hown1 hgr1 hown2 hgr2 hb4 hb3 hi0 hz0 hz1 hcl w1
  go_loopg [5, 7] ((restOf G.length (fun _ => false)).length + 1) (fun gk v5 v7 wr => ∃ c dn fs mo, v7 = .bool mo ∧ S1 G W W.heap.size db v5 c dn fs wr ∧ (mo = false → Q1 G dn) ∧ (restOf G.length dn).length + (if mo = true then 1 else 0) ≤ gk)
  case atStart => exact ⟨_, _, _, true, rfl, H0.out, fun h => (by cases h), Nat.le_refl _⟩
  case round =>
    obtain ⟨c, dn, fs, mo, rfl, hst, hq, hmu⟩ := hrel
    clear H0
    obtain ⟨F, hFF⟩ : ∃ F, F = gk := ⟨_, rfl⟩
    subst hFF
    have HST := Lib.hid hst
    have HQ := Lib.hid hq
    have HMU := Lib.hid hmu
    clear hst hq hmu
    cases mo with
    | false =>
      have h1 := Lib.hid HST.out.p1
      have hq1 := Lib.hid (HQ.out rfl)
      have H2S := Lib.hid (show S2 G W W.heap.size db (.slice none 0 0) c dn [] wr from ⟨HST.out.cls, HST.out.don, ⟨rfl, .inl ⟨rfl, rfl⟩⟩, ⟨HST.out.ne.1, by simp [Value.ownBlock], by simp [Value.ownBlock]⟩, HST.out.kp⟩)
      clear HST HQ HMU
      go_wp2_with fail
      go_loopg [6, 9] G.length (fun g v6 v9 wi => ∃ j : Nat, v9 = .int .i64 j ∧ j + g = G.length ∧ S2 G W W.heap.size db v6 (clsTo G c dn j) dn (upToR G.length dn j) wi)
      case atStart => exact ⟨0, rfl, by omega, by rw [clsTo_zero, upToR_zero]; exact H2S.out⟩
      case round =>
        obtain ⟨j, rfl, hjg, hst⟩ := hrel
        clear H2S
        have HST := Lib.hid hst
        by_cases hjn : j < G.length
        · have hcd := hst.don.cell (i := j) (by rw [boolsF_length]; exact hjn)
          rw [boolsF_get dn hjn] at hcd
          have hjg2 : j + gk ≤ G.length := by omega
          have hjg3 : G.length ≤ j + gk := by omega
          clear hst hjg
          cases hdn : dn j with
          | true =>
            rw [hdn] at hcd
            have HDN := Lib.hid hdn
            clear hdn
            go_wp2_with fail
            go_roundg (gk - 1)
            case measure => omega
            case rel => exact ⟨j + 1, by go_num, by omega, by rw [clsTo_done HDN.out, upToR_done hjn HDN.out]; exact HST.out⟩
          | false =>
            rw [hdn] at hcd
            have HDN := Lib.hid hdn
            clear hdn
            have HAL := Lib.hid (show Kp wr.heap.size wr (wr.alloc (Obj.cells #[Value.int .i64 (j : Int)] 3)) from (Kp.refl _ _).alloc (Nat.le_refl _) _)
            have hrl := upToR_le (n := G.length) (dn := dn) (j := j)
            have hws := HST.out.kp.size
            obtain ⟨nj, hnj⟩ : ∃ n, G[j]? = some n := ⟨_, List.getElem?_eq_getElem hjn⟩
            have HNJ := Lib.hid hnj
            clear hnj
            go_wp2_with (at_builtin; refine wpList_append_mine rfl (.tmp 74) (.tmp 76) 43 rfl W.heap.size 3 i3 (.int .i64 0) 1 8 Tryz.underlying43 hj0 hy0 hy1 hy2 rfl (by decide) u6 (upToR G.length dn j).length (intsV (upToR G.length dn j)) rfl (HST.out.lst.kp HAL.out) ⟨wr.heap.size, 0, none⟩ 1 1 [.int .i64 (j : Int)] rfl rfl (news_alloc wr [.int .i64 (j : Int)] 3) (by simp [Value.oneCell']) (by unfold maxLen; omega) (by omega) (by have := HAL.out.size; omega) ?_; intro v' w8 hown8 hgr8 hblk8; have H8 := Lib.hid (HST.out.append HAL.out hown8 hgr8 hblk8); have hc8 := H8.out.cls.cell hjn; have hf8 := H8.out.cls.frozen j; rw [Nat.zero_add] at hc8)
            obtain ⟨rb, ro, rc, rfl, hseg8⟩ := hown8.seg (by omega)
            have H9 := Lib.hid (H8.out.write hjn j (Nat.le_refl _))
            clear hown8 hgr8 hblk8 hseg8 hc8 hf8 hcd H8
            have HU := Lib.hid (show rp (faceB G) (restOf G.length dn) j = firstOr (faceB G j) j ((upToR G.length dn j).drop 0) from rfl)
            go_loopw [10] (fun v wr => ∃ k val : Nat, v = .int .i64 k ∧ k ≤ (upToR G.length dn j).length ∧ S2 G W W.heap.size db (.slice (some ⟨rb, ro, none⟩) ((upToR G.length dn j).length + 1) rc) (upd (clsTo G c dn j) j val) dn (upToR G.length dn j ++ [j]) wr ∧
              ((j = val ∧ rp (faceB G) (restOf G.length dn) j = firstOr (faceB G j) j ((upToR G.length dn j).drop k)) ∨ (val < j ∧ val = rp (faceB G) (restOf G.length dn) j))) (fun v _ => (upToR G.length dn j).length - (RowKit.intOf v).toNat)
            case atStart => exact ⟨0, j, rfl, Nat.zero_le _, H9.out, .inl ⟨rfl, HU.out⟩⟩
            case round =>
              obtain ⟨k, val, rfl, hk, hst, hv⟩ := hrel
              clear H9 HU
              have HST5 := Lib.hid hst
              have hcj := hst.cls.cell hjn
              rw [Nat.zero_add, upd_at] at hcj
              have hfz := hst.cls.frozen j
              rcases hv with ⟨hv1, hv⟩ | ⟨hlt, hv⟩
              · subst hv1
                by_cases hkl : k < (upToR G.length dn j).length
                · obtain ⟨f, hf0⟩ : ∃ f, (upToR G.length dn j)[k] = f := ⟨_, rfl⟩
                  have hfm := upToR_mem.1 (hf0 ▸ List.getElem_mem hkl)
                  have hrk := hst.at_ (k := k) (by simp; omega)
                  simp only [List.getD, List.getElem?_append_left hkl, List.getElem?_eq_getElem hkl, Option.getD_some, hf0] at hrk
                  have hcf := hst.cls.cell hfm.1.1
                  rw [Nat.zero_add, upd_ne _ _ (by omega)] at hcf
                  obtain ⟨x, hx⟩ : ∃ x, G[j]? = some x := ⟨_, List.getElem?_eq_getElem hjn⟩
                  obtain ⟨y, hy⟩ : ∃ y, G[f]? = some y := ⟨_, List.getElem?_eq_getElem hfm.1.1⟩
                  have nX := HV.out.at_ hx
                  have nY := HV.out.at_ hy
                  obtain ⟨g0, g1, g2, _, vx, g3, hxv⟩ := nX
                  obtain ⟨k0, k1, k2, _, vy, k3, hyv⟩ := nY
                  obtain ⟨xb, xc, rfl⟩ := hxv.len
                  obtain ⟨yb, yc, rfl⟩ := hyv.len
                  have hkp := hst.kp
                  have hkb := hkp.size
                  replace g0 := hkp.cells g0
                  replace g1 := hkp.cells g1
                  replace g2 := hkp.cells g2
                  replace g3 := hkp.cells g3
                  replace k0 := hkp.cells k0
                  replace k1 := hkp.cells k1
                  replace k2 := hkp.cells k2
                  replace k3 := hkp.cells k3
                  have CA := fun w (h : Kp W.heap.size W w) => alike_ok x y (.slice xb x.args.length xc) (.slice yb y.args.length yc) w (hxv.grown fun _ _ _ h' => h.cells h') (hyv.grown fun _ _ _ h' => h.cells h')
                  have HFB := Lib.hid (show faceB G j f = alikeB x y by unfold faceB; rw [hx, hy])
                  have HFM := Lib.hid hfm
                  have hkl1 : (k : Int) < ((upToR G.length dn j).length : Int) + 1 := by omega
                  have hfj : f < j := hfm.2
                  have hfn : f < G.length := hfm.1.1
                  have HF0 := Lib.hid hf0
                  have HVV := Lib.hid hv
                  have HKP := Lib.hid hkp
                  clear hx hy hxv hyv hfm hf0 hv hkp hst
                  cases ha : alikeB x y with
                  | true =>
                    rw [ha] at CA
                    have HA := Lib.hid ha
                    clear ha
                    go_wp2_with fail
                    go_still_tail 11, (by kernel_rfl)
                    go_wp2_with fail
                    refine (CA wr.drew HKP.out.drew).mono ?_
                    rintro e w6 ⟨rfl, k6⟩
                    have k6' : Kp wr.heap.size wr w6 := ⟨k6.os, k6.output, k6.size, k6.block⟩
                    have hst6 := HST5.out.grow k6'
                    have hrpf : rp (faceB G) (restOf G.length dn) j = f := by
                      have h := HVV.out
                      rw [firstOr_hit hkl (by rw [HF0.out, HFB.out, HA.out]), HF0.out] at h
                      exact h
                    have hcl : clsTo G c dn j f = f := by
                      unfold clsTo
                      rw [if_pos ⟨hfj, HFM.out.1.2⟩]
                      have h := rp_idem (face_eqv G dn) (rest_sorted _ _) (mem_rest.2 ⟨hjn, HDN.out⟩)
                      rw [hrpf] at h
                      exact h
                    rw [hcl] at hcf
                    replace hcf := k6'.cells hcf
                    replace hrk := k6'.cells hrk
                    have hcj6 := k6'.cells hcj
                    have hfz6 := hst6.cls.frozen j
                    have H7 := Lib.hid (hst6.write hjn f (Nat.le_refl _))
                    have HRPF := Lib.hid hrpf
                    clear hst6 k6 k6' hrpf hcl hcj hfz g0 g1 g2 g3 k0 k1 k2 k3 CA
                    go_wp2_with fail
                    go_roundw
                    case rel => exact ⟨k + 1, f, by go_num, by omega, by rw [upd_upd] at H7; exact H7.out, .inr ⟨hfj, HRPF.out.symm⟩⟩
                    case measure => simp [RowKit.intOf]; omega
                  | false =>
                    rw [ha] at CA
                    have HA := Lib.hid ha
                    clear ha
                    go_wp2_with fail
                    go_still_tail 11, (by kernel_rfl)
                    go_wp2_with fail
                    refine (CA wr.drew HKP.out.drew).mono ?_
                    rintro e w6 ⟨rfl, k6⟩
                    have k6' : Kp wr.heap.size wr w6 := ⟨k6.os, k6.output, k6.size, k6.block⟩
                    have H7 := Lib.hid (HST5.out.grow k6')
                    clear k6 k6' hcj hfz g0 g1 g2 g3 k0 k1 k2 k3 CA hcf hrk
                    go_wp2_with fail
                    go_roundw
                    case rel => exact ⟨k + 1, j, by go_num, by omega, H7.out, .inl ⟨rfl, by rw [HVV.out, firstOr_miss hkl (by rw [HF0.out, HFB.out, HA.out])]⟩⟩
                    case measure => simp [RowKit.intOf]; omega
                · have hrk := hst.at_ (k := k) (by simp; omega)
                  rw [List.getD, List.getElem?_append_right (by omega), show k - (upToR G.length dn j).length = 0 by omega] at hrk
                  simp only [List.getElem?_cons_zero, Option.getD_some] at hrk
                  have hkl1 : (k : Int) < ((upToR G.length dn j).length : Int) + 1 := by omega
                  have hend : rp (faceB G) (restOf G.length dn) j = j := by
                    rw [List.drop_eq_nil_of_le (by omega)] at hv
                    exact hv
                  have HEND := Lib.hid hend
                  clear hv hend hst
                  go_wp2_with fail
                  go_roundg (gk - 1)
                  case measure => omega
                  case rel =>
                    refine ⟨j + 1, by go_num, by omega, ?_⟩
                    have h := HST5.out
                    rw [← clsTo_next HDN.out, upToR_snoc hjn HDN.out, HEND.out]
                    exact h
              · have hne : ((val : Int) == (j : Int)) = false := by simp; omega
                have HVV := Lib.hid hv
                clear hv hst
                go_wp2_with fail
                go_roundg (gk - 1)
                case measure => omega
                case rel =>
                  refine ⟨j + 1, by go_num, by omega, ?_⟩
                  have h := HST5.out
                  rw [← clsTo_next HDN.out, upToR_snoc hjn HDN.out, ← HVV.out]
                  exact h
        · obtain rfl : j = G.length := by omega
          have h4 := S4.start h1.out HST.out
          obtain ⟨ra, rc, rfl, hra⟩ := own_slice h4.lst
          have hlr : (restOf G.length dn).length ≤ G.length := by rw [← upToR_all]; exact upToR_le
          have hgk : gk = 0 := by omega
          have H4 := Lib.hid h4
          have HRA := Lib.hid hra
          clear HST h4 hst hra hjg hgk h1
          generalize clsTo G c dn G.length = c4 at *
          go_wp2_with fail
          go_loopg [3, 11] ((restOf G.length dn).length - fixes c4 (restOf G.length dn) + 1) (fun g v3 v11 wi => ∃ b o cap c5 mo, v3 = .slice (some ⟨b, o, none⟩) G.length cap ∧ v11 = .bool mo ∧ S4 G W b o cap (.slice ra (restOf G.length dn).length rc) c5 dn fs wi ∧
            (mo = false → ∀ i ∈ restOf G.length dn, c5 i = rp (fineB G c5) (restOf G.length dn) i) ∧ ((restOf G.length dn).length - fixes c5 (restOf G.length dn)) + (if mo = true then 1 else 0) ≤ g)
          case atStart => exact ⟨_, _, _, c4, true, rfl, rfl, H4.out, fun h => (by cases h), Nat.le_refl _⟩
          case round =>
            obtain ⟨b, o, cap, c5, mo, rfl, rfl, hst, hq, hmu⟩ := hrel
            clear H4
            have HST := Lib.hid hst
            have HQ := Lib.hid hq
            have HMU := Lib.hid hmu
            clear hst hq hmu
            cases mo with
            | false =>
              have HQ2 := Lib.hid (HQ.out rfl)
              clear HQ HMU
              go_wp2_with fail
              go_ret
              have h := HST.out
              exact ⟨b, o, cap, c5, rfl, h.cls, P3.done HG.out h.p1 hq1.out h.p3 HQ2.out, class_root h.p1 h.p3 hn HP.out, h.kp⟩
            | true =>
              have hws := HST.out.kp.size
              go_wp2_with (at_builtin; refine wpList_append_mine rfl (.tmp 121) (.tmp 122) 43 rfl W.heap.size 3 i3 (.int .i64 0) 1 8 Tryz.underlying43 hj0 hy0 hy1 hy2 rfl (by decide) (.slice none 0 0) 0 [] rfl ⟨rfl, .inl ⟨rfl, rfl⟩⟩ ⟨b, o, none⟩ G.length cap _ rfl (by simp) (segF_news HST.out.cls) (by simp [Value.oneCell']) (by unfold maxLen; omega) (by omega) hws ?_; intro v' w8 hown8 hgr8 hblk8; obtain ⟨nb, no, ncap, rfl, hs3⟩ := HST.out.copy hn hown8 hgr8 hblk8)
              have H3 := Lib.hid hs3
              clear hs3 hown8 hgr8 hblk8
              obtain ⟨F, hFF⟩ : ∃ F, F = gk := ⟨_, rfl⟩
              have HFF := Lib.hid hFF
              clear hFF
              go_loopg [11, 13] (restOf G.length dn).length (fun g v11 v13 wi => ∃ (k : Nat) (mo : Bool), v13 = .int .i64 k ∧ v11 = .bool mo ∧ k + g = (restOf G.length dn).length ∧ S3 G W b o cap nb no ncap (.slice ra (restOf G.length dn).length rc) c5 (newC G c5 dn k) dn wi ∧
                (mo = false → ∀ z ∈ (restOf G.length dn).take k, rp (fineB G c5) (restOf G.length dn) z = c5 z) ∧ (mo = true → ∃ z ∈ restOf G.length dn, rp (fineB G c5) (restOf G.length dn) z ≠ c5 z))
              case atStart => exact ⟨0, false, rfl, rfl, by omega, H3.out, fun _ z hz => by simp at hz, fun h => by cases h⟩
              case round =>
                obtain ⟨k, mo, rfl, rfl, hkg, hst, hm0, hm1⟩ := hrel
                clear H3
                have HS3 := Lib.hid hst
                have HM0 := Lib.hid hm0
                have HM1 := Lib.hid hm1
                clear hst hm0 hm1
                by_cases hkl : k < (restOf G.length dn).length
                · obtain ⟨i, hi0⟩ : ∃ i, (restOf G.length dn)[k] = i := ⟨_, rfl⟩
                  have hir : i ∈ restOf G.length dn := hi0 ▸ List.getElem_mem hkl
                  have hil := (mem_rest.1 hir).1
                  obtain ⟨rb, ro, rfl⟩ := HRA.out k hkl
                  have hrk := own_at HS3.out.lst hkl
                  rw [hi0] at hrk
                  have hcn := HS3.out.nxt.cell hil
                  have hfn := HS3.out.nxt.frozen (no + i)
                  have HW := Lib.hid (HS3.out.write hil i)
                  have hkg2 : k + gk ≤ (restOf G.length dn).length := by omega
                  have hkg3 : (restOf G.length dn).length ≤ k + gk := by omega
                  have HI0 := Lib.hid hi0
                  have HIR := Lib.hid hir
                  clear hi0 hir hkg
                  go_wp2_with fail
                  have HU := Lib.hid (show rp (fineB G c5) (restOf G.length dn) i = firstOr (fineB G c5 i) i (((restOf G.length dn).take k).drop 0) from rp_take hkl HI0.out)
                  go_loopw [15] (fun v wr => ∃ q val : Nat, v = .int .i64 q ∧ q ≤ k ∧ S3 G W b o cap nb no ncap (.slice (some ⟨rb, ro, none⟩) (restOf G.length dn).length rc) c5 (upd (newC G c5 dn k) i val) dn wr ∧
                    ((i = val ∧ rp (fineB G c5) (restOf G.length dn) i = firstOr (fineB G c5 i) i (((restOf G.length dn).take k).drop q)) ∨ (val < i ∧ val = rp (fineB G c5) (restOf G.length dn) i))) (fun v _ => k - (RowKit.intOf v).toNat)
                  case atStart => exact ⟨0, i, rfl, Nat.zero_le _, HW.out, .inl ⟨rfl, HU.out⟩⟩
                  case round =>
                    obtain ⟨q, val, rfl, hqk, hst, hv⟩ := hrel
                    clear HW HU hcn hfn hrk
                    have HST5 := Lib.hid hst
                    have hcj := hst.nxt.cell hil
                    rw [upd_at] at hcj
                    have hfz := hst.nxt.frozen (no + i)
                    have hci := hst.cls.cell hil
                    have hrk := own_at hst.lst hkl
                    rw [HI0.out] at hrk
                    rcases hv with ⟨hv1, hv⟩ | ⟨hlt, hv⟩
                    · subst hv1
                      by_cases hql : q < k
                      · have hkm : q < (restOf G.length dn).length := by omega
                        obtain ⟨f, hf0⟩ : ∃ f, (restOf G.length dn)[q] = f := ⟨_, rfl⟩
                        have hft : f ∈ (restOf G.length dn).take k := List.mem_take_iff_getElem.2 ⟨q, by omega, hf0⟩
                        have hfr : f ∈ restOf G.length dn := List.mem_of_mem_take hft
                        have hfn : f < G.length := (mem_rest.1 hfr).1
                        have hfi : f < i := by
                          have h := take_filter (rest_sorted G.length dn) hkl
                          rw [HI0.out] at h
                          rw [← h] at hft
                          simpa using (List.mem_filter.1 hft).2
                        have hqt : q < ((restOf G.length dn).take k).length := by simp; omega
                        have hgt : ((restOf G.length dn).take k)[q] = f := by simpa using hf0
                        have hrq := own_at hst.lst hkm
                        rw [hf0] at hrq
                        have hcf := hst.cls.cell hfn
                        have hnf := hst.nxt.cell hfn
                        rw [upd_ne _ _ (by omega), newC_in hft] at hnf
                        obtain ⟨x, hx⟩ : ∃ x, G[i]? = some x := ⟨_, List.getElem?_eq_getElem hil⟩
                        obtain ⟨y, hy⟩ : ∃ y, G[f]? = some y := ⟨_, List.getElem?_eq_getElem hfn⟩
                        have nX := HV.out.at_ hx
                        have nY := HV.out.at_ hy
                        obtain ⟨g0, g1, g2, _, vx, g3, hxv⟩ := nX
                        obtain ⟨k0, k1, k2, _, vy, k3, hyv⟩ := nY
                        obtain ⟨xb, xc, rfl⟩ := hxv.len
                        obtain ⟨yb, yc, rfl⟩ := hyv.len
                        have hkp := hst.kp
                        have hkb := hkp.size
                        replace g0 := hkp.cells g0
                        replace g1 := hkp.cells g1
                        replace g2 := hkp.cells g2
                        replace g3 := hkp.cells g3
                        replace k0 := hkp.cells k0
                        replace k1 := hkp.cells k1
                        replace k2 := hkp.cells k2
                        replace k3 := hkp.cells k3
                        have hGx := HG.out x (List.mem_of_getElem? hx)
                        have hGy := HG.out y (List.mem_of_getElem? hy)
                        have HP3 := Lib.hid HST.out.p3
                        have hlen : c5 i = c5 f → x.args.length = y.args.length := by
                          intro e
                          have hff := HP3.out.face i HIR.out f hfr e
                          unfold faceOf at hff
                          rw [hx, hy] at hff
                          simp only [Option.map_some, Option.some.injEq] at hff
                          unfold Nd.face at hff
                          injection hff with _ h2
                          injection h2 with h3 _
                        have CS := fun (hl : x.args.length = y.args.length) w (h : Kp W.heap.size W w) (h' : Kp wr.heap.size wr w) => sameArgs_ok x y (.slice xb x.args.length xc) (.slice yb y.args.length yc) b o G.length cap c5 w (hxv.grown fun _ _ _ h' => h.cells h') (hyv.grown fun _ _ _ h' => h.cells h') hG8 hl hGx.1 hGx.2 hGy.2 (hst.cls.ints.kp h')
                        have HFB := Lib.hid (show fineB G c5 i f = (c5 i == c5 f && sargsB c5 x.args y.args x.args.length) by unfold fineB; rw [hx, hy])
                        have HLEN := Lib.hid hlen
                        have HFR := Lib.hid hfr
                        have HGT := Lib.hid hgt
                        have HVV := Lib.hid hv
                        have HKP := Lib.hid hkp
                        have hql1 : (q : Int) < (k : Int) := by omega
                        have hkm1 : (q : Int) < ((restOf G.length dn).length : Int) := by omega
                        clear hx hy hxv hyv hfr hf0 hv hkp hst hGx hGy hlen hft hgt hrk
                        by_cases hcc : c5 i = c5 f
                        · obtain ⟨bb, hbb⟩ : ∃ bb, sargsB c5 x.args y.args x.args.length = bb := ⟨_, rfl⟩
                          have CS' := CS (HLEN.out hcc) wr.drew HKP.out.drew (Kp.refl _ _).drew
                          rw [hbb] at CS'
                          have HBB := Lib.hid hbb
                          have HCC := Lib.hid hcc
                          rw [← hcc] at hcf
                          clear CS hbb hcc
                          go_wp2_with fail
                          go_still_tail 25, (by kernel_rfl)
                          go_wp2_with fail
                          refine CS'.mono ?_
                          rintro e w6 ⟨rfl, k6⟩
                          have k6' : Kp wr.heap.size wr w6 := ⟨k6.os, k6.output, k6.size, k6.block⟩
                          have hst6 := HST5.out.grow k6'
                          replace hcf := k6'.cells hcf
                          replace hci := k6'.cells hci
                          replace hcj := k6'.cells hcj
                          replace hrq := k6'.cells hrq
                          replace hnf := k6'.cells hnf
                          have hfz6 := hst6.nxt.frozen (no + i)
                          cases bb with
                          | true =>
                            have hrpf : rp (fineB G c5) (restOf G.length dn) i = f := by
                              have h := HVV.out
                              rw [firstOr_hit hqt (by rw [HGT.out, HFB.out, HBB.out]; simp [HCC.out]), HGT.out] at h
                              exact h
                            have hrf : rp (fineB G c5) (restOf G.length dn) f = f := by
                              have h := rp_idem (fine_eqv HP3.out) (rest_sorted _ _) HIR.out
                              rw [hrpf] at h
                              exact h
                            rw [hrf] at hnf
                            have H7 := Lib.hid (hst6.write hil f)
                            have HRPF := Lib.hid hrpf
                            clear hst6 k6 k6' hrpf hrf hfz g0 g1 g2 g3 k0 k1 k2 k3 CS'
                            go_wp2_with fail
                            go_roundw
                            case rel => exact ⟨q + 1, f, by go_num, by omega, by rw [upd_upd] at H7; exact H7.out, .inr ⟨hfi, HRPF.out.symm⟩⟩
                            case measure => simp [RowKit.intOf]; omega
                          | false =>
                            have H7 := Lib.hid hst6
                            clear hst6 k6 k6' hfz g0 g1 g2 g3 k0 k1 k2 k3 CS'
                            go_wp2_with fail
                            go_roundw
                            case rel => exact ⟨q + 1, i, by go_num, by omega, H7.out, .inl ⟨rfl, by rw [HVV.out, firstOr_miss hqt (by rw [HGT.out, HFB.out, HBB.out]; simp)]⟩⟩
                            case measure => simp [RowKit.intOf]; omega
                        · have hne : ((c5 i : Int) == (c5 f : Int)) = false := by simp; omega
                          have HCC := Lib.hid hcc
                          clear CS hcc
                          go_wp2_with fail
                          go_quiet (fail)
                          go_wp2_with fail
                          go_roundw
                          case rel => exact ⟨q + 1, i, by go_num, by omega, HST5.out.drewN _, .inl ⟨rfl, by rw [HVV.out, firstOr_miss hqt (by rw [HGT.out, HFB.out]; simp [HCC.out])]⟩⟩
                          case measure => simp [RowKit.intOf]; omega
                      · have HEND : Hid (i = rp (fineB G c5) (restOf G.length dn) i) := Lib.hid (by
                          rw [List.drop_eq_nil_of_le (by simp; omega)] at hv
                          exact hv.symm)
                        clear hv hst
                        have hql2 : ¬ ((q : Int) < (k : Int)) := by omega
                        go_wp2_with fail
                        have HFIN := Lib.hid (show S3 G W b o cap nb no ncap (.slice (some ⟨rb, ro, none⟩) (restOf G.length dn).length rc) c5 (newC G c5 dn (k + 1)) dn wr from by rw [← newC_next hkl HI0.out, ← HEND.out]; exact HST5.out)
                        cases mo with
                        | true =>
                          have HM := Lib.hid (HM1.out rfl)
                          clear HM0 HM1
                          go_wp2_with fail
                          go_quiet (fail)
                          go_wp2_with fail
                          go_roundg (gk - 1)
                          case measure => omega
                          case rel => exact ⟨k + 1, true, by go_num, rfl, by omega, HFIN.out.drewN _, fun h => (by cases h), fun _ => HM.out⟩
                        | false =>
                          have HM := Lib.hid (HM0.out rfl)
                          clear HM0 HM1
                          by_cases hvc : i = c5 i
                          · rw [← hvc] at hci
                            have HVC := Lib.hid hvc
                            clear hvc
                            go_wp2_with fail
                            go_quiet (fail)
                            go_wp2_with fail
                            go_roundg (gk - 1)
                            case measure => omega
                            case rel => exact ⟨k + 1, false, by go_num, rfl, by omega, HFIN.out.drewN _, fun _ z hz => by
                              rw [List.take_succ_eq_append_getElem hkl, HI0.out] at hz
                              rcases List.mem_append.1 hz with hz | hz
                              · exact HM.out z hz
                              · obtain rfl : z = i := by simpa using hz
                                rw [← HEND.out]; exact HVC.out, fun h => (by cases h)⟩
                          · have hne2 : ((i : Int) != (c5 i : Int)) = true := by simp; omega
                            have HVC := Lib.hid hvc
                            clear hvc
                            go_wp2_with fail
                            go_quiet (fail)
                            go_wp2_with fail
                            go_roundg (gk - 1)
                            case measure => omega
                            case rel => exact ⟨k + 1, true, by go_num, rfl, by omega, HFIN.out.drewN _, fun h => (by cases h), fun _ => ⟨i, HIR.out, by rw [← HEND.out]; exact HVC.out⟩⟩

                    · have hne : ((val : Int) == (i : Int)) = false := by simp; omega
                      have HEND := Lib.hid hv
                      clear hv hst
                      go_wp2_with fail
                      have HFIN := Lib.hid (show S3 G W b o cap nb no ncap (.slice (some ⟨rb, ro, none⟩) (restOf G.length dn).length rc) c5 (newC G c5 dn (k + 1)) dn wr from by rw [← newC_next hkl HI0.out, ← HEND.out]; exact HST5.out)
                      cases mo with
                      | true =>
                        have HM := Lib.hid (HM1.out rfl)
                        clear HM0 HM1
                        go_wp2_with fail
                        go_quiet (fail)
                        go_wp2_with fail
                        go_roundg (gk - 1)
                        case measure => omega
                        case rel => exact ⟨k + 1, true, by go_num, rfl, by omega, HFIN.out.drewN _, fun h => (by cases h), fun _ => HM.out⟩
                      | false =>
                        have HM := Lib.hid (HM0.out rfl)
                        clear HM0 HM1
                        by_cases hvc : val = c5 i
                        · rw [← hvc] at hci
                          have HVC := Lib.hid hvc
                          clear hvc
                          go_wp2_with fail
                          go_quiet (fail)
                          go_wp2_with fail
                          go_roundg (gk - 1)
                          case measure => omega
                          case rel => exact ⟨k + 1, false, by go_num, rfl, by omega, HFIN.out.drewN _, fun _ z hz => by
                            rw [List.take_succ_eq_append_getElem hkl, HI0.out] at hz
                            rcases List.mem_append.1 hz with hz | hz
                            · exact HM.out z hz
                            · obtain rfl : z = i := by simpa using hz
                              rw [← HEND.out]; exact HVC.out, fun h => (by cases h)⟩
                        · have hne2 : ((val : Int) != (c5 i : Int)) = true := by simp; omega
                          have HVC := Lib.hid hvc
                          clear hvc
                          go_wp2_with fail
                          go_quiet (fail)
                          go_wp2_with fail
                          go_roundg (gk - 1)
                          case measure => omega
                          case rel => exact ⟨k + 1, true, by go_num, rfl, by omega, HFIN.out.drewN _, fun h => (by cases h), fun _ => ⟨i, HIR.out, by rw [← HEND.out]; exact HVC.out⟩⟩
                · obtain rfl : k = (restOf G.length dn).length := by omega
                  have H4 := Lib.hid (HS3.out.done HG.out HST.out.p1 hq1.out HST.out.p3)
                  have hle := fixes_le (newC G c5 dn (restOf G.length dn).length) (restOf G.length dn)
                  cases mo with
                  | true =>
                    obtain ⟨z, hz, hne⟩ := HM1.out rfl
                    have hfx := fixes_more HST.out.p3 newC_all hz (by rw [newC_all z hz]; exact hne)
                    clear hz hne HM0 HM1
                    go_wp2_with fail
                    have hmu := HMU.out
                    try simp only [if_pos] at hmu
                    go_roundg (((restOf G.length dn).length - fixes (newC G c5 dn (restOf G.length dn).length) (restOf G.length dn)) + 1)
                    case measure => omega
                    case rel => exact ⟨nb, no, ncap, _, true, rfl, rfl, H4.out, fun h => (by cases h), Nat.le_refl _⟩
                  | false =>
                    have HSM := Lib.hid (newC_same (fun z hz => HM0.out rfl z (by rw [List.take_length]; exact hz)))
                    clear HM0 HM1
                    go_wp2_with fail
                    have hmu := HMU.out
                    try simp only [if_pos] at hmu
                    have h4 := H4.out
                    rw [HSM.out] at h4
                    go_roundg ((restOf G.length dn).length - fixes c5 (restOf G.length dn))
                    case measure => omega
                    case rel => exact ⟨nb, no, ncap, _, false, rfl, rfl, h4, fun _ z hz => by rw [← newC_all z hz, HSM.out], by simp⟩
    | true =>
      go_wp2_with fail
      go_loopg [5, 7, 8] G.length (fun g2 v5 v7 v8 wi => ∃ (c' : Nat → Nat) (dn' : Nat → Bool) (fs' : List Nat) (mo : Bool) (z : Int), v7 = .bool mo ∧ v8 = .int .i64 z ∧ z + 1 = (g2 : Int) ∧ g2 ≤ G.length ∧ S1 G W W.heap.size db v5 c' dn' fs' wi ∧
        (mo = false → ∀ j, g2 ≤ j → j < G.length → dn' j = false → ∃ a ∈ argsAt G j, dn' a = false) ∧ (restOf G.length dn').length + (if mo = true then 1 else 0) ≤ (restOf G.length dn).length)
      case atStart => exact ⟨c, dn, fs, false, (G.length : Int) - 1, rfl, rfl, by omega, Nat.le_refl _, HST.out, fun _ j h1 h2 => by omega, by simp⟩
      case round =>
        obtain ⟨c', dn', fs', mo, z, rfl, rfl, hz, hg2, hst, hq, hmu⟩ := hrel
        have HZ := Lib.hid hz
        have HQ2 := Lib.hid hq
        have HMU2 := Lib.hid hmu
        have HST2 := Lib.hid hst
        cases gk with
        | zero =>
          have hzn : z < 0 := by omega
          clear hz hq hmu hst
          go_wp2_with fail
          have hmu := HMU.out
          simp only [if_pos] at hmu
          have hmu2 := HMU2.out
          go_roundg ((restOf G.length dn').length + (if mo = true then 1 else 0))
          case measure => omega
          case rel => exact ⟨c', dn', fs', mo, rfl, HST2.out, fun h i hi hd => HQ2.out h i (Nat.zero_le _) hi hd, Nat.le_refl _⟩
        | succ k =>
          have hzp : 0 ≤ z := by omega
          have hzl : z < (G.length : Int) := by omega
          have hzk : z.toNat = k := by omega
          obtain ⟨i, rfl⟩ : ∃ i : Nat, z = i := ⟨z.toNat, by omega⟩
          obtain rfl : i = k := by simpa using hzk
          have hil : i < G.length := by omega
          have hcd := hst.don.cell (i := i) (by rw [boolsF_length]; exact hil)
          rw [boolsF_get dn' hil] at hcd
          obtain ⟨n, hn0⟩ : ∃ n, G[i]? = some n := ⟨_, List.getElem?_eq_getElem hil⟩
          clear hz hq hmu hst hzk hzp hzl
          cases hdn : dn' i with
          | true =>
            rw [hdn] at hcd
            have HDN := Lib.hid hdn
            clear hdn hn0
            go_wp2_with fail
            go_roundg i
            case measure => omega
            case rel =>
              exact ⟨c', dn', fs', mo, (i : Int) - 1, rfl, rfl, by omega, by omega, HST2.out, fun h j h1 h2 h3 => by
                by_cases hji : j = i
                · rw [hji, HDN.out] at h3; cases h3
                · exact HQ2.out h j (by omega) h2 h3, HMU2.out⟩
          | false =>
            rw [hdn] at hcd
            have nX := HV.out.at_ hn0
            obtain ⟨g0, g1, g2, _, va, g3, hav⟩ := nX
            obtain ⟨ab, ac, rfl⟩ := hav.len
            have hkp := HST2.out.kp
            replace g0 := hkp.cells g0
            replace g1 := hkp.cells g1
            replace g2 := hkp.cells g2
            replace g3 := hkp.cells g3
            have hgn := HG.out n (List.mem_of_getElem? hn0)
            have hat := argsAt_some hn0
            have CR := ready_ok n (.slice ab n.args.length ac) db G.length G.length dn' wr (hav.grown fun _ _ _ h => hkp.cells h) hG8 hgn.1 hgn.2 (fun j hj => by have := HST2.out.don.cell (i := j) (by rw [boolsF_length]; exact hj); rwa [boolsF_get dn' hj] at this)
            have HDN := Lib.hid hdn
            have HAT := Lib.hid hat
            have HN0 := Lib.hid hn0
            clear hdn hn0 hkp hat hav hgn
            cases hrd : readyB dn' n.args with
            | false =>
              rw [hrd] at CR
              have HRD := Lib.hid hrd
              clear hrd
              go_wp2_with fail
              refine CR.mono ?_
              rintro e w5 ⟨rfl, k5⟩
              have HST5 := Lib.hid (HST2.out.grow k5)
              clear k5 CR
              go_wp2_with fail
              go_roundg i
              case measure => omega
              case rel =>
                refine ⟨c', dn', fs', mo, (i : Int) - 1, rfl, rfl, by omega, by omega, HST5.out, fun h j h1 h2 h3 => ?_, HMU2.out⟩
                by_cases hji : j = i
                · have hr := HRD.out
                  unfold readyB at hr
                  rw [List.all_eq_false] at hr
                  obtain ⟨a, ha, hb⟩ := hr
                  rw [hji, HAT.out]
                  exact ⟨a.toNat, List.mem_map.2 ⟨a, ha, rfl⟩, by simpa using hb⟩
                · exact HQ2.out h j (by omega) h2 h3
            | true =>
              rw [hrd] at CR
              have hall : ∀ a ∈ argsAt G i, dn' a = true := by
                rw [HAT.out]
                intro a ha
                obtain ⟨b, hb, rfl⟩ := List.mem_map.1 ha
                exact List.all_eq_true.1 hrd b hb
              have HALL := Lib.hid hall
              clear hrd hall
              go_wp2_with fail
              refine CR.mono ?_
              rintro e w5 ⟨rfl, k5⟩
              have HST5 := Lib.hid (HST2.out.grow k5)
              have hv5 : Hid (NodesV w5 (.slice (some ⟨gb, go, none⟩) G.length gc) G) := HV.out.kp HST5.out.kp
              clear k5 CR g0 g1 g2 g3 hcd
              go_wp2_with fail
              have CF := find_any G fs' u5 i c' W w5 gb go gc W.heap.size G.length W.heap.size HG.out hv5.out hG8 HST5.out.fst (fun x hx => (HST5.out.p1.fst x hx).1) HST5.out.p1.nodup hil HST5.out.cls.ints
              have hstep := HST5.out.p1.step HG.out hil HDN.out HALL.out
              obtain ⟨K, hK⟩ : ∃ K, firstOr (likeB G c' i) i fs' = K := ⟨_, rfl⟩
              rw [hK] at CF hstep
              refine CF.mono ?_
              rintro e w6 ⟨rfl, k6⟩
              have hst6 := HST5.out.grow k6
              have hKl : K < G.length := by have := hstep.clt i hil; simpa using this
              have hcc := hst6.cls.cell hil
              have hcf := hst6.cls.frozen i
              rw [Nat.zero_add] at hcc
              have hset := hst6.cls.set hil K
              rw [Nat.zero_add] at hset
              have hC7 : Chg W.heap.size w6 (w6.setCell ⟨W.heap.size, i, none⟩ (.int .i64 (K : Int))) := (Chg.refl _ _).setCell _ _
              have hn6 := hst6.ne
              have hdon7 := hst6.don.chg hC7 hn6.1.symm
              have hfst7 := hst6.fst.chg hC7 hn6.2.1
              have hkp7 := hst6.kp.setCell (p := ⟨W.heap.size, i, none⟩) (Nat.le_refl _) (.int .i64 (K : Int))
              have hdl := hst6.don.lt
              have hcl := hst6.cls.lt
              have hsz7 : (w6.setCell ⟨W.heap.size, i, none⟩ (.int .i64 (K : Int))).heap.size = w6.heap.size := by simp [World.setCell]
              have hfl := nodup_le _ _ hst6.p1.nodup (fun x hx => (hst6.p1.fst x hx).1)
              have hdc := hdon7.cell (i := i) (by rw [boolsF_length]; exact hil)
              have hdf := hdon7.frozen i
              have hwz := hst6.kp.size
              have HSET := Lib.hid hset
              have HDON7 := Lib.hid hdon7
              have HFST7 := Lib.hid hfst7
              have HKP7 := Lib.hid hkp7
              have HN6 := Lib.hid hn6
              have HSTEP := Lib.hid hstep
              have HSZ7 := Lib.hid hsz7
              have HST6 := Lib.hid hst6
              have HLESS := Lib.hid (rest_less hil HDN.out)
              clear hset hdon7 hfst7 hkp7 hn6 hstep hsz7 hst6 k6 CF hK hC7
              by_cases hKi : K = i
              · obtain rfl : i = K := hKi.symm
                have hal : Kp (w6.setCell ⟨W.heap.size, i, none⟩ (.int .i64 (i : Int))).heap.size (w6.setCell ⟨W.heap.size, i, none⟩ (.int .i64 (i : Int))) ((w6.setCell ⟨W.heap.size, i, none⟩ (.int .i64 (i : Int))).alloc (Obj.cells #[Value.int .i64 (i : Int)] 3)) := (Kp.refl _ _).alloc (Nat.le_refl _) _
                have hnews := news_alloc (w6.setCell ⟨W.heap.size, i, none⟩ (.int .i64 (i : Int))) [.int .i64 (i : Int)] 3
                rw [HSZ7.out] at hnews
                have HAL := Lib.hid hal
                have HNW := Lib.hid hnews
                clear hal hnews
                go_wp2_with (at_builtin; refine wpList_append_mine rfl (.tmp 57) (.tmp 59) 43 rfl W.heap.size 3 i3 (.int .i64 0) 1 8 Tryz.underlying43 hj0 hy0 hy1 hy2 rfl (by decide) u5 fs'.length (intsV fs') rfl (HFST7.out.kp HAL.out) ⟨w6.heap.size, 0, none⟩ 1 1 [.int .i64 (i : Int)] rfl rfl HNW.out (by simp [Value.oneCell']) (by unfold maxLen; omega) (by omega) (by have := HSZ7.out; have := HAL.out.size; omega) ?_; intro v' w8 hown8 hgr8 hblk8; have hdon8 := Lib.hid ((HDON7.out.kp HAL.out).of_heap (grown_other hgr8 (by have := HSZ7.out; have := HAL.out.size; omega) HN6.out.2.2)); have hdc8 := hdon8.out.cell (i := i) (by rw [boolsF_length]; exact hil); have hdf8 := hdon8.out.frozen i)
                have hsz7 := HSZ7.out
                have hals := HAL.out.size
                have hst8 : S1 G W W.heap.size db v' (upd c' i i) (upd dn' i true) (fs' ++ [i]) (w8.setCell ⟨db, i, none⟩ (.bool true)) := by
                  have hs := HSTEP.out
                  simp only [if_true] at hs
                  have hC8 : Chg db w8 (w8.setCell ⟨db, i, none⟩ (.bool true)) := (Chg.refl _ _).setCell _ _
                  have hcls8 := (HSET.out.kp HAL.out).of_heap (grown_other hgr8 (by omega) HN6.out.2.1)
                  have hv' : v'.ownBlock ≠ some W.heap.size ∧ v'.ownBlock ≠ some db := by
                    rcases hblk8 with e | ⟨g, e, hg⟩
                    · rw [e]; exact HN6.out.2
                    · rw [e]; exact ⟨fun h => by have := Option.some.inj h; omega, fun h => by have := Option.some.inj h; omega⟩
                  have hkp8 := Kp.of_grown_mine (HKP7.out.trans (HAL.out.mono (by omega))) (HFST7.out.kp HAL.out) hgr8 (by omega)
                  have hown8' : Own W.heap.size 1 w8 v' (fs' ++ [i]).length (intsV (fs' ++ [i])) := by
                    have := hown8
                    simpa [intsV] using this
                  exact ⟨hs, hcls8.chg hC8 HN6.out.1, by rw [← boolsF_set dn' hil]; exact hdon8.out.set i true, hown8'.chg hC8 hv'.2, ⟨HN6.out.1, hv'⟩, hdb, hkp8.setCell (p := ⟨db, i, none⟩) hdb _⟩
                have HS8 := Lib.hid hst8
                clear hst8 hown8 hgr8 hblk8 hdon8
                have hl := HLESS.out
                have hmu2 := HMU2.out
                go_roundg i
                case measure => omega
                case rel => exact ⟨_, _, _, true, (i : Int) - 1, rfl, rfl, by omega, by omega, HS8.out, fun h => (by cases h), by simp only [if_pos]; omega⟩
              · have hne : ((K : Int) == (i : Int)) = false := by simp; omega
                have HKI := Lib.hid hKi
                clear hKi
                go_wp2_with fail
                have hst8 : S1 G W W.heap.size db u5 (upd c' i K) (upd dn' i true) fs' ((w6.setCell ⟨W.heap.size, i, none⟩ (.int .i64 (K : Int))).setCell ⟨db, i, none⟩ (.bool true)) := by
                  have hs := HSTEP.out
                  rw [if_neg HKI.out] at hs
                  have hC8 : Chg db (w6.setCell ⟨W.heap.size, i, none⟩ (.int .i64 (K : Int))) ((w6.setCell ⟨W.heap.size, i, none⟩ (.int .i64 (K : Int))).setCell ⟨db, i, none⟩ (.bool true)) := (Chg.refl _ _).setCell _ _
                  exact ⟨hs, HSET.out.chg hC8 HN6.out.1, by rw [← boolsF_set dn' hil]; exact HDON7.out.set i true, HFST7.out.chg hC8 HN6.out.2.2, HN6.out, hdb, HKP7.out.setCell (p := ⟨db, i, none⟩) hdb _⟩
                have hl := HLESS.out
                have hmu2 := HMU2.out
                go_roundg i
                case measure => omega
                case rel => exact ⟨_, _, _, true, (i : Int) - 1, rfl, rfl, by omega, by omega, hst8, fun h => (by cases h), by simp only [if_pos]; omega⟩
end Go.Ev
