import Derived.Test.YtbjcopckkgdmgaaGreatDoorCw1
import Derived.Test.YtbjcopckkgdmgaaGreatDoorN2
import Derived.Test.YtbjcopckkgdmgaaGreatDoorCq1
import Derived.Test.YtbjcopckkgdmgaaGreatDoorOd2
/- The document's own least: the walk. -/
namespace Go.Ev
open Go.Proofs Go.RowKit Go.Lib
set_option maxRecDepth 100000

def LeastPost (G : List Nd) (r : Nat) (W : World) (e : Ending) (w' : World) : Prop := ∃ L v us, e = .returned (.agg #[v, .int .i64 0]) ∧ OwnN W.heap.size w' v L us ∧ Canon L ∧ Bis L 0 G r ∧ L.length ≤ G.length ∧ Kp W.heap.size W w'

set_option maxHeartbeats 16000000 in
theorem least_ok (G : List Nd) (r : Nat) (W : World) (gb go gc : Nat) (hG : GClosed G) (hr : r < G.length) (hG8 : G.length ≤ 200000) (hg : NodesV W (.slice (some ⟨gb, go, none⟩) G.length gc) G) :
    Calls Tryz.prog 44 #[.slice (some ⟨gb, go, none⟩) G.length gc, .int .i64 r] W (LeastPost G r W) := by
  have HG := Lib.hid hG
  have HV := Lib.hid hg
  have HRE := Lib.hid (reach_ok hG hr)
  have hle := reach_le hG hr
  have CR := reached_ok G r
  clear hG hg
  obtain ⟨i3, hj0, hy0, hy1, hy2⟩ := info_parts Tryz.info3
  obtain ⟨i48, hq0, hx0', hx1', hx2'⟩ := info_parts Tryz.info48
  have hb3 : i3.bytes * G.length ≤ 281474976710656 := by rw [hy2]; omega
  go_enter Tryz.func44, Tryz.ntmps44
  go_wp2_with fail
  have k1 : Kp W.heap.size W (W.alloc (Obj.cells #[Value.slice none 0 0, Value.int IntKind.i64 0] 24)) := (Kp.refl _ _).alloc (Nat.le_refl _) _
  have r0 : (W.alloc (Obj.cells #[Value.slice none 0 0, Value.int IntKind.i64 0] 24)).heap[W.heap.size]? = some (Obj.cells #[Value.slice none 0 0, Value.int IntKind.i64 0] 24 (0, 0)) := Array.getElem?_push_size
  have hz1 : (W.alloc (Obj.cells #[Value.slice none 0 0, Value.int IntKind.i64 0] 24)).heap.size = W.heap.size + 1 := by simp
  generalize W.alloc (Obj.cells #[Value.slice none 0 0, Value.int IntKind.i64 0] 24) = W1 at *
  have HV1 := Lib.hid (HV.out.kp k1)
  have K1 := Lib.hid k1
  clear k1
  refine (CR W1 gb go gc HG.out hr hG8 HV1.out).mono ?_
  rintro e w2 ⟨lb, lo, lc, rfl, hl2, k2⟩
  have HL2 := Lib.hid hl2
  replace r0 := (k2.block W.heap.size (by omega)).trans r0
  have hs2 := k2.size
  have K2 := Lib.hid (K1.out.trans (k2.mono (by omega)))
  clear hl2 k2 CR
  obtain ⟨m, hm⟩ : ∃ m, (reach G r).length = m := ⟨_, rfl⟩
  rw [hm] at HL2 hle
  rw [hm]
  have HM := Lib.hid hm
  clear hm
  go_wp2_with (first
    | (refine wpList_make_full _ rfl _ _ 43 rfl w2.heap.size 3 i3 _ 1 Tryz.underlying43 hj0 hy0 hy1 .i64 .i64 G.length G.length G.length rfl rfl rfl rfl hb3 (by unfold maxLen; omega) (Nat.le_refl _) ?_; intro w3 hown3 hgr3))
  have hnum := zeros_segF (RowI.made hown3) (Nat.le_refl _) (by unfold maxLen; omega)
  have k3 : Kp w2.heap.size w2 w3 := (Kp.refl _ _).grownBy hgr3 (Nat.le_refl _) (fun k hk => by cases hk)
  have HN0 := Lib.hid hnum
  have HL3 := Lib.hid (HL2.out.kp k3)
  have hll := HL2.out.lt
  replace r0 := (k3.block W.heap.size (by omega)).trans r0
  have hs3 := k3.size
  have K3 := Lib.hid (K2.out.trans (k3.mono (by omega)))
  clear hnum k3 hown3 hgr3
  go_wp2_with fail
  have hWn : W.heap.size < w2.heap.size := by omega
  generalize hnb : w2.heap.size = nb at *
  clear hnb
  go_loopw [8] (fun v wr => ∃ j : Nat, v = .int .i64 j ∧ j ≤ m ∧ SegF nb wr nb 0 G.length G.length (nxTo (fun _ => 0) (fun z => (reach G r).idxOf z) ((reach G r).take j)) ∧ Chg nb w3 wr ∧ Kp W.heap.size W wr) (fun v _ => m - (RowKit.intOf v).toNat)
  case atStart => exact ⟨0, rfl, Nat.zero_le _, by rw [List.take_zero, nxTo_nil]; exact HN0.out, Chg.refl _ _, K3.out⟩
  case round =>
    obtain ⟨j, rfl, hj, hsf, hch, hkp⟩ := hrel
    clear HN0
    have HSF := Lib.hid hsf
    have HCH := Lib.hid hch
    have HKP := Lib.hid hkp
    clear hsf hch hkp
    by_cases hjm : j < m
    · have hjl : j < (reach G r).length := by rw [HM.out]; exact hjm
      obtain ⟨x, hx0⟩ : ∃ x, (reach G r)[j] = x := ⟨_, rfl⟩
      have hxG : x < G.length := HRE.out.lt x (hx0 ▸ List.getElem_mem hjl)
      have hcl := (HL3.out.chg HCH.out (by omega)).cell (j := j) (u := .int .i64 (x : Int)) (by simp [intsV, hjl, hx0])
      have hcn := HSF.out.cell hxG
      have hfz := HSF.out.frozen x
      rw [Nat.zero_add] at hcn
      have HS := Lib.hid (HSF.out.set hxG j)
      rw [Nat.zero_add] at HS
      have HX0 := Lib.hid hx0
      have hid : (reach G r).idxOf x = j := idxOf_at HRE.out.nodup (by rw [List.getElem?_eq_getElem hjl, hx0])
      have HID := Lib.hid hid
      clear hx0 hid
      go_wp2_with fail
      go_roundw
      case rel =>
        refine ⟨j + 1, by go_num, by omega, ?_, HCH.out.setCell _ _, HKP.out.setCell (p := ⟨nb, x, none⟩) (Nat.le_of_lt hWn) _⟩
        have h := HS.out
        rw [← nxTo_next hjl HX0.out, HID.out]
        exact h
      case measure => simp [RowKit.intOf]; omega
    · obtain rfl : j = m := by omega
      have hnum : SegF nb wr nb 0 G.length G.length (fun z => if z ∈ reach G r then (reach G r).idxOf z else 0) := by
        have h := HSF.out
        rw [List.take_of_length_le (Nat.le_of_eq HM.out)] at h
        exact h
      have HNU := Lib.hid hnum
      have HL4 := Lib.hid (HL3.out.chg HCH.out (by omega))
      have hnl := HNU.out.lt
      replace r0 := (HCH.out.block W.heap.size (by omega) (by omega)).trans r0
      clear hnum HSF
      go_wp2_with fail
      have HR4 := Lib.hid r0
      clear r0
      have hB4 := HKP.out.size
      obtain ⟨w4, hw4⟩ : ∃ w4, w4 = wr := ⟨_, rfl⟩
      rw [← hw4] at HNU HL4 HR4 HKP hnl hB4 ⊢
      clear hw4 HCH
      go_loopw [7, 9] (fun v7 v9 wi => ∃ (k : Nat) (us : List Value), v9 = .int .i64 k ∧ k ≤ j ∧ OwnN w4.heap.size wi v7 ((renum G (reach G r)).take k) us ∧ Kp w4.heap.size w4 wi) (fun _ v9 _ => j - (RowKit.intOf v9).toNat)
      case atStart => exact ⟨0, [], rfl, Nat.zero_le _, OwnN.nil, Kp.refl _ _⟩
      case round =>
        obtain ⟨k, us, rfl, hk, hon, hk4⟩ := hrel
        have HON := Lib.hid hon
        have HK4 := Lib.hid hk4
        have hs5 := hk4.size
        clear hon hk4
        by_cases hkj : k < j
        · have hkl : k < (reach G r).length := by rw [HM.out]; exact hkj
          obtain ⟨x, hx0⟩ : ∃ x, (reach G r)[k] = x := ⟨_, rfl⟩
          have hxr : x ∈ reach G r := hx0 ▸ List.getElem_mem hkl
          have hxG : x < G.length := HRE.out.lt x hxr
          have hcl := HK4.out.cells (HL4.out.cell (j := k) (u := .int .i64 (x : Int)) (by simp [intsV, hkl, hx0]))
          obtain ⟨n, hn0⟩ : ∃ n, G[x]? = some n := ⟨_, List.getElem?_eq_getElem hxG⟩
          have nX := HV.out.at_ hn0
          obtain ⟨g0, g1, g2, hlab, va, g3, hav⟩ := nX
          obtain ⟨ab, ac, rfl⟩ := hav.len
          have hkw := HKP.out.trans (HK4.out.mono hB4)
          replace g0 := hkw.cells g0
          replace g1 := hkw.cells g1
          replace g2 := hkw.cells g2
          replace g3 := hkw.cells g3
          have hgn := HG.out n (List.mem_of_getElem? hn0)
          have HX0 := Lib.hid hx0
          have HXR := Lib.hid hxr
          have HN := Lib.hid hn0
          have HAV := Lib.hid hav
          have HKW := Lib.hid hkw
          have HGN := Lib.hid hgn.2
          have hn8 := hgn.1
          clear hx0 hxr hn0 hav hkw hgn
          go_wp2_with fail
          obtain ⟨w5, hw5⟩ : ∃ w5, w5 = wr.alloc (Obj.cells #[Value.int IntKind.i64 n.kind, Value.int IntKind.i64 n.num, Value.string n.label, Value.slice ab n.args.length ac] 48) := ⟨_, rfl⟩
          obtain ⟨bx, hbx⟩ : ∃ bx, wr.heap.size = bx := ⟨_, rfl⟩
          have hz5 : w5.heap.size = bx + 1 := by rw [hw5, ← hbx]; simp
          have K5 := Lib.hid (show Kp wr.heap.size wr w5 by rw [hw5]; exact (Kp.refl _ _).alloc (Nat.le_refl _) _)
          have HBX := Lib.hid (show w5.heap[bx]? = some (Obj.cells #[Value.int IntKind.i64 n.kind, Value.int IntKind.i64 n.num, Value.string n.label, Value.slice ab n.args.length ac] 48 (0, 0)) by rw [hw5, ← hbx]; exact Array.getElem?_push_size)
          have c3 : w5.cell? ⟨bx, 3, none⟩ = some (.slice ab n.args.length ac) := by rw [hw5, ← hbx]; go_simp
          have c0 : w5.cell? ⟨bx, 0, none⟩ = some (.int .i64 n.kind) := by rw [hw5, ← hbx]; go_simp
          have c1 : w5.cell? ⟨bx, 1, none⟩ = some (.int .i64 n.num) := by rw [hw5, ← hbx]; go_simp
          have c2 : w5.cell? ⟨bx, 2, none⟩ = some (.string n.label) := by rw [hw5, ← hbx]; go_simp
          rw [← hw5]
          rw [hbx]
          have hs5b : w4.heap.size ≤ bx := by omega
          have HBX2 := Lib.hid hbx
          clear hbx
          clear hw5 g0 g1 g2 g3 hcl
          obtain ⟨ixs, hixs⟩ : ∃ ixs, (n.args.map fun a => ((reach G r).idxOf a.toNat : Nat)) = ixs := ⟨_, rfl⟩
          have HIX := Lib.hid hixs
          have hixl : ixs.length = n.args.length := by rw [← hixs]; simp
          have HIXL := Lib.hid hixl
          clear hixs hixl
          go_loopw [11, 12] (fun v11 v12 wx => ∃ q : Nat, v12 = .int .i64 q ∧ q ≤ n.args.length ∧ Own w5.heap.size 1 wx v11 q (intsV (ixs.take q)) ∧ Kp w5.heap.size w5 wx) (fun _ v _ => n.args.length - (RowKit.intOf v).toNat)
          case atStart => exact ⟨0, rfl, Nat.zero_le _, ⟨rfl, .inl ⟨rfl, rfl⟩⟩, Kp.refl _ _⟩
          case round =>
            obtain ⟨q, rfl, hq, hown, hk5⟩ := hrel
            replace c0 := hk5.cells c0
            replace c1 := hk5.cells c1
            replace c2 := hk5.cells c2
            replace c3 := hk5.cells c3
            have HOW := Lib.hid hown
            have HK5 := Lib.hid hk5
            have hs6 := hk5.size
            clear hown hk5
            by_cases hql : q < n.args.length
            · obtain ⟨a1, a2, rfl, hca⟩ := HAV.out.some hql
              have hKa := Lib.hid ((HKW.out.trans (K5.out.mono HKW.out.size)).trans (HK5.out.mono (by have := HKW.out.size; omega)))
              replace hca := hKa.out.cells hca
              rw [List.getD, List.getElem?_eq_getElem hql, Option.getD_some] at hca
              obtain ⟨z1, z2⟩ := HGN.out _ (List.getElem_mem hql)
              obtain ⟨a, ha⟩ : ∃ a : Nat, n.args[q] = a := ⟨(n.args[q]).toNat, by omega⟩
              rw [ha] at hca z2
              have haG : a < G.length := by omega
              have har : a ∈ reach G r := HRE.out.closed x HXR.out a (by rw [argsAt_some HN.out]; exact List.mem_map.2 ⟨_, List.getElem_mem hql, by rw [ha]; rfl⟩)
              obtain ⟨iz, hiz⟩ : ∃ iz, (reach G r).idxOf a = iz := ⟨_, rfl⟩
              have hcn := HK5.out.cells (K5.out.cells (HK4.out.cells (HNU.out.cell haG)))
              rw [if_pos har, Nat.zero_add, hiz] at hcn
              have hix : ixs[q]? = some iz := by
                rw [← HIX.out, List.getElem?_map, List.getElem?_eq_getElem hql, ha]
                simp [hiz]
              have HIZ := Lib.hid hix
              have HAL := Lib.hid (show Kp wr.heap.size wr (wr.alloc (Obj.cells #[Value.int .i64 (iz : Int)] 3)) from (Kp.refl _ _).alloc (Nat.le_refl _) _)
              clear ha har hiz hix z1 z2
              go_wp2_with (at_builtin; refine wpList_append_mine rfl (.tmp 62) (.tmp 71) 43 rfl w5.heap.size 3 i3 (.int .i64 0) 1 8 Tryz.underlying43 hj0 hy0 hy1 hy2 rfl (by decide) u11 q (intsV (ixs.take q)) rfl (HOW.out.kp HAL.out) ⟨wr.heap.size, 0, none⟩ 1 1 [.int .i64 (iz : Int)] rfl rfl (news_alloc wr [.int .i64 (iz : Int)] 3) (by simp [Value.oneCell']) (by unfold maxLen; omega) (by omega) (by have := HAL.out.size; omega) ?_; intro v' w8 hown8 hgr8 hblk8)
              have H8 := Lib.hid (show Own w5.heap.size 1 w8 v' (q + 1) (intsV (ixs.take (q + 1))) by
                have hql' : q < ixs.length := by rw [HIXL.out]; exact hql
                rw [List.take_succ_eq_append_getElem hql']
                have e : ixs[q] = iz := by
                  have := HIZ.out
                  rw [List.getElem?_eq_getElem hql'] at this
                  exact Option.some.inj this
                rw [e]
                simpa [intsV] using hown8)
              have K8 := Lib.hid (Kp.of_grown_mine (HK5.out.trans (HAL.out.mono hs6)) (HOW.out.kp HAL.out) hgr8 (by have := HAL.out.size; omega))
              clear hown8 hgr8 hblk8
              go_wp2_with fail
              go_roundw
              case rel => exact ⟨q + 1, by go_num, by omega, H8.out, K8.out⟩
              case measure => simp [RowKit.intOf]; omega
            · obtain rfl : q = n.args.length := by omega
              have HARG := Lib.hid (show Own w5.heap.size 1 wr u11 n.args.length (intsV ixs) by
                have h := HOW.out
                rwa [List.take_of_length_le (Nat.le_of_eq HIXL.out)] at h)
              obtain ⟨ua, uc, rfl, hua⟩ := own_slice HARG.out
              clear hua
              have hbw : wr.heap[bx]? = _ := (HK5.out.block bx (by omega)).trans HBX.out
              have hfz : wr.frozen? ⟨bx, 3, none⟩ = false := by simp [World.frozen?, hbw]
              have HBW := Lib.hid hbw
              clear HOW hbw
              obtain ⟨w7, hw7⟩ : ∃ w7, w7 = wr.setCell ⟨bx, 3, none⟩ (.slice ua n.args.length uc) := ⟨_, rfl⟩
              have hsz7 : w7.heap.size = wr.heap.size := by rw [hw7]; simp [World.setCell]
              have hC7 : Chg bx wr w7 := by rw [hw7]; exact (Chg.refl _ _).setCell _ _
              have hlu : ∀ g, (Value.slice ua n.args.length uc).ownBlock = some g → bx + 1 ≤ g := fun g hg => by have := (HARG.out.lt hg).1; omega
              have hk57 := K5.out.trans (HK5.out.mono (show _ ≤ _ by have := HBX2.out; omega))
              have hk77 := hk57.trans (hC7.kp (by have := HBX2.out; omega) (by have := HBX2.out; omega))
              have hon7 := HON.out.kp hk77
              have hk47 := Lib.hid (HK4.out.trans (hk77.mono hs5))
              have hlk : ((renum G (reach G r)).take k).length = k := by simp [renum_length]; omega
              have hu7 : Own w4.heap.size 1 w7 (.slice ua n.args.length uc) n.args.length (intsV ixs) := ((HARG.out.chg hC7 (fun e => by have := hlu _ e; omega)).mono (by omega))
              obtain ⟨xn, hxn⟩ : ∃ xn : Nd, xn = { n with args := (argsAt G x).map fun a => (((reach G r).idxOf a : Nat) : Int) } := ⟨_, rfl⟩
              have hrn : (renum G (reach G r))[k]? = some xn := by
                rw [renum_get (show (reach G r)[k]? = some x by rw [List.getElem?_eq_getElem hkl, HX0.out]), hxn]
                simp only [List.getD, HN.out, Option.getD_some]
              have htk : (renum G (reach G r)).take (k + 1) = (renum G (reach G r)).take k ++ [xn] := by
                rw [List.take_add_one, hrn]; rfl
              have hxa : xn.args.map (Value.int .i64) = intsV ixs ∧ xn.args.length = n.args.length := by
                rw [hxn, ← HIX.out, argsAt_some HN.out]
                constructor
                · simp [intsV, Function.comp_def]
                · simp
              have hcx : nodeCells xn (.slice ua n.args.length uc) = [.int .i64 n.kind, .int .i64 n.num, .string n.label, .slice ua n.args.length uc] := by rw [hxn]; rfl
              have hxl : xn.label.size ≤ 9223372036854775807 := by rw [hxn]; exact hlab
              have hu7' : Own w4.heap.size 1 w7 (.slice ua n.args.length uc) xn.args.length (xn.args.map (Value.int .i64)) := by rw [hxa.1, hxa.2]; exact hu7
              have huv : ∀ g, (Value.slice ua n.args.length uc).ownBlock = some g → u7.ownBlock ≠ some g ∧ ∀ u' ∈ us, u'.ownBlock ≠ some g := fun g hg => by
                have h1 := hlu g hg
                have h2 := HBX2.out
                exact ⟨fun e => by have := (HON.out.own.lt e).2; omega, fun u' hu' e => by have := HON.out.lt_us u' hu' g e; omega⟩
              have hal7 : Kp w7.heap.size w7 (w7.alloc (Obj.cells #[.int .i64 n.kind, .int .i64 n.num, .string n.label, .slice ua n.args.length uc] 48)) := (Kp.refl _ _).alloc (Nat.le_refl _) _
              have HON7 := Lib.hid hon7
              have HU7 := Lib.hid hu7'
              have HUV := Lib.hid huv
              have HAL7 := Lib.hid hal7
              have HTK := Lib.hid htk
              have HCX := Lib.hid hcx
              have HLK := Lib.hid hlk
              have HW7 := Lib.hid hw7
              have hs77 := hsz7
              have hnw := news_alloc w7 [.int .i64 n.kind, .int .i64 n.num, .string n.label, .slice ua n.args.length uc] 48
              rw [hsz7] at hnw
              have HNW := Lib.hid hnw
              clear hnw
              clear hon7 hu7 hu7' huv hal7 htk hcx hlk hrn hxn hxa hk57 hk77 hC7 hlu hw7
              go_wp2_with (at_builtin; go_loud (rw [← HW7.out]); go_loud (refine wpList_append_mine rfl (.tmp 75) (.tmp 77) 22 rfl w4.heap.size 48 i48 (.agg #[.int .i64 0, .int .i64 0, .string ⟨#[]⟩, .slice none 0 0]) 4 56 Tryz.underlying22 hq0 hx0' hx1' hx2' rfl (by decide) u7 k (nodesCells ((renum G (reach G r)).take k) us) rfl ((by have h := HON7.out.own; rwa [HLK.out] at h : Own w4.heap.size 4 w7 u7 k (nodesCells ((renum G (reach G r)).take k) us)).kp HAL7.out) ⟨wr.heap.size, 0, none⟩ 1 1 [.int .i64 n.kind, .int .i64 n.num, .string n.label, .slice ua n.args.length uc] rfl rfl HNW.out (by simp [Value.oneCell']) (by unfold maxLen; omega) (by omega) (by have := HAL7.out.size; omega) ?_); intro v' w8 hown8 hgr8 hblk8)
              have H8 := Lib.hid (HON7.out.snoc HU7.out hxl HUV.out HAL7.out (by rw [HCX.out, HLK.out]; exact hown8) hgr8 hblk8)
              rw [← HTK.out] at H8
              have K8 := Lib.hid (Kp.of_grown_mine (hk47.out.trans (HAL7.out.mono (by have := hk47.out.size; omega))) (HON7.out.own.kp HAL7.out) hgr8 (by have := hk47.out.size; have := HAL7.out.size; omega))
              clear hown8 hgr8 hblk8
              go_wp2_with fail
              go_roundw
              case rel => exact ⟨k + 1, _, by go_num, by omega, H8.out, K8.out⟩
              case measure => simp [RowKit.intOf]; omega
        · obtain rfl : k = j := by omega
          rename World => wq
          obtain ⟨N, hNe⟩ : ∃ N, renum G (reach G r) = N := ⟨_, rfl⟩
          have hNl : N.length = k := by rw [← hNe, renum_length, HM.out]
          have hNG : GClosed N := by rw [← hNe]; exact renum_closed HG.out HRE.out
          have hNp : ∀ x, x < N.length → ∃ t, nodeAt N 0 t = some x := by rw [← hNe]; exact renum_paths HRE.out
          have hk0 : 0 < k := by
            obtain ⟨l, hl⟩ := HRE.out.first
            have := HM.out
            rw [hl] at this
            simp at this
            omega
          have hon : OwnN w4.heap.size wq u7 N us := by
            have h := HON.out
            rw [List.take_of_length_le (by rw [renum_length, HM.out]; exact Nat.le_refl _), hNe] at h
            exact h
          have hus := Lib.hid hon.lt_us
          have HNE := Lib.hid hNe
          have HNG := Lib.hid hNG
          have HNP := Lib.hid hNp
          subst hNl
          obtain ⟨pb, po, pc, rfl, hps⟩ := hon.own.seg hk0
          have hpb := hps.lo
          have HON1 := Lib.hid hon
          have HNU1 := Lib.hid (HNU.out.kp HK4.out)
          have hw4n : W.heap.size < w4.heap.size := by omega
          have HR1 := Lib.hid ((HK4.out.block W.heap.size hw4n).trans HR4.out)
          clear hNe hNG hNp hon hps HON HNU HR4
          go_wp2_with fail
          refine (classes_ok N wq pb po pc HNG.out hk0 (by omega) HON1.out.nodes HNP.out).mono ?_
          rintro e w5 ⟨cb, co, cc, c, rfl, hcf, hcl, hc0, k5⟩
          have HCL := Lib.hid (And.intro hcl hc0)
          have HCF := Lib.hid hcf
          have hcb := hcf.lo
          have hs55 := k5.size
          have HON2 := Lib.hid (show OwnN w4.heap.size w5 (.slice (some ⟨pb, po, none⟩) N.length pc) (mixN c 0 0 N) us by rw [mixN_zero]; exact HON1.out.kp k5)
          have HNU2 := Lib.hid (HNU1.out.kp k5)
          have HR2 := Lib.hid ((k5.block W.heap.size (by omega)).trans HR1.out)
          have HKW := Lib.hid ((HKP.out.trans (HK4.out.mono hB4)).trans (k5.mono (Nat.le_trans hB4 hs5)))
          clear hcl hc0 hcf k5 HON1 HNU1 HR1
          go_wp2_with fail
          go_loopw [14] (fun v wi => ∃ i : Nat, v = .int .i64 i ∧ i ≤ N.length ∧ OwnN w4.heap.size wi (.slice (some ⟨pb, po, none⟩) N.length pc) (mixN c i 0 N) us ∧ SegF wq.heap.size wi cb co N.length cc c ∧ Kp w4.heap.size w5 wi) (fun v _ => N.length - (RowKit.intOf v).toNat)
          case atStart => exact ⟨0, rfl, Nat.zero_le _, HON2.out, HCF.out, Kp.refl _ _⟩
          case round =>
            obtain ⟨i, rfl, hi, hon, hcf, hk⟩ := hrel
            have HONi := Lib.hid hon
            have HCFi := Lib.hid hcf
            have HKi := Lib.hid hk
            clear hon hcf hk
            by_cases hiN : i < N.length
            · obtain ⟨n, hn⟩ : ∃ n, N[i]? = some n := ⟨_, List.getElem?_eq_getElem hiN⟩
              obtain ⟨u, hu⟩ : ∃ u, us[i]? = some u := ⟨_, List.getElem?_eq_getElem (by have := HONi.out.len; rw [mixN_length] at this; omega)⟩
              have hum := List.mem_of_getElem? hu
              have hnc := HNG.out n (List.mem_of_getElem? hn)
              have hn8 := hnc.1
              have HNC := Lib.hid hnc.2
              have HN := Lib.hid hn
              have HU := Lib.hid hu
              have HUM := Lib.hid (hus.out u hum)
              obtain ⟨ua, uc, rfl⟩ := HONi.out.argSlice HN.out HU.out
              clear hn hu hum hnc
              go_wp2_with fail
              go_loopw [15] (fun v wx => ∃ q : Nat, v = .int .i64 q ∧ q ≤ n.args.length ∧ OwnN w4.heap.size wx (.slice (some ⟨pb, po, none⟩) N.length pc) (mixN c i q N) us ∧ SegF wq.heap.size wx cb co N.length cc c ∧ Kp w4.heap.size w5 wx) (fun v _ => n.args.length - (RowKit.intOf v).toNat)
              case atStart => exact ⟨0, rfl, Nat.zero_le _, HONi.out, HCFi.out, HKi.out⟩
              case round =>
                obtain ⟨q, rfl, hq, hon, hcf, hk⟩ := hrel
                have hac := OwnN.argCell' hon (mixN_get HN.out) HU.out
                have HONq := Lib.hid hon
                have HCFq := Lib.hid hcf
                have HKq := Lib.hid hk
                clear hon hcf hk
                by_cases hqn : q < n.args.length
                · obtain ⟨z1, z2⟩ := HNC.out _ (List.getElem_mem hqn)
                  obtain ⟨a, ha⟩ : ∃ a : Nat, n.args[q] = a := ⟨(n.args[q]).toNat, by omega⟩
                  rw [ha] at z2
                  have haN : a < N.length := by omega
                  obtain ⟨b, off, cap, e, hbl, hbw, hca, hfz, hon'⟩ := HONq.out.setArg HN.out HU.out (show n.args[q]? = some (a : Int) by rw [List.getElem?_eq_getElem hqn, ha])
                  injection e with e1 e2 e3
                  subst e1 e3
                  have hfz := hfz (off + q)
                  have hcc := HCFq.out.cell haN
                  have hbb : b < wq.heap.size := HUM.out b rfl
                  rw [show ((a : Int).toNat) = a from rfl] at hon'
                  have HON' := Lib.hid hon'
                  have HCF' := Lib.hid (HCFq.out.chg (Chg.setCell (Chg.refl b _) (off + q) (.int .i64 ((c a : Nat) : Int))) (by omega))
                  have HK' := Lib.hid (HKq.out.setCell (p := ⟨b, off + q, none⟩) hbl (.int .i64 ((c a : Nat) : Int)))
                  clear hon' z1 z2 ha
                  have hi1 : (i : Int) < (N.length : Int) := by omega
                  have hq1 : (q : Int) < (n.args.length : Int) := by omega
                  have ha1 : (a : Int) < (N.length : Int) := by omega
                  go_wp2_with fail
                  go_still_tail 18, (by kernel_rfl)
                  change wpList _ _ _ _ _ wr.drew
                  go_wp2_with fail
                  go_roundw
                  case rel => exact ⟨q + 1, by go_num, by omega, HON'.out.kp ((Kp.refl _ _).drew), HCF'.out.kp ((Kp.refl _ _).drew), HK'.out.drew⟩
                  case measure => simp [RowKit.intOf]; omega
                · obtain rfl : q = n.args.length := by omega
                  go_wp2_with fail
                  go_roundw
                  case rel => exact ⟨i + 1, by go_num, by omega, by have h := HONq.out; rwa [mixN_row HN.out] at h, HCFq.out, HKq.out⟩
                  case measure => simp [RowKit.intOf]; omega
            · obtain rfl : i = N.length := by omega
              rename World => w55
              obtain ⟨Q, hQe⟩ : ∃ Q, quot N c = Q := ⟨_, rfl⟩
              have hQl : Q.length = N.length := by rw [← hQe, quot_length]
              have hQG : GClosed Q := by rw [← hQe]; exact quot_closed HNG.out HCL.out.1
              have honQ : OwnN w4.heap.size w55 (.slice (some ⟨pb, po, none⟩) N.length pc) Q us := by have h := HONi.out; rwa [mixN_all, hQe] at h
              have HQE := Lib.hid hQe
              have HQG := Lib.hid hQG
              have HQL := Lib.hid hQl
              have HONQ := Lib.hid honQ
              obtain ⟨O, hO⟩ : ∃ O, reach Q 0 = O := ⟨_, rfl⟩
              have hRO : Reach Q 0 O := by rw [← hO]; exact reach_ok hQG (by omega)
              have HRO := Lib.hid hRO
              have hOl : O.length ≤ N.length := by rw [← hO, ← hQl]; exact reach_le hQG (by omega)
              have CQ := reached_ok Q 0 w55 pb po pc hQG (by omega) (by omega) (by rw [hQl]; exact honQ.nodes)
              rw [hQl, hO] at CQ
              have HO := Lib.hid hO
              have hs6 := HKi.out.size
              have HNU6 := Lib.hid (HNU2.out.of_heap (HKi.out.block nb hnl))
              have HR6 := Lib.hid ((HKi.out.block W.heap.size hw4n).trans HR2.out)
              have HKW6 := Lib.hid (HKW.out.trans (HKi.out.mono hB4))
              have hpbl : pb < w55.heap.size := (honQ.own.lt rfl).2
              have hugeQ := Lib.hid honQ.ge_us
              clear hQe hQG hQl honQ hRO hO HONi HCFi HNU2 HR2 HKW HCF HON2
              go_wp2_with fail
              refine CQ.mono ?_
              rintro e w6 ⟨ob, oo, oc, rfl, ho6, k6⟩
              clear CQ
              have hob := ho6.lo
              have hobl := ho6.lt
              have hs66 := k6.size
              have HO6 := Lib.hid ho6
              have HONQ6 := Lib.hid (HONQ.out.kp k6)
              have HNU7 := Lib.hid (HNU6.out.kp k6)
              have HR7 := Lib.hid ((k6.block W.heap.size (by omega)).trans HR6.out)
              have HKW7 := Lib.hid (HKW6.out.trans (k6.mono (by omega)))
              clear ho6 k6 HONQ HNU6 HR6 HKW6
              go_wp2_with fail
              go_loopw [17] (fun v wx => ∃ j : Nat, v = .int .i64 j ∧ j ≤ O.length ∧ SegF nb wx nb 0 G.length G.length (nxTo (fun z => if z ∈ reach G r then (reach G r).idxOf z else 0) (fun z => O.idxOf z) (O.take j)) ∧ Chg nb w6 wx) (fun v _ => O.length - (RowKit.intOf v).toNat)
              case atStart => exact ⟨0, rfl, Nat.zero_le _, by rw [List.take_zero, nxTo_nil]; exact HNU7.out, Chg.refl _ _⟩
              case round =>
                obtain ⟨j, rfl, hj, hsf, hch⟩ := hrel
                have HSF := Lib.hid hsf
                have HCH := Lib.hid hch
                clear hsf hch
                by_cases hjm : j < O.length
                · obtain ⟨x, hx0⟩ : ∃ x, O[j] = x := ⟨_, rfl⟩
                  have hxG : x < G.length := by have h1 := HRO.out.lt x (hx0 ▸ List.getElem_mem hjm); rw [HQL.out] at h1; omega
                  have hcl := (HO6.out.chg HCH.out (by omega)).cell (j := j) (u := .int .i64 (x : Int)) (by simp [intsV, hjm, hx0])
                  have hcn := HSF.out.cell hxG
                  have hfz := HSF.out.frozen x
                  rw [Nat.zero_add] at hcn
                  have HS := Lib.hid (HSF.out.set hxG j)
                  rw [Nat.zero_add] at HS
                  have HX0 := Lib.hid hx0
                  have hid : O.idxOf x = j := idxOf_at HRO.out.nodup (by rw [List.getElem?_eq_getElem hjm, hx0])
                  have HID := Lib.hid hid
                  clear hx0 hid
                  go_wp2_with fail
                  go_roundw
                  case rel =>
                    refine ⟨j + 1, by go_num, by omega, ?_, HCH.out.setCell _ _⟩
                    have h := HS.out
                    rw [← nxTo_next hjm HX0.out, HID.out]
                    exact h
                  case measure => simp [RowKit.intOf]; omega
                · obtain rfl : j = O.length := by omega
                  rename World => w7
                  have hnum : SegF nb w7 nb 0 G.length G.length (nxTo (fun z => if z ∈ reach G r then (reach G r).idxOf z else 0) (fun z => O.idxOf z) O) := by
                    have h := HSF.out
                    rwa [List.take_length] at h
                  have hs7 := HCH.out.size
                  have HNV := Lib.hid hnum
                  have HO7 := Lib.hid (HO6.out.chg HCH.out (by omega))
                  have HONQ7 := Lib.hid (HONQ6.out.chg HCH.out (fun e => by have h9 : pb = nb := Option.some.inj e; omega) (fun u hu e => by have := hugeQ.out u hu nb e; omega))
                  have HR8 := Lib.hid ((HCH.out.block W.heap.size (by omega) (by omega)).trans HR7.out)
                  have HKW8 := Lib.hid (HKW7.out.chg HCH.out (by omega) (by omega))
                  clear hnum HSF HO6 HONQ6 HNU7 HR7 HKW7
                  go_wp2_with fail
                  obtain ⟨w8, hw8⟩ : ∃ w8, w8 = w7.alloc (Obj.cells #[Value.slice none 0 0, Value.int IntKind.i64 0] 24) := ⟨_, rfl⟩
                  obtain ⟨xb, hxb⟩ : ∃ xb, w7.heap.size = xb := ⟨_, rfl⟩
                  have hz8 : w8.heap.size = xb + 1 := by rw [hw8, ← hxb]; simp
                  have HB8 := Lib.hid (show w8.heap[xb]? = some (Obj.cells #[Value.slice none 0 0, Value.int IntKind.i64 0] 24 (0, 0)) by rw [hw8, ← hxb]; exact Array.getElem?_push_size)
                  have HK8 := Lib.hid (show Kp xb w7 w8 by rw [hw8, ← hxb]; exact (Kp.refl _ _).alloc (Nat.le_refl _) _)
                  rw [← hw8]
                  rw [hxb]
                  have HXB := Lib.hid hxb
                  have hxn : nb < xb := by omega
                  have hxW : W.heap.size < xb := by omega
                  clear hw8 hxb
                  go_loopw [19] (fun v wy => ∃ (k : Nat) (us6 : List Value) (v6 : Value), v = .int .i64 k ∧ k ≤ O.length ∧ OwnN (xb + 1) wy v6 ((renum Q O).take k) us6 ∧ wy.heap[xb]? = some (Obj.cells #[v6, Value.int IntKind.i64 0] 24 (0, 0)) ∧ Kp xb w7 wy ∧ xb < wy.heap.size) (fun v _ => O.length - (RowKit.intOf v).toNat)
                  case atStart => exact ⟨0, [], _, rfl, Nat.zero_le _, OwnN.nil, HB8.out, HK8.out, by omega⟩
                  case round =>
                    obtain ⟨k, us6, v6, rfl, hk, hon, hbx, hky, hxs⟩ := hrel
                    have HON := Lib.hid hon
                    have HKY := Lib.hid hky
                    have HBY := Lib.hid hbx
                    have hk7 : Kp w7.heap.size w7 wr := by rw [HXB.out]; exact hky
                    have HK7 := Lib.hid hk7
                    clear hon hky hbx hk7
                    by_cases hkj : k < O.length
                    · obtain ⟨x, hx0⟩ : ∃ x, O[k] = x := ⟨_, rfl⟩
                      have hxr : x ∈ O := hx0 ▸ List.getElem_mem hkj
                      have hxQ : x < Q.length := HRO.out.lt x hxr
                      have hcl := HK7.out.cells (HO7.out.cell (j := k) (u := .int .i64 (x : Int)) (by simp [intsV, hkj, hx0]))
                      obtain ⟨n, hn0⟩ : ∃ n, Q[x]? = some n := ⟨_, List.getElem?_eq_getElem hxQ⟩
                      have nX := HONQ7.out.nodes.at_ hn0
                      obtain ⟨g0, g1, g2, hlab, va, g3, hav⟩ := nX
                      obtain ⟨ab, ac, rfl⟩ := hav.len
                      replace g0 := HK7.out.cells g0
                      replace g1 := HK7.out.cells g1
                      replace g2 := HK7.out.cells g2
                      replace g3 := HK7.out.cells g3
                      have hgn := HQG.out n (List.mem_of_getElem? hn0)
                      have hlk : ((renum Q O).take k).length = k := by simp [renum_length]; omega
                      have hon := HON.out.own
                      rw [hlk] at hon
                      obtain ⟨va6, vc6, rfl⟩ := own_form hon
                      have HV6 := Lib.hid hon
                      have HLK := Lib.hid hlk
                      have HX0 := Lib.hid hx0
                      have HXR := Lib.hid hxr
                      have HN := Lib.hid hn0
                      have HAV := Lib.hid hav
                      have HGN := Lib.hid hgn.2
                      have hn8 := hgn.1
                      have hxQ' : x < N.length := by have := HQL.out; omega
                      clear hx0 hxr hn0 hav hgn hon hlk hxQ
                      go_wp2_with fail
                      obtain ⟨w9, hw9⟩ : ∃ w9, w9 = wr.alloc (Obj.cells #[Value.int IntKind.i64 n.kind, Value.int IntKind.i64 n.num, Value.string n.label, Value.slice ab n.args.length ac] 48) := ⟨_, rfl⟩
                      obtain ⟨bx, hbx⟩ : ∃ bx, wr.heap.size = bx := ⟨_, rfl⟩
                      have hz9 : w9.heap.size = bx + 1 := by rw [hw9, ← hbx]; simp
                      have K9 := Lib.hid (show Kp wr.heap.size wr w9 by rw [hw9]; exact (Kp.refl _ _).alloc (Nat.le_refl _) _)
                      have HBX := Lib.hid (show w9.heap[bx]? = some (Obj.cells #[Value.int IntKind.i64 n.kind, Value.int IntKind.i64 n.num, Value.string n.label, Value.slice ab n.args.length ac] 48 (0, 0)) by rw [hw9, ← hbx]; exact Array.getElem?_push_size)
                      have c3 : w9.cell? ⟨bx, 3, none⟩ = some (.slice ab n.args.length ac) := by rw [hw9, ← hbx]; go_simp
                      have c0 : w9.cell? ⟨bx, 0, none⟩ = some (.int .i64 n.kind) := by rw [hw9, ← hbx]; go_simp
                      have c1 : w9.cell? ⟨bx, 1, none⟩ = some (.int .i64 n.num) := by rw [hw9, ← hbx]; go_simp
                      have c2 : w9.cell? ⟨bx, 2, none⟩ = some (.string n.label) := by rw [hw9, ← hbx]; go_simp
                      rw [← hw9]
                      rw [hbx]
                      have hxbx : xb < bx := by omega
                      have HBX2 := Lib.hid hbx
                      have hk79 : Kp w7.heap.size w7 w9 := HK7.out.trans (K9.out.mono HK7.out.size)
                      have HK79 := Lib.hid hk79
                      clear hbx hk79
                      clear hw9 g0 g1 g2 g3 hcl
                      obtain ⟨ixs, hixs⟩ : ∃ ixs, (n.args.map fun a => (O.idxOf a.toNat : Nat)) = ixs := ⟨_, rfl⟩
                      have HIX := Lib.hid hixs
                      have hixl : ixs.length = n.args.length := by rw [← hixs]; simp
                      have HIXL := Lib.hid hixl
                      clear hixs hixl
                      go_loopw [21, 22] (fun v11 v12 wx => ∃ q : Nat, v12 = .int .i64 q ∧ q ≤ n.args.length ∧ Own w9.heap.size 1 wx v11 q (intsV (ixs.take q)) ∧ Kp w9.heap.size w9 wx) (fun _ v _ => n.args.length - (RowKit.intOf v).toNat)
                      case atStart => exact ⟨0, rfl, Nat.zero_le _, ⟨rfl, .inl ⟨rfl, rfl⟩⟩, Kp.refl _ _⟩
                      case round =>
                        obtain ⟨q, rfl, hq, hown, hk5⟩ := hrel
                        replace c0 := hk5.cells c0
                        replace c1 := hk5.cells c1
                        replace c2 := hk5.cells c2
                        replace c3 := hk5.cells c3
                        have HOW := Lib.hid hown
                        have HK5 := Lib.hid hk5
                        have hs6' := hk5.size
                        clear hown hk5
                        by_cases hql : q < n.args.length
                        · obtain ⟨a1, a2, rfl, hca⟩ := HAV.out.some hql
                          have hKa := Lib.hid (HK79.out.trans (HK5.out.mono HK79.out.size))
                          replace hca := hKa.out.cells hca
                          rw [List.getD, List.getElem?_eq_getElem hql, Option.getD_some] at hca
                          obtain ⟨z1, z2⟩ := HGN.out _ (List.getElem_mem hql)
                          obtain ⟨a, ha⟩ : ∃ a : Nat, n.args[q] = a := ⟨(n.args[q]).toNat, by omega⟩
                          rw [ha] at hca z2
                          have haG : a < G.length := by have := HQL.out; omega
                          have har : a ∈ O := HRO.out.closed x HXR.out a (by rw [argsAt_some HN.out]; exact List.mem_map.2 ⟨_, List.getElem_mem hql, by rw [ha]; rfl⟩)
                          obtain ⟨iz, hiz⟩ : ∃ iz, O.idxOf a = iz := ⟨_, rfl⟩
                          have hcn := hKa.out.cells (HNV.out.cell haG)
                          rw [show nxTo (fun z => if z ∈ reach G r then (reach G r).idxOf z else 0) (fun z => O.idxOf z) O a = iz by unfold nxTo; rw [if_pos har]; exact hiz, Nat.zero_add] at hcn
                          have hix : ixs[q]? = some iz := by
                            rw [← HIX.out, List.getElem?_map, List.getElem?_eq_getElem hql, ha]
                            simp [hiz]
                          have HIZ := Lib.hid hix
                          have HAL := Lib.hid (show Kp wr.heap.size wr (wr.alloc (Obj.cells #[Value.int .i64 (iz : Int)] 3)) from (Kp.refl _ _).alloc (Nat.le_refl _) _)
                          clear ha har hiz hix z1 z2
                          go_wp2_with (at_builtin; refine wpList_append_mine rfl (.tmp 150) (.tmp 159) 43 rfl w9.heap.size 3 i3 (.int .i64 0) 1 8 Tryz.underlying43 hj0 hy0 hy1 hy2 rfl (by decide) u21 q (intsV (ixs.take q)) rfl (HOW.out.kp HAL.out) ⟨wr.heap.size, 0, none⟩ 1 1 [.int .i64 (iz : Int)] rfl rfl (news_alloc wr [.int .i64 (iz : Int)] 3) (by simp [Value.oneCell']) (by unfold maxLen; omega) (by omega) (by have := HAL.out.size; omega) ?_; intro v' w8' hown8 hgr8 hblk8)
                          have H8 := Lib.hid (show Own w9.heap.size 1 w8' v' (q + 1) (intsV (ixs.take (q + 1))) by
                            have hql' : q < ixs.length := by rw [HIXL.out]; exact hql
                            rw [List.take_succ_eq_append_getElem hql']
                            have e : ixs[q] = iz := by
                              have := HIZ.out
                              rw [List.getElem?_eq_getElem hql'] at this
                              exact Option.some.inj this
                            rw [e]
                            simpa [intsV] using hown8)
                          have K8' := Lib.hid (Kp.of_grown_mine (HK5.out.trans (HAL.out.mono hs6')) (HOW.out.kp HAL.out) hgr8 (by have := HAL.out.size; omega))
                          clear hown8 hgr8 hblk8
                          go_wp2_with fail
                          go_roundw
                          case rel => exact ⟨q + 1, by go_num, by omega, H8.out, K8'.out⟩
                          case measure => simp [RowKit.intOf]; omega
                        · obtain rfl : q = n.args.length := by omega
                          have HARG := Lib.hid (show Own w9.heap.size 1 wr u21 n.args.length (intsV ixs) by
                            have h := HOW.out
                            rwa [List.take_of_length_le (Nat.le_of_eq HIXL.out)] at h)
                          obtain ⟨ua, uc, rfl, hua⟩ := own_slice HARG.out
                          clear hua
                          have hbw : wr.heap[bx]? = _ := (HK5.out.block bx (by omega)).trans HBX.out
                          have hfz : wr.frozen? ⟨bx, 3, none⟩ = false := by simp [World.frozen?, hbw]
                          have HBW := Lib.hid hbw
                          clear HOW hbw
                          obtain ⟨wz, hwz⟩ : ∃ wz, wz = wr.setCell ⟨bx, 3, none⟩ (.slice ua n.args.length uc) := ⟨_, rfl⟩
                          have hszz : wz.heap.size = wr.heap.size := by rw [hwz]; simp [World.setCell]
                          have hCz : Chg bx wr wz := by rw [hwz]; exact (Chg.refl _ _).setCell _ _
                          have hlu : ∀ g, (Value.slice ua n.args.length uc).ownBlock = some g → bx + 1 ≤ g := fun g hg => by have := (HARG.out.lt hg).1; omega
                          have hk57 := K9.out.trans (HK5.out.mono (show _ ≤ _ by have := HBX2.out; omega))
                          have hk77 := hk57.trans (hCz.kp (by have := HBX2.out; omega) (by have := HBX2.out; omega))
                          have honz := HON.out.kp hk77
                          have hkyz := HKY.out.trans (hk77.mono (Nat.le_of_lt hxs))
                          have hbz := (hk77.block xb hxs).trans HBY.out
                          have hu7 : Own (xb + 1) 1 wz (.slice ua n.args.length uc) n.args.length (intsV ixs) := ((HARG.out.chg hCz (fun e => by have := hlu _ e; omega)).mono (by omega))
                          obtain ⟨xn, hxn⟩ : ∃ xn : Nd, xn = { n with args := (argsAt Q x).map fun a => ((O.idxOf a : Nat) : Int) } := ⟨_, rfl⟩
                          have hrn : (renum Q O)[k]? = some xn := by
                            rw [renum_get (show O[k]? = some x by rw [List.getElem?_eq_getElem hkj, HX0.out]), hxn]
                            simp only [List.getD, HN.out, Option.getD_some]
                          have htk : (renum Q O).take (k + 1) = (renum Q O).take k ++ [xn] := by
                            rw [List.take_add_one, hrn]; rfl
                          have hxa : xn.args.map (Value.int .i64) = intsV ixs ∧ xn.args.length = n.args.length := by
                            rw [hxn, ← HIX.out, argsAt_some HN.out]
                            constructor
                            · simp [intsV, Function.comp_def]
                            · simp
                          have hcx : nodeCells xn (.slice ua n.args.length uc) = [.int .i64 n.kind, .int .i64 n.num, .string n.label, .slice ua n.args.length uc] := by rw [hxn]; rfl
                          have hxl : xn.label.size ≤ 9223372036854775807 := by rw [hxn]; exact hlab
                          have hu7' : Own (xb + 1) 1 wz (.slice ua n.args.length uc) xn.args.length (xn.args.map (Value.int .i64)) := by rw [hxa.1, hxa.2]; exact hu7
                          have huv : ∀ g, (Value.slice ua n.args.length uc).ownBlock = some g → (Value.slice va6 k vc6).ownBlock ≠ some g ∧ ∀ u' ∈ us6, u'.ownBlock ≠ some g := fun g hg => by
                            have h1 := hlu g hg
                            have h2 := HBX2.out
                            exact ⟨fun e => by have := (HON.out.own.lt e).2; omega, fun u' hu' e => by have := HON.out.lt_us u' hu' g e; omega⟩
                          have halz : Kp wz.heap.size wz (wz.alloc (Obj.cells #[.int .i64 n.kind, .int .i64 n.num, .string n.label, .slice ua n.args.length uc] 48)) := (Kp.refl _ _).alloc (Nat.le_refl _) _
                          have hxz : xb < wz.heap.size := by omega
                          have HONZ := Lib.hid honz
                          have HUZ := Lib.hid hu7'
                          have HUV := Lib.hid huv
                          have HALZ := Lib.hid halz
                          have HTK := Lib.hid htk
                          have HCX := Lib.hid hcx
                          have HWZ := Lib.hid hwz
                          have HKYZ := Lib.hid hkyz
                          have HBZ := Lib.hid hbz
                          have hxc : (wr.setCell ⟨bx, 3, none⟩ (.slice ua n.args.length uc)).cell? ⟨xb, 0, none⟩ = some (.slice va6 k vc6) := by rw [← hwz, cell_of hbz]; rfl
                          have hnw := news_alloc wz [.int .i64 n.kind, .int .i64 n.num, .string n.label, .slice ua n.args.length uc] 48
                          rw [hszz] at hnw
                          have HNW := Lib.hid hnw
                          clear hnw
                          clear honz hu7 hu7' huv halz htk hcx hrn hxn hxa hk57 hk77 hCz hlu hwz hkyz hbz
                          go_wp2_with (at_builtin; go_loud (rw [← HWZ.out]); go_loud (refine wpList_append_mine rfl (.tmp 164) (.tmp 166) 22 rfl (xb + 1) 48 i48 (.agg #[.int .i64 0, .int .i64 0, .string ⟨#[]⟩, .slice none 0 0]) 4 56 Tryz.underlying22 hq0 hx0' hx1' hx2' rfl (by decide) (.slice va6 k vc6) k (nodesCells ((renum Q O).take k) us6) rfl ((by have h := HONZ.out.own; rwa [HLK.out] at h : Own (xb + 1) 4 wz (.slice va6 k vc6) k (nodesCells ((renum Q O).take k) us6)).kp HALZ.out) ⟨wr.heap.size, 0, none⟩ 1 1 [.int .i64 n.kind, .int .i64 n.num, .string n.label, .slice ua n.args.length uc] rfl rfl HNW.out (by simp [Value.oneCell']) (by unfold maxLen; omega) (by omega) (by have := HALZ.out.size; omega) ?_); go_loud (intro v' wv hown8 hgr8 hblk8); go_loud (obtain ⟨va', vc', rfl⟩ := own_form hown8); go_loud (have hbv : wv.heap[xb]? = some (Obj.cells #[Value.slice va6 k vc6, Value.int IntKind.i64 0] 24 (0, 0)) := (grown_other hgr8 (by have := HALZ.out.size; omega) (fun e => by have := (HONZ.out.own.lt e).1; omega)).trans ((HALZ.out.block xb hxz).trans HBZ.out)); go_loud (have hfv : wv.frozen? ⟨xb, 0, none⟩ = false := by simp [World.frozen?, hbv]); go_loud (have hcv : wv.cell? ⟨xb, 0, none⟩ = some (.slice va6 k vc6) := by rw [cell_of hbv]; rfl); go_loud (have HBV := Lib.hid hbv); go_loud (have H8 := Lib.hid (HONZ.out.snoc HUZ.out hxl HUV.out HALZ.out (by rw [HCX.out, HLK.out]; exact hown8) hgr8 hblk8)); go_loud (have K8' := Lib.hid (Kp.of_grown_mine (HKYZ.out.trans (HALZ.out.mono (Nat.le_of_lt hxz))) ((HONZ.out.own.kp HALZ.out).mono (Nat.le_succ xb)) hgr8 (by have := HALZ.out.size; omega))); go_loud (have hsv := hgr8.size); go_loud (clear hbv hown8 hgr8 hblk8))
                          rw [← HTK.out] at H8
                          have hsv' : xb < wv.heap.size := by have := HALZ.out.size; omega
                          go_roundw
                          case rel =>
                            have hC : Chg xb wv (wv.setCell ⟨xb, 0, none⟩ (.slice va' (k + 1) vc')) := (Chg.refl _ _).setCell _ _
                            refine ⟨k + 1, _, _, by go_num, by omega, H8.out.chg hC (fun e => by have := (H8.out.own.lt e).1; omega) (fun u hu e => by have := H8.out.ge_us u hu xb e; omega), ?_, K8'.out.setCell (p := ⟨xb, 0, none⟩) (Nat.le_refl _) _, by simp [World.setCell]; exact hsv'⟩
                            simp [World.setCell, Array.getElem?_modify, HBV.out]
                          case measure => simp [RowKit.intOf]; omega
                    · obtain rfl : k = O.length := by omega
                      have hL : (renum Q O).take O.length = renum Q O := List.take_of_length_le (by rw [renum_length]; exact Nat.le_refl _)
                      have hon := HON.out
                      rw [hL] at hon
                      obtain ⟨va6, vc6, rfl⟩ := own_form hon.own
                      have b0 : wr.cell? ⟨xb, 0, none⟩ = some (.slice va6 (renum Q O).length vc6) := by rw [cell_of HBY.out]; rfl
                      have b1 : wr.cell? ⟨xb, 1, none⟩ = some (.int .i64 0) := by rw [cell_of HBY.out]; rfl
                      have hrb := (HK7.out.block W.heap.size (by omega)).trans HR8.out
                      have f0 : ∀ o, wr.frozen? ⟨W.heap.size, o, none⟩ = false := fun o => by simp [World.frozen?, hrb]
                      have d0 : wr.cell? ⟨W.heap.size, 0, none⟩ = some (.slice none 0 0) := by rw [cell_of hrb]; rfl
                      have d1 : wr.cell? ⟨W.heap.size, 1, none⟩ = some (.int .i64 0) := by rw [cell_of hrb]; rfl
                      have HONF := Lib.hid hon
                      clear hon hL hrb HON HBY
                      go_wp2_with fail
                      refine bodyPost_ret (v := .agg #[.slice va6 (renum Q O).length vc6, .int .i64 0]) ?_ rfl ?_
                      · simp [results, Tryz.results44, go_sem, d0, d1]
                      · have hlc : Canon (renum Q O) ∧ Bis (renum Q O) 0 G r := by
                          have h := least_canon HG.out hr (c := c) (by rw [HNE.out]; exact HCL.out.1) HCL.out.2
                          rwa [HNE.out, HQE.out, HO.out] at h
                        obtain ⟨w12, hw12⟩ : ∃ w12, w12 = (wr.setCell ⟨W.heap.size, 0, none⟩ (.slice va6 (renum Q O).length vc6)).setCell ⟨W.heap.size, 1, none⟩ (.int .i64 0) := ⟨_, rfl⟩
                        have hC : Chg W.heap.size wr w12 := by rw [hw12]; exact ((Chg.refl _ _).setCell _ _).setCell _ _
                        rw [← hw12]
                        refine ⟨renum Q O, _, us6, rfl, (HONF.out.chg hC (fun e => by have := (HONF.out.own.lt e).1; omega) (fun u hu e => by have := HONF.out.ge_us u hu _ e; omega)).mono (show W.heap.size ≤ xb + 1 by omega), hlc.1, hlc.2, by rw [renum_length]; omega, ?_⟩
                        exact (HKW8.out.trans (HK7.out.mono (by omega))).chg hC (by omega) (Nat.le_refl _)
end Go.Ev

/- The document's own Least and Same. -/
namespace Go.Ev
open Go.Proofs Go.RowKit Go.Lib
set_option maxRecDepth 100000

def RLeastPost (A : List Nd) (za : Int) (W : World) (e : Ending) (w' : World) : Prop := ∃ L v, e = .returned (.tuple #[.agg #[v, .int .i64 0], .int .i64 0]) ∧ NodesV w' v L ∧ Canon L ∧ Bis L 0 A za.toNat ∧ L.length ≤ A.length ∧ Kp W.heap.size W w'

set_option maxHeartbeats 2000000 in
theorem rleast_bad (va : Value) (A : List Nd) (za : Int) (W : World) (ha : NodesV W va A) (hva : validB A za = false) :
    Calls Tryz.prog 22 #[.agg #[va, .int .i64 za]] W fun e w' => e = .returned (.tuple #[.agg #[.slice none 0 0, .int .i64 0], .int .i64 2]) ∧ Kp W.heap.size W w' := by
  have CA := fun w (hk : Kp W.heap.size W w) => rvalid_ok va A za w (ha.kp hk)
  rw [hva] at CA
  clear ha hva
  go_enter Tryz.func22, Tryz.ntmps22
  go_wp2_with fail
  obtain ⟨W2, hW2⟩ : ∃ W2, W2 = (W.alloc (Obj.cells #[va, Value.int IntKind.i64 za] 24)).alloc (Obj.cells #[Value.slice none 0 0, Value.int IntKind.i64 0] 24) := ⟨_, rfl⟩
  have hk2 : Kp W.heap.size W W2 := by rw [hW2]; exact ((Kp.refl _ _).alloc (Nat.le_refl _) _).alloc (by simp) _
  have hb : W2.heap[W.heap.size + 1]? = some (Obj.cells #[Value.slice none 0 0, Value.int IntKind.i64 0] 24 (0, 0)) := by
    rw [hW2, show W.heap.size + 1 = (W.alloc (Obj.cells #[va, Value.int IntKind.i64 za] 24)).heap.size by simp]; exact Array.getElem?_push_size
  have hz2 : W2.heap.size = W.heap.size + 2 := by rw [hW2]; simp
  rw [← hW2]
  clear hW2
  refine (CA _ hk2).mono ?_
  rintro e w1 ⟨rfl, k1⟩
  have hk1 := Lib.hid (hk2.trans (k1.mono (by omega)))
  have hb1 := (k1.block (W.heap.size + 1) (by omega)).trans hb
  have f0 : ∀ o, w1.frozen? ⟨W.heap.size + 1, o, none⟩ = false := fun o => by simp [World.frozen?, hb1]
  have d0 : w1.cell? ⟨W.heap.size + 1, 0, none⟩ = some (.slice none 0 0) := by rw [cell_of hb1]; rfl
  have d1 : w1.cell? ⟨W.heap.size + 1, 1, none⟩ = some (.int .i64 0) := by rw [cell_of hb1]; rfl
  clear k1 hk2 hb hb1 CA
  go_wp2_with fail
  refine bodyPost_ret (v := .tuple #[.agg #[.slice none 0 0, .int .i64 0], .int .i64 2]) ?_ rfl ⟨rfl, ?_⟩
  · simp [results, Tryz.results22, go_sem, d0, d1]
  · exact (hk1.out.setCell (p := ⟨_, _, _⟩) (Nat.le_succ _) _).setCell (p := ⟨_, _, _⟩) (Nat.le_succ _) _

set_option maxHeartbeats 2000000 in
theorem rleast_good (va : Value) (A : List Nd) (za : Int) (W : World) (ha : NodesV W va A) (hva : validB A za = true) :
    Calls Tryz.prog 22 #[.agg #[va, .int .i64 za]] W (RLeastPost A za W) := by
  obtain ⟨ra, rfl, hra, hA8, hA⟩ := valid_nodes hva
  obtain ⟨ab, ao, ac, rfl⟩ := ha.shape (by omega)
  have CA := fun w (hk : Kp W.heap.size W w) => rvalid_ok _ A ra w (ha.kp hk)
  rw [hva] at CA
  have CL := fun w (hk : Kp W.heap.size W w) => least_ok A ra w ab ao ac hA hra (by omega) (ha.kp hk)
  clear ha hva
  go_enter Tryz.func22, Tryz.ntmps22
  go_wp2_with fail
  obtain ⟨W2, hW2⟩ : ∃ W2, W2 = (W.alloc (Obj.cells #[Value.slice (some ⟨ab, ao, none⟩) A.length ac, Value.int IntKind.i64 ra] 24)).alloc (Obj.cells #[Value.slice none 0 0, Value.int IntKind.i64 0] 24) := ⟨_, rfl⟩
  have hk2 : Kp W.heap.size W W2 := by rw [hW2]; exact ((Kp.refl _ _).alloc (Nat.le_refl _) _).alloc (by simp) _
  have a0 : W2.cell? ⟨W.heap.size, 0, none⟩ = some (.slice (some ⟨ab, ao, none⟩) A.length ac) := by rw [hW2]; go_simp
  have a1 : W2.cell? ⟨W.heap.size, 1, none⟩ = some (.int .i64 ra) := by rw [hW2]; go_simp
  have hb : W2.heap[W.heap.size + 1]? = some (Obj.cells #[Value.slice none 0 0, Value.int IntKind.i64 0] 24 (0, 0)) := by
    rw [hW2, show W.heap.size + 1 = (W.alloc (Obj.cells #[Value.slice (some ⟨ab, ao, none⟩) A.length ac, Value.int IntKind.i64 ra] 24)).heap.size by simp]; exact Array.getElem?_push_size
  have hz2 : W2.heap.size = W.heap.size + 2 := by rw [hW2]; simp
  rw [← hW2]
  clear hW2
  refine (CA _ hk2).mono ?_
  rintro e w1 ⟨rfl, k1⟩
  have hk1 := Lib.hid (hk2.trans (k1.mono (by omega)))
  replace hb := (k1.block (W.heap.size + 1) (by omega)).trans hb
  replace a0 := k1.cells a0
  replace a1 := k1.cells a1
  have hs1 := k1.size
  clear k1 hk2 CA
  have HB := Lib.hid hb
  clear hb
  go_wp2_with fail
  refine (CL _ hk1.out).mono ?_
  rintro e w3 ⟨L, v, us, rfl, hon, hcan, hbis, hLl, k3⟩
  obtain ⟨va, vc, rfl⟩ := own_form hon.own
  have hb1 := (k3.block (W.heap.size + 1) (by omega)).trans HB.out
  have f0 : ∀ o, w3.frozen? ⟨W.heap.size + 1, o, none⟩ = false := fun o => by simp [World.frozen?, hb1]
  have d0 : w3.cell? ⟨W.heap.size + 1, 0, none⟩ = some (.slice none 0 0) := by rw [cell_of hb1]; rfl
  have d1 : w3.cell? ⟨W.heap.size + 1, 1, none⟩ = some (.int .i64 0) := by rw [cell_of hb1]; rfl
  have HON := Lib.hid hon
  have HCB := Lib.hid (And.intro hcan hbis)
  have HK3 := Lib.hid (hk1.out.trans (k3.mono (by omega)))
  clear hon hcan hbis k3 hb1 CL
  go_wp2_with fail
  obtain ⟨w4, hw4⟩ : ∃ w4, w4 = (w3.setCell ⟨W.heap.size + 1, 0, none⟩ (.slice va L.length vc)).setCell ⟨W.heap.size + 1, 1, none⟩ (.int .i64 0) := ⟨_, rfl⟩
  refine bodyPost_ret (v := .tuple #[.agg #[.slice va L.length vc, .int .i64 0], .int .i64 0]) ?_ rfl ?_
  · simp [results, Tryz.results22, go_sem, d0, d1]
  · refine ⟨L, _, rfl, ?_, HCB.out.1, by simpa using HCB.out.2, ?_, ?_⟩
    · have hC : Chg (W.heap.size + 1) w3 w4 := by rw [hw4]; exact ((Chg.refl _ _).setCell _ _).setCell _ _
      rw [← hw4]
      exact (HON.out.chg hC (fun e => by have := (HON.out.own.lt e).1; omega) (fun u hu e => by have := HON.out.ge_us u hu _ e; omega)).nodes
    · exact hLl
    · exact (HK3.out.setCell (p := ⟨_, _, _⟩) (Nat.le_succ _) _).setCell (p := ⟨_, _, _⟩) (Nat.le_succ _) _
end Go.Ev
