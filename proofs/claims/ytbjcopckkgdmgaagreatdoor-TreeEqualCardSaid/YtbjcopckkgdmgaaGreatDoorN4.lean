import Derived.Test.YtbjcopckkgdmgaaGreatDoorN3
/- Nodes grouped by their signatures: the walk. -/
namespace Go.Ev
open Go.Proofs Go.RowKit Go.Lib
set_option maxRecDepth 100000

/-- The key of a node's signature. -/
def signK (G : List Nd) (c : Nat → Nat) (x : Nat) : Value := sigV (sgn G c x)
theorem sgn_at {G : List Nd} {c : Nat → Nat} {x : Nat} {nd : Nd} (h : G[x]? = some nd) : sgn G c x = nd.args.map fun a => c a.toNat := by
  unfold sgn argsAt; rw [h]; simp [Function.comp_def]

set_option maxHeartbeats 16000000 in
theorem groupS_ok (d gb go gc cb cap lb lo lc : Nat) (G : List Nd) (c : Nat → Nat) (l : List Nat) (W : World) (hN : G.length ≤ 200000) (hgc : G.length ≤ gc) (hcap : G.length ≤ cap) (hl : ∀ x ∈ l, x < G.length) (_hlc : l.length ≤ lc) (hln : l.length ≤ 200000)
    (hcN : ∀ x, x < G.length → c x < G.length) (hGc : GClosed G) (hd : W.cell? ⟨d, 0, none⟩ = some (.slice (some ⟨gb, go, none⟩) G.length gc)) (hG : ∀ (j : Nat) (nd : Nd), G[j]? = some nd → NodeW W gb (go + j * 4) nd) (hd2 : W.cell? ⟨d, 2, none⟩ = some (.slice (some ⟨cb, 0, none⟩) G.length cap)) (hfit : RowI W cb (clsI G.length c))
    (hcell : ∀ (j x : Nat), l[j]? = some x → W.cell? ⟨lb, lo + j, none⟩ = some (.int .i64 (x : Int))) :
    Calls Tryz.prog 118 #[.slice (some ⟨lb, lo, none⟩) l.length lc, .func (.func 119) #[.pointer (some ⟨d, 0, none⟩)] #[]] W (GroupPost (signK G c) l W) := by
  have HGN := Lib.hid hG
  have HCELL := Lib.hid hcell
  have HL := Lib.hid hl
  have HFIT := Lib.hid hfit
  obtain ⟨i3, hj0, hy0, hy1, hy2⟩ := info_parts Tryz.info3
  obtain ⟨i43, hk0, hx0, hx1, hx2⟩ := info_parts Tryz.info43
  have hmm := @run_makeMap Tryz.prog
  have CO := fun (n : Nat) (nd : Nd) (w : World) (hn : n < G.length) (hd : w.cell? ⟨d, 0, none⟩ = some (.slice (some ⟨gb, go, none⟩) G.length gc)) (hnd : NodeW w gb (go + n * 4) nd) (h8 : nd.args.length ≤ 8) (ha : ∀ a ∈ nd.args, 0 ≤ a ∧ a < G.length) (hd2 : w.cell? ⟨d, 2, none⟩ = some (.slice (some ⟨cb, 0, none⟩) G.length cap)) (hc : RowI w cb (clsI G.length c)) => sigOf_ok d n G.length gb go gc cb cap nd c w hn hN hgc hcap hd hnd h8 ha hd2 hc
  have HGC := Lib.hid hGc
  have HCN := Lib.hid hcN
  clear hGc hcN
  clear hG hcell hl hfit
  go_enter Tryz.func118, Tryz.ntmps118
  go_wp2
  have H0 := Lib.hid (show GSt (signK G c) idV 134 W W.heap.size l 0 (.slice none 0 0) (W.alloc (.map #[] 0)) from
    ⟨⟨[], OwnG.nil, fun u hu => by cases hu⟩, by simp [Value.ownBlock], ⟨_, MapV.made _ _ _ _, KeyF.nil _⟩, Nat.le_refl _, (Kp.refl _ _).alloc (Nat.le_refl _) _⟩)
  go_loopw [5, 15] (fun v5 i wr => ∃ k : Nat, k ≤ l.length ∧ i = .int .i64 k ∧ GSt (signK G c) idV 134 W W.heap.size l k v5 wr) (fun _ i _ => l.length - (RowKit.intOf i).toNat)
  case atStart => exact ⟨0, Nat.zero_le _, rfl, H0.out⟩
  case round =>
    obtain ⟨k, hk, rfl, hst⟩ := hrel
    clear H0
    obtain ⟨⟨us, hgrp, hus⟩, hne, ⟨f, hmap, hkf⟩, hlo, hkp⟩ := hst
    obtain ⟨ga, gcap, hgv⟩ := own_form hgrp.own
    subst hgv
    have hsz := hkp.size
    by_cases hlt : k < l.length
    · obtain ⟨x, hx⟩ : ∃ x, l[k]? = some x := ⟨_, List.getElem?_eq_getElem hlt⟩
      have hxN : x < G.length := HL.out x (List.mem_of_getElem? hx)
      have hcl := hkp.cells (HCELL.out k x hx)
      have hd' := hkp.cells hd
      have hd2' := hkp.cells hd2
      obtain ⟨nd, hnd⟩ : ∃ nd, G[x]? = some nd := ⟨_, List.getElem?_eq_getElem hxN⟩
      have hnw := (HGN.out x nd hnd).grown fun _ _ _ h => hkp.cells h
      have hrc := HFIT.out.kp hkp HFIT.out.lt
      have hmlt := hmap.lt
      obtain ⟨h8, hargs⟩ := HGC.out nd (List.mem_of_getElem? hnd)
      have hargs' : ∀ a ∈ nd.args, 0 ≤ a ∧ a < (G.length : Int) := hargs
      obtain ⟨kl, hkl⟩ := key134 (l := nd.args.map fun a => c a.toNat) (fun y hy => by
        obtain ⟨a, ha, rfl⟩ := List.mem_map.1 hy
        have := HCN.out a.toNat (by have := hargs' a ha; omega)
        omega)
      have hfk : signK G c x = sigV (nd.args.map fun a => c a.toNat) := by unfold signK; rw [sgn_at hnd]
      obtain ⟨a0, a1, a2, a3, a4, a5, a6, a7, hsv⟩ : ∃ a0 a1 a2 a3 a4 a5 a6 a7 : Int, sigV (nd.args.map fun a => c a.toNat) = (.agg #[Value.int IntKind.i64 a0, Value.int IntKind.i64 a1, Value.int IntKind.i64 a2, Value.int IntKind.i64 a3, Value.int IntKind.i64 a4, Value.int IntKind.i64 a5, Value.int IntKind.i64 a6, Value.int IntKind.i64 a7]) := ⟨_, _, _, _, _, _, _, _, rfl⟩
      rw [hsv] at hkl hfk
      have HND := Lib.hid hnw
      have HKL := Lib.hid hkl
      have HFK := Lib.hid hfk
      have HSV := Lib.hid hsv
      have HRC := Lib.hid hrc
      have HAR := Lib.hid hargs'
      clear hnw hkl hfk hsv hrc hargs hargs' hnd
      by_cases hm : (signK G c) x ∈ keysOf (signK G c) (l.take k)
      · obtain ⟨g, hg⟩ := List.getElem?_of_mem hm
        have hgl : g < (groupsOf (signK G c) (l.take k)).length := by rw [groupsOf_length]; exact (List.getElem?_eq_some_iff.1 hg).1
        obtain ⟨gb', go', gcap', e0, hseg⟩ := hgrp.own.seg (by omega)
        obtain ⟨rfl, rfl⟩ : ga = some ⟨gb', go', none⟩ ∧ gcap = gcap' := by cases e0; exact ⟨rfl, rfl⟩
        clear e0
        have hgg : (groupsOf (signK G c) (l.take k))[g]? = some ((groupsOf (signK G c) (l.take k)).getD g []) := by rw [List.getD_eq_getElem?_getD, List.getElem?_eq_getElem hgl]; rfl
        obtain ⟨u, hu, hown⟩ := hgrp.row hgg
        obtain ⟨ua, ucap, huv⟩ := own_form hown
        have hfit := hseg.fit
        have hcu := hseg.cell hu
        rw [huv] at hcu
        have hf := hkf.hit g ((signK G c) x) hg
        rw [HFK.out] at hf
        have hub : u.ownBlock ≠ some gb' := fun e => hgrp.off u (List.mem_of_getElem? hu) gb' e rfl
        have hrl := groups_row_le hlt hgg
        have HG := Lib.hid hgrp
        have HUS := Lib.hid hus
        have HNE := Lib.hid (show gb' ≠ W.heap.size from fun e => hne (by rw [e]; rfl))
        have HM := Lib.hid hmap
        have HKF := Lib.hid hkf
        have HF := Lib.hid hf
        have HKP := Lib.hid hkp
        have HX := Lib.hid hx
        have HGK := Lib.hid hg
        have HU := Lib.hid hu
        have HUV := Lib.hid huv
        have HOW := Lib.hid hown
        have HSEG := Lib.hid hseg
        have HGG := Lib.hid hgg
        have HCU := Lib.hid hcu
        have hgbl := hseg.lt
        clear hgrp hus hne hmap hkf hkp hf hx hg hu hown hseg hgg huv hcu hm
        generalize hrow : (groupsOf (signK G c) (l.take k)).getD g [] = row at *
        have HROW := Lib.hid hrow
        clear hrow
        generalize hlen : (groupsOf (signK G c) (l.take k)).length = m at *
        have HLEN := Lib.hid hlen
        clear hlen
        go_wp2_with (first
          | (go_at_call 119; refine (CO x nd _ hxN hd' HND.out h8 HAR.out hd2' HRC.out).mono ?_; rintro e wc ⟨rfl, hkc⟩; rw [HSV.out]; have hzc := hkc.size; have hcu := hkc.cells HCU.out; have hgb2 := Nat.lt_of_lt_of_le hgbl hzc; have hak : Kp wr.heap.size wr (wc.alloc (Obj.cells #[Value.int IntKind.i64 a0, Value.int IntKind.i64 a1, Value.int IntKind.i64 a2, Value.int IntKind.i64 a3, Value.int IntKind.i64 a4, Value.int IntKind.i64 a5, Value.int IntKind.i64 a6, Value.int IntKind.i64 a7] 134)) := hkc.alloc hkc.size _; have hza := hak.size; have HGk := Lib.hid (HG.out.kp hak); have HMk := Lib.hid (HM.out.kp hak); have HKk := Lib.hid (HKP.out.trans (hak.mono hsz)); have HOk := Lib.hid (HOW.out.kp hak); have HSk := Lib.hid (HSEG.out.kp hak); have HALk := Lib.hid (show Kp (wc.alloc (Obj.cells #[Value.int IntKind.i64 a0, Value.int IntKind.i64 a1, Value.int IntKind.i64 a2, Value.int IntKind.i64 a3, Value.int IntKind.i64 a4, Value.int IntKind.i64 a5, Value.int IntKind.i64 a6, Value.int IntKind.i64 a7] 134)).heap.size (wc.alloc (Obj.cells #[Value.int IntKind.i64 a0, Value.int IntKind.i64 a1, Value.int IntKind.i64 a2, Value.int IntKind.i64 a3, Value.int IntKind.i64 a4, Value.int IntKind.i64 a5, Value.int IntKind.i64 a6, Value.int IntKind.i64 a7] 134)) ((wc.alloc (Obj.cells #[Value.int IntKind.i64 a0, Value.int IntKind.i64 a1, Value.int IntKind.i64 a2, Value.int IntKind.i64 a3, Value.int IntKind.i64 a4, Value.int IntKind.i64 a5, Value.int IntKind.i64 a6, Value.int IntKind.i64 a7] 134)).alloc (Obj.cells #[Value.int .i64 (x : Int)] 3)) from (Kp.refl _ _).alloc (Nat.le_refl _) _); have hnews := news_alloc (wc.alloc (Obj.cells #[Value.int IntKind.i64 a0, Value.int IntKind.i64 a1, Value.int IntKind.i64 a2, Value.int IntKind.i64 a3, Value.int IntKind.i64 a4, Value.int IntKind.i64 a5, Value.int IntKind.i64 a6, Value.int IntKind.i64 a7] 134)) [Value.int .i64 (x : Int)] 3; rw [show (wc.alloc (Obj.cells #[Value.int IntKind.i64 a0, Value.int IntKind.i64 a1, Value.int IntKind.i64 a2, Value.int IntKind.i64 a3, Value.int IntKind.i64 a4, Value.int IntKind.i64 a5, Value.int IntKind.i64 a6, Value.int IntKind.i64 a7] 134)).heap.size = wc.heap.size + 1 from by simp] at hnews; have HNW := Lib.hid hnews; clear hkc hak hnews)
          | (at_lookup; refine wpList_lookup_hit rfl (.tmp 23) (.tmp 24) 143 rfl 134 3 .i64 Tryz.keyed134 Tryz.underlying143 Tryz.underlying3 (Tryz.zero3 _) W.heap.size _ f rfl HMk.out (.agg #[Value.int IntKind.i64 a0, Value.int IntKind.i64 a1, Value.int IntKind.i64 a2, Value.int IntKind.i64 a3, Value.int IntKind.i64 a4, Value.int IntKind.i64 a5, Value.int IntKind.i64 a6, Value.int IntKind.i64 a7]) kl rfl HKL.out (g : Int) HF.out ?_)
          | (at_builtin; go_loud (refine wpList_append_mine rfl (.tmp 43) (.tmp 45) 43 rfl W.heap.size 3 i3 (.int .i64 0) 1 8 Tryz.underlying43 hj0 hy0 hy1 hy2 rfl (by decide) (.slice ua row.length ucap) row.length (intsV row) rfl (by rw [← HUV.out]; exact HOk.out.kp HALk.out) ⟨wc.heap.size + 1, 0, none⟩ 1 1 [.int .i64 (x : Int)] rfl rfl HNW.out (by simp [Value.oneCell']) (by unfold maxLen; omega) (by omega) (by have := HALk.out.size; omega) ?_); intro u' w2 hown2 hgr2 hblk2; obtain ⟨ua', uc', rfl⟩ := own_form hown2; rw [← HUV.out] at hgr2 hblk2; have hs2 := (HSk.out.kp HALk.out).of_heap (grown_other hgr2 (by have := HALk.out.size; omega) hub); have hc2 := hs2.cell HU.out; rw [HUV.out] at hc2; have hf2 := hs2.frozen (go' + g); have HF2 := Lib.hid hs2; have HO2 := Lib.hid hown2; have HG2 := Lib.hid hgr2; have HB2 := Lib.hid hblk2; clear hs2 hown2 hgr2 hblk2))
        go_roundw
        case rel =>
          refine ⟨k + 1, by omega, by go_num, ?_⟩
          have hr := HROW.out
          have hl := HLEN.out
          subst hr hl
          exact GSt.push HGG.out HGk.out (groups_old HX.out HGK.out) HUS.out HNE.out (by rw [keys_old HX.out HGK.out]; exact HMk.out) (by rw [keys_old HX.out HGK.out]; exact HKF.out) hlo HKk.out HU.out HALk.out HO2.out HG2.out HB2.out
        case measure => simp [RowKit.intOf]; omega
      · have hf := hkf.miss ((signK G c) x) hm
        rw [HFK.out] at hf
        obtain ⟨m, hme⟩ : ∃ m, m = (groupsOf (signK G c) (l.take k)).length := ⟨_, rfl⟩
        have hmk : m ≤ 200000 := by have := groups_le (κ := (signK G c)) l k; omega
        have hkm : (keysOf (signK G c) (l.take k)).length = m := by rw [hme, groupsOf_length]
        rw [hkm] at hmap
        rw [← hme] at hgrp hne
        have hkf' := hkf.snoc idV_inj hm
        rw [hkm] at hkf'
        have HG := Lib.hid hgrp
        have HUS := Lib.hid hus
        have HNE := Lib.hid hne
        have HM := Lib.hid hmap
        have HKF := Lib.hid hkf'
        have HF := Lib.hid hf
        have HKP := Lib.hid hkp
        have HX := Lib.hid hx
        have HKM := Lib.hid hkm
        have HNK := Lib.hid hm
        have HME := Lib.hid hme
        rw [← hme]
        clear hgrp hus hne hmap hkf hkf' hf hx hm hkm hme hkp
        go_wp2_with (first
          | (go_at_call 119; refine (CO x nd _ hxN hd' HND.out h8 HAR.out hd2' HRC.out).mono ?_; rintro e wc ⟨rfl, hkc⟩; rw [HSV.out]; have hzc := hkc.size; have hak : Kp wr.heap.size wr (wc.alloc (Obj.cells #[Value.int IntKind.i64 a0, Value.int IntKind.i64 a1, Value.int IntKind.i64 a2, Value.int IntKind.i64 a3, Value.int IntKind.i64 a4, Value.int IntKind.i64 a5, Value.int IntKind.i64 a6, Value.int IntKind.i64 a7] 134)) := hkc.alloc hkc.size _; have hza := hak.size; have HGk := Lib.hid (HG.out.kp hak); have HMk := Lib.hid (HM.out.kp hak); have HKk := Lib.hid (HKP.out.trans (hak.mono hsz)); clear hkc hak)
          | (at_lookup; refine wpList_lookup_miss rfl (.tmp 23) (.tmp 24) 143 rfl 134 3 .i64 Tryz.keyed134 Tryz.underlying143 Tryz.underlying3 (Tryz.zero3 _) W.heap.size _ f rfl HMk.out (.agg #[Value.int IntKind.i64 a0, Value.int IntKind.i64 a1, Value.int IntKind.i64 a2, Value.int IntKind.i64 a3, Value.int IntKind.i64 a4, Value.int IntKind.i64 a5, Value.int IntKind.i64 a6, Value.int IntKind.i64 a7]) kl rfl HKL.out HF.out ?_)
          | (at_mapUpdate; refine wpList_put rfl (.tmp 32) (.tmp 33) (.tmp 34) 143 rfl 134 3 Tryz.keyed134 Tryz.underlying143 W.heap.size _ f rfl HMk.out (by unfold maxLen; omega) (.agg #[Value.int IntKind.i64 a0, Value.int IntKind.i64 a1, Value.int IntKind.i64 a2, Value.int IntKind.i64 a3, Value.int IntKind.i64 a4, Value.int IntKind.i64 a5, Value.int IntKind.i64 a6, Value.int IntKind.i64 a7]) (.int .i64 (m : Int)) kl _ rfl rfl HKL.out (plainElem_int Tryz.underlying3 (wf64 (by omega))) ?_; intro w1 hm1 hg1; have HM1 := Lib.hid hm1; have HC1 := Lib.hid (Chg.of_grown hg1); have HAL1 := Lib.hid (show Kp w1.heap.size w1 (w1.alloc (Obj.cells #[Value.slice none 0 0] 43)) from (Kp.refl _ _).alloc (Nat.le_refl _) _); have hz1 := hg1.size; clear hm1 hg1)
          | (at_builtin; refine wpList_append_mine rfl (.tmp 35) (.tmp 36) 103 rfl W.heap.size 43 i43 (.slice none 0 0) 1 24 Tryz.underlying103 hk0 hx0 hx1 hx2 rfl (by decide) (.slice ga m gcap) m us rfl (by have h := ((HGk.out.chg HC1.out HNE.out HUS.out).own.kp HAL1.out); rw [← HME.out] at h; exact h) ⟨w1.heap.size, 0, none⟩ 1 1 [.slice none 0 0] rfl rfl (news_alloc w1 [.slice none 0 0] 43) (by simp [Value.oneCell']) (by unfold maxLen; omega) (by omega) (by have := HAL1.out.size; omega) ?_; intro v' w2 hown2 hgr2 hblk2; obtain ⟨b2, o2, c2, rfl, hG2, hfit2, hcell2, hseg2, hbm2, hus2, hmap2, hkp2, hu2, hr2⟩ := grow_nil HME.out (HGk.out.chg HC1.out HNE.out HUS.out) HUS.out HNE.out HAL1.out hown2 hgr2 hblk2 (by omega) (HKk.out.chg HC1.out (by omega) hlo) (by omega) HM1.out; have hz2 := hkp2.size; have HG2 := Lib.hid hG2; have HS2 := Lib.hid hseg2; have HB2 := Lib.hid hbm2; have HU2 := Lib.hid hus2; have HM2 := Lib.hid hmap2; have HK2 := Lib.hid hkp2; have HUU2 := Lib.hid hu2; have HR2 := Lib.hid hr2; have HAL2 := Lib.hid (show Kp w2.heap.size w2 (w2.alloc (Obj.cells #[Value.int .i64 (x : Int)] 3)) from (Kp.refl _ _).alloc (Nat.le_refl _) _); have hbl2 := hseg2.lt; clear hown2 hgr2 hblk2 hG2 hseg2 hbm2 hus2 hmap2 hkp2 hu2 hr2)
          | (at_builtin; refine wpList_append_mine rfl (.tmp 43) (.tmp 45) 43 rfl W.heap.size 3 i3 (.int .i64 0) 1 8 Tryz.underlying43 hj0 hy0 hy1 hy2 rfl (by decide) (.slice none 0 0) 0 [] rfl ⟨rfl, .inl ⟨rfl, rfl⟩⟩ ⟨w2.heap.size, 0, none⟩ 1 1 [.int .i64 (x : Int)] rfl rfl (news_alloc w2 [.int .i64 (x : Int)] 3) (by simp [Value.oneCell']) (by unfold maxLen; omega) (by omega) (by have := HAL2.out.size; omega) ?_; intro u' w3 hown3 hgr3 hblk3; obtain ⟨ua', uc', rfl⟩ := own_form hown3; have hs3 := (HS2.out.kp HAL2.out).of_heap (grown_other hgr3 (by have := HAL2.out.size; omega) (by simp [Value.ownBlock])); have hc3 := hs3.cell HUU2.out; have hf3 := hs3.frozen (o2 + m); have HO3 := Lib.hid hown3; have HG3 := Lib.hid hgr3; have HB3 := Lib.hid hblk3; clear hs3 hown3 hgr3 hblk3))
        go_roundw
        case rel =>
          refine ⟨k + 1, by omega, by go_num, ?_⟩
          have hme := HME.out
          subst hme
          have hkeys := keys_new HX.out HNK.out
          have hfin := GSt.push (κ := (signK G c)) (enc := idV) (t := 134) (W := W) (mb := W.heap.size) (k := k) (l := l) (ls := groupsOf (signK G c) (l.take k) ++ [[]]) (cap := c2) HR2.out (by simpa using HG2.out) (groups_new HX.out HNK.out) HU2.out HB2.out (by rw [hkeys, List.length_append, HKM.out]; exact (by have h := HM2.out; rw [← HFK.out] at h; exact h)) (by rw [hkeys]; exact HKF.out) hlo HK2.out HUU2.out HAL2.out HO3.out HG3.out HB3.out
          simpa using hfin
        case measure => simp [RowKit.intOf]; omega
    · obtain rfl : k = l.length := by omega
      have HG := Lib.hid hgrp
      have HKP := Lib.hid hkp
      clear hgrp hus hne hmap hkf hkp
      go_wp2
      go_ret
      exact ⟨_, us, rfl, by have h := HG.out; rw [List.take_length] at h; rw [List.take_length]; exact h, HKP.out⟩
end Go.Ev

/- The program's division of nodes into classes: what lies in memory. -/
namespace Go.Ev
open Go.Proofs Go.RowKit

/-- The five fields. -/
def DBlk (w : World) (d : Nat) (nv av cv sv mv : Value) : Prop := ∃ t, w.heap[d]? = some (.cells #[nv, av, cv, sv, mv] t (0, 0))

section
variable {w w' : World} {d : Nat} {nv av cv sv mv : Value}
theorem DBlk.c0 (h : DBlk w d nv av cv sv mv) : w.cell? ⟨d, 0, none⟩ = some nv := by obtain ⟨t, h⟩ := h; rw [cell_of h]; rfl
theorem DBlk.c1 (h : DBlk w d nv av cv sv mv) : w.cell? ⟨d, 1, none⟩ = some av := by obtain ⟨t, h⟩ := h; rw [cell_of h]; rfl
theorem DBlk.c2 (h : DBlk w d nv av cv sv mv) : w.cell? ⟨d, 2, none⟩ = some cv := by obtain ⟨t, h⟩ := h; rw [cell_of h]; rfl
theorem DBlk.c3 (h : DBlk w d nv av cv sv mv) : w.cell? ⟨d, 3, none⟩ = some sv := by obtain ⟨t, h⟩ := h; rw [cell_of h]; rfl
theorem DBlk.c4 (h : DBlk w d nv av cv sv mv) : w.cell? ⟨d, 4, none⟩ = some mv := by obtain ⟨t, h⟩ := h; rw [cell_of h]; rfl
theorem DBlk.fz (h : DBlk w d nv av cv sv mv) (o : Nat) : w.frozen? ⟨d, o, none⟩ = false := by obtain ⟨t, h⟩ := h; simp [World.frozen?, h]
theorem DBlk.lt (h : DBlk w d nv av cv sv mv) : d < w.heap.size := by obtain ⟨t, h⟩ := h; exact (Array.getElem?_eq_some_iff.1 h).1
theorem DBlk.of_heap (h : DBlk w d nv av cv sv mv) (e : w'.heap[d]? = w.heap[d]?) : DBlk w' d nv av cv sv mv := by obtain ⟨t, h⟩ := h; exact ⟨t, e.trans h⟩
theorem DBlk.set3 (h : DBlk w d nv av cv sv mv) (x : Value) : DBlk (w.setCell ⟨d, 3, none⟩ x) d nv av cv x mv := by
  obtain ⟨t, h⟩ := h
  exact ⟨t, by simp [World.setCell, Array.getElem?_modify, h]⟩
theorem DBlk.set4 (h : DBlk w d nv av cv sv mv) (x : Value) : DBlk (w.setCell ⟨d, 4, none⟩ x) d nv av cv sv x := by
  obtain ⟨t, h⟩ := h
  exact ⟨t, by simp [World.setCell, Array.getElem?_modify, h]⟩
end

/-- The blocks that are written while classes are divided. -/
def Wr (d cb : Nat) (sv mv : Value) (g : Nat) : Prop := g = d ∨ g = cb ∨ sv.ownBlock = some g ∨ mv.ownBlock = some g

/-- A value that is in none of these blocks. -/
def Off (S : Nat → Prop) (u : Value) : Prop := ∀ g, u.ownBlock = some g → ¬ S g

/-- The division: nodes' classes, how many nodes each class has, and which. -/
structure DSt (B : Nat) (w : World) (d cb N : Nat) (nv av sv mv : Value) (c : Nat → Nat) (K : Nat) (sizes : List Nat) (mem : List (List Nat)) (us : List Value) : Prop where
  blk : DBlk w d nv av (.slice (some ⟨cb, 0, none⟩) N N) sv mv
  cls : RowI w cb (clsI N c)
  siz : Own B 1 w sv K (intsV sizes)
  mm : Own B 1 w mv K us
  rows : ∀ (j : Nat) (l : List Nat) (u : Value), mem[j]? = some l → us[j]? = some u → Own B 1 w u l.length (intsV l)
  dc : d ≠ cb
  sd : sv.ownBlock ≠ some d ∧ sv.ownBlock ≠ some cb
  md : mv.ownBlock ≠ some d ∧ mv.ownBlock ≠ some cb
  sm : ∀ g, sv.ownBlock = some g → mv.ownBlock ≠ some g
  off : ∀ u ∈ us, Off (Wr d cb sv mv) u
  lo : B ≤ d ∧ B ≤ cb
  ml : mem.length = K

theorem Wr.ge {B : Nat} {w : World} {d cb N : Nat} {nv av sv mv : Value} {c : Nat → Nat} {K : Nat} {sizes : List Nat} {mem : List (List Nat)} {us : List Value} (h : DSt B w d cb N nv av sv mv c K sizes mem us) {g : Nat} (hg : Wr d cb sv mv g) : B ≤ g := by
  rcases hg with rfl | rfl | hg | hg
  · exact h.lo.1
  · exact h.lo.2
  · exact (h.siz.lt hg).1
  · exact (h.mm.lt hg).1

theorem Own.block_eq {w w' : World} {B size n : Nat} {v : Value} {xs : List Value} (h : Own B size w v n xs) {S : Nat → Prop} (hu : Upd S w w') (ho : Off S v) : Own B size w' v n xs := h.upd hu ho

/-- A class laid: what there was, and one more. -/
theorem DSt.found {B : Nat} {W w1 wa w2 wb w4 : World} {d cb N K : Nat} {nv av sv mv sv' mv' gv : Value} {c : Nat → Nat} {c' : Nat → Nat} {sizes g : List Nat} {mem : List (List Nat)} {us : List Value} {n : Nat}
    (h : DSt B W d cb N nv av sv mv c K sizes mem us) (hgo : Own B 1 W gv g.length (intsV g)) (hgf : Off (Wr d cb sv mv) gv) (hch : Chg cb W w1) (hcl : RowI w1 cb (clsI N c'))
    (hal : Kp w1.heap.size w1 wa) (hown : Own B 1 w2 sv' (K + 1) (intsV sizes ++ [.int .i64 (n : Int)])) (hgr : wa.grownBy w2 sv.ownBlock) (hblk : sv'.ownBlock = sv.ownBlock ∨ ∃ g, sv'.ownBlock = some g ∧ wa.heap.size ≤ g)
    (hal2 : Kp (w2.setCell ⟨d, 3, none⟩ sv').heap.size (w2.setCell ⟨d, 3, none⟩ sv') wb) (hown2 : Own B 1 w4 mv' (K + 1) (us ++ [gv])) (hgr2 : wb.grownBy w4 mv.ownBlock) (hblk2 : mv'.ownBlock = mv.ownBlock ∨ ∃ g, mv'.ownBlock = some g ∧ wb.heap.size ≤ g) :
    DSt B (w4.setCell ⟨d, 4, none⟩ mv') d cb N nv av sv' mv' c' (K + 1) (sizes ++ [n]) (mem ++ [g]) (us ++ [gv]) ∧ Upd (Wr d cb sv mv) W (w4.setCell ⟨d, 4, none⟩ mv') ∧ (∀ b, Wr d cb sv' mv' b → Wr d cb sv mv b ∨ W.heap.size ≤ b) := by
  have hs3 : (w2.setCell ⟨d, 3, none⟩ sv').heap.size = w2.heap.size := by simp [World.setCell]
  have z1 := hch.size
  have z2 := hal.size
  have z3 := hgr.size
  have z4 := hal2.size
  have z5 := hgr2.size
  have dl := h.blk.lt
  have cl := h.cls.lt
  have hsl : ∀ g, sv.ownBlock = some g → g < W.heap.size := fun g hg => (h.siz.lt hg).2
  have hml : ∀ g, mv.ownBlock = some g → g < W.heap.size := fun g hg => (h.mm.lt hg).2
  -- what one block is from world to world
  have b1 : ∀ k, k < W.heap.size → k ≠ cb → wa.heap[k]? = W.heap[k]? := fun k hk hne => (hal.block k (by omega)).trans (hch.block k hk hne)
  have b2 : ∀ k, k < W.heap.size → k ≠ cb → sv.ownBlock ≠ some k → w2.heap[k]? = W.heap[k]? := fun k hk hne hs => (grown_other hgr (by omega) hs).trans (b1 k hk hne)
  have b3 : ∀ k, k < W.heap.size → k ≠ cb → sv.ownBlock ≠ some k → k ≠ d → wb.heap[k]? = W.heap[k]? := fun k hk hne hs hd => (hal2.block k (by omega)).trans ((Below.heap_setCell _ _ _ _ hd).trans (b2 k hk hne hs))
  have b4 : ∀ k, k < W.heap.size → k ≠ cb → sv.ownBlock ≠ some k → k ≠ d → mv.ownBlock ≠ some k → w4.heap[k]? = W.heap[k]? := fun k hk hne hs hd hm => (grown_other hgr2 (by omega) hm).trans (b3 k hk hne hs hd)
  have b5 : ∀ k, k < W.heap.size → ¬ Wr d cb sv mv k → (w4.setCell ⟨d, 4, none⟩ mv').heap[k]? = W.heap[k]? := fun k hk hn => by
    have n1 : k ≠ d := fun e => hn (.inl e)
    have n2 : k ≠ cb := fun e => hn (.inr (.inl e))
    have n3 : sv.ownBlock ≠ some k := fun e => hn (.inr (.inr (.inl e)))
    have n4 : mv.ownBlock ≠ some k := fun e => hn (.inr (.inr (.inr e)))
    exact (Below.heap_setCell _ _ _ _ n1).trans (b4 k hk n2 n3 n1 n4)
  have hUpd : Upd (Wr d cb sv mv) W (w4.setCell ⟨d, 4, none⟩ mv') :=
    ⟨(show (w4.setCell _ _).os = w4.os from rfl).trans (hgr2.os.trans (hal2.os.trans ((show (w2.setCell _ _).os = w2.os from rfl).trans (hgr.os.trans (hal.os.trans hch.os))))),
      (show (w4.setCell _ _).output = w4.output from rfl).trans (hgr2.output.trans (hal2.output.trans ((show (w2.setCell _ _).output = w2.output from rfl).trans (hgr.output.trans (hal.output.trans hch.output))))),
      by have e : (w4.setCell ⟨d, 4, none⟩ mv').heap.size = w4.heap.size := by simp [World.setCell]
         omega, b5⟩
  have hsv' : sv'.ownBlock ≠ some d ∧ sv'.ownBlock ≠ some cb := by
    rcases hblk with e | ⟨g', e, hg'⟩
    · rw [e]; exact h.sd
    · rw [e]; exact ⟨fun e' => by have := Option.some.inj e'; omega, fun e' => by have := Option.some.inj e'; omega⟩
  have hmv' : mv'.ownBlock ≠ some d ∧ mv'.ownBlock ≠ some cb := by
    rcases hblk2 with e | ⟨g', e, hg'⟩
    · rw [e]; exact h.md
    · rw [e]; exact ⟨fun e' => by have := Option.some.inj e'; omega, fun e' => by have := Option.some.inj e'; omega⟩
  have hsl' : ∀ g, sv'.ownBlock = some g → g < w2.heap.size := fun g hg => (hown.lt hg).2
  have hsm' : ∀ g, sv'.ownBlock = some g → mv'.ownBlock ≠ some g := by
    intro g hg e
    have hgl := hsl' g hg
    rcases hblk2 with e2 | ⟨g2, e2, hg2⟩
    · rw [e2] at e
      rcases hblk with e1 | ⟨g1, e1, hg1⟩
      · rw [e1] at hg; exact h.sm g hg e
      · rw [e1] at hg; have := Option.some.inj hg; have := hml g e; omega
    · rw [e2] at e; have := Option.some.inj e; omega
  have hsvm : ∀ g, sv'.ownBlock = some g → mv.ownBlock ≠ some g := by
    intro g hg e
    rcases hblk with e1 | ⟨g1, e1, hg1⟩
    · rw [e1] at hg; exact h.sm g hg e
    · rw [e1] at hg; have := Option.some.inj hg; have := hml g e; omega
  have hWr : ∀ b, Wr d cb sv' mv' b → Wr d cb sv mv b ∨ W.heap.size ≤ b := by
    rintro b (rfl | rfl | hb | hb)
    · exact .inl (.inl rfl)
    · exact .inl (.inr (.inl rfl))
    · rcases hblk with e1 | ⟨g1, e1, hg1⟩
      · exact .inl (.inr (.inr (.inl (by rw [← e1]; exact hb))))
      · rw [e1] at hb; have := Option.some.inj hb; exact .inr (by omega)
    · rcases hblk2 with e1 | ⟨g1, e1, hg1⟩
      · exact .inl (.inr (.inr (.inr (by rw [← e1]; exact hb))))
      · rw [e1] at hb; have := Option.some.inj hb; exact .inr (by omega)
  refine ⟨⟨?_, ?_, ?_, ?_, ?_, h.dc, hsv', hmv', hsm', ?_, h.lo, by simp [h.ml]⟩, hUpd, hWr⟩
  · -- the fields
    have f2 : DBlk w2 d nv av (.slice (some ⟨cb, 0, none⟩) N N) sv mv := h.blk.of_heap (b2 d dl h.dc h.sd.1)
    have f3 := f2.set3 sv'
    have f4 : DBlk w4 d nv av (.slice (some ⟨cb, 0, none⟩) N N) sv' mv := f3.of_heap ((grown_other hgr2 (by omega) h.md.1).trans (hal2.block d (by omega)))
    exact f4.set4 mv'
  · -- the classes
    refine hcl.of_heap ?_
    have c1l : cb < w1.heap.size := by omega
    exact (Below.heap_setCell _ _ _ _ (Ne.symm h.dc)).trans ((grown_other hgr2 (by omega) h.md.2).trans ((hal2.block cb (by omega)).trans ((Below.heap_setCell _ _ _ _ (Ne.symm h.dc)).trans ((grown_other hgr (by omega) h.sd.2).trans (hal.block cb c1l)))))
  · -- the sizes
    have e : intsV (sizes ++ [n]) = intsV sizes ++ [.int .i64 (n : Int)] := by simp [intsV]
    rw [e]
    refine hown.of_same fun g hg hl => ?_
    have n1 : g ≠ d := fun e => hsv'.1 (by rw [hg, e])
    exact (Below.heap_setCell _ _ _ _ n1).trans ((grown_other hgr2 (by omega) (hsvm g hg)).trans ((hal2.block g (by omega)).trans (Below.heap_setCell _ _ _ _ n1)))
  · refine hown2.of_same fun g hg hl => ?_
    exact Below.heap_setCell _ _ _ _ fun e => hmv'.1 (by rw [hg, e])
  · intro j l u hj hu
    have husl : us.length = K := by have := h.mm.1; omega
    rcases Nat.lt_or_ge j mem.length with hl | hl
    · rw [List.getElem?_append_left hl] at hj
      rw [List.getElem?_append_left (by rw [husl, ← h.ml]; exact hl)] at hu
      exact (h.rows j l u hj hu).upd hUpd (h.off u (List.mem_of_getElem? hu))
    · rw [List.getElem?_append_right hl] at hj
      rw [List.getElem?_append_right (by rw [husl, ← h.ml]; exact hl)] at hu
      have e0 : j - mem.length = 0 := by have := (List.getElem?_eq_some_iff.1 hj).1; simp at this; omega
      rw [e0] at hj
      rw [husl, ← h.ml, e0] at hu
      simp only [List.getElem?_cons_zero, Option.some.injEq] at hj hu
      subst hj hu
      exact hgo.upd hUpd hgf
  · intro u hu g' hg' hW
    have hgl : g' < W.heap.size := by
      rcases List.mem_append.1 hu with hu | hu
      · obtain ⟨j, hj⟩ := List.getElem?_of_mem hu
        have husl : us.length = K := by have := h.mm.1; omega
        have hjl : j < mem.length := by rw [h.ml, ← husl]; exact (List.getElem?_eq_some_iff.1 hj).1
        exact ((h.rows j _ u (List.getElem?_eq_getElem hjl) hj).lt hg').2
      · simp at hu; subst hu; exact (hgo.lt hg').2
    rcases hWr g' hW with hW' | hW'
    · rcases List.mem_append.1 hu with hu | hu
      · exact h.off u hu g' hg' hW'
      · simp at hu; subst hu; exact hgf g' hg' hW'
    · omega
end Go.Ev
