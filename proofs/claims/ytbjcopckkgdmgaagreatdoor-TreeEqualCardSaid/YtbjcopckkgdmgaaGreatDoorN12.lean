import Derived.Test.YtbjcopckkgdmgaaGreatDoorN11
import Derived.Laws.EntriesVeiled
/- The program's own least: walking a graph by a function that calls itself: the calls. -/
namespace Go.Ev
open Go.Proofs Go.RowKit Go.Lib
set_option maxRecDepth 100000

/-- What a walk's variables hold that it never turns. -/
structure VCtx (Q : List Nd) (nb mb tb lb vb : Nat) (p1 p2 p3 : Value) (W1 : World) : Prop where
  t0 : W1.cell? ⟨tb, 0, none⟩ = some (.map (some mb))
  l0 : W1.cell? ⟨lb, 0, none⟩ = some (.func (.func 85) #[] #[p1, p2, p3])
  v0 : W1.cell? ⟨vb, 0, none⟩ = some (.func (.func 115) #[] #[.pointer (some ⟨tb, 0, none⟩), .pointer (some ⟨nb, 0, none⟩), .pointer (some ⟨lb, 0, none⟩), .pointer (some ⟨vb, 0, none⟩)])
  t1 : tb ≠ nb ∧ tb ≠ mb
  l1 : lb ≠ nb ∧ lb ≠ mb
  v1 : vb ≠ nb ∧ vb ≠ mb
  look : ∀ (w : World) (x : Nat) (nd : Nd), Upd (fun g => g = nb ∨ g = mb) W1 w → Q[x]? = some nd → Calls Tryz.prog 85 #[.int .i64 (x : Int), p1, p2, p3] w (LookPost nd (argsAt Q x) w)

theorem Upd.cellAt {S : Nat → Prop} {w w' : World} (h : Upd S w w') {b o : Nat} {v : Value} (hb : ¬ S b) (hc : w.cell? ⟨b, o, none⟩ = some v) : w'.cell? ⟨b, o, none⟩ = some v := by
  have he := h.block b (block_lt_of_cell hc) hb
  unfold World.cell? at hc ⊢
  rw [he]; exact hc

section
variable {Q : List Nd} {nb mb tb lb vb : Nat} {p1 p2 p3 : Value} {W1 W : World}
theorem VCtx.cells (h : VCtx Q nb mb tb lb vb p1 p2 p3 W1) (hU : Upd (fun g => g = nb ∨ g = mb) W1 W) :
    W.cell? ⟨tb, 0, none⟩ = some (.map (some mb)) ∧ W.cell? ⟨lb, 0, none⟩ = some (.func (.func 85) #[] #[p1, p2, p3]) ∧ W.cell? ⟨vb, 0, none⟩ = some (.func (.func 115) #[] #[.pointer (some ⟨tb, 0, none⟩), .pointer (some ⟨nb, 0, none⟩), .pointer (some ⟨lb, 0, none⟩), .pointer (some ⟨vb, 0, none⟩)]) :=
  ⟨hU.cellAt (fun e => e.elim h.t1.1 h.t1.2) h.t0, hU.cellAt (fun e => e.elim h.l1.1 h.l1.2) h.l0, hU.cellAt (fun e => e.elim h.v1.1 h.v1.2) h.v0⟩
end

set_option maxHeartbeats 4000000 in
theorem visit_hit (Q : List Nd) (nb mb tb lb vb B x i : Nat) (p1 p2 p3 : Value) (W1 W : World) (out op : List Nat) (v : Value) (us : List Value) (hC : VCtx Q nb mb tb lb vb p1 p2 p3 W1) (hU : Upd (fun g => g = nb ∨ g = mb) W1 W) (hst : VSt B Q nb mb out op v us W) (hi : out[i]? = some x) (hx : x < 200000) (_hil : i < 200000) :
    Calls Tryz.prog 115 #[.int .i64 (x : Int), .pointer (some ⟨tb, 0, none⟩), .pointer (some ⟨nb, 0, none⟩), .pointer (some ⟨lb, 0, none⟩), .pointer (some ⟨vb, 0, none⟩)] W fun e w' => e = .returned (.int .i64 (i : Int)) ∧ w' = W := by
  obtain ⟨c1, c2, c3⟩ := hC.cells hU
  obtain ⟨f, hm, hkf⟩ := hst.map
  have hf := hkf.hit i x hi
  have HM := Lib.hid hm
  have HF := Lib.hid hf
  clear hC hU hst hi hm hkf hf c2 c3
  go_enter Tryz.func115, Tryz.ntmps115
  go_wp2_with (at_lookup; go_loud (refine wpList_lookup_hit rfl (.tmp 16) (.tmp 17) 91 rfl 3 3 .i64 Tryz.keyed3 Tryz.underlying91 Tryz.underlying3 (Tryz.zero3 _) mb _ f rfl HM.out (encI x) _ rfl (key3 (by omega)) (i : Int) HF.out ?_))
  go_ret
  exact ⟨rfl, rfl⟩
end Go.Ev

/- The program's own least: walking a graph by a function that calls itself: a node that is new. -/
namespace Go.Ev
open Go.Proofs Go.RowKit Go.Lib
set_option maxRecDepth 100000

set_option maxHeartbeats 16000000 in
theorem visit_new (Q : List Nd) (nb mb tb lb vb x m : Nat) (p1 p2 p3 : Value) (W1 W : World) (out op : List Nat) (v : Value) (us : List Value) (nd : Nd) (hQ : GClosed Q) (hQn : Q.length ≤ 100000) (hsz : ∀ n ∈ Q, n.label.size ≤ 9223372036854775807)
    (hC : VCtx Q nb mb tb lb vb p1 p2 p3 W1) (hU : Upd (fun g => g = nb ∨ g = mb) W1 W) (hst : VSt W1.heap.size Q nb mb out op v us W) (hx : x ∉ out) (hnd : Q[x]? = some nd) (hm : out.length = m)
    (IH : ∀ (k : Nat) (out' op' : List Nat) (v' : Value) (us' : List Value) (W' : World), k < Q.length → m < out'.length → Upd (fun g => g = nb ∨ g = mb) W1 W' → VSt W1.heap.size Q nb mb out' op' v' us' W' →
      Calls Tryz.prog 115 #[.int .i64 (k : Int), .pointer (some ⟨tb, 0, none⟩), .pointer (some ⟨nb, 0, none⟩), .pointer (some ⟨lb, 0, none⟩), .pointer (some ⟨vb, 0, none⟩)] W' (VPost W1.heap.size Q nb mb out' op' v' us' k W')) :
    Calls Tryz.prog 115 #[.int .i64 (x : Int), .pointer (some ⟨tb, 0, none⟩), .pointer (some ⟨nb, 0, none⟩), .pointer (some ⟨lb, 0, none⟩), .pointer (some ⟨vb, 0, none⟩)] W (VPost W1.heap.size Q nb mb out op v us x W) := by
  obtain ⟨c1, c2, c3⟩ := hC.cells hU
  obtain ⟨f, hm0, hkf⟩ := hst.map
  obtain ⟨t, hvar⟩ := hst.var
  have hxl := (List.getElem?_eq_some_iff.1 hnd).1
  have hml : m ≤ 100000 := by have := hst.met.le; omega
  have hf := hkf.miss x hx
  have hkf' := hkf.snoc encI_inj hx
  rw [hm] at hm0 hkf'
  have hown : Own W1.heap.size 4 W v m (nodesCells (nodesL Q out op) us) := by have h := hst.nodes.own; rwa [nodesL_length, hm] at h
  have hvb : ∀ g, v.ownBlock = some g → W1.heap.size ≤ g ∧ g < W.heap.size := fun g hg => hown.lt hg
  have hlo := hst.lo
  have hU1 := hU.size
  have hlab := hsz nd (List.mem_of_getElem? hnd)
  obtain ⟨va, vc, rfl⟩ := own_form hown
  have z0 : W.cell? ⟨nb, 0, none⟩ = some (.slice va m vc) := by unfold World.cell?; rw [hvar]; rfl
  have tl := block_lt_of_cell c1
  have ll := block_lt_of_cell c2
  have vl := block_lt_of_cell c3
  have nl := block_lt_of_cell z0
  have t1 := hC.t1
  have l1 := hC.l1
  have v1 := hC.v1
  have hne := hst.ne
  obtain ⟨L, hL⟩ : ∃ L, (argsAt Q x).length = L := ⟨_, rfl⟩
  have hL8 : L ≤ 8 := by rw [← hL]; exact argsAt_le hQ x
  obtain ⟨i3, hj0, hy0, hy1, hy2⟩ := info_parts Tryz.info3
  obtain ⟨i48, hq0, hz0, hz1, hz2⟩ := info_parts Tryz.info48
  have HM := Lib.hid hm0
  have HKF := Lib.hid hkf'
  have HF := Lib.hid hf
  have HC := Lib.hid hC
  have HU := Lib.hid hU
  have HST := Lib.hid hst
  have HX := Lib.hid hx
  have HND := Lib.hid hnd
  have HIH := Lib.hid IH
  have HO := Lib.hid hown
  have HQ := Lib.hid hQ
  have HVB := Lib.hid hvb
  have HME := Lib.hid hm
  have HVAR := Lib.hid hvar
  have HSZ := Lib.hid hsz
  clear hm0 hkf hkf' hf hC hU hst hx hnd IH hown hQ hvb hm hvar hsz
  go_enter Tryz.func115, Tryz.ntmps115
  go_wp2_with (first
    | (at_lookup; go_loud (refine wpList_lookup_miss rfl (.tmp 16) (.tmp 17) 91 rfl 3 3 .i64 Tryz.keyed3 Tryz.underlying91 Tryz.underlying3 (Tryz.zero3 _) mb _ f rfl HM.out (encI x) _ rfl (key3 (by omega)) HF.out ?_))
    | (at_mapUpdate; go_loud (refine wpList_put rfl (.tmp 25) (.tmp 26) (.tmp 27) 91 rfl 3 3 Tryz.keyed3 Tryz.underlying91 mb _ f rfl HM.out (by unfold maxLen; omega) (encI x) (.int .i64 (m : Int)) _ _ rfl rfl (key3 (by omega)) (plainElem_int Tryz.underlying3 (wf64 (by omega))) ?_); intro w1 hm1 hg1; have HM1 := Lib.hid hm1; have hc1 := Chg.of_grown hg1; have z1 := hc1.cell hne z0; have c1' := hc1.cell t1.2 c1; have c2' := hc1.cell l1.2 c2; have c3' := hc1.cell v1.2 c3; have hs1 := hc1.size; have HC1 := Lib.hid hc1; clear hm1 hg1 hc1)
    | (go_at_call 85; go_loud (refine (HC.out.look w1 x nd (HU.out.trans (Upd.of_chg HC1.out (.inr rfl)) fun b hb => .inl hb) HND.out).mono ?_); rintro e w2 ⟨u2, k2, rfl, ⟨ua, un, uc, rfl⟩, hk2, hkp2⟩; rw [hL] at hk2; obtain ⟨ka, kc, rfl⟩ := own_form hk2; have z2 := hkp2.cells z1; have c1'' := hkp2.cells c1'; have c3'' := hkp2.cells c3'; have hs2 := hkp2.size; have nl2 := Nat.lt_of_lt_of_le (Nat.lt_of_lt_of_le nl hs1) hs2; have vl2 := Nat.lt_of_lt_of_le (Nat.lt_of_lt_of_le vl hs1) hs2; have HK2 := Lib.hid hk2; have HKP2 := Lib.hid hkp2; have hown2 : Own W1.heap.size 4 w2 (.slice va m vc) m (nodesCells (nodesL Q out op) us) := (HO.out.chg HC1.out (fun e => by have := HVB.out _ e; omega)).kp hkp2; have HO2 := Lib.hid hown2; have hnb2 : w2.heap[nb]? = some (.cells #[Value.slice va m vc] t (0, 0)) := (hkp2.block nb (by omega)).trans ((HC1.out.block nb nl hne).trans HVAR.out); have HNB2 := Lib.hid hnb2; clear hk2 hkp2 hown2 hnb2; have HAL := Lib.hid (show Kp w2.heap.size w2 ((w2.alloc (Obj.cells #[Value.int IntKind.i64 nd.kind, Value.int IntKind.i64 nd.num, Value.string nd.label, Value.slice ua un uc] 48)).alloc (Obj.cells #[Value.int IntKind.i64 nd.kind, Value.int IntKind.i64 nd.num, Value.string nd.label, Value.slice none 0 0] 48)) from ((Kp.refl _ _).alloc (Nat.le_refl _) _).alloc (by simp) _); have hnw := news_alloc (w2.alloc (Obj.cells #[Value.int IntKind.i64 nd.kind, Value.int IntKind.i64 nd.num, Value.string nd.label, Value.slice ua un uc] 48)) [Value.int IntKind.i64 nd.kind, Value.int IntKind.i64 nd.num, Value.string nd.label, Value.slice none 0 0] 48; have hsa : (w2.alloc (Obj.cells #[Value.int IntKind.i64 nd.kind, Value.int IntKind.i64 nd.num, Value.string nd.label, Value.slice ua un uc] 48)).heap.size = w2.heap.size + 1 := (by simp); rw [hsa] at hnw; have HNW := Lib.hid hnw; clear hnw hsa)
    | (at_builtin; go_loud (refine wpList_append_mine rfl (.tmp 34) (.tmp 42) 22 rfl W1.heap.size 48 i48 (.agg #[.int .i64 0, .int .i64 0, .string ⟨#[]⟩, .slice none 0 0]) 4 56 Tryz.underlying22 hq0 hz0 hz1 hz2 rfl (by decide) (.slice va m vc) m (nodesCells (nodesL Q out op) us) rfl (HO2.out.kp HAL.out) ⟨w2.heap.size + 1, 0, none⟩ 1 1 [Value.int IntKind.i64 nd.kind, Value.int IntKind.i64 nd.num, Value.string nd.label, Value.slice none 0 0] rfl rfl HNW.out (by simp [Value.oneCell']) (by unfold maxLen; omega) (by omega) (by have := HAL.out.size; omega) ?_); intro v4 w4 hown4 hgr4 hblk4; obtain ⟨va4, vc4, rfl⟩ := own_form hown4; have hvnb : (Value.slice va m vc).ownBlock ≠ some nb := (fun e => by have := (HVB.out _ e).1; omega); have hnb4 : w4.heap[nb]? = some (.cells #[Value.slice va m vc] t (0, 0)) := (grown_other hgr4 (by have := HAL.out.size; omega) hvnb).trans ((HAL.out.block nb nl2).trans HNB2.out); have z4 : w4.cell? ⟨nb, 0, none⟩ = some (.slice va m vc) := (by unfold World.cell?; rw [hnb4]; rfl); have f4 : w4.frozen? ⟨nb, 0, none⟩ = false := (by simp [World.frozen?, hnb4]); have nl4 := (Array.getElem?_eq_some_iff.1 hnb4).1; have hs4 := hgr4.size; have HO4 := Lib.hid hown4; have HG4 := Lib.hid hgr4; have HB4 := Lib.hid hblk4; clear hown4 hgr4 hblk4 hvnb hnb4))
  have HL := Lib.hid hL
  have HS0 := Lib.hid (VSt.push HQ.out hU1 HST.out HX.out HND.out hlab (by rw [HME.out]; exact HM1.out) HKF.out HC1.out HKP2.out (by rw [HL.out]; exact HK2.out) HAL.out (by rw [HME.out]; exact HO4.out) HG4.out HB4.out)
  clear hL HM1 HK2 HAL HO4 HG4 HB4 HNW HO2 HNB2
  go_loopw [12, 46] (fun v12 i wr => ∃ q v' us', q ≤ L ∧ i = .int .i64 (q : Int) ∧ VLoop W1.heap.size W Q nb mb out op (.slice va m vc) us x (.slice ka L kc) q v12 v' us' wr) (fun _ i _ => L - (RowKit.intOf i).toNat)
  case atStart => exact ⟨0, _, _, Nat.zero_le _, rfl, HS0.out⟩
  case round =>
    obtain ⟨q, v', us', hq, rfl, hV⟩ := hrel
    have hUw : Upd (fun g => g = nb ∨ g = mb) W1 wr := HU.out.trans hV.upd fun g hg => by
      rcases hg with e | e | e
      · exact .inl (.inl e)
      · exact .inl (.inr e)
      · exact .inr (HVB.out g e).1
    have hmS := HST.out.met.snoc hxl HX.out
    have hts : ∀ y ∈ (argsAt Q x).take q, y < Q.length := fun y hy => argsAt_lt HQ.out (List.mem_of_mem_take hy)
    obtain ⟨p1', ⟨l1', p2'⟩, p3', p4', _⟩ := dmeet_props HQ.out _ ((argsAt Q x).take q) (out ++ [x]) (Nat.le_refl _) hts hmS
    have hlong : m < (dmeet Q ((argsAt Q x).take q) (out ++ [x])).length := by
      have := HME.out
      rw [p2']; simp; omega
    have d3 := (HC.out.cells hUw).2.2
    by_cases hlq : q < L
    · obtain ⟨k, hk⟩ : ∃ k, (argsAt Q x)[q]? = some k := ⟨_, List.getElem?_eq_getElem (by rw [HL.out]; exact hlq)⟩
      have hkQ : k < Q.length := argsAt_lt HQ.out (List.mem_of_getElem? hk)
      have hkeys := hV.keys
      rw [HL.out] at hkeys
      obtain ⟨kb, ko, kc', e0, hseg⟩ := hkeys.seg (by omega)
      obtain ⟨rfl, rfl⟩ : ka = some ⟨kb, ko, none⟩ ∧ kc = kc' := by cases e0; exact ⟨rfl, rfl⟩
      clear e0
      have hck := hseg.cell (j := q) (u := .int .i64 (k : Int)) (by unfold intsV; rw [List.getElem?_map, hk]; rfl)
      have hkf := hseg.fit
      have hargs := hV.args
      obtain ⟨ga, gc, rfl⟩ := own_form hargs
      have HV := Lib.hid hV
      have HK := Lib.hid hk
      have HUW := Lib.hid hUw
      have HMS := Lib.hid hmS
      have HLO := Lib.hid hlong
      have HA := Lib.hid hargs
      clear hV hk hUw hmS hts p1' p2' p3' p4' hlong hkeys hseg hargs
      go_wp2_with (first
        | (go_at_call 115; go_loud (refine (HIH.out k _ _ v' us' wr hkQ HLO.out HUW.out HV.out.st).mono ?_); rintro e w5 ⟨v'', us'', rfl, h5, hu5, hv5, hus5⟩; obtain ⟨j, hj⟩ : ∃ j, j = (dmeet Q [k] (dmeet Q ((argsAt Q x).take q) (out ++ [x]))).idxOf k := ⟨_, rfl⟩; rw [← hj]; have HJ := Lib.hid hj; have H5 := Lib.hid h5; have HU5 := Lib.hid hu5; have HV5 := Lib.hid hv5; have HUS5 := Lib.hid hus5; clear hj h5 hu5 hv5 hus5; have hnw := news_alloc w5 [Value.int .i64 (j : Int)] 3; have HNW := Lib.hid hnw; have HAL := Lib.hid (show Kp w5.heap.size w5 (w5.alloc (Obj.cells #[Value.int .i64 (j : Int)] 3)) from (Kp.refl _ _).alloc (Nat.le_refl _) _); clear hnw; have hA5 : Own W.heap.size 1 w5 (.slice ga q gc) q (intsV (((argsAt Q x).take q).map (dmeet Q ((argsAt Q x).take q) (out ++ [x])).idxOf)) := HA.out.upd HU5.out (fun g hg hw => by
            have h1 := HA.out.lt hg
            rcases hw with rfl | rfl | hw
            · have := HST.out.lo; omega
            · have := HST.out.lo; omega
            · exact (HV.out.a1 g hg).1 hw); have HA5 := Lib.hid hA5; clear hA5; have hs5 := HU5.out.size)
        | (at_builtin; go_loud (refine wpList_append_mine rfl (.tmp 50) (.tmp 54) 43 rfl W.heap.size 3 i3 (.int .i64 0) 1 8 Tryz.underlying43 hj0 hy0 hy1 hy2 rfl (by decide) (.slice ga q gc) q (intsV (((argsAt Q x).take q).map (dmeet Q ((argsAt Q x).take q) (out ++ [x])).idxOf)) rfl (HA5.out.kp HAL.out) ⟨w5.heap.size, 0, none⟩ 1 1 [Value.int .i64 (j : Int)] rfl rfl HNW.out (by simp [Value.oneCell']) (by unfold maxLen; omega) (by omega) (by have := HV.out.upd.size; have := HAL.out.size; omega) ?_); intro v6 w6 hown6 hgr6 hblk6; have HO6 := Lib.hid hown6; have HG6 := Lib.hid hgr6; have HB6 := Lib.hid hblk6; clear hown6 hgr6 hblk6))
      go_roundw
      case rel => exact ⟨q + 1, v'', us'', by omega, by go_num, VLoop.step HQ.out hU1 HV.out HK.out HMS.out H5.out HU5.out HV5.out HUS5.out HAL.out (by rw [← HJ.out]; exact HO6.out) HG6.out HB6.out⟩
      case measure => simp [RowKit.intOf]; omega
    · obtain rfl : q = L := by omega
      obtain ⟨n8, hn8⟩ : ∃ n8, n8 = (nodesL Q (dmeet Q ((argsAt Q x).take q) (out ++ [x])) (x :: op)).length := ⟨_, rfl⟩
      have hmn : m < n8 := by rw [hn8, nodesL_length]; exact hlong
      have hn8le : n8 ≤ 100000 := by rw [hn8, nodesL_length]; have := p1'.le; omega
      have hown8 := hV.st.nodes.own
      rw [← hn8] at hown8
      obtain ⟨b8, o8, c8, rfl, hseg⟩ := hown8.seg (by omega)
      obtain ⟨t8, ht8⟩ := hV.st.var
      have z8 : wr.cell? ⟨nb, 0, none⟩ = some (.slice (some ⟨b8, o8, none⟩) n8 c8) := by unfold World.cell?; rw [ht8]; rfl
      have hf8 := hseg.frozen (o8 + m * 4 + 3)
      have hfit := hseg.fit
      have hlen8 := hseg.len
      obtain ⟨old, hcell⟩ : ∃ old, wr.cell? ⟨b8, o8 + m * 4 + 3, none⟩ = some old := ⟨_, by rw [Nat.add_assoc]; exact hseg.cell (j := m * 4 + 3) (List.getElem?_eq_getElem (by rw [hlen8]; omega))⟩
      have hargs := hV.args
      obtain ⟨ga, gc, rfl⟩ := own_form hargs
      have HV := Lib.hid hV
      clear hV hUw hmS hts p1' p2' p3' p4' hlong hown8 hseg hlen8 hargs ht8
      go_wp2_with fail
      go_ret
      have hfin := VLoop.finish HQ.out hU1 HST.out HX.out hxl (by rw [HL.out]; exact HV.out)
      rw [HME.out, ← Nat.add_assoc] at hfin
      exact hfin
end Go.Ev

/- The program's own least: walking a graph by a function that calls itself. -/
namespace Go.Ev
open Go.Proofs Go.RowKit Go.Lib
set_option maxRecDepth 100000

theorem visit_ok (Q : List Nd) (nb mb tb lb vb : Nat) (p1 p2 p3 : Value) (W1 : World) (hQ : GClosed Q) (hQn : Q.length ≤ 100000) (hsz : ∀ n ∈ Q, n.label.size ≤ 9223372036854775807) (hC : VCtx Q nb mb tb lb vb p1 p2 p3 W1) :
    ∀ (f x : Nat) (out op : List Nat) (v : Value) (us : List Value) (W : World), Q.length ≤ out.length + f → x < Q.length → Upd (fun g => g = nb ∨ g = mb) W1 W → VSt W1.heap.size Q nb mb out op v us W →
    Calls Tryz.prog 115 #[.int .i64 (x : Int), .pointer (some ⟨tb, 0, none⟩), .pointer (some ⟨nb, 0, none⟩), .pointer (some ⟨lb, 0, none⟩), .pointer (some ⟨vb, 0, none⟩)] W (VPost W1.heap.size Q nb mb out op v us x W) := by
  intro f
  induction f with
  | zero =>
    intro x out op v us W hf hx hU hst
    by_cases hxo : x ∈ out
    · obtain ⟨i, hi⟩ := List.getElem?_of_mem hxo
      have hil := (List.getElem?_eq_some_iff.1 hi).1
      have hle := hst.met.le
      refine (visit_hit Q nb mb tb lb vb _ x i p1 p2 p3 W1 W out op v us hC hU hst hi (by omega) (by omega)).mono ?_
      rintro e w' ⟨rfl, rfl⟩
      have hd : dmeet Q [x] out = out := by rw [dmeet_old hQ (by simpa using hx) hst.met hxo, dmeet_nil]
      exact ⟨v, us, by rw [hd, idxOf_at hst.met.nodup hi], by rw [hd]; exact hst, Upd.refl _ _, .inl rfl, fun u hu => .inl hu⟩
    · exfalso
      have := (hst.met.snoc hx hxo).le
      simp at this
      omega
  | succ f ih =>
    intro x out op v us W hf hx hU hst
    by_cases hxo : x ∈ out
    · obtain ⟨i, hi⟩ := List.getElem?_of_mem hxo
      have hil := (List.getElem?_eq_some_iff.1 hi).1
      have hle := hst.met.le
      refine (visit_hit Q nb mb tb lb vb _ x i p1 p2 p3 W1 W out op v us hC hU hst hi (by omega) (by omega)).mono ?_
      rintro e w' ⟨rfl, rfl⟩
      have hd : dmeet Q [x] out = out := by rw [dmeet_old hQ (by simpa using hx) hst.met hxo, dmeet_nil]
      exact ⟨v, us, by rw [hd, idxOf_at hst.met.nodup hi], by rw [hd]; exact hst, Upd.refl _ _, .inl rfl, fun u hu => .inl hu⟩
    · exact visit_new Q nb mb tb lb vb x out.length p1 p2 p3 W1 W out op v us Q[x] hQ hQn hsz hC hU hst hxo (List.getElem?_eq_getElem hx) rfl fun k out' op' v' us' W' hk hl hU' hst' => ih k out' op' v' us' W' (by omega) hk hU' hst'
end Go.Ev

/- The program's own least: the graph that a root leads to. -/
namespace Go.Ev
open Go.Proofs Go.RowKit Go.Lib
set_option maxRecDepth 100000

/-- The graph that a root leads to. -/
def LedPost (Q : List Nd) (x : Nat) (W : World) (e : Ending) (w' : World) : Prop :=
  ∃ v us, e = .returned (.agg #[v, .int .i64 0]) ∧ OwnN W.heap.size w' v (renum Q (reach Q x)) us ∧ Kp W.heap.size W w'

theorem heap_top {w w' : World} {o : Obj} {n : Nat} (h : w' = w.alloc o) (hn : w.heap.size = n) : w'.heap[n]? = some o := by
  subst hn; rw [h]; exact Array.getElem?_push_size
theorem heap_low {w w' : World} {o : Obj} {n : Nat} (h : w' = w.alloc o) (hn : n < w.heap.size) : w'.heap[n]? = w.heap[n]? := by rw [h]; exact Below.heap_alloc _ _ _ hn

/-- The world in which the walk begins. -/
theorem led_start (Q : List Nd) (s : Nat) (p1 p2 p3 : Value) (W W1 : World) (hs : s = W.heap.size)
    (hW1 : W1 = ((((((W.alloc (Obj.cells #[Value.func (Fn.func 85) #[] #[p1, p2, p3]] 102)).alloc (Obj.cells #[Value.slice none 0 0, Value.int IntKind.i64 0] 24)).alloc (Obj.cells #[Value.slice none 0 0] 22)).alloc (Obj.map #[] 0)).alloc (Obj.cells #[Value.map (some (s + 1 + 1 + 1))] 91)).alloc
      (Obj.cells #[Value.func (Fn.func 115) #[] #[Value.pointer (some { block := s + 1 + 1 + 1 + 1, off := 0 }), Value.pointer (some { block := s + 1 + 1, off := 0 }), Value.pointer (some { block := s, off := 0 }), Value.pointer (some { block := s + 1 + 1 + 1 + 1 + 1, off := 0 })]] 82)))
    (look : ∀ (w : World) (k : Nat) (nd : Nd), Kp W.heap.size W w → Q[k]? = some nd → Calls Tryz.prog 85 #[.int .i64 (k : Int), p1, p2, p3] w (LookPost nd (argsAt Q k) w)) :
    VCtx Q (s + 1 + 1) (s + 1 + 1 + 1) (s + 1 + 1 + 1 + 1) s (s + 1 + 1 + 1 + 1 + 1) p1 p2 p3 W1 ∧ VSt W1.heap.size Q (s + 1 + 1) (s + 1 + 1 + 1) [] [] (.slice none 0 0) [] W1 ∧ Kp W.heap.size W W1 ∧ W1.heap.size = s + 6 ∧
      W1.heap[s + 1]? = some (Obj.cells #[Value.slice none 0 0, Value.int IntKind.i64 0] 24) := by
  obtain ⟨wa, ha⟩ : ∃ wa, wa = W.alloc (Obj.cells #[Value.func (Fn.func 85) #[] #[p1, p2, p3]] 102) := ⟨_, rfl⟩
  obtain ⟨wb, hb⟩ : ∃ wb, wb = wa.alloc (Obj.cells #[Value.slice none 0 0, Value.int IntKind.i64 0] 24) := ⟨_, rfl⟩
  obtain ⟨wc, hc⟩ : ∃ wc, wc = wb.alloc (Obj.cells #[Value.slice none 0 0] 22) := ⟨_, rfl⟩
  obtain ⟨wd, hd⟩ : ∃ wd, wd = wc.alloc (Obj.map #[] 0) := ⟨_, rfl⟩
  obtain ⟨we, he⟩ : ∃ we, we = wd.alloc (Obj.cells #[Value.map (some (s + 1 + 1 + 1))] 91) := ⟨_, rfl⟩
  rw [← ha, ← hb, ← hc, ← hd, ← he] at hW1
  have sa : wa.heap.size = s + 1 := by rw [ha, hs]; simp
  have sb : wb.heap.size = s + 1 + 1 := by rw [hb, ← sa]; simp
  have sc : wc.heap.size = s + 1 + 1 + 1 := by rw [hc, ← sb]; simp
  have sd : wd.heap.size = s + 1 + 1 + 1 + 1 := by rw [hd, ← sc]; simp
  have se : we.heap.size = s + 1 + 1 + 1 + 1 + 1 := by rw [he, ← sd]; simp
  have sf : W1.heap.size = s + 1 + 1 + 1 + 1 + 1 + 1 := by rw [hW1, ← se]; simp
  have b5 := heap_top hW1 se
  have b4 := (heap_low hW1 (n := s + 1 + 1 + 1 + 1) (by omega)).trans (heap_top he sd)
  have d3 := fun (n : Nat) (h : n < wc.heap.size) => (heap_low hW1 (n := n) (by omega)).trans ((heap_low he (by omega)).trans (heap_low hd h))
  have b2 := (d3 (s + 1 + 1) (by omega)).trans (heap_top hc sb)
  have b1 := (d3 (s + 1) (by omega)).trans ((heap_low hc (by omega)).trans (heap_top hb sa))
  have b0 := (d3 s (by omega)).trans ((heap_low hc (by omega)).trans ((heap_low hb (by omega)).trans (heap_top ha hs.symm)))
  have hk : Kp W.heap.size W W1 := by
    rw [hW1, he, hd, hc, hb, ha]
    exact ((((((Kp.refl _ _).alloc (Nat.le_refl _) _).alloc (by simp) _).alloc (by simp; omega) _).alloc (by simp; omega) _).alloc (by simp; omega) _).alloc (by simp; omega) _
  refine ⟨⟨?_, ?_, ?_, by omega, by omega, by omega, fun w k nd hU hnd => look w k nd ?_ hnd⟩, ⟨⟨_, b2⟩, ⟨_, ?_, KeyF.nil _⟩, ⟨⟨?_, .inl ⟨rfl, rfl⟩⟩, rfl, ?_, ?_, ?_, ?_⟩, by omega, by omega, ⟨List.nodup_nil, by simp⟩, fun y hy => by simp at hy, fun y hy => by simp at hy⟩, hk, by omega, b1⟩
  · unfold World.cell?; rw [b4]; rfl
  · unfold World.cell?; rw [b0]; rfl
  · unfold World.cell?; rw [b5]; rfl
  · exact hk.trans (hU.kp (B := W.heap.size) (by omega) (fun g hg => by omega))
  · have h := (MapV.made Tryz.prog 3 3 wc)
    rw [← hd, sc] at h
    refine h.of_heap ?_
    exact (heap_low hW1 (by omega)).trans (heap_low he (by omega))
  all_goals simp [nodesL, nodesCells]

set_option maxHeartbeats 8000000 in
theorem led_ok (Q : List Nd) (x : Nat) (p1 p2 p3 : Value) (W : World) (hQ : GClosed Q) (hQn : Q.length ≤ 100000) (hsz : ∀ n ∈ Q, n.label.size ≤ 9223372036854775807) (hx : x < Q.length)
    (look : ∀ (w : World) (k : Nat) (nd : Nd), Kp W.heap.size W w → Q[k]? = some nd → Calls Tryz.prog 85 #[.int .i64 (k : Int), p1, p2, p3] w (LookPost nd (argsAt Q k) w)) :
    Calls Tryz.prog 84 #[.int .i64 (x : Int), .func (.func 85) #[] #[p1, p2, p3]] W (LedPost Q x W) := by
  have HQ := Lib.hid hQ
  have HSZ := Lib.hid hsz
  have HLK := Lib.hid look
  have hmm := @run_makeMap Tryz.prog
  clear hQ hsz look
  go_enter Tryz.func84, Tryz.ntmps84
  go_wp2_with fail
  generalize hW1 : World.alloc _ _ = W1
  obtain ⟨hC, hst, hk, h6, hr⟩ := led_start Q W.heap.size p1 p2 p3 W W1 rfl hW1.symm HLK.out
  refine (visit_ok Q _ _ _ _ _ p1 p2 p3 W1 HQ.out hQn HSZ.out hC Q.length x [] [] _ [] W1 (by simp) hx (Upd.refl _ _) hst).mono ?_
  rintro e w2 ⟨v, us, rfl, h2, hu2, hv2, hus2⟩
  have hd : dmeet Q [x] [] = reach Q x := dmeet_reach HQ.out hx
  obtain ⟨l, hl⟩ := (reach_ok HQ.out hx).first
  have hi : (reach Q x).idxOf x = 0 := by rw [hl]; simp
  rw [hd] at h2 ⊢
  rw [hi]
  have hown := h2.nodes
  rw [nodesL_renum] at hown
  obtain ⟨t, ht⟩ := h2.var
  obtain ⟨va, vc, rfl⟩ := own_form hown.own
  have z2 : w2.cell? ⟨W.heap.size + 1 + 1, 0, none⟩ = some (.slice va (renum Q (reach Q x)).length vc) := by unfold World.cell?; rw [ht]; rfl
  have hr2 := (hu2.block (W.heap.size + 1) (by omega) (by rintro (h | h | h); omega; omega; simp [Value.ownBlock] at h)).trans hr
  have r0 : w2.cell? ⟨W.heap.size + 1, 0, none⟩ = some (.slice none 0 0) := by unfold World.cell?; rw [hr2]; rfl
  have r1 : w2.cell? ⟨W.heap.size + 1, 1, none⟩ = some (.int .i64 0) := by unfold World.cell?; rw [hr2]; rfl
  have r2 : ∀ o, w2.frozen? ⟨W.heap.size + 1, o, none⟩ = false := fun o => by simp [World.frozen?, hr2]
  have hk2 : Kp W.heap.size W w2 := hk.trans (hu2.kp (by omega) (by rintro b (h | h | h); omega; omega; simp [Value.ownBlock] at h))
  have HOWN := Lib.hid hown
  have HK2 := Lib.hid hk2
  have hs1 := h6
  clear hC hst hk h6 hr hu2 hus2 hd hl hi h2 hv2 hown hr2 hk2 HQ HSZ HLK hmm ht hW1
  go_wp2_with fail
  have hC : Chg (W.heap.size + 1) w2 ((w2.setCell ⟨W.heap.size + 1, 0, none⟩ (.slice va (renum Q (reach Q x)).length vc)).setCell ⟨W.heap.size + 1, 1, none⟩ (.int .i64 0)) := ((Chg.refl _ _).setCell _ _).setCell _ _
  refine bodyPost_ret (v := .agg #[.slice va (renum Q (reach Q x)).length vc, .int .i64 0]) (by simp [results, Tryz.results84, go_sem, r0, r1]) rfl ⟨_, us, rfl, ?_, ?_⟩
  · exact ((HOWN.out.chg hC (fun e => by have := (HOWN.out.own.lt e).1; omega) (fun u hu e => by have := HOWN.out.ge_us u hu _ e; omega))).mono (by omega)
  · exact (HK2.out.setCell (by simp) _).setCell (by simp) _
end Go.Ev
