import Derived.Test.YtbjcopckkgdmgaaGreatDoorN2
import Derived.StillTailTactics
import Derived.MapViews
import Derived.Test.YtbjcopckkgdmgaaGreatDoorOp
/- Nodes grouped by the numbers of their classes: the walk. -/
namespace Go.Ev
open Go.Proofs Go.RowKit Go.Lib
set_option maxRecDepth 100000

theorem Tryz.info43 : (Tryz.prog.info? 43).map (fun i => (i.zero, i.size, i.bytes)) = some (some (.slice none 0 0), 1, 24) := by kernel_rfl
theorem Tryz.zero3 (w : World) : (zeroValue 3).run Tryz.prog w = .ok (.int .i64 0) w := by kernel_rfl
theorem Tryz.keyed3 : Go.Maps.Keyed Tryz.prog 3 := Go.Maps.int_keyed Tryz.underlying3
theorem wf64 {n : Nat} (h : n ≤ 9223372036854775807) : (Lit.int .i64 (n : Int)).wf = true := by
  have e1 : IntKind.i64.min = -9223372036854775808 := by decide
  have e2 : IntKind.i64.max = 9223372036854775807 := by decide
  simp only [Lit.wf, e1, e2, Bool.and_eq_true, decide_eq_true_eq]
  omega
theorem key3 {n : Nat} (h : n ≤ 9223372036854775807) : keyOf Tryz.prog 3 (.int .i64 (n : Int)) = some (.int .i64 (n : Int)) := Go.Maps.keyOf_int_mk Tryz.underlying3 (wf64 h)
abbrev encI (k : Nat) : Value := .int .i64 (k : Int)
theorem encI_inj (a b : Nat) (h : encI a = encI b) : a = b := by
  have : (a : Int) = (b : Int) := by injection h
  omega

set_option maxHeartbeats 8000000 in
theorem groupI_ok (d cb N cap lb lo lc : Nat) (c : Nat → Nat) (l : List Nat) (W : World) (hN : N ≤ 200000) (hcap : N ≤ cap) (hl : ∀ x ∈ l, x < N) (_hlc : l.length ≤ lc) (hln : l.length ≤ 200000) (hcN : ∀ x, x < N → c x < N)
    (hd : W.cell? ⟨d, 2, none⟩ = some (.slice (some ⟨cb, 0, none⟩) N cap)) (hc : RowI W cb (clsI N c)) (hcell : ∀ (j x : Nat), l[j]? = some x → W.cell? ⟨lb, lo + j, none⟩ = some (.int .i64 (x : Int))) :
    Calls Tryz.prog 116 #[.slice (some ⟨lb, lo, none⟩) l.length lc, .func (.func 117) #[.pointer (some ⟨d, 0, none⟩)] #[]] W (GroupPost c l W) := by
  have HC := Lib.hid hc
  have HCELL := Lib.hid hcell
  have HL := Lib.hid hl
  have HCN := Lib.hid hcN
  obtain ⟨i3, hj0, hy0, hy1, hy2⟩ := info_parts Tryz.info3
  obtain ⟨i43, hk0, hx0, hx1, hx2⟩ := info_parts Tryz.info43
  have hmm := @run_makeMap Tryz.prog
  have CO := fun (n : Nat) (w : World) (hn : n < N) (hd : w.cell? ⟨d, 2, none⟩ = some (.slice (some ⟨cb, 0, none⟩) N cap)) (hc : w.cell? ⟨cb, n, none⟩ = some (.int .i64 (c n : Int))) => classOf_ok d cb N n cap c w hn hN hcap hd hc
  clear hc hcell hl hcN
  go_enter Tryz.func116, Tryz.ntmps116
  go_wp2
  have H0 := Lib.hid (show GSt c encI 3 W W.heap.size l 0 (.slice none 0 0) (W.alloc (.map #[] 0)) from
    ⟨⟨[], OwnG.nil, fun u hu => by cases hu⟩, by simp [Value.ownBlock], ⟨_, MapV.made _ _ _ _, KeyF.nil _⟩, Nat.le_refl _, (Kp.refl _ _).alloc (Nat.le_refl _) _⟩)
  go_loopw [5, 15] (fun v5 i wr => ∃ k : Nat, k ≤ l.length ∧ i = .int .i64 k ∧ GSt c encI 3 W W.heap.size l k v5 wr) (fun _ i _ => l.length - (RowKit.intOf i).toNat)
  case atStart => exact ⟨0, Nat.zero_le _, rfl, H0.out⟩
  case round =>
    obtain ⟨k, hk, rfl, hst⟩ := hrel
    clear H0
    obtain ⟨⟨us, hgrp, hus⟩, hne, ⟨f, hmap, hkf⟩, hlo, hkp⟩ := hst
    obtain ⟨ga, gcap, hgv⟩ := own_form hgrp.own
    subst hgv
    have hsz := hkp.size
    by_cases hlt : k < l.length
    · obtain ⟨x, hx⟩ : ∃ x, l[k]? = some x := ⟨_, List.getElem?_eq_getElem hlt⟩
      have hxN : x < N := HL.out x (List.mem_of_getElem? hx)
      have hcx := HCN.out x hxN
      have hcl := hkp.cells (HCELL.out k x hx)
      have hd' := hkp.cells hd
      have hcc := hkp.cells (HC.out.cell (i := x) (by rw [clsI_length]; exact hxN))
      rw [clsI_get c hxN] at hcc
      have hmlt := hmap.lt
      by_cases hm : c x ∈ keysOf c (l.take k)
      · obtain ⟨g, hg⟩ := List.getElem?_of_mem hm
        have hgl : g < (groupsOf c (l.take k)).length := by rw [groupsOf_length]; exact (List.getElem?_eq_some_iff.1 hg).1
        obtain ⟨gb, go', gcap', e0, hseg⟩ := hgrp.own.seg (by omega)
        obtain ⟨rfl, rfl⟩ : ga = some ⟨gb, go', none⟩ ∧ gcap = gcap' := by cases e0; exact ⟨rfl, rfl⟩
        clear e0
        have hgg : (groupsOf c (l.take k))[g]? = some ((groupsOf c (l.take k)).getD g []) := by rw [List.getD_eq_getElem?_getD, List.getElem?_eq_getElem hgl]; rfl
        obtain ⟨u, hu, hown⟩ := hgrp.row hgg
        obtain ⟨ua, ucap, huv⟩ := own_form hown
        have hfit := hseg.fit
        have hcu := hseg.cell hu
        rw [huv] at hcu
        have hf := hkf.hit g (c x) hg
        have hub : u.ownBlock ≠ some gb := fun e => hgrp.off u (List.mem_of_getElem? hu) gb e rfl
        have hrl := groups_row_le hlt hgg
        have HG := Lib.hid hgrp
        have HUS := Lib.hid hus
        have HNE := Lib.hid (show gb ≠ W.heap.size from fun e => hne (by rw [e]; rfl))
        have HM := Lib.hid hmap
        have HKF := Lib.hid hkf
        have HF := Lib.hid hf
        have HKP := Lib.hid hkp
        have HX := Lib.hid hx
        have HGK := Lib.hid hg
        have HU := Lib.hid hu
        have HUV := Lib.hid huv
        have HOW := Lib.hid hown
        have HSEG := Lib.hid hseg
        have HGG := Lib.hid hgg
        have HAL := Lib.hid (show Kp wr.heap.size wr (wr.alloc (Obj.cells #[Value.int .i64 (x : Int)] 3)) from (Kp.refl _ _).alloc (Nat.le_refl _) _)
        have HCS := Lib.hid hcu
        have hgbl := hseg.lt
        clear hgrp hus hne hmap hkf hf hx hg hu hown hseg hgg
        generalize hrow : (groupsOf c (l.take k)).getD g [] = row at *
        have HROW := Lib.hid hrow
        clear hrow
        generalize hlen : (groupsOf c (l.take k)).length = m at *
        have HLEN := Lib.hid hlen
        clear hlen
        have hcc' : (c x : Int) = ((c x : Nat) : Int) := rfl
        clear hcc'
        go_wp2_with (first
          | (go_at_call 117; refine (CO x _ hxN hd' hcc).mono ?_; rintro e w' ⟨rfl, rfl⟩)
          | (at_lookup; go_loud (refine wpList_lookup_hit rfl (.tmp 23) (.tmp 24) 91 rfl 3 3 .i64 Tryz.keyed3 Tryz.underlying91 Tryz.underlying3 (Tryz.zero3 _) W.heap.size _ f rfl HM.out (encI (c x)) _ rfl (key3 (by omega)) (g : Int) HF.out ?_))
          | (at_builtin; refine wpList_append_mine rfl (.tmp 43) (.tmp 45) 43 rfl W.heap.size 3 i3 (.int .i64 0) 1 8 Tryz.underlying43 hj0 hy0 hy1 hy2 rfl (by decide) (.slice ua row.length ucap) row.length (intsV row) rfl (by rw [← HUV.out]; exact HOW.out.kp HAL.out) ⟨wr.heap.size, 0, none⟩ 1 1 [.int .i64 (x : Int)] rfl rfl (news_alloc wr [.int .i64 (x : Int)] 3) (by simp [Value.oneCell']) (by unfold maxLen; omega) (by omega) (by have := HAL.out.size; omega) ?_; intro u' w2 hown2 hgr2 hblk2; obtain ⟨ua', uc', rfl⟩ := own_form hown2; rw [← HUV.out] at hgr2 hblk2; have hs2 := (HSEG.out.kp HAL.out).of_heap (grown_other hgr2 (by have := HAL.out.size; omega) hub); have hc2 := hs2.cell HU.out; rw [HUV.out] at hc2; have hf2 := hs2.frozen (go' + g); have HF2 := Lib.hid hs2; have HO2 := Lib.hid hown2; have HG2 := Lib.hid hgr2; have HB2 := Lib.hid hblk2; clear hs2 hown2 hgr2 hblk2))
        go_roundw
        case rel =>
          refine ⟨k + 1, by omega, by go_num, ?_⟩
          have hr := HROW.out
          have hl := HLEN.out
          subst hr hl
          exact GSt.push HGG.out HG.out (groups_old HX.out HGK.out) HUS.out HNE.out (by rw [keys_old HX.out HGK.out]; exact HM.out) (by rw [keys_old HX.out HGK.out]; exact HKF.out) hlo HKP.out HU.out HAL.out HO2.out HG2.out HB2.out
        case measure => simp [RowKit.intOf]; omega
      · have hf := hkf.miss (c x) hm
        obtain ⟨m, hme⟩ : ∃ m, m = (groupsOf c (l.take k)).length := ⟨_, rfl⟩
        have hmk : m ≤ 200000 := by have := groups_le (κ := c) l k; omega
        have hkm : (keysOf c (l.take k)).length = m := by rw [hme, groupsOf_length]
        rw [hkm] at hmap
        rw [← hme] at hgrp hne
        have hkf' := hkf.snoc encI_inj hm
        rw [hkm] at hkf'
        have HG := Lib.hid hgrp
        have HUS := Lib.hid hus
        have HNE := Lib.hid hne
        have HM := Lib.hid hmap
        have HKF := Lib.hid hkf'
        have HF := Lib.hid hf
        have HKP := Lib.hid hkp
        have HX := Lib.hid hx
        have HKM := Lib.hid hkm
        have HNK := Lib.hid hm
        have HME := Lib.hid hme
        rw [← hme]
        clear hgrp hus hne hmap hkf hkf' hf hx hm hkm hme hkp
        go_wp2_with (first
          | (go_at_call 117; refine (CO x _ hxN hd' hcc).mono ?_; rintro e w' ⟨rfl, rfl⟩)
          | (at_lookup; refine wpList_lookup_miss rfl (.tmp 23) (.tmp 24) 91 rfl 3 3 .i64 Tryz.keyed3 Tryz.underlying91 Tryz.underlying3 (Tryz.zero3 _) W.heap.size _ f rfl HM.out (encI (c x)) _ rfl (key3 (by omega)) HF.out ?_)
          | (at_mapUpdate; go_loud (refine wpList_put rfl (.tmp 32) (.tmp 33) (.tmp 34) 91 rfl 3 3 Tryz.keyed3 Tryz.underlying91 W.heap.size _ f rfl HM.out (by unfold maxLen; omega) (encI (c x)) (.int .i64 (m : Int)) _ _ rfl rfl (key3 (by omega)) (plainElem_int Tryz.underlying3 (wf64 (by omega))) ?_); intro w1 hm1 hg1; have HM1 := Lib.hid hm1; have HC1 := Lib.hid (Chg.of_grown hg1); have HAL1 := Lib.hid (show Kp w1.heap.size w1 (w1.alloc (Obj.cells #[Value.slice none 0 0] 43)) from (Kp.refl _ _).alloc (Nat.le_refl _) _); have hz1 := hg1.size; clear hm1 hg1)
          | (at_builtin; refine wpList_append_mine rfl (.tmp 35) (.tmp 36) 103 rfl W.heap.size 43 i43 (.slice none 0 0) 1 24 Tryz.underlying103 hk0 hx0 hx1 hx2 rfl (by decide) (.slice ga m gcap) m us rfl (by have h := ((HG.out.chg HC1.out HNE.out HUS.out).own.kp HAL1.out); rw [← HME.out] at h; exact h) ⟨w1.heap.size, 0, none⟩ 1 1 [.slice none 0 0] rfl rfl (news_alloc w1 [.slice none 0 0] 43) (by simp [Value.oneCell']) (by unfold maxLen; omega) (by omega) (by have := HAL1.out.size; omega) ?_; intro v' w2 hown2 hgr2 hblk2; obtain ⟨b2, o2, c2, rfl, hG2, hfit2, hcell2, hseg2, hbm2, hus2, hmap2, hkp2, hu2, hr2⟩ := grow_nil HME.out (HG.out.chg HC1.out HNE.out HUS.out) HUS.out HNE.out HAL1.out hown2 hgr2 hblk2 (by omega) (HKP.out.chg HC1.out (by omega) hlo) (by omega) HM1.out; have hz2 := hkp2.size; have HG2 := Lib.hid hG2; have HS2 := Lib.hid hseg2; have HB2 := Lib.hid hbm2; have HU2 := Lib.hid hus2; have HM2 := Lib.hid hmap2; have HK2 := Lib.hid hkp2; have HUU2 := Lib.hid hu2; have HR2 := Lib.hid hr2; have HAL2 := Lib.hid (show Kp w2.heap.size w2 (w2.alloc (Obj.cells #[Value.int .i64 (x : Int)] 3)) from (Kp.refl _ _).alloc (Nat.le_refl _) _); have hbl2 := hseg2.lt; clear hown2 hgr2 hblk2 hG2 hseg2 hbm2 hus2 hmap2 hkp2 hu2 hr2)
          | (at_builtin; refine wpList_append_mine rfl (.tmp 43) (.tmp 45) 43 rfl W.heap.size 3 i3 (.int .i64 0) 1 8 Tryz.underlying43 hj0 hy0 hy1 hy2 rfl (by decide) (.slice none 0 0) 0 [] rfl ⟨rfl, .inl ⟨rfl, rfl⟩⟩ ⟨w2.heap.size, 0, none⟩ 1 1 [.int .i64 (x : Int)] rfl rfl (news_alloc w2 [.int .i64 (x : Int)] 3) (by simp [Value.oneCell']) (by unfold maxLen; omega) (by omega) (by have := HAL2.out.size; omega) ?_; intro u' w3 hown3 hgr3 hblk3; obtain ⟨ua', uc', rfl⟩ := own_form hown3; have hs3 := (HS2.out.kp HAL2.out).of_heap (grown_other hgr3 (by have := HAL2.out.size; omega) (by simp [Value.ownBlock])); have hc3 := hs3.cell HUU2.out; have hf3 := hs3.frozen (o2 + m); have HO3 := Lib.hid hown3; have HG3 := Lib.hid hgr3; have HB3 := Lib.hid hblk3; clear hs3 hown3 hgr3 hblk3))
        go_roundw
        case rel =>
          refine ⟨k + 1, by omega, by go_num, ?_⟩
          have hme := HME.out
          subst hme
          have hkeys := keys_new HX.out HNK.out
          have hfin := GSt.push (κ := c) (enc := encI) (t := 3) (W := W) (mb := W.heap.size) (k := k) (l := l) (ls := groupsOf c (l.take k) ++ [[]]) (cap := c2) HR2.out (by simpa using HG2.out) (groups_new HX.out HNK.out) HU2.out HB2.out (by rw [hkeys, List.length_append, HKM.out]; exact HM2.out) (by rw [hkeys]; exact HKF.out) hlo HK2.out HUU2.out HAL2.out HO3.out HG3.out HB3.out
          simpa using hfin
        case measure => simp [RowKit.intOf]; omega
    · obtain rfl : k = l.length := by omega
      have HG := Lib.hid hgrp
      have HKP := Lib.hid hkp
      clear hgrp hus hne hmap hkf hkp
      go_wp2
      go_ret
      exact ⟨_, us, rfl, by have h := HG.out; rw [List.take_length] at h; rw [List.take_length]; exact h, HKP.out⟩
end Go.Ev

/- Nodes grouped by their faces: the walk. -/
namespace Go.Ev
open Go.Proofs Go.RowKit Go.Lib
set_option maxRecDepth 100000

noncomputable instance decValue : DecidableEq Value := fun a b => Classical.propDecidable (a = b)

/-- The numbers of a node are such as Go's int has. -/
def FitN (n : Nd) : Prop := (Lit.int .i64 n.kind).wf = true ∧ (Lit.int .i64 n.num).wf = true

theorem Tryz.laidOut : laidOutB Tryz.prog = true := by kernel_rfl
theorem Tryz.row108 : (108 : TypeId) < Tryz.prog.types.size := of_decide_eq_true (by kernel_rfl)
theorem Tryz.row134 : (134 : TypeId) < Tryz.prog.types.size := of_decide_eq_true (by kernel_rfl)
theorem Tryz.wide108 : (match Tryz.prog.underlying 108 with | some (.array _ _) | some (.struct _) => true | _ => false) = true := by kernel_rfl
theorem Tryz.wide134 : (match Tryz.prog.underlying 134 with | some (.array _ _) | some (.struct _) => true | _ => false) = true := by kernel_rfl
theorem Tryz.keyed108 : Go.Maps.Keyed Tryz.prog 108 := Go.Maps.Keyed.of_law (deep_law_laid Tryz.laidOut (m := 3) (by omega) Tryz.row108 (by kernel_rfl) Tryz.wide108)
theorem Tryz.keyed134 : Go.Maps.Keyed Tryz.prog 134 := Go.Maps.Keyed.of_law (deep_law_laid Tryz.laidOut (m := 3) (by omega) Tryz.row134 (by kernel_rfl) Tryz.wide134)

theorem key108 {n : Nd} (h : FitN n) (hl : n.args.length ≤ 8) (hs : n.label.size ≤ 9223372036854775807) : ∃ kl, keyOf Tryz.prog 108 (faceV n) = some kl := by
  have h3 := wf64 (n := n.args.length) (by omega)
  obtain ⟨h1, h2⟩ := h
  have hm : n.label.size ≤ maxLen := by unfold maxLen; omega
  obtain ⟨m, hsz⟩ : ∃ m, Tryz.prog.types.size = m + 1 := ⟨Tryz.prog.types.size - 1, by have : (108 : Nat) < Tryz.prog.types.size := Tryz.row108; omega⟩
  have hkt : Tryz.prog.keyType 108 = true := by kernel_rfl
  have c3 : Tryz.prog.cellsOf 3 = 1 := by kernel_rfl
  have c9 : Tryz.prog.cellsOf 9 = 1 := by kernel_rfl
  have c108 : Tryz.prog.cellsOf 108 = 4 := by kernel_rfl
  unfold keyOf faceV
  simp only [Tryz.underlying108]
  rw [if_pos (by simp [hkt, Value.formed, Tryz.underlying108, c108]), hsz]
  unfold Program.keyLits
  simp only [Tryz.underlying108, Value.cells]
  rw [if_pos (by rw [c108]; exact ⟨rfl, by kernel_rfl⟩)]
  simp [c3, c9, Program.keyLits, Tryz.underlying3, Tryz.underlying9, h1, h2, h3, hm]

theorem key134 {l : List Nat} (h : ∀ x ∈ l, x ≤ 200000) : ∃ kl, keyOf Tryz.prog 134 (sigV l) = some kl := by
  have hx : ∀ i : Nat, (Lit.int .i64 ((l[i]?.getD 0 : Nat) : Int)).wf = true := fun i => wf64 (by
    cases e : l[i]? with
    | none => simp
    | some x => have := h x (List.mem_of_getElem? e); simp; omega)
  obtain ⟨m, hsz⟩ : ∃ m, Tryz.prog.types.size = m + 1 := ⟨Tryz.prog.types.size - 1, by have : (134 : Nat) < Tryz.prog.types.size := Tryz.row134; omega⟩
  have hkt : Tryz.prog.keyType 134 = true := by kernel_rfl
  have c3 : Tryz.prog.cellsOf 3 = 1 := by kernel_rfl
  have c134 : Tryz.prog.cellsOf 134 = 8 := by kernel_rfl
  have hr : List.range 8 = [0, 1, 2, 3, 4, 5, 6, 7] := by decide
  unfold keyOf sigV sigI
  simp only [Tryz.underlying134]
  rw [if_pos (by simp [hkt, Value.formed, Tryz.underlying134, c134]), hsz]
  unfold Program.keyLits
  simp only [Tryz.underlying134, Value.cells]
  rw [if_pos (by rw [c134]; simp)]
  rw [hr]
  simp only [List.map_cons, List.map_nil, List.mapM_cons, List.mapM_nil]
  simp [c3, Program.keyLits, Tryz.underlying3, hx]
end Go.Ev

/- What the arguments are, read as data: nodes with numbers in their bounds. -/
namespace Go.Ev
open Go.Proofs Go.RowKit Go.Lib Go.ChangeShapes Go.WideShapes Go.ChangeAt Go.Deep

set_option maxRecDepth 100000

section
variable {H : Type} {enc : TypeId × Value → H} {W : World} {base : Nat} {sp : Nat → Bool} {held : Bool}

/-- A slice of nodes. -/
theorem open_nodes_fit {fuel : Nat} {v : Value} {x : DataW H × List MemPlace} (h : DataW.trod enc Tryz.prog W base sp held fuel 22 [v] = some x) : ∃ ns, NodesV W v ns ∧ ∀ n ∈ ns, FitN n := by
  rcases open_slice Tryz.underlying22 h with ⟨h1, _⟩ | ⟨a, len, cap, m, n, D, Pl, h1, _, hl, hm, hmm, _, hx⟩
  · obtain rfl : v = .slice none 0 0 := by simpa using h1
    exact ⟨[], .empty _ _, by simp⟩
  · obtain rfl : v = .slice (some a) len cap := by simpa using h1
    rcases Nat.eq_zero_or_pos len with rfl | hp
    · exact ⟨[], .empty _ _, by simp⟩
    have hlm : len ≤ m := by rw [hmm]; split <;> omega
    obtain ⟨b, off, spot⟩ := a
    have hspot : spot = none := by
      obtain ⟨cs, hcs, hd⟩ := hx 0 (by omega)
      rw [Tryz.cells48] at hcs
      obtain ⟨_, hlen, hc⟩ := World.cells?_some hcs
      have := hc 0 (by omega)
      rw [List.getElem?_eq_getElem (by omega)] at this
      have := World.cell?_spot this
      simpa [Addr.add] using this
    subst hspot
    have key : ∀ i, i < len → ∃ nd : Nd, NodeW W b (off + i * 4) nd ∧ FitN nd := fun i hi => by
      obtain ⟨cs, hcs, hd⟩ := hx i (by omega)
      rw [Tryz.cells48] at hcs
      obtain ⟨_, hlen, hc⟩ := World.cells?_some hcs
      obtain ⟨y0, y1, y2, y3, n', _, _, h0, h1, h2, h3⟩ := Joins.trod_struct4 Tryz.underlying48 hd
      match cs, hlen with
      | [c0, c1, c2, c3], _ =>
      simp only [Tryz.cells3, Tryz.cells9, Tryz.cells43, List.drop_zero, List.take_succ_cons, List.take_zero, List.drop_succ_cons] at h0 h1 h2 h3
      obtain ⟨z0, e0, _, f0⟩ := DataW.trod_int Tryz.underlying3 h0
      obtain ⟨z1, e1, _, f1⟩ := DataW.trod_int Tryz.underlying3 h1
      obtain ⟨s2, e2, _, hs2⟩ := DataW.trod_string Tryz.underlying9 h2
      obtain ⟨xs, hxs⟩ := open_args h3
      obtain rfl : c0 = .int .i64 z0 := by simpa using e0
      obtain rfl : c1 = .int .i64 z1 := by simpa using e1
      obtain rfl : c2 = .string s2 := by simpa using e2
      refine ⟨⟨z0, z1, s2, xs⟩, ?_⟩
      have hc' : ∀ j, j < 4 → W.cell? ⟨b, off + i * 4 + j, none⟩ = [Value.int .i64 z0, .int .i64 z1, .string s2, c3][j]? := fun j hj => by
        have := hc j hj
        rwa [Go.WideShapes.add_plain, Go.WideShapes.add_plain] at this
      exact ⟨⟨by simpa using hc' 0 (by omega), by simpa using hc' 1 (by omega), by simpa using hc' 2 (by omega), max_len hs2, c3, by simpa using hc' 3 (by omega), hxs⟩, f0, f1⟩
    obtain ⟨N, hN⟩ := choose_lt (α := Nd) (p := fun i nd => NodeW W b (off + i * 4) nd ∧ FitN nd) fun i hi => key i hi
    have hl2 : ((List.range len).map N).length = len := by simp
    refine ⟨(List.range len).map N, ?_, fun n hn => by obtain ⟨i, hi, rfl⟩ := List.mem_map.1 hn; exact (hN i (by simpa using hi)).2⟩
    have := NodesV.row (w := W) b off cap ((List.range len).map N) (by rw [hl2]; exact hl) (by rw [hl2]; exact Nat.le_trans hl (max_len hm)) (fun j x hj => by
      have hj' : j < len := by have := (List.getElem?_eq_some_iff.1 hj).1; rwa [hl2] at this
      rw [List.getElem?_map, List.getElem?_range hj'] at hj
      obtain rfl := Option.some.inj hj
      exact (hN j hj').1)
    rwa [hl2] at this

/-- A tree. -/
theorem open_tree_fit {r : Go.Reach} {b0 : Nat} {v : Value} {d : DataW H} {p : List MemPlace} (hv : Value.okWide Tryz.prog W r b0 24 v) (h : DataW.Trod enc Tryz.prog W base sp held 24 v d p) :
    ∃ sv ns root, v = .agg #[sv, .int .i64 root] ∧ NodesV W sv ns ∧ ∀ n ∈ ns, FitN n := by
  obtain ⟨v0, v1, y0, y1, n, rfl, _, _, h0, h1⟩ := Joins.open_agg2 Tryz.underlying24 (by kernel_rfl) Tryz.cells24 hv h
  obtain ⟨ns, hns, hfit⟩ := open_nodes_fit h0
  obtain ⟨z, hz, _⟩ := DataW.trod_int Tryz.underlying3 h1
  obtain rfl : v1 = .int .i64 z := by simpa using hz
  exact ⟨v0, ns, z, rfl, hns, hfit⟩

end
end Go.Ev

/- Nodes grouped by their faces: the walk (2). -/
namespace Go.Ev
open Go.Proofs Go.RowKit Go.Lib
set_option maxRecDepth 100000

abbrev idV (v : Value) : Value := v
theorem idV_inj (a b : Value) (h : idV a = idV b) : a = b := h
/-- The key of a node's face. -/
def faceK (G : List Nd) (x : Nat) : Value := faceV (G.getD x ⟨0, 0, ⟨#[]⟩, []⟩)
theorem faceK_at {G : List Nd} {x : Nat} {nd : Nd} (h : G[x]? = some nd) : faceK G x = faceV nd := by
  unfold faceK; rw [List.getD_eq_getElem?_getD, h]; rfl

set_option maxHeartbeats 16000000 in
theorem groupF_ok (d gb go gc lb lo lc : Nat) (G : List Nd) (l : List Nat) (W : World) (hN : G.length ≤ 200000) (hgc : G.length ≤ gc) (hl : ∀ x ∈ l, x < G.length) (_hlc : l.length ≤ lc) (hln : l.length ≤ 200000)
    (hd : W.cell? ⟨d, 0, none⟩ = some (.slice (some ⟨gb, go, none⟩) G.length gc)) (hG : ∀ (j : Nat) (nd : Nd), G[j]? = some nd → NodeW W gb (go + j * 4) nd) (hfit : ∀ nd ∈ G, FitN nd ∧ nd.args.length ≤ 8)
    (hcell : ∀ (j x : Nat), l[j]? = some x → W.cell? ⟨lb, lo + j, none⟩ = some (.int .i64 (x : Int))) :
    Calls Tryz.prog 86 #[.slice (some ⟨lb, lo, none⟩) l.length lc, .func (.func 88) #[.pointer (some ⟨d, 0, none⟩)] #[]] W (GroupPost (faceK G) l W) := by
  have HGN := Lib.hid hG
  have HCELL := Lib.hid hcell
  have HL := Lib.hid hl
  have HFIT := Lib.hid hfit
  obtain ⟨i3, hj0, hy0, hy1, hy2⟩ := info_parts Tryz.info3
  obtain ⟨i43, hk0, hx0, hx1, hx2⟩ := info_parts Tryz.info43
  have hmm := @run_makeMap Tryz.prog
  have CO := fun (n : Nat) (nd : Nd) (w : World) (hn : n < G.length) (hd : w.cell? ⟨d, 0, none⟩ = some (.slice (some ⟨gb, go, none⟩) G.length gc)) (hnd : NodeW w gb (go + n * 4) nd) => face_ok d n G.length gb go gc nd w hn hN hgc hd hnd
  clear hG hcell hl hfit
  go_enter Tryz.func86, Tryz.ntmps86
  go_wp2
  have H0 := Lib.hid (show GSt (faceK G) idV 108 W W.heap.size l 0 (.slice none 0 0) (W.alloc (.map #[] 0)) from
    ⟨⟨[], OwnG.nil, fun u hu => by cases hu⟩, by simp [Value.ownBlock], ⟨_, MapV.made _ _ _ _, KeyF.nil _⟩, Nat.le_refl _, (Kp.refl _ _).alloc (Nat.le_refl _) _⟩)
  go_loopw [5, 15] (fun v5 i wr => ∃ k : Nat, k ≤ l.length ∧ i = .int .i64 k ∧ GSt (faceK G) idV 108 W W.heap.size l k v5 wr) (fun _ i _ => l.length - (RowKit.intOf i).toNat)
  case atStart => exact ⟨0, Nat.zero_le _, rfl, H0.out⟩
  case round =>
    obtain ⟨k, hk, rfl, hst⟩ := hrel
    clear H0
    obtain ⟨⟨us, hgrp, hus⟩, hne, ⟨f, hmap, hkf⟩, hlo, hkp⟩ := hst
    obtain ⟨ga, gcap, hgv⟩ := own_form hgrp.own
    subst hgv
    have hsz := hkp.size
    by_cases hlt : k < l.length
    · obtain ⟨x, hx⟩ : ∃ x, l[k]? = some x := ⟨_, List.getElem?_eq_getElem hlt⟩
      have hxN : x < G.length := HL.out x (List.mem_of_getElem? hx)
      have hcl := hkp.cells (HCELL.out k x hx)
      have hd' := hkp.cells hd
      obtain ⟨nd, hnd⟩ : ∃ nd, G[x]? = some nd := ⟨_, List.getElem?_eq_getElem hxN⟩
      have hnw := (HGN.out x nd hnd).grown fun _ _ _ h => hkp.cells h
      have hmlt := hmap.lt
      obtain ⟨hft, h8⟩ := HFIT.out nd (List.mem_of_getElem? hnd)
      obtain ⟨kl, hkl⟩ := key108 hft h8 hnw.size
      have hfk : faceK G x = faceV nd := faceK_at hnd
      have HND := Lib.hid hnw
      have HKL := Lib.hid hkl
      have HFK := Lib.hid hfk
      clear hnw hkl hft hnd
      by_cases hm : (faceK G) x ∈ keysOf (faceK G) (l.take k)
      · obtain ⟨g, hg⟩ := List.getElem?_of_mem hm
        have hgl : g < (groupsOf (faceK G) (l.take k)).length := by rw [groupsOf_length]; exact (List.getElem?_eq_some_iff.1 hg).1
        obtain ⟨gb', go', gcap', e0, hseg⟩ := hgrp.own.seg (by omega)
        obtain ⟨rfl, rfl⟩ : ga = some ⟨gb', go', none⟩ ∧ gcap = gcap' := by cases e0; exact ⟨rfl, rfl⟩
        clear e0
        have hgg : (groupsOf (faceK G) (l.take k))[g]? = some ((groupsOf (faceK G) (l.take k)).getD g []) := by rw [List.getD_eq_getElem?_getD, List.getElem?_eq_getElem hgl]; rfl
        obtain ⟨u, hu, hown⟩ := hgrp.row hgg
        obtain ⟨ua, ucap, huv⟩ := own_form hown
        have hfit := hseg.fit
        have hcu := hseg.cell hu
        rw [huv] at hcu
        have hf := hkf.hit g ((faceK G) x) hg
        rw [HFK.out] at hf
        have hub : u.ownBlock ≠ some gb' := fun e => hgrp.off u (List.mem_of_getElem? hu) gb' e rfl
        have hrl := groups_row_le hlt hgg
        have HG := Lib.hid hgrp
        have HUS := Lib.hid hus
        have HNE := Lib.hid (show gb' ≠ W.heap.size from fun e => hne (by rw [e]; rfl))
        have HM := Lib.hid hmap
        have HKF := Lib.hid hkf
        have HF := Lib.hid hf
        have HKP := Lib.hid hkp
        have HX := Lib.hid hx
        have HGK := Lib.hid hg
        have HU := Lib.hid hu
        have HUV := Lib.hid huv
        have HOW := Lib.hid hown
        have HSEG := Lib.hid hseg
        have HGG := Lib.hid hgg
        have HCU := Lib.hid hcu
        have hgbl := hseg.lt
        clear hgrp hus hne hmap hkf hkp hf hx hg hu hown hseg hgg huv hcu hm
        generalize hrow : (groupsOf (faceK G) (l.take k)).getD g [] = row at *
        have HROW := Lib.hid hrow
        clear hrow
        generalize hlen : (groupsOf (faceK G) (l.take k)).length = m at *
        have HLEN := Lib.hid hlen
        clear hlen
        go_wp2_with (first
          | (go_at_call 88; refine (CO x nd _ hxN hd' HND.out).mono ?_; rintro e wc ⟨rfl, hkc⟩; unfold faceV; have hzc := hkc.size; have hcu := hkc.cells HCU.out; have hgb2 := Nat.lt_of_lt_of_le hgbl hzc; have hak : Kp wr.heap.size wr (wc.alloc (Obj.cells #[Value.int IntKind.i64 nd.kind, Value.int IntKind.i64 nd.num, Value.int IntKind.i64 nd.args.length, Value.string nd.label] 108)) := hkc.alloc hkc.size _; have hza := hak.size; have HGk := Lib.hid (HG.out.kp hak); have HMk := Lib.hid (HM.out.kp hak); have HKk := Lib.hid (HKP.out.trans (hak.mono hsz)); have HOk := Lib.hid (HOW.out.kp hak); have HSk := Lib.hid (HSEG.out.kp hak); have HALk := Lib.hid (show Kp (wc.alloc (Obj.cells #[Value.int IntKind.i64 nd.kind, Value.int IntKind.i64 nd.num, Value.int IntKind.i64 nd.args.length, Value.string nd.label] 108)).heap.size (wc.alloc (Obj.cells #[Value.int IntKind.i64 nd.kind, Value.int IntKind.i64 nd.num, Value.int IntKind.i64 nd.args.length, Value.string nd.label] 108)) ((wc.alloc (Obj.cells #[Value.int IntKind.i64 nd.kind, Value.int IntKind.i64 nd.num, Value.int IntKind.i64 nd.args.length, Value.string nd.label] 108)).alloc (Obj.cells #[Value.int .i64 (x : Int)] 3)) from (Kp.refl _ _).alloc (Nat.le_refl _) _); have hnews := news_alloc (wc.alloc (Obj.cells #[Value.int IntKind.i64 nd.kind, Value.int IntKind.i64 nd.num, Value.int IntKind.i64 nd.args.length, Value.string nd.label] 108)) [Value.int .i64 (x : Int)] 3; rw [show (wc.alloc (Obj.cells #[Value.int IntKind.i64 nd.kind, Value.int IntKind.i64 nd.num, Value.int IntKind.i64 nd.args.length, Value.string nd.label] 108)).heap.size = wc.heap.size + 1 from by simp] at hnews; have HNW := Lib.hid hnews; clear hkc hak hnews)
          | (at_lookup; refine wpList_lookup_hit rfl (.tmp 23) (.tmp 24) 129 rfl 108 3 .i64 Tryz.keyed108 Tryz.underlying129 Tryz.underlying3 (Tryz.zero3 _) W.heap.size _ f rfl HMk.out (faceV nd) kl rfl HKL.out (g : Int) HF.out ?_)
          | (at_builtin; go_loud (refine wpList_append_mine rfl (.tmp 43) (.tmp 45) 43 rfl W.heap.size 3 i3 (.int .i64 0) 1 8 Tryz.underlying43 hj0 hy0 hy1 hy2 rfl (by decide) (.slice ua row.length ucap) row.length (intsV row) rfl (by rw [← HUV.out]; exact HOk.out.kp HALk.out) ⟨wc.heap.size + 1, 0, none⟩ 1 1 [.int .i64 (x : Int)] rfl rfl HNW.out (by simp [Value.oneCell']) (by unfold maxLen; omega) (by omega) (by have := HALk.out.size; omega) ?_); intro u' w2 hown2 hgr2 hblk2; obtain ⟨ua', uc', rfl⟩ := own_form hown2; rw [← HUV.out] at hgr2 hblk2; have hs2 := (HSk.out.kp HALk.out).of_heap (grown_other hgr2 (by have := HALk.out.size; omega) hub); have hc2 := hs2.cell HU.out; rw [HUV.out] at hc2; have hf2 := hs2.frozen (go' + g); have HF2 := Lib.hid hs2; have HO2 := Lib.hid hown2; have HG2 := Lib.hid hgr2; have HB2 := Lib.hid hblk2; clear hs2 hown2 hgr2 hblk2))
        go_roundw
        case rel =>
          refine ⟨k + 1, by omega, by go_num, ?_⟩
          have hr := HROW.out
          have hl := HLEN.out
          subst hr hl
          exact GSt.push HGG.out HGk.out (groups_old HX.out HGK.out) HUS.out HNE.out (by rw [keys_old HX.out HGK.out]; exact HMk.out) (by rw [keys_old HX.out HGK.out]; exact HKF.out) hlo HKk.out HU.out HALk.out HO2.out HG2.out HB2.out
        case measure => simp [RowKit.intOf]; omega
      · have hf := hkf.miss ((faceK G) x) hm
        rw [HFK.out] at hf
        obtain ⟨m, hme⟩ : ∃ m, m = (groupsOf (faceK G) (l.take k)).length := ⟨_, rfl⟩
        have hmk : m ≤ 200000 := by have := groups_le (κ := (faceK G)) l k; omega
        have hkm : (keysOf (faceK G) (l.take k)).length = m := by rw [hme, groupsOf_length]
        rw [hkm] at hmap
        rw [← hme] at hgrp hne
        have hkf' := hkf.snoc idV_inj hm
        rw [hkm] at hkf'
        have HG := Lib.hid hgrp
        have HUS := Lib.hid hus
        have HNE := Lib.hid hne
        have HM := Lib.hid hmap
        have HKF := Lib.hid hkf'
        have HF := Lib.hid hf
        have HKP := Lib.hid hkp
        have HX := Lib.hid hx
        have HKM := Lib.hid hkm
        have HNK := Lib.hid hm
        have HME := Lib.hid hme
        rw [← hme]
        clear hgrp hus hne hmap hkf hkf' hf hx hm hkm hme hkp
        go_wp2_with (first
          | (go_at_call 88; refine (CO x nd _ hxN hd' HND.out).mono ?_; rintro e wc ⟨rfl, hkc⟩; unfold faceV; have hzc := hkc.size; have hak : Kp wr.heap.size wr (wc.alloc (Obj.cells #[Value.int IntKind.i64 nd.kind, Value.int IntKind.i64 nd.num, Value.int IntKind.i64 nd.args.length, Value.string nd.label] 108)) := hkc.alloc hkc.size _; have hza := hak.size; have HGk := Lib.hid (HG.out.kp hak); have HMk := Lib.hid (HM.out.kp hak); have HKk := Lib.hid (HKP.out.trans (hak.mono hsz)); clear hkc hak)
          | (at_lookup; refine wpList_lookup_miss rfl (.tmp 23) (.tmp 24) 129 rfl 108 3 .i64 Tryz.keyed108 Tryz.underlying129 Tryz.underlying3 (Tryz.zero3 _) W.heap.size _ f rfl HMk.out (faceV nd) kl rfl HKL.out HF.out ?_)
          | (at_mapUpdate; refine wpList_put rfl (.tmp 32) (.tmp 33) (.tmp 34) 129 rfl 108 3 Tryz.keyed108 Tryz.underlying129 W.heap.size _ f rfl HMk.out (by unfold maxLen; omega) (faceV nd) (.int .i64 (m : Int)) kl _ rfl rfl HKL.out (plainElem_int Tryz.underlying3 (wf64 (by omega))) ?_; intro w1 hm1 hg1; have HM1 := Lib.hid hm1; have HC1 := Lib.hid (Chg.of_grown hg1); have HAL1 := Lib.hid (show Kp w1.heap.size w1 (w1.alloc (Obj.cells #[Value.slice none 0 0] 43)) from (Kp.refl _ _).alloc (Nat.le_refl _) _); have hz1 := hg1.size; clear hm1 hg1)
          | (at_builtin; refine wpList_append_mine rfl (.tmp 35) (.tmp 36) 103 rfl W.heap.size 43 i43 (.slice none 0 0) 1 24 Tryz.underlying103 hk0 hx0 hx1 hx2 rfl (by decide) (.slice ga m gcap) m us rfl (by have h := ((HGk.out.chg HC1.out HNE.out HUS.out).own.kp HAL1.out); rw [← HME.out] at h; exact h) ⟨w1.heap.size, 0, none⟩ 1 1 [.slice none 0 0] rfl rfl (news_alloc w1 [.slice none 0 0] 43) (by simp [Value.oneCell']) (by unfold maxLen; omega) (by omega) (by have := HAL1.out.size; omega) ?_; intro v' w2 hown2 hgr2 hblk2; obtain ⟨b2, o2, c2, rfl, hG2, hfit2, hcell2, hseg2, hbm2, hus2, hmap2, hkp2, hu2, hr2⟩ := grow_nil HME.out (HGk.out.chg HC1.out HNE.out HUS.out) HUS.out HNE.out HAL1.out hown2 hgr2 hblk2 (by omega) (HKk.out.chg HC1.out (by omega) hlo) (by omega) HM1.out; have hz2 := hkp2.size; have HG2 := Lib.hid hG2; have HS2 := Lib.hid hseg2; have HB2 := Lib.hid hbm2; have HU2 := Lib.hid hus2; have HM2 := Lib.hid hmap2; have HK2 := Lib.hid hkp2; have HUU2 := Lib.hid hu2; have HR2 := Lib.hid hr2; have HAL2 := Lib.hid (show Kp w2.heap.size w2 (w2.alloc (Obj.cells #[Value.int .i64 (x : Int)] 3)) from (Kp.refl _ _).alloc (Nat.le_refl _) _); have hbl2 := hseg2.lt; clear hown2 hgr2 hblk2 hG2 hseg2 hbm2 hus2 hmap2 hkp2 hu2 hr2)
          | (at_builtin; refine wpList_append_mine rfl (.tmp 43) (.tmp 45) 43 rfl W.heap.size 3 i3 (.int .i64 0) 1 8 Tryz.underlying43 hj0 hy0 hy1 hy2 rfl (by decide) (.slice none 0 0) 0 [] rfl ⟨rfl, .inl ⟨rfl, rfl⟩⟩ ⟨w2.heap.size, 0, none⟩ 1 1 [.int .i64 (x : Int)] rfl rfl (news_alloc w2 [.int .i64 (x : Int)] 3) (by simp [Value.oneCell']) (by unfold maxLen; omega) (by omega) (by have := HAL2.out.size; omega) ?_; intro u' w3 hown3 hgr3 hblk3; obtain ⟨ua', uc', rfl⟩ := own_form hown3; have hs3 := (HS2.out.kp HAL2.out).of_heap (grown_other hgr3 (by have := HAL2.out.size; omega) (by simp [Value.ownBlock])); have hc3 := hs3.cell HUU2.out; have hf3 := hs3.frozen (o2 + m); have HO3 := Lib.hid hown3; have HG3 := Lib.hid hgr3; have HB3 := Lib.hid hblk3; clear hs3 hown3 hgr3 hblk3))
        go_roundw
        case rel =>
          refine ⟨k + 1, by omega, by go_num, ?_⟩
          have hme := HME.out
          subst hme
          have hkeys := keys_new HX.out HNK.out
          have hfin := GSt.push (κ := (faceK G)) (enc := idV) (t := 108) (W := W) (mb := W.heap.size) (k := k) (l := l) (ls := groupsOf (faceK G) (l.take k) ++ [[]]) (cap := c2) HR2.out (by simpa using HG2.out) (groups_new HX.out HNK.out) HU2.out HB2.out (by rw [hkeys, List.length_append, HKM.out]; exact (by have h := HM2.out; rw [← HFK.out] at h; exact h)) (by rw [hkeys]; exact HKF.out) hlo HK2.out HUU2.out HAL2.out HO3.out HG3.out HB3.out
          simpa using hfin
        case measure => simp [RowKit.intOf]; omega
    · obtain rfl : k = l.length := by omega
      have HG := Lib.hid hgrp
      have HKP := Lib.hid hkp
      clear hgrp hus hne hmap hkf hkp
      go_wp2
      go_ret
      exact ⟨_, us, rfl, by have h := HG.out; rw [List.take_length] at h; rw [List.take_length]; exact h, HKP.out⟩
end Go.Ev
