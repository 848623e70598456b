import Derived.Test.YtbjcopckkgdmgaaGreatDoorN4
import Derived.Lib.SliceRun
import Derived.Deep.RegionLaw
/- The program's division of nodes into classes: found. -/
namespace Go.Ev
open Go.Proofs Go.RowKit Go.Lib
set_option maxRecDepth 100000

def putAt (c : Nat → Nat) (K : Nat) (g : List Nat) : Nat → Nat := fun x => if x ∈ g then K else c x
theorem putAt_nil (c : Nat → Nat) (K : Nat) : putAt c K [] = c := by funext x; simp [putAt]
theorem clsI_put {N K x k : Nat} {c : Nat → Nat} {g : List Nat} (hx : g[k]? = some x) (hxN : x < N) : (clsI N (putAt c K (g.take k))).set x (K : Int) = clsI N (putAt c K (g.take (k + 1))) := by
  rw [takeSnoc hx]
  apply List.ext_getElem?
  intro j
  rw [List.getElem?_set]
  unfold clsI
  by_cases hj : j < N
  · simp only [List.getElem?_map, List.getElem?_range hj, List.length_map, List.length_range, Option.map_some]
    by_cases e : x = j
    · subst e; rw [if_pos rfl, if_pos hxN]; simp [putAt]
    · rw [if_neg e]
      have e' : ¬ j = x := fun h => e h.symm
      simp [putAt, e']
  · rw [if_neg (by omega)]
    simp only [List.getElem?_map, List.getElem?_eq_none (show (List.range N).length ≤ j by simp; omega), Option.map_none]

def FoundPost (B : Nat) (W : World) (d cb N : Nat) (nv av sv mv gv : Value) (c : Nat → Nat) (K : Nat) (sizes g : List Nat) (mem : List (List Nat)) (us : List Value) (e : Ending) (w' : World) : Prop :=
  ∃ sv' mv', e = .returned (.tuple #[]) ∧ DSt B w' d cb N nv av sv' mv' (putAt c K g) (K + 1) (sizes ++ [g.length]) (mem ++ [g]) (us ++ [gv]) ∧ Upd (Wr d cb sv mv) W w' ∧ (∀ b, Wr d cb sv' mv' b → Wr d cb sv mv b ∨ W.heap.size ≤ b)

set_option maxHeartbeats 8000000 in
theorem found_ok (B d cb N K xb xo xc : Nat) (nv av sv mv : Value) (c : Nat → Nat) (sizes g : List Nat) (mem : List (List Nat)) (us : List Value) (W : World) (gv : Value) (_hN : N ≤ 200000) (hK : K ≤ 200000) (hg : ∀ x ∈ g, x < N) (hgl : g.length ≤ 200000) (_hgc : g.length ≤ xc)
    (hgv : gv = .slice (some ⟨xb, xo, none⟩) g.length xc) (hgo : Own B 1 W gv g.length (intsV g)) (hgf : Off (Wr d cb sv mv) gv) (h : DSt B W d cb N nv av sv mv c K sizes mem us) (hcell : ∀ (j x : Nat), g[j]? = some x → W.cell? ⟨xb, xo + j, none⟩ = some (.int .i64 (x : Int))) (hxb : xb ≠ cb) :
    Calls Tryz.prog 89 #[.pointer (some ⟨d, 0, none⟩), .slice (some ⟨xb, xo, none⟩) g.length xc] W (FoundPost B W d cb N nv av sv mv gv c K sizes g mem us) := by
  obtain ⟨sa, scap, hsv⟩ := own_form h.siz
  obtain ⟨ma, mcap, hmv⟩ := own_form h.mm
  have hB := h.lo.1
  have hdl := h.blk.lt
  have HGV := Lib.hid hgv
  have HGO := Lib.hid hgo
  have HGF := Lib.hid hgf
  obtain ⟨i3, hj0, hy0, hy1, hy2⟩ := info_parts Tryz.info3
  obtain ⟨i43, hk0, hx0, hx1, hx2⟩ := info_parts Tryz.info43
  subst hsv hmv
  have HD := Lib.hid h
  have HG := Lib.hid hg
  have HCELL := Lib.hid hcell
  have hdc := h.dc
  clear h hg hcell hgv hgo hgf
  go_enter Tryz.func89, Tryz.ntmps89
  go_wp2
  go_loopw [5, 8] (fun _ i wr => ∃ k : Nat, k ≤ g.length ∧ i = .int .i64 k ∧ RowI wr cb (clsI N (putAt c K (g.take k))) ∧ Chg cb W wr) (fun _ i _ => g.length - (RowKit.intOf i).toNat)
  case atStart => exact ⟨0, Nat.zero_le _, rfl, by rw [List.take_zero, putAt_nil]; exact HD.out.cls, Chg.refl _ _⟩
  case round =>
    obtain ⟨k, hk, rfl, hr, hch⟩ := hrel
    by_cases hlt : k < g.length
    · obtain ⟨x, hx⟩ : ∃ x, g[k]? = some x := ⟨_, List.getElem?_eq_getElem hlt⟩
      have hxN : x < N := HG.out x (List.mem_of_getElem? hx)
      have hcx := hch.cell hxb (HCELL.out k x hx)
      have hb := HD.out.blk.of_heap (hch.block d HD.out.blk.lt hdc)
      have c2 := hb.c2
      have c3 := hb.c3
      have hcc := hr.cell (i := x) (by rw [clsI_length]; exact hxN)
      have hf := hr.frozen x
      have HS := Lib.hid (clsI_put (c := c) (K := K) hx hxN)
      have HR := Lib.hid hr
      have HCH := Lib.hid hch
      clear hr hch hb hx
      go_wp2_with fail
      go_still_tail 11, (by kernel_rfl)
      change wpList _ _ _ _ _ wr.drew
      go_wp2
      go_roundw
      case rel => exact ⟨k + 1, by omega, by go_num, by rw [← HS.out]; exact (HR.out).set x _, HCH.out.drew.setCell _ _⟩
      case measure => simp [RowKit.intOf]; omega
    · obtain rfl : k = g.length := by omega
      rw [List.take_length] at hr
      have hb := HD.out.blk.of_heap (hch.block d HD.out.blk.lt hdc)
      have c3 := hb.c3
      have c4 := hb.c4
      have hfz := hb.fz 3
      have hdlr := hb.lt
      have hzr := hch.size
      have hso := HD.out.siz.chg hch HD.out.sd.2
      have hmo := HD.out.mm.chg hch HD.out.md.2
      have hal : Kp wr.heap.size wr (wr.alloc (Obj.cells #[Value.int .i64 (g.length : Int)] 3)) := (Kp.refl _ _).alloc (Nat.le_refl _) _
      have HAL := Lib.hid hal
      have HB := Lib.hid hb
      have HSO := Lib.hid hso
      have HMO := Lib.hid hmo
      have HR := Lib.hid hr
      have HCH := Lib.hid hch
      have HC4 := Lib.hid c4
      clear hb hso hmo hal hr hch
      go_wp2_with (first
        | (at_builtin; go_loud (refine wpList_append_mine rfl (.tmp 28) (.tmp 31) 43 rfl B 3 i3 (.int .i64 0) 1 8 Tryz.underlying43 hj0 hy0 hy1 hy2 rfl (by decide) (.slice sa K scap) K (intsV sizes) rfl (HSO.out.kp HAL.out) ⟨wr.heap.size, 0, none⟩ 1 1 [.int .i64 (g.length : Int)] rfl rfl (news_alloc wr [.int .i64 (g.length : Int)] 3) (by simp [Value.oneCell']) (by unfold maxLen; omega) (by omega) (by have := HAL.out.size; omega) ?_); intro sv' w2 hown2 hgr2 hblk2; obtain ⟨sa', scap', rfl⟩ := own_form hown2; have hb2 := HB.out.of_heap ((grown_other hgr2 (by have := HAL.out.size; omega) HD.out.sd.1).trans (HAL.out.block d (by omega))); have c3' := hb2.c3; have c4' := hb2.c4; have f3' := hb2.fz 3; have hdl2 := hb2.lt; have hz2 := hgr2.size; have HOWN2 := Lib.hid hown2; have HGR2 := Lib.hid hgr2; have HBLK2 := Lib.hid hblk2; have HB2 := Lib.hid hb2; have hmo2 := ((HMO.out.kp HAL.out).of_same fun g hg hl => grown_other hgr2 hl (fun e => HD.out.sm g e hg)); have hmo3 : Own B 1 (w2.setCell ⟨d, 3, none⟩ (.slice sa' (K + 1) scap')) (.slice ma K mcap) K us := hmo2.of_same (fun g hg hl => Below.heap_setCell _ _ _ _ (fun e => HD.out.md.1 (by rw [hg, e]))); have HMO3 := Lib.hid hmo3; have HAL3 := Lib.hid (show Kp (w2.setCell ⟨d, 3, none⟩ (.slice sa' (K + 1) scap')).heap.size (w2.setCell ⟨d, 3, none⟩ (.slice sa' (K + 1) scap')) ((w2.setCell ⟨d, 3, none⟩ (.slice sa' (K + 1) scap')).alloc (Obj.cells #[Value.slice (some ⟨xb, xo, none⟩) g.length xc] 43)) from (Kp.refl _ _).alloc (Nat.le_refl _) _); have hnews := news_alloc (w2.setCell ⟨d, 3, none⟩ (.slice sa' (K + 1) scap')) [Value.slice (some ⟨xb, xo, none⟩) g.length xc] 43; have hz3 : (w2.setCell ⟨d, 3, none⟩ (.slice sa' (K + 1) scap')).heap.size = w2.heap.size := (by simp [World.setCell]); rw [hz3] at hnews; have HNW := Lib.hid hnews; have HZ3 := Lib.hid hz3; clear hown2 hgr2 hblk2 hb2 hmo2 hmo3 hnews hz3)
        | (at_builtin; go_loud (refine wpList_append_mine rfl (.tmp 39) (.tmp 41) 103 rfl B 43 i43 (.slice none 0 0) 1 24 Tryz.underlying103 hk0 hx0 hx1 hx2 rfl (by decide) (.slice ma K mcap) K us rfl (HMO3.out.kp HAL3.out) ⟨w2.heap.size, 0, none⟩ 1 1 [.slice (some ⟨xb, xo, none⟩) g.length xc] rfl rfl HNW.out (by simp [Value.oneCell']) (by unfold maxLen; omega) (by omega) (by have := HAL3.out.size; have := HZ3.out; omega) ?_); intro mv' w4 hown4 hgr4 hblk4; obtain ⟨ma', mcap', rfl⟩ := own_form hown4; have hb4 := (HB2.out.set3 (.slice sa' (K + 1) scap')).of_heap ((grown_other hgr4 (by have := HAL3.out.size; have := HZ3.out; omega) HD.out.md.1).trans (HAL3.out.block d (by have := HZ3.out; omega))); have c4'' := hb4.c4; have f4' := hb4.fz 4; have HOWN4 := Lib.hid hown4; have HGR4 := Lib.hid hgr4; have HBLK4 := Lib.hid hblk4; clear hown4 hgr4 hblk4 hb4))
      go_end0
      have e := HGV.out
      subst e
      exact ⟨_, _, rfl, HD.out.found HGO.out HGF.out HCH.out HR.out HAL.out HOWN2.out HGR2.out HBLK2.out HAL3.out HOWN4.out HGR4.out HBLK4.out⟩
end Go.Ev

/- The program's division of nodes into classes: the rest of a class. -/
namespace Go.Ev
open Go.Proofs Go.RowKit Go.Lib
set_option maxRecDepth 100000

theorem Tryz.zero4 (w : World) : (zeroValue 4).run Tryz.prog w = .ok (.bool false) w := by kernel_rfl

/-- A map's function says of each of these numbers that it is there. -/
def SetF (l : List Nat) (f : Value → Option Lit) : Prop := ∀ x : Nat, f (encI x) = if l.contains x then some (.bool true) else none
theorem SetF.nil : SetF [] (fun _ => none) := fun x => by simp
open Classical in
theorem SetF.snoc {l : List Nat} {f : Value → Option Lit} (h : SetF l f) (y : Nat) : SetF (l ++ [y]) (fun v => if v = encI y then some (.bool true) else f v) := by
  intro x
  by_cases e : x = y
  · subst e; simp
  · have : encI x ≠ encI y := fun h => e (encI_inj _ _ h)
    simp only [this, if_false, h x]
    simp [e]

/-- Rows that can be read. -/
structure RowsR (w : World) (b o : Nat) (ls : List (List Nat)) (us : List Value) : Prop where
  at_ : ∀ (j : Nat) (u : Value), us[j]? = some u → w.cell? ⟨b, o + j, none⟩ = some u
  rows : ∀ (j : Nat) (l : List Nat) (u : Value), ls[j]? = some l → us[j]? = some u → Own 0 1 w u l.length (intsV l)
  len : us.length = ls.length

theorem OwnG.read {B : Nat} {w : World} {b o n cap : Nat} {ls : List (List Nat)} {us : List Value} (h : OwnG B w (.slice (some ⟨b, o, none⟩) n cap) ls us) (hn : n = ls.length) : RowsR w b o ls us := by
  subst hn
  refine ⟨fun j u hu => ?_, fun j l u hl hu => (h.rows j l u hl hu).mono (Nat.zero_le _), h.len⟩
  have hl : 0 < ls.length := by have := (List.getElem?_eq_some_iff.1 hu).1; have := h.len; omega
  obtain ⟨b', o', c', e, hs⟩ := h.own.seg hl
  cases e
  exact hs.cell hu
theorem RowsR.kp {w w' : World} {b o : Nat} {ls : List (List Nat)} {us : List Value} (h : RowsR w b o ls us) (hk : Kp w.heap.size w w') : RowsR w' b o ls us :=
  ⟨fun j u hu => hk.cells (h.at_ j u hu), fun j l u hl hu => (h.rows j l u hl hu).kp hk, h.len⟩
theorem RowsR.row {w : World} {b o : Nat} {ls : List (List Nat)} {us : List Value} (h : RowsR w b o ls us) {j : Nat} {l : List Nat} (hj : ls[j]? = some l) : ∃ u, us[j]? = some u ∧ w.cell? ⟨b, o + j, none⟩ = some u ∧ Own 0 1 w u l.length (intsV l) := by
  have hl := (List.getElem?_eq_some_iff.1 hj).1
  have hu : us[j]? = some (us[j]'(by rw [h.len]; exact hl)) := by simp [h.len, hl]
  exact ⟨_, hu, h.at_ j _ hu, h.rows j l _ hj hu⟩

def RestPost (R : List Nat) (W : World) (e : Ending) (w' : World) : Prop := ∃ v, e = .returned v ∧ Own W.heap.size 1 w' v R.length (intsV R) ∧ Kp W.heap.size W w'

theorem flatten_take {ls : List (List Nat)} {j : Nat} {l : List Nat} (h : ls[j]? = some l) : (ls.take (j + 1)).flatten = (ls.take j).flatten ++ l := by
  rw [List.take_add_one, h]; simp
theorem flatten_len_take (ls : List (List Nat)) (j : Nat) : (ls.take j).flatten.length ≤ ls.flatten.length := by
  have : ls.flatten = (ls.take j).flatten ++ (ls.drop j).flatten := by rw [← List.flatten_append, List.take_append_drop]
  rw [this, List.length_append]; omega

set_option maxHeartbeats 16000000 in
theorem rest_ok (d cb N K k lb lo lc mo mb mcap : Nat) (c : Nat → Nat) (gs : List (List Nat)) (gus : List Value) (m : List Nat) (mu : Value) (W : World) (hN : N ≤ 200000) (_hK : K ≤ 200000) (hk : k < K) (_hmc : K ≤ mcap) (_hlc : gs.length ≤ lc) (hgl : gs.length ≤ 200000)
    (hgf : gs.flatten.length ≤ 200000) (hgN : ∀ x ∈ gs.flatten, x < N) (hm : ∀ x ∈ m, x < N) (hml : m.length ≤ 200000) (hcl : ∀ x, x < N → c x ≤ 200000)
    (hg : RowsR W lb lo gs gus) (hd2 : W.cell? ⟨d, 2, none⟩ = some (.slice (some ⟨cb, 0, none⟩) N N)) (hc : RowI W cb (clsI N c)) (hd4 : W.cell? ⟨d, 4, none⟩ = some (.slice (some ⟨mb, mo, none⟩) K mcap)) (hmu : W.cell? ⟨mb, mo + k, none⟩ = some mu)
    (hmo : Own 0 1 W mu m.length (intsV m)) :
    Calls Tryz.prog 132 #[.pointer (some ⟨d, 0, none⟩), .int .i64 k, .slice (some ⟨lb, lo, none⟩) gs.length lc] W (RestPost (restOfClass c k m gs) W) := by
  have HGR := Lib.hid hg
  have HGN := Lib.hid hgN
  have HM := Lib.hid hm
  have HC := Lib.hid hc
  have HCL := Lib.hid hcl
  have HMO := Lib.hid hmo
  obtain ⟨ua, ucap, hmf⟩ := own_form hmo
  have HMF := Lib.hid hmf
  have HMU := Lib.hid hmu
  have hmm := @run_makeMap Tryz.prog
  obtain ⟨i3, hj0, hy0, hy1, hy2⟩ := info_parts Tryz.info3
  clear hg hgN hm hc hcl hmo hmf hmu
  go_enter Tryz.func132, Tryz.ntmps132
  go_wp2
  have H0 := Lib.hid (show ∃ f, MapV Tryz.prog 3 4 (W.alloc (.map #[] 0)) W.heap.size 0 f ∧ SetF [] f from ⟨_, MapV.made _ _ _ _, SetF.nil⟩)
  have H1 := Lib.hid (show Kp W.heap.size W (W.alloc (.map #[] 0)) from (Kp.refl _ _).alloc (Nat.le_refl _) _)
  go_loopw [18] (fun i wr => ∃ j : Nat, j ≤ gs.length ∧ i = .int .i64 j ∧ (∃ f, MapV Tryz.prog 3 4 wr W.heap.size (gs.take j).flatten.length f ∧ SetF (gs.take j).flatten f) ∧ Kp W.heap.size W wr) (fun i _ => gs.length - (RowKit.intOf i).toNat)
  case atStart => exact ⟨0, Nat.zero_le _, rfl, by simpa using H0.out, H1.out⟩
  case round =>
    obtain ⟨j, hj, rfl, ⟨f, hmap, hset⟩, hkp⟩ := hrel
    clear H0 H1
    by_cases hlt : j < gs.length
    · obtain ⟨r, hr⟩ : ∃ r, gs[j]? = some r := ⟨_, List.getElem?_eq_getElem hlt⟩
      obtain ⟨u, hu, hcu, hro⟩ := HGR.out.row hr
      obtain ⟨ra, rcap, hrf⟩ := own_form hro
      subst hrf
      have hcu' := hkp.cells hcu
      have HR := Lib.hid hr
      have HRO := Lib.hid hro
      have HMAP := Lib.hid hmap
      have HSET := Lib.hid hset
      have HKP := Lib.hid hkp
      have hrl : r.length ≤ 200000 := by
        have h1 := flatten_len_take gs (j + 1)
        rw [flatten_take hr, List.length_append] at h1
        omega
      have hmlt := hmap.lt
      clear hr hu hcu hro hmap hset hkp
      obtain ⟨wo, rfl⟩ : ∃ wo : World, wo = wr := ⟨_, rfl⟩
      go_wp2
      go_loopw [24] (fun i wi => ∃ q : Nat, q ≤ r.length ∧ i = .int .i64 q ∧ (∃ f, MapV Tryz.prog 3 4 wi W.heap.size ((gs.take j).flatten ++ r.take q).length f ∧ SetF ((gs.take j).flatten ++ r.take q) f) ∧ Kp W.heap.size W wi) (fun i _ => r.length - (RowKit.intOf i).toNat)
      case atStart => exact ⟨0, Nat.zero_le _, rfl, ⟨f, by simpa using HMAP.out, by simpa using HSET.out⟩, HKP.out⟩
      case round =>
        obtain ⟨q, hq, rfl, ⟨f, hmap, hset⟩, hkp⟩ := hrel
        clear HMAP HSET HKP
        by_cases hlq : q < r.length
        · obtain ⟨x, hx⟩ : ∃ x, r[q]? = some x := ⟨_, List.getElem?_eq_getElem hlq⟩
          obtain ⟨rb, ro, rc, hre, hrs⟩ := HRO.out.seg (by omega)
          cases hre
          have hcx := hkp.cells (hrs.cell (j := q) (u := .int .i64 (x : Int)) (by simp [intsV, hx]))
          have hxN : x < N := HGN.out x (List.mem_flatten.2 ⟨r, List.mem_of_getElem? HR.out, List.mem_of_getElem? hx⟩)
          have hfit := hrs.fit
          have hmx := hrs.max
          unfold maxLen at hmx
          have hln : ((gs.take j).flatten ++ r.take q).length ≤ 400000 := by
            have h1 := flatten_len_take gs j
            have h2 := List.length_take_le q r
            rw [List.length_append]; omega
          have HX := Lib.hid hx
          have HMAP := Lib.hid hmap
          have HSET := Lib.hid hset
          have HKP := Lib.hid hkp
          have HLN := Lib.hid hln
          clear hx hrs hmap hset hkp
          go_wp2_with (at_mapUpdate; refine wpList_put rfl (.tmp 28) (.tmp 29) (.const (.bool true)) 85 rfl 3 4 Tryz.keyed3 Tryz.underlying85 W.heap.size _ f rfl HMAP.out (by unfold maxLen; have := HLN.out; omega) (encI x) (.bool true) _ _ rfl rfl (key3 (by omega)) (plainElem_bool Tryz.underlying4 true) ?_; intro w1 hm1 hg1; have HM1 := Lib.hid hm1; have HC1 := Lib.hid (Chg.of_grown hg1); clear hm1 hg1)
          go_roundw
          case rel =>
            have e : ((gs.take j).flatten ++ r.take (q + 1)).length = ((gs.take j).flatten ++ r.take q).length + 1 := by rw [takeSnoc HX.out]; simp; omega
            have e2 : (gs.take j).flatten ++ r.take (q + 1) = (gs.take j).flatten ++ r.take q ++ [x] := by rw [takeSnoc HX.out, ← List.append_assoc]
            exact ⟨q + 1, by omega, by go_num, ⟨_, by rw [e]; exact HM1.out, by rw [e2]; exact HSET.out.snoc x⟩, HKP.out.chg HC1.out HKP.out.size (Nat.le_refl _)⟩
          case measure => simp [RowKit.intOf]; omega
        · obtain rfl : q = r.length := by omega
          rw [List.take_length, ← flatten_take HR.out] at hmap hset
          have HMAP := Lib.hid hmap
          have HSET := Lib.hid hset
          have HKP := Lib.hid hkp
          clear hmap hset hkp
          go_wp2
          go_roundw
          case rel => exact ⟨j + 1, by omega, by go_num, ⟨f, HMAP.out, HSET.out⟩, HKP.out⟩
          case measure => simp [RowKit.intOf]; omega
    · obtain rfl : j = gs.length := by omega
      rw [List.take_length] at hmap hset
      have hd2' := hkp.cells hd2
      have hd4' := hkp.cells hd4
      have hmu' := hkp.cells HMU.out
      rw [HMF.out] at hmu'
      have HMAP := Lib.hid hmap
      have HSET := Lib.hid hset
      have HKP := Lib.hid hkp
      have hszw := hkp.size
      have hmblt := hmap.lt
      clear hmap hset hkp
      obtain ⟨wo, rfl⟩ : ∃ wo : World, wo = wr := ⟨_, rfl⟩
      go_wp2
      go_loopw [12, 40] (fun v12 i wi => ∃ q : Nat, q ≤ m.length ∧ i = .int .i64 q ∧ Own W.heap.size 1 wi v12 (restOfClass c k (m.take q) gs).length (intsV (restOfClass c k (m.take q) gs)) ∧ v12.ownBlock ≠ some W.heap.size ∧ MapV Tryz.prog 3 4 wi W.heap.size gs.flatten.length f ∧ Kp W.heap.size W wi) (fun _ i _ => m.length - (RowKit.intOf i).toNat)
      case atStart => exact ⟨0, Nat.zero_le _, rfl, ⟨by simp [restOfClass], .inl ⟨rfl, by simp [restOfClass]⟩⟩, by simp [Value.ownBlock], HMAP.out, HKP.out⟩
      case round =>
        obtain ⟨q, hq, rfl, hown, hne, hmap, hkp⟩ := hrel
        clear HMAP HKP hd2' hd4' hmu'
        by_cases hlq : q < m.length
        · obtain ⟨x, hx⟩ : ∃ x, m[q]? = some x := ⟨_, List.getElem?_eq_getElem hlq⟩
          have hmo := HMO.out
          rw [HMF.out] at hmo
          obtain ⟨rb, ro, rc, hre, hrs⟩ := hmo.seg (by omega)
          cases hre
          have hcx := hkp.cells (hrs.cell (j := q) (u := .int .i64 (x : Int)) (by simp [intsV, hx]))
          have hxN : x < N := HM.out x (List.mem_of_getElem? hx)
          have hfit := hrs.fit
          have hd2' := hkp.cells hd2
          have hcc := hkp.cells (HC.out.cell (i := x) (by rw [clsI_length]; exact hxN))
          rw [clsI_get c hxN] at hcc
          have hcb := HCL.out x hxN
          obtain ⟨va, vcap, hvf⟩ := own_form hown
          have hsnoc : restOfClass c k (m.take (q + 1)) gs = restOfClass c k (m.take q) gs ++ (if (c x == k && !gs.flatten.contains x) = true then [x] else []) := by
            unfold restOfClass
            rw [takeSnoc hx, List.filter_append]
            congr 1
            simp only [List.filter_cons, List.filter_nil]
          have hrn : (restOfClass c k (m.take q) gs).length ≤ 200000 := by
            unfold restOfClass
            exact Nat.le_trans (List.length_filter_le _ _) (Nat.le_trans (List.length_take_le _ _) (by omega))
          have hszi := hkp.size
          have hmbi := hmap.lt
          have HX := Lib.hid hx
          have HMAP := Lib.hid hmap
          have HKP := Lib.hid hkp
          have HOWN := Lib.hid hown
          have HNE := Lib.hid hne
          have HVF := Lib.hid hvf
          have HSN := Lib.hid hsnoc
          have HAL := Lib.hid (show Kp wr.heap.size wr (wr.alloc (Obj.cells #[Value.int .i64 (x : Int)] 3)) from (Kp.refl _ _).alloc (Nat.le_refl _) _)
          have hst := HSET.out x
          subst hvf
          clear hmo hx hmap hkp hown hne hsnoc hrs HVF
          generalize hRe : restOfClass c k (m.take q) gs = R at *
          have HRE := Lib.hid hRe
          clear hRe
          by_cases hck : c x = k
          · have e1 : ((c x : Int) == (k : Int)) = true := by rw [hck]; simp
            have e1' : decide ((c x : Int) = (k : Int)) = true := by rw [hck]; simp
            by_cases ht : gs.flatten.contains x = true
            · rw [if_pos ht] at hst
              have HST := Lib.hid (show f (encI x) = if true then some (.bool true) else none from hst)
              have HT := Lib.hid ht
              have HCK := Lib.hid hck
              clear hst ht hck
              go_wp2_with (at_lookup; refine wpList_lookup_bool (by rfl) (.tmp 54) (.tmp 55) 85 rfl 3 4 Tryz.keyed3 Tryz.underlying85 Tryz.underlying4 (Tryz.zero4 _) W.heap.size _ f rfl HMAP.out (encI x) _ rfl (key3 (by omega)) true HST.out ?_)
              go_roundw
              case rel =>
                have e : restOfClass c k (m.take (q + 1)) gs = R := by
                  rw [HSN.out, if_neg (by rw [HT.out]; simp), List.append_nil]
                exact ⟨q + 1, by omega, by go_num, by rw [e]; exact HOWN.out, HNE.out, HMAP.out, HKP.out⟩
              case measure => simp [RowKit.intOf]; omega
            · rw [if_neg ht] at hst
              have HST := Lib.hid (show f (encI x) = if false then some (.bool true) else none from hst)
              have HT := Lib.hid ht
              have HCK := Lib.hid hck
              clear hst ht hck
              go_wp2_with (first
                | (at_lookup; refine wpList_lookup_bool (by rfl) (.tmp 54) (.tmp 55) 85 rfl 3 4 Tryz.keyed3 Tryz.underlying85 Tryz.underlying4 (Tryz.zero4 _) W.heap.size _ f rfl HMAP.out (encI x) _ rfl (key3 (by omega)) false HST.out ?_)
                | (at_builtin; refine wpList_append_mine rfl (.tmp 59) (.tmp 61) 43 rfl W.heap.size 3 i3 (.int .i64 0) 1 8 Tryz.underlying43 hj0 hy0 hy1 hy2 rfl (by decide) (.slice va R.length vcap) R.length (intsV R) rfl (HOWN.out.kp HAL.out) ⟨wr.heap.size, 0, none⟩ 1 1 [.int .i64 (x : Int)] rfl rfl (news_alloc wr [.int .i64 (x : Int)] 3) (by simp [Value.oneCell']) (by unfold maxLen; omega) (by omega) (by have := HAL.out.size; omega) ?_; intro v' w2 hown2 hgr2 hblk2; have HO2 := Lib.hid hown2; have HG2 := Lib.hid hgr2; have HB2 := Lib.hid hblk2; clear hown2 hgr2 hblk2))
              go_roundw
              case rel =>
                have e : restOfClass c k (m.take (q + 1)) gs = R ++ [x] := by
                  have ht := HT.out
                  rw [HSN.out, if_pos]
                  simp only [Bool.not_eq_true] at ht
                  rw [ht, HCK.out]; simp
                refine ⟨q + 1, by omega, by go_num, ?_, ?_, ?_, ?_⟩
                · rw [e]; simpa [intsV] using HO2.out
                · rcases HB2.out with e | ⟨g, e, hg⟩
                  · rw [e]; exact HNE.out
                  · rw [e]; intro e'; have := Option.some.inj e'; have := HAL.out.size; omega
                · exact (HMAP.out.kp HAL.out).of_heap (grown_other HG2.out (by have := HAL.out.size; omega) HNE.out)
                · exact (HKP.out.trans (HAL.out.mono hszi)).of_grown_mine (HOWN.out.kp HAL.out) HG2.out (by have := HAL.out.size; omega)
              case measure => simp [RowKit.intOf]; omega
          · have e1 : ((c x : Int) == (k : Int)) = false := by simp; omega
            have e1' : decide ((c x : Int) = (k : Int)) = false := by simp; omega
            have HCK := Lib.hid hck
            clear hck
            go_wp2
            go_roundw
            case rel =>
              have e : restOfClass c k (m.take (q + 1)) gs = R := by
                have h : (c x == k) = false := by simpa using HCK.out
                rw [HSN.out, if_neg (by rw [h]; simp), List.append_nil]
              exact ⟨q + 1, by omega, by go_num, by rw [e]; exact HOWN.out, HNE.out, HMAP.out, HKP.out⟩
            case measure => simp [RowKit.intOf]; omega
        · obtain rfl : q = m.length := by omega
          rw [List.take_length] at hown
          have HOWN := Lib.hid hown
          have HKP := Lib.hid hkp
          clear hown hkp hne hmap
          go_wp2
          go_ret
          exact ⟨_, rfl, HOWN.out, HKP.out⟩
end Go.Ev

/- slices.Delete of one row. -/
namespace Go.Ev
open Go.Proofs Go.RowKit Go.Lib
set_option maxRecDepth 100000

theorem Tryz.zero43 (w : World) : (zeroValue 43).run Tryz.prog w = .ok (.slice none 0 0) w := by kernel_rfl

def DelPost (B : Nat) (W : World) (b o n cap i : Nat) (us : List Value) (e : Ending) (w' : World) : Prop := e = .returned (.slice (some ⟨b, o, none⟩) (n - 1) cap) ∧ Seg B 1 w' b o (n - 1) cap (us.eraseIdx i) ∧ Chg b W w'

set_option maxHeartbeats 8000000 in
theorem delRow_ok (B b o n cap i : Nat) (us : List Value) (W : World) (hs : Seg B 1 W b o n cap us) (hi : i < n) (h1 : ∀ u ∈ us, u.oneCell' = true) :
    Calls Tryz.prog 133 #[.slice (some ⟨b, o, none⟩) n cap, .int .i64 (i : Int), .int .i64 ((i : Int) + 1)] W (DelPost B W b o n cap i us) := by
  obtain ⟨j, hj⟩ : ∃ j, j = i + 1 := ⟨_, rfl⟩
  have hjn : j ≤ n := by omega
  have hcap := hs.fit
  have hm : cap ≤ 9223372036854775807 := by have := hs.max; unfold maxLen at this; exact this
  have hlen : us.length = n := by have := hs.len; omega
  obtain ⟨cs, t, hb, hsz, hcs⟩ := hs.blk
  obtain ⟨i0, hi0, hz0, hz1, hz2⟩ := info_parts Tryz.info43
  obtain ⟨news, hnews⟩ : ∃ news, news = us.drop j := ⟨_, rfl⟩
  have hnl : news.length = n - j := by rw [hnews]; simp [hlen]
  obtain ⟨A, hA, hsrc⟩ : ∃ A : Addr, (if cap = j then some (⟨b, o, none⟩ : Addr) else some ⟨b, o + j, none⟩) = some A ∧ Hid (∀ t u, news[t]? = some u → W.drew.cell? (A.add t) = some u) := by
    by_cases h : cap = j
    · refine ⟨⟨b, o, none⟩, by simp [h], fun t u hu => ?_⟩
      have h0 : news.length = 0 := by rw [hnl]; omega
      rw [List.length_eq_zero_iff.1 h0] at hu
      simp at hu
    · refine ⟨⟨b, o + j, none⟩, by simp [h], fun t u hu => ?_⟩
      rw [hnews, List.getElem?_drop] at hu
      have := hs.cell hu
      rw [Addr.add_lit, show o + j + t = o + (j + t) by omega]
      exact this
  have s1 : Hid (news.length = (n - j) * 1) := by rw [Nat.mul_one]; exact hnl
  have s2 : Hid (∀ u ∈ news, u.oneCell' = true) := fun u hu => h1 u (by rw [hnews] at hu; exact List.mem_of_mem_drop hu)
  have hfz : ∀ q, W.frozen? ⟨b, q, none⟩ = false := fun q => by simp [World.frozen?, hb]
  have hsome : ∀ q, q < n → (W.cell? ⟨b, o + q, none⟩).isSome = true := fun q hq => by
    rw [hs.cell (j := q) (u := us[q]'(by omega)) (by simp [hlen, hq])]; rfl
  have s3 : Hid (∀ t, t < news.length → (W.drew.cell? ⟨b, o + i * 1 + t, none⟩).isSome = true ∧ W.drew.frozen? ⟨b, o + i * 1 + t, none⟩ = false) := by
    intro t ht
    rw [hnl] at ht
    rw [Nat.mul_one, Nat.add_assoc]
    exact ⟨hsome (i + t) (by omega), hfz _⟩
  obtain ⟨W1, hW1⟩ : ∃ W1, W1 = W.drew.setCells b (o + i * 1) news := ⟨_, rfl⟩
  obtain ⟨k1, k2, k3, k4, k5, k6⟩ := setCells_heap' (b := b) (t := t) (fr := (0, 0)) news (o + i * 1) cs W.drew hb
  rw [← hW1] at k1 k2 k3 k4 k6
  have hnj : n - j = n - (i + 1) := by omega
  have hcl : ∀ ty, (Builtin.clear_ #[103] ty #[.slice (some ⟨b, o + (i + (n - j)), none⟩) (n - (i + (n - j))) (cap - (i + (n - j)))]).run Tryz.prog W1 = .ok (.tuple #[]) (W1.setCells b (o + (i + (n - j))) (List.replicate (n - (i + (n - j))) (.slice none 0 0))) :=
    fun ty => Lib.run_clear_slice W1 103 43 ty (.slice none 0 0) Tryz.underlying103 Tryz.zero43 rfl rfl b (o + (i + (n - j))) _ _ (by omega)
      (fun t ht => by
        rw [cell_of k1, Array.getElem?_eq_getElem (by rw [sets_size]; omega)]; rfl)
      (fun t ht => by simp [World.frozen?, k1])
  have HW : Hid (W1 = W.drew.setCells b (o + i * 1) news) := hW1
  have HK1 := Lib.hid k1
  have HK2 := Lib.hid k2
  have HK3 := Lib.hid k3
  have HK4 := Lib.hid k4
  have HK6 := Lib.hid k6
  have HCS := Lib.hid hcs
  have HN := Lib.hid hnews
  have HJ := Lib.hid hj
  have HL := Lib.hid hlen
  have hij : i < j := by omega
  have e0 : ((i : Int) + 1) = (j : Int) := by omega
  rw [e0]
  have hic : i ≤ cap := by omega
  have hjc : j ≤ cap := by omega
  have hlo := hs.lo
  clear hW1 k1 k2 k3 k4 k5 k6 hcs hnews hj hlen hnl hfz hsome hs h1 hb e0 hnj
  go_enter Tryz.func133, Tryz.ntmps133
  go_wp2_with fail
  go_region_law (refine step_append_room rfl (.tmp 22) (.tmp 25) 103 rfl 43 i0 1 Tryz.underlying103 hi0 hz1 b o i cap (by simp [Act.eval, Act.put]) A (n - j) (cap - j) news (by simp [Act.eval, Act.put]) s1.out hsrc.out s2.out (by omega) s3.out ?_; rw [← HW.out])
  go_wp2
  go_ret
  have hn := HN.out
  have hj := HJ.out
  have hl := HL.out
  subst hj
  have hb2 := setCells_heap' (b := b) (t := t) (fr := (0, 0)) (List.replicate (n - (i + (n - (i + 1)))) (.slice none 0 0)) (o + (i + (n - (i + 1)))) _ W1 HK1.out
  obtain ⟨m1, m2, m3, m4, m5, m6⟩ := hb2
  have hnl : news.length = n - (i + 1) := by rw [hn]; simp [hl]
  refine ⟨by rw [show i + (n - (i + 1)) = n - 1 by omega]; rfl, ⟨hlo, by rw [List.length_eraseIdx]; simp [hl, hi], by omega, by unfold maxLen; omega, _, t, m1, by rw [sets_size, sets_size]; omega, fun q u hq => ?_⟩, ⟨m4.trans HK4.out, m6.trans HK6.out, by rw [m3, HK3.out]; exact Nat.le_refl _, fun k _ hk => (m2 k hk).trans (HK2.out k hk)⟩⟩
  have hql : q < n - 1 := by
    have := (List.getElem?_eq_some_iff.1 hq).1
    rw [List.length_eraseIdx, hl] at this
    simp [hi] at this
    exact this
  rw [sets_get _ _ _ (by rw [sets_size, List.length_replicate]; omega), if_neg (by rw [List.length_replicate]; omega), sets_get _ _ _ (by rw [hnl]; omega)]
  rw [List.getElem?_eraseIdx] at hq
  by_cases hqi : q < i
  · rw [if_pos hqi] at hq
    rw [if_neg (by omega)]
    exact HCS.out q u hq
  · rw [if_neg hqi] at hq
    rw [if_pos (by rw [hnl]; omega), hn, List.getElem?_drop, show i + 1 + (o + q - (o + i * 1)) = q + 1 by omega]
    exact hq
end Go.Ev

/- The program's division of nodes into classes: rows exchanged. -/
namespace Go.Ev
open Go.Proofs Go.RowKit

/-- A row replaced by one that is in none of the blocks. -/
theorem OwnG.putRow {B : Nat} {w : World} {b off cap j : Nat} {ls : List (List Nat)} {us : List Value} {u' : Value} {l' : List Nat} (h : OwnG B w (.slice (some ⟨b, off, none⟩) ls.length cap) ls us) (hj : j < ls.length)
    (hown : Own B 1 w u' l'.length (intsV l')) (hu' : ∀ g, u'.ownBlock = some g → b ≠ g ∧ ∀ z ∈ us, z.ownBlock ≠ some g) : OwnG B (w.setCell ⟨b, off + j, none⟩ u') (.slice (some ⟨b, off, none⟩) ls.length cap) (ls.set j l') (us.set j u') := by
  obtain ⟨b0, off0, cap0, e0, hseg⟩ := h.own.seg (by omega)
  cases e0
  have hbu : ∀ z ∈ us, z.ownBlock ≠ some b := fun z hz e => h.off z hz b e rfl
  have hub : u'.ownBlock ≠ some b := fun e => (hu' b e).1 rfl
  have hC : Chg b w (w.setCell ⟨b, off + j, none⟩ u') := (Chg.refl _ _).setCell _ _
  refine ⟨by simpa using (hseg.setOne (i := j) hj u').own, fun i y z hi hz => ?_, fun z hz g hg => ?_, ?_⟩
  · rw [List.getElem?_set] at hi hz
    by_cases hij : j = i
    · subst hij
      rw [if_pos rfl, if_pos hj] at hi
      rw [if_pos rfl, if_pos (by rw [h.len]; exact hj)] at hz
      cases hi; cases hz
      exact hown.chg hC hub
    · rw [if_neg hij] at hi hz
      exact (h.rows i y z hi hz).chg hC (hbu z (List.mem_of_getElem? hz))
  · rcases List.mem_or_eq_of_mem_set hz with hz | rfl
    · exact h.off z hz g hg
    · intro e; exact hub (hg.trans e.symm)
  · rw [List.pairwise_iff_getElem]
    intro i k hi hk hik g hg
    rw [List.length_set] at hi hk
    rw [List.getElem_set] at hg ⊢
    split at hg
    · rename_i e
      subst e
      rw [if_neg (by omega)]
      exact (hu' g hg).2 _ (List.getElem_mem hk)
    · split
      · intro e
        exact (hu' g e).2 _ (List.getElem_mem hi) hg
      · exact List.pairwise_iff_getElem.1 h.apart i k hi hk hik g hg

/-- A row struck. -/
theorem OwnG.drop {B : Nat} {w w' : World} {b off cap j n : Nat} {ls : List (List Nat)} {us : List Value} (h : OwnG B w (.slice (some ⟨b, off, none⟩) n cap) ls us) (hn : n = ls.length) (hj : j < n) (hc : Chg b w w')
    (hs : Seg B 1 w' b off (n - 1) cap (us.eraseIdx j)) : OwnG B w' (.slice (some ⟨b, off, none⟩) (n - 1) cap) (ls.eraseIdx j) (us.eraseIdx j) := by
  subst hn
  have hel : (ls.eraseIdx j).length = ls.length - 1 := by rw [List.length_eraseIdx]; simp [hj]
  refine ⟨by rw [hel]; exact hs.own, fun i y z hi hz => ?_, fun z hz g hg => h.off z ((List.eraseIdx_sublist ..).subset hz) g hg, h.apart.sublist (List.eraseIdx_sublist ..)⟩
  rw [List.getElem?_eraseIdx] at hi hz
  split at hi
  · rename_i h1
    rw [if_pos h1] at hz
    exact (h.rows i y z hi hz).chg hc fun e => h.off z (List.mem_of_getElem? hz) b e rfl
  · rename_i h1
    rw [if_neg h1] at hz
    exact (h.rows (i + 1) y z hi hz).chg hc fun e => h.off z (List.mem_of_getElem? hz) b e rfl

theorem Wr.lt {B : Nat} {w : World} {d cb N : Nat} {nv av sv mv : Value} {c : Nat → Nat} {K : Nat} {sizes : List Nat} {mem : List (List Nat)} {us : List Value} (h : DSt B w d cb N nv av sv mv c K sizes mem us) {g : Nat} (hg : Wr d cb sv mv g) : g < w.heap.size := by
  rcases hg with rfl | rfl | hg | hg
  · exact h.blk.lt
  · exact h.cls.lt
  · exact (h.siz.lt hg).2
  · exact (h.mm.lt hg).2

/-- What is not written stays. -/
theorem DSt.upd {B : Nat} {w w' : World} {d cb N : Nat} {nv av sv mv : Value} {c : Nat → Nat} {K : Nat} {sizes : List Nat} {mem : List (List Nat)} {us : List Value} (h : DSt B w d cb N nv av sv mv c K sizes mem us) {S : Nat → Prop} (hu : Upd S w w')
    (hS : ∀ b, S b → ¬ Wr d cb sv mv b ∧ ∀ u ∈ us, u.ownBlock ≠ some b) : DSt B w' d cb N nv av sv mv c K sizes mem us where
  blk := h.blk.of_heap (hu.block d h.blk.lt fun e => (hS d e).1 (.inl rfl))
  cls := h.cls.of_heap (hu.block cb h.cls.lt fun e => (hS cb e).1 (.inr (.inl rfl)))
  siz := h.siz.upd hu fun g hg e => (hS g e).1 (.inr (.inr (.inl hg)))
  mm := h.mm.upd hu fun g hg e => (hS g e).1 (.inr (.inr (.inr hg)))
  rows j l u hj hu' := (h.rows j l u hj hu').upd hu fun g hg e => (hS g e).2 u (List.mem_of_getElem? hu') hg
  dc := h.dc
  sd := h.sd
  md := h.md
  sm := h.sm
  off := h.off
  lo := h.lo
  ml := h.ml
theorem DSt.kp {B : Nat} {w w' : World} {d cb N : Nat} {nv av sv mv : Value} {c : Nat → Nat} {K : Nat} {sizes : List Nat} {mem : List (List Nat)} {us : List Value} (h : DSt B w d cb N nv av sv mv c K sizes mem us) (hk : Kp w.heap.size w w') : DSt B w' d cb N nv av sv mv c K sizes mem us :=
  h.upd (Upd.of_kp hk fun _ => False) fun _ h => h.elim

/-- The nodes of a class are said to be others. -/
theorem DSt.setMem {B : Nat} {w : World} {d cb N : Nat} {nv av sv : Value} {c : Nat → Nat} {K mb mo mcap k : Nat} {sizes stay : List Nat} {mem : List (List Nat)} {us : List Value} {su : Value} (h : DSt B w d cb N nv av sv (.slice (some ⟨mb, mo, none⟩) K mcap) c K sizes mem us) (hk : k < K)
    (hown : Own B 1 w su stay.length (intsV stay)) (ho : Off (Wr d cb sv (.slice (some ⟨mb, mo, none⟩) K mcap)) su) :
    DSt B (w.setCell ⟨mb, mo + k, none⟩ su) d cb N nv av sv (.slice (some ⟨mb, mo, none⟩) K mcap) c K sizes (mem.set k stay) (us.set k su) := by
  obtain ⟨b0, off0, cap0, e0, hseg⟩ := h.mm.seg (by omega)
  cases e0
  have hC : Chg mb w (w.setCell ⟨mb, mo + k, none⟩ su) := (Chg.refl _ _).setCell _ _
  have hmd : mb ≠ d := fun e => h.md.1 (by rw [← e]; rfl)
  have hmc : mb ≠ cb := fun e => h.md.2 (by rw [← e]; rfl)
  have hms : sv.ownBlock ≠ some mb := fun e => h.sm mb e rfl
  have hul : us.length = K := by have := h.mm.1; omega
  have nb : ∀ u, Off (Wr d cb sv (.slice (some ⟨mb, mo, none⟩) K mcap)) u → u.ownBlock ≠ some mb := fun u hu e => hu mb e (.inr (.inr (.inr rfl)))
  refine ⟨h.blk.of_heap (Below.heap_setCell _ _ _ _ (Ne.symm hmd)), h.cls.of_heap (Below.heap_setCell _ _ _ _ (Ne.symm hmc)), h.siz.chg hC hms, (hseg.setOne (i := k) hk su).own, ?_, h.dc, h.sd, h.md, h.sm, ?_, h.lo, by simp [h.ml]⟩
  · intro j l u hj hu
    rw [List.getElem?_set] at hj hu
    by_cases hkj : k = j
    · subst hkj
      rw [if_pos rfl, if_pos (by rw [h.ml]; exact hk)] at hj
      rw [if_pos rfl, if_pos (by rw [hul]; exact hk)] at hu
      cases hj; cases hu
      exact hown.chg hC (nb su ho)
    · rw [if_neg hkj] at hj hu
      exact (h.rows j l u hj hu).chg hC (nb u (h.off u (List.mem_of_getElem? hu)))
  · intro u hu
    rcases List.mem_or_eq_of_mem_set hu with hu | rfl
    · exact h.off u hu
    · exact ho

/-- One of the sizes is another. -/
theorem DSt.setSize {B : Nat} {w : World} {d cb N : Nat} {nv av mv : Value} {c : Nat → Nat} {K sb so scap k n : Nat} {sizes : List Nat} {mem : List (List Nat)} {us : List Value} (h : DSt B w d cb N nv av (.slice (some ⟨sb, so, none⟩) K scap) mv c K sizes mem us) (hk : k < K) :
    DSt B (w.setCell ⟨sb, so + k, none⟩ (.int .i64 (n : Int))) d cb N nv av (.slice (some ⟨sb, so, none⟩) K scap) mv c K (sizes.set k n) mem us := by
  obtain ⟨b0, off0, cap0, e0, hseg⟩ := h.siz.seg (by omega)
  cases e0
  have hC : Chg sb w (w.setCell ⟨sb, so + k, none⟩ (.int .i64 (n : Int))) := (Chg.refl _ _).setCell _ _
  have hmd : sb ≠ d := fun e => h.sd.1 (by rw [← e]; rfl)
  have hmc : sb ≠ cb := fun e => h.sd.2 (by rw [← e]; rfl)
  have hms : mv.ownBlock ≠ some sb := h.sm sb rfl
  refine ⟨h.blk.of_heap (Below.heap_setCell _ _ _ _ (Ne.symm hmd)), h.cls.of_heap (Below.heap_setCell _ _ _ _ (Ne.symm hmc)), ?_, h.mm.chg hC hms, ?_, h.dc, h.sd, h.md, h.sm, h.off, h.lo, h.ml⟩
  · have e : intsV (sizes.set k n) = (intsV sizes).set k (.int .i64 (n : Int)) := by simp [intsV, List.map_set]
    rw [e]; exact (hseg.setOne (i := k) hk _).own
  · intro j l u hj hu
    exact (h.rows j l u hj hu).chg hC fun e => h.off u (List.mem_of_getElem? hu) sb e (.inr (.inr (.inl rfl)))
end Go.Ev
