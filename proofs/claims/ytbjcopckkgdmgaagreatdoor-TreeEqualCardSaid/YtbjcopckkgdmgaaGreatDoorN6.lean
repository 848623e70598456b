import Derived.Test.YtbjcopckkgdmgaaGreatDoorN5
import Derived.Deep.QuietTactic
import Derived.BigQuiet
import Derived.Test.YtbjcopckkgdmgaaGreatDoorN1
/- The program's division of nodes into classes: what leaves a class. -/
namespace Go.Ev
open Go.Proofs Go.RowKit Go.Lib
set_option maxRecDepth 100000

def LeavPost (B Bg : Nat) (W : World) (d cb N : Nat) (nv av sv mv : Value) (c : Nat → Nat) (K k gb go gcap size : Nat) (sizes m : List Nat) (gs mem : List (List Nat)) (us gus : List Value) (e : Ending) (w' : World) : Prop :=
  ∃ out ous stay su, e = .returned (.slice (some ⟨gb, go, none⟩) out.length gcap) ∧ Left c k size m gs out stay ∧ OwnG Bg w' (.slice (some ⟨gb, go, none⟩) out.length gcap) out ous ∧ (∀ u ∈ ous, Off (Wr d cb sv mv) u) ∧
    DSt B w' d cb N nv av sv mv c K sizes (mem.set k stay) (us.set k su) ∧ Upd (fun g => g = gb ∨ mv.ownBlock = some g) W w' ∧
    (∀ u ∈ ous, ∀ g, u.ownBlock = some g → (∃ u' ∈ gus, u'.ownBlock = some g) ∨ W.heap.size ≤ g) ∧ (su ∈ gus ∨ su ∈ us)

theorem sum_take {gs : List (List Nat)} {j : Nat} {r : List Nat} (h : gs[j]? = some r) : ((gs.take (j + 1)).map List.length).sum = ((gs.take j).map List.length).sum + r.length := by
  rw [List.take_add_one, h]; simp
theorem sum_take_le (gs : List (List Nat)) (j : Nat) : ((gs.take j).map List.length).sum ≤ (gs.map List.length).sum := by
  have : gs.map List.length = (gs.take j).map List.length ++ (gs.drop j).map List.length := by rw [← List.map_append, List.take_append_drop]
  rw [this, List.sum_append]; omega

theorem set_self {α : Type} {l : List α} {k : Nat} {x : α} (h : l[k]? = some x) : l.set k x = l := by
  apply List.ext_getElem?
  intro i
  rw [List.getElem?_set]
  split
  · rename_i e
    subst e
    rw [if_pos (List.getElem?_eq_some_iff.1 h).1, h]
  · rfl

set_option maxHeartbeats 16000000 in
theorem leaving_ok (B Bg d cb N K k gb go gcap size : Nat) (nv av sv mv : Value) (c : Nat → Nat) (sizes m : List Nat) (gs mem : List (List Nat)) (gus us : List Value) (W : World) (hN : N ≤ 200000) (hK : K ≤ 200000) (hk : k < K)
    (h : DSt B W d cb N nv av sv mv c K sizes mem us) (hg : OwnG Bg W (.slice (some ⟨gb, go, none⟩) gs.length gcap) gs gus) (hgoff : ∀ u ∈ gus, Off (Wr d cb sv mv) u) (hgb : ¬ Wr d cb sv mv gb) (hgu : ∀ u ∈ us, u.ownBlock ≠ some gb) (hBg : B ≤ Bg) (hgn : 0 < gs.length) (hgl : gs.length ≤ 200000)
    (hsz : sizes[k]? = some size) (hsz2 : size ≤ 200000) (hsum : (gs.map List.length).sum ≤ size) (hgf : gs.flatten.length ≤ 200000) (hgN : ∀ x ∈ gs.flatten, x < N) (hmk : mem[k]? = some m) (hm : ∀ x ∈ m, x < N) (hml : m.length ≤ 200000) (hcl : ∀ x, x < N → c x ≤ 200000) :
    Calls Tryz.prog 120 #[.pointer (some ⟨d, 0, none⟩), .int .i64 k, .slice (some ⟨gb, go, none⟩) gs.length gcap] W (LeavPost B Bg W d cb N nv av sv mv c K k gb go gcap size sizes m gs mem us gus) := by
  obtain ⟨sb, so, scap, rfl, hss⟩ := h.siz.seg (by omega)
  obtain ⟨mb, mo, mcap, rfl, hms⟩ := h.mm.seg (by omega)
  obtain ⟨gb0, go0, gcap0, e0, hgs⟩ := hg.own.seg hgn
  cases e0
  have c3 := h.blk.c3
  have c4 := h.blk.c4
  have c2 := h.blk.c2
  have hck := hss.cell (j := k) (u := .int .i64 (size : Int)) (by simp [intsV, hsz])
  have hfit := hgs.fit
  have hgcap : gcap ≤ 9223372036854775807 := by have := hgs.max; unfold maxLen at this; exact this
  have hsfit := hss.fit
  have hmfit := hms.fit
  have hdl := h.blk.lt
  obtain ⟨mu, hmu⟩ : ∃ mu, us[k]? = some mu := ⟨_, List.getElem?_eq_getElem (by have := h.mm.1; omega)⟩
  have hmo := h.rows k m mu hmk hmu
  have hcm := hms.cell hmu
  have hgbd : gb ≠ d := fun e => hgb (.inl e)
  have hgbm : gb ≠ mb := fun e => hgb (.inr (.inr (.inr (by rw [e]; rfl))))
  have hdg : d ≠ gb := Ne.symm hgbd
  have hmg : mb ≠ gb := Ne.symm hgbm
  have hgl0 := hgs.lt
  have hBgW : Bg ≤ W.heap.size := Nat.le_trans hgs.lo (Nat.le_of_lt hgl0)
  have HMU := Lib.hid hmu
  have HMO := Lib.hid hmo
  have HCM := Lib.hid hcm
  have HD := Lib.hid h
  have HG := Lib.hid hg
  have HGS := Lib.hid hgs
  have HMS := Lib.hid hms
  have HR := Lib.hid (hg.read rfl)
  have HSUM := Lib.hid hsum
  have HGN := Lib.hid hgN
  have HM := Lib.hid hm
  have HMK := Lib.hid hmk
  have HCL := Lib.hid hcl
  have HOFF := Lib.hid hgoff
  have HGB := Lib.hid hgb
  have HGU := Lib.hid hgu
  clear hmu hmo hcm h hg hgs hms hss hsum hgN hm hmk hcl hgoff hgb hgu hsz
  go_enter Tryz.func120, Tryz.ntmps120
  go_wp2
  go_quiet (fail)
  go_wp2
  go_loop [7, 8, 21] (fun v7 v8 i => ∃ j b q : Nat, j ≤ gs.length ∧ b < gs.length ∧ q + ((gs.take j).map List.length).sum = size ∧ v7 = .int .i64 (b : Int) ∧ v8 = .int .i64 (q : Int) ∧ i = .int .i64 (j : Int)) (fun _ _ i => gs.length - (RowKit.intOf i).toNat)
  case atStart => exact ⟨0, 0, size, Nat.zero_le _, hgn, by simp, rfl, rfl, rfl⟩
  case round =>
    obtain ⟨j, b, q, hj, hb, hq, rfl, rfl, rfl⟩ := hrel
    have hqs : q ≤ size := by omega
    obtain ⟨gr, hgr⟩ : ∃ r, gs[b]? = some r := ⟨_, List.getElem?_eq_getElem hb⟩
    obtain ⟨u, hu, hcu, hro⟩ := HR.out.row hgr
    obtain ⟨ra, rcap, hrf⟩ := own_form hro
    subst hrf
    by_cases hlt : j < gs.length
    · obtain ⟨r, hr⟩ : ∃ r, gs[j]? = some r := ⟨_, List.getElem?_eq_getElem hlt⟩
      obtain ⟨u2, hu2, hcu2, hro2⟩ := HR.out.row hr
      obtain ⟨ra2, rcap2, hrf2⟩ := own_form hro2
      subst hrf2
      have hst := sum_take hr
      have hsl := sum_take_le gs (j + 1)
      have hss := HSUM.out
      have hrq : r.length ≤ q := by omega
      have hrq' : (0 : Int) ≤ (q : Int) - (r.length : Int) := by omega
      have HQ := Lib.hid hq
      have HST := Lib.hid hst
      clear hgr hr hu hu2 hro hro2 hst hsl hss hq
      go_wp2
      all_goals
        go_round
        case measure => simp [RowKit.intOf]; omega
        case rel =>
          first
          | exact ⟨j + 1, j, q - r.length, by omega, hlt, by have := HQ.out; rw [HST.out]; omega, rfl, by go_num, by go_num⟩
          | exact ⟨j + 1, b, q - r.length, by omega, hb, by have := HQ.out; rw [HST.out]; omega, rfl, by go_num, by go_num⟩
    · obtain rfl : j = gs.length := by omega
      rw [List.take_length] at hq
      have HK0 := Lib.hid (show Kp W.heap.size W (W.drewN nq) from (Kp.refl _ _).drewN)
      have HGR := Lib.hid hgr
      have HU := Lib.hid hu
      have HQ := Lib.hid hq
      clear hgr hu hro hq
      by_cases hA : gr.length ≤ q
      · have hA' : (gr.length : Int) ≤ (q : Int) := by omega
        go_wp2
        go_ret
        refine ⟨gs, gus, m, mu, rfl, .all b gr HGR.out (by have := HQ.out; omega), HG.out.kp HK0.out, HOFF.out, ?_, Upd.of_kp HK0.out _, fun u hu g hg => .inl ⟨u, hu, hg⟩, .inr (List.mem_of_getElem? HMU.out)⟩
        rw [set_self HMK.out, set_self HMU.out]
        exact HD.out.kp HK0.out
      · have hA' : (q : Int) < (gr.length : Int) := by omega
        have hsuo : Own B 1 W (.slice ra gr.length rcap) gr.length (intsV gr) := (HG.out.rows b gr _ HGR.out HU.out).mono hBg
        have hsuf := HOFF.out _ (List.mem_of_getElem? HU.out)
        have hgsf : ∀ z ∈ gus, z.ownBlock ≠ some mb := fun z hz e => HOFF.out z hz mb e (.inr (.inr (.inr rfl)))
        have hsug : (Value.slice ra gr.length rcap).ownBlock ≠ some gb := fun e => HG.out.off _ (List.mem_of_getElem? HU.out) gb e rfl
        have HSO := Lib.hid hsuo
        have HSF := Lib.hid hsuf
        have HGF := Lib.hid hgsf
        have HSG := Lib.hid hsug
        clear hsuo hsuf hgsf hsug
        by_cases hB : 0 < q
        · have hB' : (0 : Int) < (q : Int) := by omega
          have CR := rest_ok d cb N K k gb go gcap mo mb mcap c gs gus m mu (W.drewN nq) hN hK hk hmfit hfit hgl hgf HGN.out HM.out hml HCL.out (HR.out.kp HK0.out) (HK0.out.cells c2) (HD.out.kp HK0.out).cls (HK0.out.cells c4) (HK0.out.cells HCM.out) ((HMO.out.kp HK0.out).mono (Nat.zero_le _))
          have CR' : Calls Tryz.prog 132 #[.pointer (some ⟨d, 0, none⟩), .int .i64 k, .slice (some ⟨gb, go, none⟩) gs.length gcap] (W.drewN nq) (RestPost (restOfClass c k m gs) W) :=
            CR.mono fun e w' ⟨v, he, hv, hk⟩ => ⟨v, he, hv, HK0.out.trans hk⟩
          have HCR := Lib.hid CR'
          clear CR CR'
          go_wp2_with (go_at_call 132; refine HCR.out.mono ?_; rintro e w1 ⟨v1, rfl, hv1, hk1⟩; obtain ⟨va, vc, rfl⟩ := own_form hv1; have hgs1 := HGS.out.kp hk1; have hms1 := HMS.out.kp hk1; have hb1 := HD.out.blk.of_heap (hk1.block d hdl); have d4 := hb1.c4; have g1 := hgs1.cell HU.out; have g2 := hgs1.frozen (go + b); have m1 := hms1.cell HMU.out; have m2 := hms1.frozen (mo + k); have hz1 := hk1.size; have HV1 := Lib.hid hv1; have HK1 := Lib.hid hk1; clear hgs1 hms1 hb1 hv1 hk1)
          go_ret
          have hG1 := HG.out.kp HK1.out
          have hfr : ∀ g, (Value.slice va (restOfClass c k m gs).length vc).ownBlock = some g → gb ≠ g ∧ ∀ z ∈ gus, z.ownBlock ≠ some g := fun g hg => ⟨by have := (HV1.out.lt hg).1; omega, fun z hz e => by have := (HV1.out.lt hg).1; have := (HG.out.lt hz e).2; omega⟩
          have hP := hG1.putRow (j := b) hb (HV1.out.mono hBgW) hfr
          have hC : Chg mb (w1.setCell ⟨gb, go + b, none⟩ (.slice va (restOfClass c k m gs).length vc)) ((w1.setCell ⟨gb, go + b, none⟩ (.slice va (restOfClass c k m gs).length vc)).setCell ⟨mb, mo + k, none⟩ (.slice ra gr.length rcap)) := (Chg.refl _ _).setCell _ _
          have hnew : Off (Wr d cb (.slice (some ⟨sb, so, none⟩) K scap) (.slice (some ⟨mb, mo, none⟩) K mcap)) (Value.slice va (restOfClass c k m gs).length vc) := fun g hg hW => by
            have := (HV1.out.lt hg).1; have := Wr.lt HD.out hW; omega
          have hoff : ∀ u ∈ gus.set b (Value.slice va (restOfClass c k m gs).length vc), Off (Wr d cb (.slice (some ⟨sb, so, none⟩) K scap) (.slice (some ⟨mb, mo, none⟩) K mcap)) u := fun u hu => by
            rcases List.mem_or_eq_of_mem_set hu with hu | rfl
            · exact HOFF.out u hu
            · exact hnew
          have hP2 := hP.chg hC (fun e => hgbm (Option.some.inj e)) (fun u hu e => hoff u hu mb e (.inr (.inr (.inr rfl))))
          have hU1 : Upd (fun g => g = gb) w1 (w1.setCell ⟨gb, go + b, none⟩ (.slice va (restOfClass c k m gs).length vc)) := Upd.setCell (S := fun g => g = gb) (Upd.refl _ _) (p := ⟨gb, go + b, none⟩) (.inl rfl) _
          have hD1 := (HD.out.kp HK1.out).upd hU1 fun g hg => by subst hg; exact ⟨HGB.out, HGU.out⟩
          have hs1 := (HSO.out.kp HK1.out).upd hU1 fun g hg e => HSG.out (by rw [hg, e])
          refine ⟨gs.set b (restOfClass c k m gs), gus.set b (.slice va (restOfClass c k m gs).length vc), gr, .slice ra gr.length rcap, by rw [List.length_set]; rfl, .swap b gr HGR.out (by have := HQ.out; omega), by rw [List.length_set]; exact hP2, hoff, hD1.setMem hk hs1 HSF.out, ((Upd.of_kp HK1.out _).setCell (.inl (.inl rfl)) _).setCell (.inl (.inr rfl)) _, fun u hu g hg => ?_, .inl (List.mem_of_getElem? HU.out)⟩
          rcases List.mem_or_eq_of_mem_set hu with hu | rfl
          · exact .inl ⟨u, hu, hg⟩
          · exact .inr (HV1.out.lt hg).1
        · have hB' : (q : Int) ≤ 0 := by omega
          have hB2 : ¬ (0 : Int) < (q : Int) := by omega
          have h1 : ∀ u ∈ gus, u.oneCell' = true := fun u hu => by
            obtain ⟨j, hj⟩ := List.getElem?_of_mem hu
            have hl : j < gs.length := by rw [← HG.out.len]; exact (List.getElem?_eq_some_iff.1 hj).1
            obtain ⟨a, c, e⟩ := own_form (HG.out.rows j _ u (List.getElem?_eq_getElem hl) hj)
            rw [e]; rfl
          have CD := delRow_ok Bg gb go gs.length gcap b gus (W.drewN nq) (HGS.out.kp HK0.out) hb h1
          have HCD := Lib.hid CD
          clear CD h1
          go_wp2_with (go_at_call 133; refine HCD.out.mono ?_; rintro e w1 ⟨rfl, hs1, hc1⟩; have hch : Chg gb W w1 := ⟨hc1.os, hc1.output, hc1.size, hc1.block⟩; have hms1 := HMS.out.chg hch hmg; have hb1 := HD.out.blk.of_heap (hch.block d hdl hdg); have d4 := hb1.c4; have m1 := hms1.cell HMU.out; have m2 := hms1.frozen (mo + k); have hz1 := hch.size; have HS1 := Lib.hid hs1; have HC1 := Lib.hid hch; clear hms1 hb1 hs1 hc1 hch)
          go_ret
          have hP := HG.out.drop rfl hb HC1.out HS1.out
          have hel : (gs.eraseIdx b).length = gs.length - 1 := by rw [List.length_eraseIdx]; simp [hb]
          have hC : Chg mb w1 (w1.setCell ⟨mb, mo + k, none⟩ (.slice ra gr.length rcap)) := (Chg.refl _ _).setCell _ _
          have hoff : ∀ u ∈ gus.eraseIdx b, Off (Wr d cb (.slice (some ⟨sb, so, none⟩) K scap) (.slice (some ⟨mb, mo, none⟩) K mcap)) u := fun u hu => HOFF.out u ((List.eraseIdx_sublist ..).subset hu)
          have hP2 := hP.chg hC (fun e => hgbm (Option.some.inj e)) (fun u hu e => hoff u hu mb e (.inr (.inr (.inr rfl))))
          have hU1 : Upd (fun g => g = gb) W w1 := Upd.of_chg HC1.out rfl
          have hD1 := HD.out.upd hU1 fun g hg => by subst hg; exact ⟨HGB.out, HGU.out⟩
          have hs1 := HSO.out.upd hU1 fun g hg e => HSG.out (by rw [hg, e])
          refine ⟨gs.eraseIdx b, gus.eraseIdx b, gr, .slice ra gr.length rcap, by rw [hel]; rfl, .drop b gr HGR.out (by have := HQ.out; omega), by rw [hel]; exact hP2, hoff, hD1.setMem hk hs1 HSF.out, (hU1.mono fun g hg => .inl hg).setCell (.inl (.inr rfl)) _, fun u hu g hg => .inl ⟨u, (List.eraseIdx_sublist ..).subset hu, hg⟩, .inl (List.mem_of_getElem? HU.out)⟩
end Go.Ev

/- Classes refined until nothing changes: what leaves a class. -/
namespace Go.Ev

theorem left_leaves {G : List Nd} {c c1 : Nat → Nat} {T l m stay : List Nat} {k size : Nat} {out : List (List Nat)} (ht : Touched G c T)
    (hc1 : ∀ x, x < G.length → (c1 x = k ↔ c x = k)) (hl : l.Nodup) (hlT : ∀ x, x ∈ l ↔ x ∈ T ∧ c x = k) (hm : m.Nodup) (hm1 : ∀ x ∈ m, x < G.length) (hm2 : ∀ x, x < G.length → c x = k → x ∈ m)
    (hsz : size = cnt G.length c k) (hL : Left c1 k size m (groupsOf (sgn G c) l) out stay) :
    Leaves G c k out ∧ (stay.Nodup ∧ ∀ x ∈ stay, x < G.length) ∧ (∀ x, x < G.length → c x = k → x ∉ out.flatten → x ∈ stay) ∧ out.flatten.Nodup := by
  have hsum := groupsOf_sum (sgn G c) hl
  have hls : ∀ x ∈ l, x < G.length ∧ c x = k := fun x hx => ⟨ht.lt x ((hlT x).1 hx).1, ((hlT x).1 hx).2⟩
  have hsp := cnt_split hl hls
  rw [← hsz] at hsp
  have hflat : ∀ x, x ∈ (groupsOf (sgn G c) l).flatten ↔ x ∈ l := fun x => groupsOf_flat (sgn G c)
  have hne : ∀ o ∈ groupsOf (sgn G c) l, o ≠ [] := fun o ho => groupsOf_ne _ ho
  have hnd : ∀ o ∈ groupsOf (sgn G c) l, o.Nodup := fun o ho => groupsOf_nodup _ hl ho
  have hsub : ∀ o ∈ groupsOf (sgn G c) l, ∀ x ∈ o, x ∈ l := fun o ho x hx => groupsOf_sub _ ho hx
  have hall : ∀ o ∈ groupsOf (sgn G c) l, ∀ x ∈ o, ∀ y ∈ l, (y ∈ o ↔ sgn G c y = sgn G c x) := fun o ho x hx y hy => groupsOf_all _ ho hx hy
  have hap := groupsOf_apart (sgn G c) l
  have hrest : restOfClass c1 k m (groupsOf (sgn G c) l) = m.filter fun x => c1 x == k && !l.contains x := by
    unfold restOfClass
    refine List.filter_congr fun x _ => ?_
    congr 2
    rw [Bool.eq_iff_iff]
    simp only [List.contains_iff_mem, hflat]
  generalize groupsOf (sgn G c) l = gs at *
  have hR : ∀ x, x ∈ restOfClass c1 k m gs ↔ x < G.length ∧ c x = k ∧ x ∉ l := by
    intro x
    rw [hrest, List.mem_filter]
    simp only [Bool.and_eq_true, beq_iff_eq, Bool.not_eq_true', List.contains_eq_mem, decide_eq_false_iff_not]
    constructor
    · rintro ⟨h1, h2, h3⟩; exact ⟨hm1 x h1, (hc1 x (hm1 x h1)).1 h2, h3⟩
    · rintro ⟨h1, h2, h3⟩; exact ⟨hm2 x h1 h2, (hc1 x h1).2 h2, h3⟩
  have hRn : (restOfClass c1 k m gs).Nodup := List.Pairwise.filter _ hm
  generalize hRe : restOfClass c1 k m gs = R at *
  have hnotT : ∀ x, c x = k → x ∉ l → x ∉ T := fun x h1 h2 h3 => h2 ((hlT x).2 ⟨h3, h1⟩)
  have hcross : ∀ x y, x ∈ l → y < G.length → c y = k → y ∉ l → sgn G c y ≠ sgn G c x := fun x y hx hy hyk hyl e =>
    ht.diff x y (hls x hx).1 hy ((hls x hx).2.trans hyk.symm) ((hlT x).1 hx).1 (hnotT y hyk hyl) e.symm
  have hsame : ∀ x y, x < G.length → y < G.length → c x = k → c y = k → x ∉ l → y ∉ l → sgn G c x = sgn G c y := fun x y hx hy hxk hyk hxl hyl =>
    ht.same x y hx hy (hxk.trans hyk.symm) (hnotT x hxk hxl) (hnotT y hyk hyl)
  have hgsall : ∀ o ∈ gs, ∀ x ∈ o, ∀ y, y < G.length → c y = k → (y ∈ o ↔ sgn G c y = sgn G c x) := by
    intro o ho x hx y hy hyk
    by_cases hyl : y ∈ l
    · exact hall o ho x hx y hyl
    · exact ⟨fun h => absurd (hsub o ho y h) hyl, fun h => absurd h (hcross x y (hsub o ho x hx) hy hyk hyl)⟩
  have hRex : ∀ {n : Nat}, n + l.length ≤ size → 0 < n → ∃ z, z < G.length ∧ c z = k ∧ z ∉ l := by
    intro n h1 h2
    have : 0 < ((List.range G.length).filter fun x => c x == k && !l.contains x).length := by omega
    obtain ⟨z, hz⟩ := List.exists_mem_of_length_pos this
    simp only [List.mem_filter, List.mem_range, Bool.and_eq_true, beq_iff_eq, Bool.not_eq_true', List.contains_eq_mem, decide_eq_false_iff_not] at hz
    exact ⟨z, hz.1, hz.2.1, hz.2.2⟩
  cases hL with
  | all b g hb h =>
    have hg := List.mem_of_getElem? hb
    have hgl : 0 < g.length := List.length_pos_iff.2 (hne g hg)
    obtain ⟨z, hz1, hz2, hz3⟩ := hRex (n := g.length) (by omega) hgl
    refine ⟨⟨hne, hnd, fun o ho x hx => hls x (hsub o ho x hx), hgsall, hap, ⟨z, hz1, hz2, fun o ho hzo => hz3 (hsub o ho z hzo)⟩, ?_⟩, ⟨hm, hm1⟩, fun x hx hxk _ => hm2 x hx hxk, ?_⟩
    · intro x y hx hy hxk hyk hxo hyo
      refine hsame x y hx hy hxk hyk (fun h => ?_) (fun h => ?_)
      · obtain ⟨o, ho, hxo'⟩ := List.mem_flatten.1 ((hflat x).2 h); exact hxo o ho hxo'
      · obtain ⟨o, ho, hxo'⟩ := List.mem_flatten.1 ((hflat y).2 h); exact hyo o ho hxo'
    · exact nodup_flat hnd hap
  | swap b _ hb h =>
    rw [hRe]
    have hg := List.mem_of_getElem? hb
    obtain ⟨hbl, hbe⟩ := List.getElem?_eq_some_iff.1 hb
    obtain ⟨z, hz1, hz2, hz3⟩ := hRex (n := 1) (by omega) (by omega)
    have hmem : ∀ o, o ∈ gs.set b R → (o ∈ gs ∧ ∃ j, j ≠ b ∧ gs[j]? = some o) ∨ o = R := by
      intro o ho
      obtain ⟨j, hj⟩ := List.getElem?_of_mem ho
      rw [List.getElem?_set] at hj
      by_cases hbj : b = j
      · rw [if_pos hbj, if_pos hbl] at hj
        right
        exact (Option.some.inj hj).symm
      · rw [if_neg hbj] at hj
        exact .inl ⟨List.mem_of_getElem? hj, j, fun e => hbj e.symm, hj⟩
    have hRin : R ∈ gs.set b R := List.mem_set hbl R
    have hjin : ∀ j o, j ≠ b → gs[j]? = some o → o ∈ gs.set b R := fun j o hj ho => List.mem_of_getElem? (i := j) (by rw [List.getElem?_set, if_neg (Ne.symm hj), ho])
    have hnotg : ∀ j o x, j ≠ b → gs[j]? = some o → x ∈ stay → x ∉ o := fun j o x hj ho hx hxo => hj (apart_index hap ho hb hxo hx)
    have hap' : (gs.set b R).Pairwise (fun o o' => ∀ x ∈ o, x ∉ o') := by
      rw [List.pairwise_iff_getElem]
      intro i j hi hj hij x hx hx'
      rw [List.length_set] at hi hj
      rw [List.getElem_set] at hx hx'
      split at hx
      · rename_i e
        subst e
        rw [if_neg (by omega)] at hx'
        exact ((hR x).1 hx).2.2 (hsub _ (List.getElem_mem _) x hx')
      · split at hx'
        · exact ((hR x).1 hx').2.2 (hsub _ (List.getElem_mem _) x hx)
        · exact List.pairwise_iff_getElem.1 hap i j hi hj hij x hx hx'
    have hnd' : ∀ o ∈ gs.set b R, o.Nodup := fun o ho => by
      rcases hmem o ho with ⟨h1, _⟩ | rfl
      · exact hnd o h1
      · exact hRn
    obtain ⟨y0, hy0⟩ := List.exists_mem_of_ne_nil _ (hne _ hg)
    refine ⟨⟨fun o ho => ?_, hnd', fun o ho x hx => ?_, fun o ho x hx y hy hyk => ?_, hap', ⟨y0, (hls y0 (hsub _ hg y0 hy0)).1, (hls y0 (hsub _ hg y0 hy0)).2, fun o ho hyo => ?_⟩, ?_⟩, ⟨hnd _ hg, fun x hx => (hls x (hsub _ hg x hx)).1⟩, ?_, nodup_flat hnd' hap'⟩
    · rcases hmem o ho with ⟨h1, _⟩ | rfl
      · exact hne o h1
      · exact List.ne_nil_of_mem ((hR z).2 ⟨hz1, hz2, hz3⟩)
    · rcases hmem o ho with ⟨h1, _⟩ | rfl
      · exact hls x (hsub o h1 x hx)
      · exact ⟨((hR x).1 hx).1, ((hR x).1 hx).2.1⟩
    · rcases hmem o ho with ⟨h1, _⟩ | rfl
      · exact hgsall o h1 x hx y hy hyk
      · obtain ⟨hx1, hx2, hx3⟩ := (hR x).1 hx
        constructor
        · intro h
          obtain ⟨hy1, hy2, hy3⟩ := (hR y).1 h
          exact hsame y x hy1 hx1 hy2 hx2 hy3 hx3
        · intro h
          refine (hR y).2 ⟨hy, hyk, fun hyl => ?_⟩
          exact hcross y x hyl hx1 hx2 hx3 h.symm
    · rcases hmem o ho with ⟨h1, j, hj, hjo⟩ | rfl
      · exact hnotg j o y0 hj hjo hy0 hyo
      · exact ((hR y0).1 hyo).2.2 (hsub _ hg y0 hy0)
    · intro x y hx hy hxk hyk hxo hyo
      have ing : ∀ x, x < G.length → c x = k → (∀ o ∈ gs.set b R, x ∉ o) → x ∈ stay := by
        intro x hx hxk hxo
        have hxl : x ∈ l := Classical.byContradiction fun h => hxo R hRin ((hR x).2 ⟨hx, hxk, h⟩)
        obtain ⟨o, ho, hxo'⟩ := List.mem_flatten.1 ((hflat x).2 hxl)
        obtain ⟨j, hj⟩ := List.getElem?_of_mem ho
        by_cases hjb : j = b
        · subst hjb; rw [hb] at hj; cases hj; exact hxo'
        · exact absurd hxo' (hxo o (hjin j o hjb hj))
      exact (hgsall _ hg y (ing y hy hyk hyo) x hx hxk).1 (ing x hx hxk hxo)
    · intro x hx hxk hxf
      have hxo : ∀ o ∈ gs.set b R, x ∉ o := fun o ho h => hxf (List.mem_flatten.2 ⟨o, ho, h⟩)
      have hxl : x ∈ l := Classical.byContradiction fun h => hxo R hRin ((hR x).2 ⟨hx, hxk, h⟩)
      obtain ⟨o, ho, hxo'⟩ := List.mem_flatten.1 ((hflat x).2 hxl)
      obtain ⟨j, hj⟩ := List.getElem?_of_mem ho
      by_cases hjb : j = b
      · subst hjb; rw [hb] at hj; cases hj; exact hxo'
      · exact absurd hxo' (hxo o (hjin j o hjb hj))
  | drop b _ hb h =>
    have hg := List.mem_of_getElem? hb
    have hin : ∀ x, x < G.length → c x = k → x ∈ l := by
      intro x hx hxk
      refine Classical.byContradiction fun hxl => ?_
      have : 0 < ((List.range G.length).filter fun x => c x == k && !l.contains x).length := List.length_pos_of_mem (a := x) (by
        simp only [List.mem_filter, List.mem_range, Bool.and_eq_true, beq_iff_eq, Bool.not_eq_true', List.contains_eq_mem, decide_eq_false_iff_not]
        exact ⟨hx, hxk, hxl⟩)
      omega
    have hsl : (gs.eraseIdx b).Sublist gs := List.eraseIdx_sublist ..
    have hmem : ∀ o, o ∈ gs.eraseIdx b → o ∈ gs := fun o ho => hsl.subset ho
    have hmemi : ∀ o, o ∈ gs.eraseIdx b → ∃ j, j ≠ b ∧ gs[j]? = some o := fun o ho => by
      obtain ⟨j, hj, hjo⟩ := List.mem_eraseIdx_iff_getElem?.1 ho
      exact ⟨j, hj, hjo⟩
    have hjin : ∀ j o, j ≠ b → gs[j]? = some o → o ∈ gs.eraseIdx b := fun j o hj ho => List.mem_eraseIdx_iff_getElem?.2 ⟨j, hj, ho⟩
    have hnd' : ∀ o ∈ gs.eraseIdx b, o.Nodup := fun o ho => hnd o (hmem o ho)
    have hap' := hap.sublist hsl
    have ing : ∀ x, x < G.length → c x = k → (∀ o ∈ gs.eraseIdx b, x ∉ o) → x ∈ stay := by
      intro x hx hxk hxo
      obtain ⟨o, ho, hxo'⟩ := List.mem_flatten.1 ((hflat x).2 (hin x hx hxk))
      obtain ⟨j, hj⟩ := List.getElem?_of_mem ho
      by_cases hjb : j = b
      · subst hjb; rw [hb] at hj; cases hj; exact hxo'
      · exact absurd hxo' (hxo o (hjin j o hjb hj))
    obtain ⟨y0, hy0⟩ := List.exists_mem_of_ne_nil _ (hne _ hg)
    refine ⟨⟨fun o ho => hne o (hmem o ho), hnd', fun o ho x hx => hls x (hsub o (hmem o ho) x hx), fun o ho x hx y hy hyk => hgsall o (hmem o ho) x hx y hy hyk, hap',
      ⟨y0, (hls y0 (hsub _ hg y0 hy0)).1, (hls y0 (hsub _ hg y0 hy0)).2, fun o ho hyo => ?_⟩, ?_⟩, ⟨hnd _ hg, fun x hx => (hls x (hsub _ hg x hx)).1⟩, ?_, nodup_flat hnd' hap'⟩
    · obtain ⟨j, hj, hjo⟩ := hmemi o ho
      exact hj (apart_index hap hjo hb hyo hy0)
    · intro x y hx hy hxk hyk hxo hyo
      exact (hgsall _ hg y (ing y hy hyk hyo) x hx hxk).1 (ing x hx hxk hxo)
    · intro x hx hxk hxf
      exact ing x hx hxk fun o ho h => hxf (List.mem_flatten.2 ⟨o, ho, h⟩)
end Go.Ev

/- Classes refined until nothing changes: class after class. -/
namespace Go.Ev

/-- What has left the classes that were divided so far. -/
structure Run (G : List Nd) (c : Nat → Nat) (K : Nat) (oss : List (Nat × List (List Nat))) : Prop where
  leaves : ∀ p ∈ oss, Leaves G c p.1 p.2
  keys : (oss.map (·.1)).Nodup
  lt : ∀ p ∈ oss, p.1 < K

theorem Run.in_ {G : List Nd} {c : Nat → Nat} {K : Nat} {oss : List (Nat × List (List Nat))} (h : Run G c K oss) {x : Nat} (hx : x ∈ (oss.flatMap (·.2)).flatten) : c x ∈ oss.map (·.1) ∧ x < G.length := by
  obtain ⟨o, ho, hxo⟩ := List.mem_flatten.1 hx
  obtain ⟨p, hp, hop⟩ := List.mem_flatMap.1 ho
  obtain ⟨h1, h2⟩ := (h.leaves p hp).cls o hop x hxo
  exact ⟨by rw [h2]; exact List.mem_map.2 ⟨p, hp, rfl⟩, h1⟩

theorem Run.same {G : List Nd} {c : Nat → Nat} {K : Nat} {oss : List (Nat × List (List Nat))} (h : Run G c K oss) {k : Nat} (hk : k < K) (hn : k ∉ oss.map (·.1)) (x : Nat) : moveAll c K (oss.flatMap (·.2)) x = k ↔ c x = k := by
  by_cases hx : x ∈ (oss.flatMap (·.2)).flatten
  · obtain ⟨i, o, _, _, h3⟩ := moveAll_in (c := c) (K := K) hx
    rw [h3]
    constructor
    · intro e; omega
    · intro e; exact absurd (h.in_ hx).1 (by rw [e]; exact hn)
  · rw [moveAll_out hx]

theorem cnt_congr {n k : Nat} {c c' : Nat → Nat} (h : ∀ x, c' x = k ↔ c x = k) : cnt n c' k = cnt n c k := by
  unfold cnt
  congr 1
  refine List.filter_congr fun x _ => ?_
  rw [Bool.eq_iff_iff]
  simp [h x]

/-- One class more. -/
theorem Run.leaving {G : List Nd} {c : Nat → Nat} {K : Nat} {oss : List (Nat × List (List Nat))} (h : Run G c K oss) {T l m stay sizes : List Nat} {k size Ki : Nat} {mem out : List (List Nat)} (ht : Touched G c T) (hk : k < K) (hn : k ∉ oss.map (·.1)) (hl : l.Nodup)
    (hlT : ∀ x, x ∈ l ↔ x ∈ T ∧ c x = k) (hKi : K ≤ Ki) (hkept : Kept G.length (moveAll c K (oss.flatMap (·.2))) Ki sizes mem []) (hm : mem[k]? = some m) (hs : sizes[k]? = some size)
    (hL : Left (moveAll c K (oss.flatMap (·.2))) k size m (groupsOf (sgn G c) l) out stay) :
    Run G c K (oss ++ [(k, out)]) ∧ Kept G.length (moveAll c K (oss.flatMap (·.2))) Ki sizes (mem.set k stay) out.flatten ∧ out.flatten.Nodup ∧ (∀ x ∈ out.flatten, x < G.length ∧ c x = k ∧ x ∉ (oss.flatMap (·.2)).flatten) := by
  have hsame := h.same hk hn
  have hkm : k < mem.length := by rw [hkept.ml]; omega
  have hmm := hkept.nodup m (List.mem_of_getElem? hm)
  obtain ⟨h1, h2, h3, h4⟩ := left_leaves (G := G) (c := c) (c1 := moveAll c K (oss.flatMap (·.2))) ht (fun x _ => hsame x) hl hlT hmm.1 hmm.2 (fun x hx hxk => by
      have := hkept.all x hx (by simp)
      rw [(hsame x).2 hxk, List.getD_eq_getElem?_getD, hm] at this
      exact this) (by
      have := hkept.size k (by omega)
      rw [List.getD_eq_getElem?_getD, hs] at this
      rw [← cnt_congr hsame, ← this]; rfl) hL
  have hin : ∀ x ∈ out.flatten, x < G.length ∧ c x = k ∧ x ∉ (oss.flatMap (·.2)).flatten := fun x hx => by
    obtain ⟨o, ho, hxo⟩ := List.mem_flatten.1 hx
    obtain ⟨h5, h6⟩ := h1.cls o ho x hxo
    exact ⟨h5, h6, fun h7 => hn (by rw [← h6]; exact (h.in_ h7).1)⟩
  refine ⟨⟨fun p hp => ?_, ?_, fun p hp => ?_⟩, ⟨hkept.lt, hkept.sl, by rw [List.length_set, hkept.ml], hkept.size, fun m' hm' => ?_, fun x hx hxo => ?_⟩, h4, hin⟩
  · rcases List.mem_append.1 hp with hp | hp
    · exact h.leaves p hp
    · simp at hp; subst hp; exact h1
  · rw [List.map_append, List.nodup_append]
    refine ⟨h.keys, by simp, ?_⟩
    intro a ha b hb e
    simp at hb
    subst hb; subst e
    exact hn ha
  · rcases List.mem_append.1 hp with hp | hp
    · exact h.lt p hp
    · simp at hp; subst hp; exact hk
  · rcases List.mem_or_eq_of_mem_set hm' with hm' | rfl
    · exact hkept.nodup m' hm'
    · exact h2
  · rw [List.getD_eq_getElem?_getD, List.getElem?_set]
    by_cases hxk : k = moveAll c K (oss.flatMap (·.2)) x
    · rw [if_pos hxk, if_pos hkm]
      exact h3 x hx ((hsame x).1 hxk.symm) hxo
    · rw [if_neg hxk, ← List.getD_eq_getElem?_getD]
      exact hkept.all x hx (by simp)

theorem moveAll_put {c : Nat → Nat} {K : Nat} {outs : List (List Nat)} {g : List Nat} (h : ∀ x ∈ g, x ∉ outs.flatten) : (fun x => if x ∈ g then K + outs.length else moveAll c K outs x) = moveAll c K (outs ++ [g]) := by
  funext x
  by_cases hx : x ∈ g
  · simp only [hx, if_true]; rw [moveAll_snoc_in (h x hx) hx]
  · simp only [hx, if_false]; rw [moveAll_snoc_out hx]

theorem drop_flat {out : List (List Nat)} {q : Nat} {g : List Nat} (h : out[q]? = some g) : (out.drop q).flatten = g ++ (out.drop (q + 1)).flatten := by
  obtain ⟨hq, rfl⟩ := List.getElem?_eq_some_iff.1 h
  rw [List.drop_eq_getElem_cons hq, List.flatten_cons]
end Go.Ev

/- The program's division of nodes into classes: the parts of all classes in memory. -/
namespace Go.Ev
open Go.Proofs Go.RowKit

/-- A block of these rows. -/
def InG (v : Value) (us : List Value) (g : Nat) : Prop := v.ownBlock = some g ∨ ∃ u ∈ us, u.ownBlock = some g

theorem OwnG.inLt {B : Nat} {w : World} {v : Value} {ls : List (List Nat)} {us : List Value} (h : OwnG B w v ls us) {g : Nat} (hg : InG v us g) : B ≤ g ∧ g < w.heap.size := by
  rcases hg with hg | ⟨u, hu, hg⟩
  · exact h.own.lt hg
  · exact h.lt hu hg
theorem OwnG.upd {B : Nat} {w w' : World} {v : Value} {ls : List (List Nat)} {us : List Value} (h : OwnG B w v ls us) {S : Nat → Prop} (hu : Upd S w w') (hS : ∀ g, InG v us g → ¬ S g) : OwnG B w' v ls us :=
  ⟨h.own.upd hu fun g hg => hS g (.inl hg), fun j l u hj hu' => (h.rows j l u hj hu').upd hu fun g hg => hS g (.inr ⟨u, List.mem_of_getElem? hu', hg⟩), h.off, h.apart⟩
theorem OwnG.mono {B B' : Nat} {w : World} {v : Value} {ls : List (List Nat)} {us : List Value} (h : OwnG B w v ls us) (hB : B' ≤ B) : OwnG B' w v ls us :=
  ⟨h.own.mono hB, fun j l u hj hu => (h.rows j l u hj hu).mono hB, h.off, h.apart⟩

/-- The parts of some classes. -/
structure PartsR (lo : Nat) (w : World) (pv : List Value) (gss : List (List (List Nat))) (uss : List (List Value)) : Prop where
  l1 : pv.length = gss.length
  l2 : uss.length = gss.length
  own : ∀ (i : Nat) (v : Value) (gs : List (List Nat)) (us : List Value), pv[i]? = some v → gss[i]? = some gs → uss[i]? = some us → OwnG lo w v gs us
  apart : ∀ (i j : Nat) (v v' : Value) (us us' : List Value), i < j → pv[i]? = some v → uss[i]? = some us → pv[j]? = some v' → uss[j]? = some us' → ∀ g, InG v us g → ¬ InG v' us' g

section
variable {lo : Nat} {w w' : World} {pv : List Value} {gss : List (List (List Nat))} {uss : List (List Value)}
theorem PartsR.nil : PartsR lo w [] [] [] := ⟨rfl, rfl, fun i v gs us h => by simp at h, fun i j v v' us us' _ h => by simp at h⟩
theorem PartsR.get (h : PartsR lo w pv gss uss) {i : Nat} {gs : List (List Nat)} (hi : gss[i]? = some gs) : ∃ v us, pv[i]? = some v ∧ uss[i]? = some us ∧ OwnG lo w v gs us := by
  have hl := (List.getElem?_eq_some_iff.1 hi).1
  have h1 : pv[i]? = some (pv[i]'(by rw [h.l1]; exact hl)) := by simp [h.l1, hl]
  have h2 : uss[i]? = some (uss[i]'(by rw [h.l2]; exact hl)) := by simp [h.l2, hl]
  exact ⟨_, _, h1, h2, h.own i _ gs _ h1 hi h2⟩
theorem PartsR.ex (h : PartsR lo w pv gss uss) {i : Nat} {v : Value} {us : List Value} (hv : pv[i]? = some v) (hu : uss[i]? = some us) : ∃ gs, gss[i]? = some gs ∧ OwnG lo w v gs us := by
  have hl := (List.getElem?_eq_some_iff.1 hv).1
  have h3 : gss[i]? = some (gss[i]'(by rw [← h.l1]; exact hl)) := by simp [← h.l1, hl]
  exact ⟨_, h3, h.own i v _ us hv h3 hu⟩
theorem PartsR.kp (h : PartsR lo w pv gss uss) (hk : Kp w.heap.size w w') : PartsR lo w' pv gss uss :=
  ⟨h.l1, h.l2, fun i v gs us hv hg hu => (h.own i v gs us hv hg hu).kp hk, h.apart⟩
theorem PartsR.upd (h : PartsR lo w pv gss uss) {S : Nat → Prop} (hu : Upd S w w') (hS : ∀ (i : Nat) (v : Value) (us : List Value), pv[i]? = some v → uss[i]? = some us → ∀ g, InG v us g → ¬ S g) : PartsR lo w' pv gss uss :=
  ⟨h.l1, h.l2, fun i v gs us hv hg hus => (h.own i v gs us hv hg hus).upd hu (hS i v us hv hus), h.apart⟩
/-- New parts. -/
theorem PartsR.snoc (h : PartsR lo w pv gss uss) (hk : Kp w.heap.size w w') (hlo : lo ≤ w.heap.size) {v : Value} {gs : List (List Nat)} {us : List Value} (hg : OwnG w.heap.size w' v gs us) : PartsR lo w' (pv ++ [v]) (gss ++ [gs]) (uss ++ [us]) := by
  have h' := h.kp hk
  have e1 := h.l1
  have e2 := h.l2
  refine ⟨by simp [e1], by simp [e2], fun i v' gs' us' hv hgs hus => ?_, fun i j v1 v2 us1 us2 hij h1 h2 h3 h4 g hg1 => ?_⟩
  · rcases Nat.lt_or_ge i gss.length with hl | hl
    · rw [List.getElem?_append_left (by omega)] at hv hgs hus
      exact h'.own i v' gs' us' hv hgs hus
    · rw [List.getElem?_append_right (by omega)] at hv hgs hus
      have e0 : i - gss.length = 0 := by have := (List.getElem?_eq_some_iff.1 hgs).1; simp at this; omega
      rw [e1, e0] at hv
      rw [e2, e0] at hus
      rw [e0] at hgs
      simp only [List.getElem?_cons_zero, Option.some.injEq] at hv hgs hus
      subst hv hgs hus
      exact hg.mono hlo
  · have hjl : j ≤ gss.length := by
      have := (List.getElem?_eq_some_iff.1 h3).1
      simp at this; omega
    rw [List.getElem?_append_left (by omega)] at h1 h2
    rcases Nat.lt_or_ge j gss.length with hl | hl
    · rw [List.getElem?_append_left (by omega)] at h3 h4
      exact h.apart i j v1 v2 us1 us2 hij h1 h2 h3 h4 g hg1
    · rw [List.getElem?_append_right (by omega)] at h3 h4
      have e0 : j - gss.length = 0 := by omega
      rw [e1, e0] at h3
      rw [e2, e0] at h4
      simp only [List.getElem?_cons_zero, Option.some.injEq] at h3 h4
      subst h3 h4
      obtain ⟨gs1, _, ho⟩ := h.ex h1 h2
      have := (ho.inLt hg1).2
      intro e
      have := (hg.inLt e).1
      omega
end
end Go.Ev

/- The program's division of nodes into classes: what is kept apart while classes are divided. -/
namespace Go.Ev
open Go.Proofs Go.RowKit

theorem sigV_inj {l m : List Nat} (hl : l.length = m.length) (h8 : l.length ≤ 8) (h : sigV l = sigV m) : l = m := by
  have h1 : sigI l = sigI m := by
    unfold sigV at h
    have h2 : ((sigI l).map (Value.int .i64)) = ((sigI m).map (Value.int .i64)) := by injection h with h; simpa using congrArg Array.toList h
    exact List.map_inj_right (fun a b hab => by injection hab) |>.1 h2
  apply List.ext_getElem hl
  intro i hi hi'
  have h3 : (sigI l)[i]? = (sigI m)[i]? := by rw [h1]
  unfold sigI at h3
  rw [List.getElem?_map, List.getElem?_map, List.getElem?_range (by omega)] at h3
  simp only [Option.map_some, Option.some.injEq, List.getD_eq_getElem?_getD, List.getElem?_eq_getElem hi, List.getElem?_eq_getElem hi', Option.getD_some] at h3
  omega

theorem reps_of {α β : Type} [DecidableEq α] [DecidableEq β] {κ : Nat → α} {κ' : Nat → β} (l : List Nat) : (∀ x ∈ l, ∀ y ∈ l, (κ x = κ y ↔ κ' x = κ' y)) → ∃ reps : List Nat, (∀ r ∈ reps, r ∈ l) ∧ keysOf κ l = reps.map κ ∧ keysOf κ' l = reps.map κ' := by
  induction l using snocInd with
  | h0 => intro _; exact ⟨[], by simp, rfl, rfl⟩
  | h1 l x ih =>
    intro h
    obtain ⟨reps, h1, h2, h3⟩ := ih fun y hy z hz => h y (by simp [hy]) z (by simp [hz])
    have key : κ x ∈ keysOf κ l ↔ κ' x ∈ keysOf κ' l := by
      rw [keysOf_mem, keysOf_mem]
      constructor
      · rintro ⟨y, hy, e⟩; exact ⟨y, hy, (h y (by simp [hy]) x (by simp)).1 e⟩
      · rintro ⟨y, hy, e⟩; exact ⟨y, hy, (h y (by simp [hy]) x (by simp)).2 e⟩
    by_cases hx : κ x ∈ keysOf κ l
    · refine ⟨reps, fun r hr => by simp [h1 r hr], ?_, ?_⟩
      · rw [keysOf_snoc, if_pos hx, h2]
      · rw [keysOf_snoc, if_pos (key.1 hx), h3]
    · refine ⟨reps ++ [x], fun r hr => ?_, ?_, ?_⟩
      · rcases List.mem_append.1 hr with hr | hr
        · simp [h1 r hr]
        · simp at hr; simp [hr]
      · rw [keysOf_snoc, if_neg hx, h2]; simp
      · rw [keysOf_snoc, if_neg (fun h => hx (key.2 h)), h3]; simp

/-- Groups hang on which keys are equal. -/
theorem groupsOf_congr {α β : Type} [DecidableEq α] [DecidableEq β] {κ : Nat → α} {κ' : Nat → β} {l : List Nat} (h : ∀ x ∈ l, ∀ y ∈ l, (κ x = κ y ↔ κ' x = κ' y)) : groupsOf κ l = groupsOf κ' l := by
  obtain ⟨reps, h1, h2, h3⟩ := reps_of l h
  unfold groupsOf
  rw [h2, h3, List.map_map, List.map_map]
  refine List.map_congr_left fun r hr => ?_
  refine List.filter_congr fun x hx => ?_
  rw [decide_eq_decide]
  exact h x hx r (h1 r hr)

theorem sign_groups {G : List Nd} (hG : GClosed G) {c : Nat → Nat} {K : Nat} (h : Dv G c K) {l : List Nat} {k : Nat} (hl : ∀ x ∈ l, x < G.length ∧ c x = k) : groupsOf (signK G c) l = groupsOf (sgn G c) l := by
  refine groupsOf_congr fun x hx y hy => ?_
  obtain ⟨x1, x2⟩ := hl x hx
  obtain ⟨y1, y2⟩ := hl y hy
  have hf := h.face x y x1 y1 (x2.trans y2.symm)
  have hlen : (argsAt G x).length = (argsAt G y).length := by
    obtain ⟨f, hfx⟩ : ∃ f, faceOf G x = some f := ⟨_, by unfold faceOf; rw [List.getElem?_eq_getElem x1]; rfl⟩
    rw [args_len hfx, args_len (hf ▸ hfx)]
  unfold signK
  constructor
  · intro e; exact sigV_inj (by simpa [sgn] using hlen) (by simpa [sgn] using argsAt_le hG x) e
  · intro e; rw [e]

/-- Blocks of rows that are still to be read: they stay, and nothing that is written is in them. -/
structure Far (F : Nat → Prop) (wp w : World) (d cb : Nat) (sv mv v8 : Value) (us : List Value) : Prop where
  keep : ∀ g, F g → w.heap[g]? = wp.heap[g]?
  lt : ∀ g, F g → g < wp.heap.size
  off : ∀ g, F g → ¬ Wr d cb sv mv g
  v8 : ∀ g, F g → v8.ownBlock ≠ some g
  us : ∀ g, F g → ∀ u ∈ us, u.ownBlock ≠ some g
  size : wp.heap.size ≤ w.heap.size

theorem Far.sub {F F' : Nat → Prop} {wp w : World} {d cb : Nat} {sv mv v8 : Value} {us : List Value} (h : Far F wp w d cb sv mv v8 us) (hs : ∀ g, F' g → F g) : Far F' wp w d cb sv mv v8 us :=
  ⟨fun g hg => h.keep g (hs g hg), fun g hg => h.lt g (hs g hg), fun g hg => h.off g (hs g hg), fun g hg => h.v8 g (hs g hg), fun g hg => h.us g (hs g hg), h.size⟩
/-- After a change of other blocks; what is written then is what was, or new. -/
theorem Far.step {F S : Nat → Prop} {wp w w' : World} {d cb : Nat} {sv mv v8 sv' mv' v8' : Value} {us us' : List Value} (h : Far F wp w d cb sv mv v8 us) (hu : Upd S w w') (hS : ∀ g, F g → ¬ S g)
    (hw : ∀ b, Wr d cb sv' mv' b → Wr d cb sv mv b ∨ w.heap.size ≤ b) (h8 : v8'.ownBlock = v8.ownBlock ∨ ∃ g, v8'.ownBlock = some g ∧ w.heap.size ≤ g) (hus : ∀ u ∈ us', u ∈ us ∨ ∀ g, F g → u.ownBlock ≠ some g) : Far F wp w' d cb sv' mv' v8' us' where
  keep g hg := (hu.block g (Nat.lt_of_lt_of_le (h.lt g hg) h.size) (hS g hg)).trans (h.keep g hg)
  lt := h.lt
  off g hg hW := (hw g hW).elim (h.off g hg) fun e => by have := h.lt g hg; have := h.size; omega
  v8 g hg := by
    rcases h8 with e | ⟨g', e, hg'⟩
    · rw [e]; exact h.v8 g hg
    · rw [e]; intro e'; have := Option.some.inj e'; have := h.lt g hg; have := h.size; omega
  us g hg u hu' := (hus u hu').elim (fun e => h.us g hg u e) fun e => e g hg
  size := Nat.le_trans h.size hu.size
end Go.Ev
