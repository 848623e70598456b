import Derived.Test.YtbjcopckkgdmgaaGreatDoorN7
import Derived.Deep.DeepCutAuto
import Derived.RegionTactic
import Derived.BigRegion
/- The program's division of nodes into classes: the tuples above nodes. -/
namespace Go.Ev
open Go.Proofs Go.RowKit Go.Lib
set_option maxRecDepth 100000

/-- The tuples above some nodes, as often as they are above them. -/
def aboveL (abv : List (List Nat)) (m : List Nat) : List Nat := m.flatMap fun a => abv.getD a []

theorem aboveL_snoc (abv : List (List Nat)) {m : List Nat} {k x : Nat} (h : m[k]? = some x) : aboveL abv (m.take (k + 1)) = aboveL abv (m.take k) ++ abv.getD x [] := by
  unfold aboveL; rw [takeSnoc h, List.flatMap_append]; simp

abbrev idN (x : Nat) : Nat := x

/-- What holds while tuples are collected. -/
structure TSt (W : World) (L : List Nat) (v5 : Value) (wr : World) : Prop where
  own : Own W.heap.size 1 wr v5 (keysOf idN L).length (intsV (keysOf idN L))
  ne : v5.ownBlock ≠ some W.heap.size
  map : ∃ f, MapV Tryz.prog 3 4 wr W.heap.size (keysOf idN L).length f ∧ SetF L f
  kp : Kp W.heap.size W wr

theorem SetF.same {L : List Nat} {f : Value → Option Lit} (h : SetF L f) {t : Nat} (ht : t ∈ L) : SetF (L ++ [t]) f := by
  intro x
  rw [h x]
  have : (L ++ [t]).contains x = L.contains x := by
    rw [Bool.eq_iff_iff]
    simp only [List.contains_iff_mem, List.mem_append, List.mem_singleton]
    exact ⟨fun h => h.elim id fun e => e ▸ ht, .inl⟩
  rw [this]

def AbovePost (_N : Nat) (abv : List (List Nat)) (m : List Nat) (W : World) (e : Ending) (w' : World) : Prop :=
  ∃ v, e = .returned v ∧ Own W.heap.size 1 w' v (keysOf idN (aboveL abv m)).length (intsV (keysOf idN (aboveL abv m))) ∧ Kp W.heap.size W w'

set_option maxHeartbeats 16000000 in
theorem above_ok (d N ab ao acap mc : Nat) (ma : Option Addr) (abv : List (List Nat)) (avs : List Value) (m : List Nat) (W : World) (hN : N ≤ 100000) (_hac : N ≤ acap) (hl : abv.length = N) (hrow : ∀ r ∈ abv, r.length ≤ 1000000 ∧ ∀ t ∈ r, t < N)
    (hm : ∀ x ∈ m, x < N) (hml : m.length ≤ 200000) (hd : W.cell? ⟨d, 1, none⟩ = some (.slice (some ⟨ab, ao, none⟩) N acap)) (hr : RowsR W ab ao abv avs) (hmo : Own 0 1 W (.slice ma m.length mc) m.length (intsV m)) :
    Calls Tryz.prog 90 #[.pointer (some ⟨d, 0, none⟩), .slice ma m.length mc] W (AbovePost N abv m W) := by
  have hKN : ∀ L : List Nat, (∀ x ∈ L, x < N) → (keysOf idN L).length ≤ N := fun L hL => nodup_le _ _ (keysOf_nodup idN L) fun x hx => by
    obtain ⟨y, hy, rfl⟩ := (keysOf_mem idN L x).1 hx
    exact hL y hy
  have hAL : ∀ k, ∀ x ∈ aboveL abv (m.take k), x < N := fun k x hx => by
    obtain ⟨a, ha, hxa⟩ := List.mem_flatMap.1 hx
    rw [List.getD_eq_getElem?_getD] at hxa
    cases e : abv[a]? with
    | none => rw [e] at hxa; simp at hxa
    | some r => rw [e] at hxa; exact (hrow r (List.mem_of_getElem? e)).2 x hxa
  have HROW := Lib.hid hrow
  have HM := Lib.hid hm
  have HR := Lib.hid hr
  have HMO := Lib.hid hmo
  have HKN := Lib.hid hKN
  have HAL := Lib.hid hAL
  have hmm := @run_makeMap Tryz.prog
  obtain ⟨i3, hj0, hy0, hy1, hy2⟩ := info_parts Tryz.info3
  have HLN := Lib.hid hl
  clear hrow hm hr hmo hKN hAL hl
  go_enter Tryz.func90, Tryz.ntmps90
  go_wp2
  have H0 := Lib.hid (show TSt W [] (.slice none 0 0) (W.alloc (.map #[] 0)) from ⟨⟨rfl, .inl ⟨rfl, rfl⟩⟩, by simp [Value.ownBlock], ⟨_, MapV.made _ _ _ _, SetF.nil⟩, (Kp.refl _ _).alloc (Nat.le_refl _) _⟩)
  go_loopw [5, 14] (fun v5 i wr => ∃ k : Nat, k ≤ m.length ∧ i = .int .i64 k ∧ TSt W (aboveL abv (m.take k)) v5 wr) (fun _ i _ => m.length - (RowKit.intOf i).toNat)
  case atStart => exact ⟨0, Nat.zero_le _, rfl, by simpa [aboveL] using H0.out⟩
  case round =>
    obtain ⟨k, hk, rfl, hst⟩ := hrel
    clear H0
    obtain ⟨va, vc, e5⟩ := own_form hst.own
    by_cases hlt : k < m.length
    · obtain ⟨x, hx⟩ : ∃ x, m[k]? = some x := ⟨_, List.getElem?_eq_getElem hlt⟩
      obtain ⟨mb, mo, mc', em, hms⟩ := HMO.out.seg (by omega)
      cases em
      have hxN := HM.out x (List.mem_of_getElem? hx)
      have hmf := hms.fit
      have hkp := hst.kp
      have hcx := hkp.cells (hms.cell (j := k) (u := .int .i64 (x : Int)) (by simp [intsV, hx]))
      have hd' := hkp.cells hd
      obtain ⟨r, hrr⟩ : ∃ r, abv[x]? = some r := ⟨_, List.getElem?_eq_getElem (by have := HLN.out; omega)⟩
      obtain ⟨u, hu, hcu, huo⟩ := HR.out.row hrr
      obtain ⟨ua, uc, eu⟩ := own_form huo
      subst eu
      have hcu' := hkp.cells hcu
      obtain ⟨hrl, hrN⟩ := HROW.out r (List.mem_of_getElem? hrr)
      have hal := aboveL_snoc abv hx
      rw [List.getD_eq_getElem?_getD, hrr] at hal
      have HA := Lib.hid (show aboveL abv (m.take (k + 1)) = aboveL abv (m.take k) ++ r from hal)
      have HUO := Lib.hid huo
      have HRN := Lib.hid hrN
      have HST := Lib.hid hst
      have HAK := Lib.hid (HAL.out k)
      clear hal huo hu hcu hrr hst hx hms hkp
      generalize aboveL abv (m.take k) = L at *
      obtain ⟨n5, hn5⟩ : ∃ n, n = (keysOf idN L).length := ⟨_, rfl⟩
      rw [← hn5] at e5
      have HN5 := Lib.hid hn5
      clear hn5
      subst e5
      obtain ⟨wo, rfl⟩ : ∃ wo : World, wo = wr := ⟨_, rfl⟩
      go_wp2
      go_loopw [5, 26] (fun v5 i wi => ∃ q : Nat, q ≤ r.length ∧ i = .int .i64 q ∧ TSt W (L ++ r.take q) v5 wi) (fun _ i _ => r.length - (RowKit.intOf i).toNat)
      case atStart => exact ⟨0, Nat.zero_le _, rfl, by simpa using HST.out⟩
      case round =>
        obtain ⟨q, hq, rfl, hst⟩ := hrel
        clear HST
        obtain ⟨va', vc', e5'⟩ := own_form hst.own
        by_cases hlq : q < r.length
        · obtain ⟨t, ht⟩ : ∃ t, r[q]? = some t := ⟨_, List.getElem?_eq_getElem hlq⟩
          obtain ⟨rb, ro, rc, er, hrs⟩ := HUO.out.seg (by omega)
          cases er
          have hrf := hrs.fit
          have hkp := hst.kp
          have hct := hkp.cells (hrs.cell (j := q) (u := .int .i64 (t : Int)) (by simp [intsV, ht]))
          have htN := HRN.out t (List.mem_of_getElem? ht)
          have hzi := hkp.size
          have hLN : ∀ x ∈ L ++ r.take q, x < N := fun x hx => by
            rcases List.mem_append.1 hx with hx | hx
            · exact HAK.out x hx
            · exact HRN.out x (List.mem_of_mem_take hx)
          have hkn := HKN.out (L ++ r.take q) hLN
          have HE := Lib.hid (show L ++ r.take (q + 1) = L ++ r.take q ++ [t] by rw [takeSnoc ht, List.append_assoc])
          obtain ⟨hown, hne, ⟨f, hmap, hset⟩, _⟩ := hst
          have hmlt := hmap.lt
          have HKP := Lib.hid hkp
          clear hrs ht hkp hLN
          generalize L ++ r.take q = M at *
          obtain ⟨n6, hn6⟩ : ∃ n, n = (keysOf idN M).length := ⟨_, rfl⟩
          rw [← hn6] at e5' hkn
          have HN6 := Lib.hid hn6
          subst e5'
          have hsn := keysOf_snoc idN M t
          have hst' := hset t
          have HOWN := Lib.hid hown
          have HNE := Lib.hid hne
          have HMAP := Lib.hid hmap
          have HSET := Lib.hid hset
          have HAL3 := Lib.hid (show Kp wr.heap.size wr (wr.alloc (Obj.cells #[Value.int .i64 (t : Int)] 3)) from (Kp.refl _ _).alloc (Nat.le_refl _) _)
          by_cases hm : t ∈ M
          · have hc : M.contains t = true := by simpa using hm
            rw [if_pos hc] at hst'
            have hk : idN t ∈ keysOf idN M := (keysOf_mem idN M t).2 ⟨t, hm, rfl⟩
            rw [if_pos hk] at hsn
            have HST' := Lib.hid (show f (encI t) = if true then some (.bool true) else none from hst')
            have HSN := Lib.hid hsn
            have HMM := Lib.hid hm
            clear hst' hsn hk hc hm hown hne hmap hset hn6
            go_wp2_with (at_lookup; refine wpList_lookup_bool (by rfl) (.tmp 30) (.tmp 31) 85 rfl 3 4 Tryz.keyed3 Tryz.underlying85 Tryz.underlying4 (Tryz.zero4 _) W.heap.size _ f rfl HMAP.out (encI t) _ rfl (key3 (by omega)) true HST'.out ?_)
            go_roundw
            case rel =>
              exact ⟨q + 1, by omega, by go_num, by rw [HE.out]; exact ⟨by rw [HSN.out]; exact HOWN.out, HNE.out, ⟨f, by rw [HSN.out]; exact HMAP.out, HSET.out.same HMM.out⟩, HKP.out⟩⟩
            case measure => simp [RowKit.intOf]; omega
          · have hc : M.contains t = false := by simpa using hm
            rw [if_neg (by rw [hc]; simp)] at hst'
            have hk : ¬ idN t ∈ keysOf idN M := fun h => by
              obtain ⟨y, hy, e⟩ := (keysOf_mem idN M t).1 h
              exact hm (by rw [← show y = t from e]; exact hy)
            rw [if_neg hk] at hsn
            have HST' := Lib.hid (show f (encI t) = if false then some (.bool true) else none from hst')
            have HSN := Lib.hid hsn
            clear hst' hsn hk hc hm hown hne hmap hset hn6 HAL3
            go_wp2_with (first
              | (at_lookup; refine wpList_lookup_bool (by rfl) (.tmp 30) (.tmp 31) 85 rfl 3 4 Tryz.keyed3 Tryz.underlying85 Tryz.underlying4 (Tryz.zero4 _) W.heap.size _ f rfl HMAP.out (encI t) _ rfl (key3 (by omega)) false HST'.out ?_)
              | (at_mapUpdate; refine wpList_put rfl (.tmp 34) (.tmp 35) (.const (.bool true)) 85 rfl 3 4 Tryz.keyed3 Tryz.underlying85 W.heap.size _ f rfl HMAP.out (by have := HN6.out; unfold maxLen; omega) (encI t) (.bool true) _ _ rfl rfl (key3 (by omega)) (plainElem_bool Tryz.underlying4 true) ?_; intro w1 hm1 hg1; have hz1 := hg1.size; have HM1 := Lib.hid hm1; have HC1 := Lib.hid (Chg.of_grown hg1); have HO1 := Lib.hid (HOWN.out.chg (Chg.of_grown hg1) HNE.out); have HAL3 := Lib.hid (show Kp w1.heap.size w1 (w1.alloc (Obj.cells #[Value.int .i64 (t : Int)] 3)) from (Kp.refl _ _).alloc (Nat.le_refl _) _); clear hm1 hg1)
              | (at_builtin; refine wpList_append_mine rfl (.tmp 36) (.tmp 38) 43 rfl W.heap.size 3 i3 (.int .i64 0) 1 8 Tryz.underlying43 hj0 hy0 hy1 hy2 rfl (by decide) (.slice va' n6 vc') n6 (intsV (keysOf idN M)) rfl (by rw [HN6.out]; have h := HO1.out.kp HAL3.out; rw [HN6.out] at h; exact h) ⟨w1.heap.size, 0, none⟩ 1 1 [.int .i64 (t : Int)] rfl rfl (news_alloc w1 [.int .i64 (t : Int)] 3) (by simp [Value.oneCell']) (by unfold maxLen; omega) (by omega) (by have := HAL3.out.size; omega) ?_; intro v' w2 hown2 hgr2 hblk2; have HO2 := Lib.hid hown2; have HG2 := Lib.hid hgr2; have HB2 := Lib.hid hblk2; clear hown2 hgr2 hblk2))
            go_roundw
            case rel =>
              have hn6 := HN6.out
              refine ⟨q + 1, by omega, by go_num, ?_⟩
              rw [HE.out]
              refine ⟨?_, ?_, ⟨_, ?_, HSET.out.snoc t⟩, ?_⟩
              · rw [HSN.out, List.length_append, ← hn6]
                simpa [intsV] using HO2.out
              · rcases HB2.out with e | ⟨g, e, hg⟩
                · rw [e]; exact HNE.out
                · rw [e]; intro e'; have := Option.some.inj e'; have := HAL3.out.size; omega
              · rw [HSN.out, List.length_append]
                exact (HM1.out.kp HAL3.out).of_heap (grown_other HG2.out (by have := HAL3.out.size; omega) HNE.out)
              · exact ((HKP.out.chg HC1.out hzi (Nat.le_refl _)).trans (HAL3.out.mono (by omega))).of_grown_mine (by have h := HO1.out.kp HAL3.out; exact h) HG2.out (by have := HAL3.out.size; omega)
            case measure => simp [RowKit.intOf]; omega
        · obtain rfl : q = r.length := by omega
          rw [List.take_length] at hst
          have HST := Lib.hid hst
          obtain ⟨n6, hn6⟩ : ∃ n, n = (keysOf idN (L ++ r.take r.length)).length := ⟨_, rfl⟩
          rw [← hn6] at e5'
          subst e5'
          have HN6 := Lib.hid hn6
          clear hst hn6
          go_wp2
          go_roundw
          case rel => exact ⟨k + 1, by omega, by go_num, by rw [HA.out]; exact HST.out⟩
          case measure => simp [RowKit.intOf]; omega
    · obtain rfl : k = m.length := by omega
      rw [List.take_length] at hst e5
      obtain ⟨n5, hn5⟩ : ∃ n, n = (keysOf idN (aboveL abv m)).length := ⟨_, rfl⟩
      rw [← hn5] at e5
      subst e5
      have HN5 := Lib.hid hn5
      have HST := Lib.hid hst
      clear hst hn5
      go_wp2
      go_ret
      exact ⟨_, rfl, HST.out.own, HST.out.kp⟩
end Go.Ev

/- The program's division of nodes into classes: settle. -/
namespace Go.Ev
open Go.Proofs Go.RowKit Go.Lib
set_option maxRecDepth 100000

theorem RowI.own {w : World} {b : Nat} {ls : List Nat} (h : RowI w b (ls.map fun (i : Nat) => (i : Int))) (hl : ls.length ≤ maxLen) : Own 0 1 w (.slice (some ⟨b, 0, none⟩) ls.length ls.length) ls.length (intsV ls) := by
  obtain ⟨t, h⟩ := h
  refine ⟨by simp [intsV], .inr ⟨b, 0, ls.length, _, t, rfl, Nat.zero_le _, h, Nat.le_refl _, hl, by simp, fun j u hj => ?_⟩⟩
  rw [Nat.zero_add]
  simpa [intsV, Function.comp_def] using hj

/-- The tuples above each node. -/
structure AboveR (w : World) (d cb : Nat) (G : List Nd) (ab ao acap : Nat) (abv : List (List Nat)) (avs : List Value) (sv mv : Value) : Prop where
  rows : RowsR w ab ao abv avs
  len : abv.length = G.length
  cap : G.length ≤ acap
  row : ∀ r ∈ abv, r.length ≤ 1000000 ∧ ∀ t ∈ r, t < G.length
  iff : ∀ a, a < G.length → ∀ t, t ∈ abv.getD a [] ↔ t < G.length ∧ a ∈ argsAt G t
  ab : ¬ Wr d cb sv mv ab ∧ ab < w.heap.size
  us : ∀ u ∈ avs, Off (Wr d cb sv mv) u

theorem AboveR.step {w w' : World} {d cb : Nat} {G : List Nd} {ab ao acap : Nat} {abv : List (List Nat)} {avs : List Value} {sv mv sv' mv' : Value} (h : AboveR w d cb G ab ao acap abv avs sv mv) (hu : Upd (Wr d cb sv mv) w w')
    (hw : ∀ b, Wr d cb sv' mv' b → Wr d cb sv mv b ∨ w.heap.size ≤ b) : AboveR w' d cb G ab ao acap abv avs sv' mv' := by
  have hlt : ∀ u ∈ avs, ∀ g, u.ownBlock = some g → g < w.heap.size := fun u hu' g hg => by
    obtain ⟨j, hj⟩ := List.getElem?_of_mem hu'
    have hl : j < abv.length := by rw [← h.rows.len]; exact (List.getElem?_eq_some_iff.1 hj).1
    exact ((h.rows.rows j _ u (List.getElem?_eq_getElem hl) hj).lt hg).2
  refine ⟨⟨fun j u hj => ?_, fun j l u hl hj => (h.rows.rows j l u hl hj).upd hu (h.us u (List.mem_of_getElem? hj)), h.rows.len⟩, h.len, h.cap, h.row, h.iff, ⟨fun e => (hw ab e).elim h.ab.1 fun e => by have := h.ab.2; omega, Nat.lt_of_lt_of_le h.ab.2 hu.size⟩, fun u hu' g hg e => (hw g e).elim (h.us u hu' g hg) fun e => by have := hlt u hu' g hg; omega⟩
  have := h.rows.at_ j u hj
  simp only [World.cell?] at this ⊢
  rw [hu.block ab h.ab.2 h.ab.1]
  exact this

/-- What is known whenever the loop begins anew. -/
structure SetSt (W0 : World) (d cb : Nat) (G : List Nd) (gb go gc ab ao acap : Nat) (abv : List (List Nat)) (avs : List Value) (T : List Nat) (K : Nat) (v3 : Value) (wr : World) : Prop where
  ex : ∃ c sizes mem us sv mv, DSt W0.heap.size wr d cb G.length (.slice (some ⟨gb, go, none⟩) G.length gc) (.slice (some ⟨ab, ao, none⟩) G.length acap) sv mv c K sizes mem us ∧ Kept G.length c K sizes mem [] ∧ Dv G c K ∧ Touched G c T ∧
    AboveR wr d cb G ab ao acap abv avs sv mv
  own : Own 0 1 wr v3 T.length (intsV T)
  kp : Kp W0.heap.size W0 wr

def SetPost (W0 : World) (cb : Nat) (G : List Nd) (e : Ending) (w' : World) : Prop :=
  ∃ c K, e = .returned (.slice (some ⟨cb, 0, none⟩) G.length G.length) ∧ RowI w' cb (clsI G.length c) ∧ Dv G c K ∧ Touched G c [] ∧ Kp W0.heap.size W0 w'

theorem touched_all {G : List Nd} {c : Nat → Nat} : Touched G c (List.range G.length) where
  lt x hx := by simpa using hx
  nodup := List.nodup_range
  same x y hx _ _ h _ := absurd (by simpa using hx) h
  diff x y _ hy _ _ h := absurd (by simpa using hy) h

set_option maxHeartbeats 16000000 in
theorem settle_ok (d cb gb go gc ab ao acap K : Nat) (G : List Nd) (c : Nat → Nat) (sizes : List Nat) (mem : List (List Nat)) (us avs : List Value) (sv mv : Value) (abv : List (List Nat)) (W0 W : World) (hN : G.length ≤ 100000) (hGc : GClosed G) (hgc : G.length ≤ gc)
    (hk0 : Kp W0.heap.size W0 W) (hG : ∀ (j : Nat) (nd : Nd), G[j]? = some nd → NodeW W0 gb (go + j * 4) nd) (h : DSt W0.heap.size W d cb G.length (.slice (some ⟨gb, go, none⟩) G.length gc) (.slice (some ⟨ab, ao, none⟩) G.length acap) sv mv c K sizes mem us)
    (hkept : Kept G.length c K sizes mem []) (hdv : Dv G c K) (ha : AboveR W d cb G ab ao acap abv avs sv mv) :
    Calls Tryz.prog 60 #[.pointer (some ⟨d, 0, none⟩)] W (SetPost W0 cb G) := by
  have CA := all_ok d G.length gb go gc W (by omega) hgc h.blk.c0
  have HD := Lib.hid h
  have HA := Lib.hid ha
  have HK := Lib.hid hkept
  have HDV := Lib.hid hdv
  have HK0 := Lib.hid hk0
  have HG := Lib.hid hG
  have HGC := Lib.hid hGc
  have hW0 := hk0.size
  clear h ha hkept hdv hk0 hG hGc
  go_enter Tryz.func60, Tryz.ntmps60
  go_wp2_with fail
  refine CA.mono ?_
  rintro e w1 ⟨rfl, hrow, hk1⟩
  have hD1 := HD.out.kp hk1
  have hA1 := HA.out.step (Upd.of_kp hk1 _) (fun b hb => .inl hb)
  have H0 := Lib.hid (show SetSt W0 d cb G gb go gc ab ao acap abv avs (List.range G.length) K (.slice (some ⟨W.heap.size, 0, none⟩) G.length G.length) w1 from
    ⟨⟨c, sizes, mem, us, sv, mv, hD1, HK.out, HDV.out, touched_all, hA1⟩, by have := hrow.own (ls := List.range G.length) (by simp; unfold maxLen; omega); simpa using this, HK0.out.trans (hk1.mono hW0)⟩)
  clear hrow hk1 hD1 hA1 CA
  go_wp2
  go_loopg [3] (2 * (G.length - K) + 1) (fun gk v3 wr => ∃ T K, SetSt W0 d cb G gb go gc ab ao acap abv avs T K v3 wr ∧ (T = [] ∨ gk = 2 * (G.length - K) + 1))
  case atStart => exact ⟨_, K, H0.out, .inr rfl⟩
  case round =>
    obtain ⟨T, K, hst, hgk⟩ := hrel
    clear H0
    obtain ⟨⟨c, sizes, mem, us, sv, mv, hD, hkept, hdv, ht, ha⟩, hown, hkp⟩ := hst
    obtain ⟨ta, tc, e3⟩ := own_form hown
    by_cases hT : T = []
    · subst hT
      have hc2 := hD.blk.c2
      have HR := Lib.hid hD.cls
      have HDV := Lib.hid hdv
      have HT := Lib.hid ht
      have HKP := Lib.hid hkp
      simp only [List.length_nil] at e3
      subst e3
      clear hD hkept hdv ht ha hown hkp
      go_wp2
      go_ret
      exact ⟨c, K, rfl, HR.out, HDV.out, HT.out, HKP.out⟩
    · have hT0 : 0 < T.length := List.length_pos_iff.2 hT
      have hgk' : gk = 2 * (G.length - K) + 1 := hgk.resolve_left hT
      obtain ⟨tb, toff, tc', e, hts⟩ := hown.seg hT0
      have hKN := hdv.le
      have hTN := nodup_le _ _ ht.nodup ht.lt
      have DO := divide_ok d cb K gb go gc tb toff tc' G c T sizes (.slice (some ⟨ab, ao, none⟩) G.length acap) sv mv mem us W0 wr hN HGC.out hgc hts.fit hT0 hkp HG.out hD hkept hdv ht (fun j x hj => hts.cell (by simp [intsV, hj]))
      have hWge : ∀ b, Wr d cb sv mv b → W0.heap.size ≤ b := fun b hb => Wr.ge hD hb
      have HDO := Lib.hid DO
      have HDV := Lib.hid hdv
      have HT := Lib.hid ht
      have HA := Lib.hid ha
      have HKP := Lib.hid hkp
      have HWG := Lib.hid hWge
      have HGK := Lib.hid hgk'
      have hzr := hkp.size
      rw [e] at e3
      cases e3
      rw [e] at *
      clear DO hD hkept hdv ht ha hown hkp hts hWge hgk hgk' hT e
      go_wp2_with fail
      refine HDO.out.mono ?_
      rintro e w2 ⟨v, moved, c', K', sizes', mem', us', sv', mv', rfl, hmo, hmn, hD', hkept', hdiv, hU, hW⟩
      obtain ⟨ma, mc, e⟩ := own_form hmo
      subst e
      have hA' := HA.out.step hU hW
      have hkp2 : Kp W0.heap.size W0 w2 := HKP.out.trans (hU.kp hzr HWG.out)
      have hmN := nodup_le G.length moved hmn fun x hx => (hdiv.new x hx).1
      have AO := above_ok d G.length ab ao acap mc ma abv avs moved w2 hN hA'.cap hA'.len hA'.row (fun x hx => (hdiv.new x hx).1) (by omega) hD'.blk.c1 hA'.rows (hmo.mono (Nat.zero_le _))
      have HAO := Lib.hid AO
      have HD' := Lib.hid hD'
      have HK' := Lib.hid hkept'
      have HDIV := Lib.hid hdiv
      have HA' := Lib.hid hA'
      have HKP2 := Lib.hid hkp2
      clear AO hD' hkept' hdiv hU hW hA' hkp2 hmo hmn HDO
      generalize hml : moved.length = nm at *
      go_wp2_with fail
      refine HAO.out.mono ?_
      rintro e w3 ⟨v3, rfl, hto, hk3⟩
      have hD3 := HD'.out.kp hk3
      have hA3 := HA'.out.step (Upd.of_kp hk3 _) (fun b hb => .inl hb)
      have hkp3 := HKP2.out.trans (hk3.mono HKP2.out.size)
      have hdv' := HDV.out.step HGC.out HDIV.out
      have ht' : Touched G c' (keysOf idN (aboveL abv moved)) := Touched.step HGC.out HDV.out HDIV.out (keysOf_nodup idN _) fun x => by
        rw [keysOf_mem]
        constructor
        · rintro ⟨y, hy, rfl⟩
          obtain ⟨a, ha, hya⟩ := List.mem_flatMap.1 hy
          obtain ⟨h1, h2⟩ := (HA'.out.iff a (HDIV.out.new a ha).1 y).1 hya
          exact ⟨h1, a, h2, ha⟩
        · rintro ⟨hx, a, ha, ham⟩
          exact ⟨x, List.mem_flatMap.2 ⟨a, ham, (HA'.out.iff a (HDIV.out.new a ham).1 x).2 ⟨hx, ha⟩⟩, rfl⟩
      have hst' : SetSt W0 d cb G gb go gc ab ao acap abv avs (keysOf idN (aboveL abv moved)) K' v3 w3 := ⟨⟨c', sizes', mem', us', sv', mv', hD3, HK'.out, hdv', ht', hA3⟩, hto.mono (Nat.zero_le _), hkp3⟩
      have hle' := hdv'.le
      have hmore : keysOf idN (aboveL abv moved) = [] ∨ K < K' := by
        by_cases hme : moved = []
        · left; rw [hme]; rfl
        · exact .inr (HDIV.out.more hme)
      have hleK := HDIV.out.le
      have HST' := Lib.hid hst'
      have HMORE := Lib.hid hmore
      clear hD3 hA3 hkp3 hdv' ht' hst' hto hk3 HAO hmore
      go_wp2
      have hgk := HGK.out
      by_cases hlt : K < K'
      · go_roundg (2 * (G.length - K') + 1)
        case measure => omega
        case rel => exact ⟨_, K', HST'.out, .inr rfl⟩
      · go_roundg 0
        case measure => omega
        case rel => exact ⟨_, K', HST'.out, .inl (HMORE.out.resolve_right hlt)⟩
end Go.Ev

/- The program's division of nodes into classes: newDivision, its memory. -/
namespace Go.Ev
open Go.Proofs Go.RowKit Go.Lib
set_option maxRecDepth 100000

/-- The division when it is new. -/
structure NewD (W wx : World) (N : Nat) (nv : Value) (d ab cb : Nat) : Prop where
  blk : DBlk wx d nv (.slice (some ⟨ab, 0, none⟩) N N) (.slice (some ⟨cb, 0, none⟩) N N) (.slice none 0 0) (.slice none 0 0)
  cls : RowI wx cb (List.replicate N 0)
  abr : ∃ t, wx.heap[ab]? = some (.cells (List.replicate N (Value.slice none 0 0)).toArray t (0, 0))
  ne : ab ≠ cb ∧ ab ≠ d ∧ d ≠ cb
  lo : W.heap.size ≤ ab ∧ W.heap.size ≤ cb ∧ W.heap.size ≤ d
  kp : Kp W.heap.size W wx

theorem madeNils (n : Nat) : madeCells (Value.slice none 0 0).cells (n * 1) = (List.replicate n (Value.slice none 0 0)).toArray := by
  apply Array.ext_getElem?
  intro j
  by_cases hj : j < n
  · simp [madeCells, Value.cells, hj, Nat.mod_one]
  · simp [madeCells, Value.cells, hj]

theorem al3 (W : World) (o1 o2 o3 : Obj) : (((W.alloc o1).alloc o2).alloc o3).drew.heap[W.heap.size]? = some o1 ∧ (((W.alloc o1).alloc o2).alloc o3).drew.heap[W.heap.size + 1]? = some o2 ∧ (((W.alloc o1).alloc o2).alloc o3).drew.heap[W.heap.size + 1 + 1]? = some o3 := by
  rw [heap_drew]
  have s1 : (W.alloc o1).heap.size = W.heap.size + 1 := by simp
  have s2 : ((W.alloc o1).alloc o2).heap.size = W.heap.size + 1 + 1 := by simp
  refine ⟨(heap_alloc_old _ _ (by omega)).trans ((heap_alloc_old _ _ (by omega)).trans (heap_alloc_new W o1)), ?_, ?_⟩
  · rw [← s1]
    exact (heap_alloc_old _ _ (by omega)).trans (heap_alloc_new _ _)
  · rw [← s2]
    exact heap_alloc_new _ _
theorem al3_kp (W : World) (o1 o2 o3 : Obj) : Kp W.heap.size W (((W.alloc o1).alloc o2).alloc o3).drew :=
  ((((Kp.refl _ _).alloc (Nat.le_refl _) _).alloc (by simp) _).alloc (by simp; omega) _).drew
theorem zeros_eq {Z : Array Value} {n : Nat} (h : Z = madeCells (Value.int .i64 0).cells (n * 1)) : Z = ((List.replicate n (0 : Int)).map (Value.int .i64)).toArray := by
  rw [← madeInts, h]

theorem newD1 {W : World} {N : Nat} {nv : Value} {Z1 Z2 : Array Value} (h1 : Z1 = madeCells (Value.slice none 0 0).cells (N * 1)) (h2 : Z2 = madeCells (Value.int .i64 0).cells (N * 1)) :
    NewD W (((W.alloc (Obj.cells Z1 43)).alloc (Obj.cells Z2 3)).alloc (Obj.cells #[nv, Value.slice (some ⟨W.heap.size, 0, none⟩) N N, Value.slice (some ⟨W.heap.size + 1, 0, none⟩) N N, Value.slice none 0 0, Value.slice none 0 0] 105)).drew N nv (W.heap.size + 1 + 1) W.heap.size (W.heap.size + 1) := by
  obtain ⟨a1, a2, a3⟩ := al3 W (Obj.cells Z1 43) (Obj.cells Z2 3) (Obj.cells #[nv, Value.slice (some ⟨W.heap.size, 0, none⟩) N N, Value.slice (some ⟨W.heap.size + 1, 0, none⟩) N N, Value.slice none 0 0, Value.slice none 0 0] 105)
  exact ⟨⟨105, a3⟩, ⟨3, by rw [a2, zeros_eq h2]⟩, ⟨43, by rw [a1, h1, madeNils]⟩, ⟨by omega, by omega, by omega⟩, ⟨by omega, by omega, by omega⟩, al3_kp _ _ _ _⟩
theorem newD2 {W : World} {N : Nat} {nv : Value} {Z1 Z2 : Array Value} (h1 : Z1 = madeCells (Value.slice none 0 0).cells (N * 1)) (h2 : Z2 = madeCells (Value.int .i64 0).cells (N * 1)) :
    NewD W (((W.alloc (Obj.cells Z2 3)).alloc (Obj.cells Z1 43)).alloc (Obj.cells #[nv, Value.slice (some ⟨W.heap.size + 1, 0, none⟩) N N, Value.slice (some ⟨W.heap.size, 0, none⟩) N N, Value.slice none 0 0, Value.slice none 0 0] 105)).drew N nv (W.heap.size + 1 + 1) (W.heap.size + 1) W.heap.size := by
  obtain ⟨a1, a2, a3⟩ := al3 W (Obj.cells Z2 3) (Obj.cells Z1 43) (Obj.cells #[nv, Value.slice (some ⟨W.heap.size + 1, 0, none⟩) N N, Value.slice (some ⟨W.heap.size, 0, none⟩) N N, Value.slice none 0 0, Value.slice none 0 0] 105)
  exact ⟨⟨105, a3⟩, ⟨3, by rw [a1, zeros_eq h2]⟩, ⟨43, by rw [a2, h1, madeNils]⟩, ⟨by omega, by omega, by omega⟩, ⟨by omega, by omega, by omega⟩, al3_kp _ _ _ _⟩

end Go.Ev
