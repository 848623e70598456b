import Derived.Test.YtbjcopckkgdmgaaGreatDoorRb
import Derived.Test.YtbjcopckkgdmgaaGreatDoorRfA
/- The document's own answers on trees: the nodes that a node leads to. -/
namespace Go.Ev
open Go.Proofs Go.RowKit Go.Lib
set_option maxRecDepth 100000

abbrev intsV (l : List Nat) : List Value := l.map fun (x : Nat) => Value.int .i64 (x : Int)
def metB (n : Nat) (out : List Nat) : List Bool := (List.range n).map fun i => decide (i ∈ out)
theorem metB_length (n : Nat) (out : List Nat) : (metB n out).length = n := by simp [metB]
theorem metB_get {n i : Nat} (out : List Nat) (h : i < n) : (metB n out).getD i false = decide (i ∈ out) := by simp [metB, List.getD, h]
theorem metB_nil (n : Nat) : metB n [] = List.replicate n false := by
  apply List.ext_getElem?
  intro j
  unfold metB
  by_cases hj : j < n
  · simp [hj]
  · simp [hj]
theorem metB_set {n x : Nat} (out : List Nat) (h : x < n) : (metB n out).set x true = metB n (out ++ [x]) := by
  apply List.ext_getElem?
  intro j
  rw [List.getElem?_set]
  unfold metB
  by_cases hj : j < n
  · simp only [List.getElem?_map, List.getElem?_range hj, List.length_map, List.length_range, Option.map_some]
    split
    · rename_i e; subst e; simp
    · rename_i e
      congr 1
      rw [decide_eq_decide]
      simp [Ne.symm e]
  · simp only [List.getElem?_map, List.getElem?_eq_none (show (List.range n).length ≤ j by simp; omega), List.length_map, List.length_range, Option.map_none]
    split
    · omega
    · rfl

theorem Tryz.info4 : (Tryz.prog.info? 4).map (fun i => (i.zero, i.size, i.bytes)) = some (some (.bool false), 1, 1) := by kernel_rfl

/-- What holds while nodes are met. -/
structure RSt (G : List Nd) (r : Nat) (W : World) (mb sb so m cap : Nat) (v6 : Value) (gk : Nat) (wr : World) : Prop where
  st : ∃ st out, dfs G gk st out = reach G r ∧ out.Nodup ∧ (∀ x ∈ st, x < G.length) ∧ (∀ x ∈ out, x < G.length) ∧ 9 * (G.length - out.length) + st.length ≤ gk ∧ m = st.length ∧
    Seg W.heap.size 1 wr sb so m cap (intsV st.reverse) ∧ Own W.heap.size 1 wr v6 out.length (intsV out) ∧ RowB wr mb (metB G.length out)
  ne : sb ≠ mb ∧ v6.ownBlock ≠ some mb ∧ v6.ownBlock ≠ some sb
  lo : W.heap.size ≤ mb
  kp : Kp W.heap.size W wr
  big : gk ≤ 9 * G.length + 1

def ReachPost (l : List Nat) (W : World) (e : Ending) (w' : World) : Prop := ∃ b o c, e = .returned (.slice (some ⟨b, o, none⟩) l.length c) ∧ Seg W.heap.size 1 w' b o l.length c (intsV l) ∧ Kp W.heap.size W w'

set_option maxHeartbeats 4000000 in
theorem reached_ok (G : List Nd) (r : Nat) (W : World) (gb go gc : Nat) (hG : GClosed G) (hr : r < G.length) (hG8 : G.length ≤ 200000) (hg : NodesV W (.slice (some ⟨gb, go, none⟩) G.length gc) G) :
    Calls Tryz.prog 38 #[.slice (some ⟨gb, go, none⟩) G.length gc, .int .i64 r] W (ReachPost (reach G r) W) := by
  have HG := Lib.hid hG
  have HV := Lib.hid hg
  clear hG hg
  obtain ⟨i4, hi0, hz0, hz1, hz2⟩ := info_parts Tryz.info4
  obtain ⟨i3, hj0, hy0, hy1, hy2⟩ := info_parts Tryz.info3
  have hb4 : i4.bytes * G.length ≤ 281474976710656 := by rw [hz2]; omega
  have H2 := Lib.hid hz2
  clear hz2
  go_enter Tryz.func38, Tryz.ntmps38
  go_wp2_with (first
    | (refine wpList_make_full _ rfl _ _ 57 rfl W.heap.size 4 i4 _ 1 Tryz.underlying57 hi0 hz0 hz1 .i64 .i64 G.length G.length G.length rfl rfl rfl rfl hb4 (by unfold maxLen; omega) (Nat.le_refl _) ?_; intro w1 hown1 hgr1)
    | (at_builtin; refine wpList_append_mine rfl (.tmp 13) (.tmp 15) 43 rfl W.heap.size 3 i3 (.int .i64 0) 1 8 Tryz.underlying43 hj0 hy0 hy1 hy2 rfl (by decide) (.slice none 0 0) 0 [] rfl ⟨rfl, .inl ⟨rfl, rfl⟩⟩ ⟨w1.heap.size, 0, none⟩ 1 1 [.int .i64 r] rfl rfl (news_alloc w1 [.int .i64 r] 3) (by simp [Value.oneCell']) (by unfold maxLen; omega) (by omega) (by have := hgr1.size; simp; omega) ?_; intro v' w2 hown2 hgr2 hblk2))
  have hmet := RowB.made hown1
  rw [← metB_nil] at hmet
  have hk1 : Kp W.heap.size W w1 := (Kp.refl _ _).grownBy hgr1 (Nat.le_refl _) (fun k hk => by cases hk)
  obtain ⟨sb, so, cap, rfl, hseg⟩ := hown2.seg (by omega)
  have hal : Kp w1.heap.size w1 (w1.alloc (Obj.cells #[Value.int .i64 r] 3)) := (Kp.refl _ _).alloc (Nat.le_refl _) _
  have hk2 : Kp (w1.alloc (Obj.cells #[Value.int .i64 r] 3)).heap.size (w1.alloc (Obj.cells #[Value.int .i64 r] 3)) w2 := ⟨hgr2.os, hgr2.output, hgr2.size, fun k hk => hgr2.block k hk (by simp [Value.ownBlock])⟩
  have hml := hmet.lt
  have hsz := hal.size
  have hne0 : sb ≠ W.heap.size := by
    rcases hblk2 with e | ⟨g, e, hg⟩
    · cases e
    · obtain rfl : sb = g := Option.some.inj e
      omega
  have H0 := Lib.hid (show RSt G r W W.heap.size sb so 1 cap (.slice none 0 0) (9 * G.length + 1) w2 from
    ⟨⟨[r], [], rfl, List.nodup_nil, by simpa using hr, by simp, by simp, rfl, hseg, ⟨rfl, .inl ⟨rfl, rfl⟩⟩, (hmet.kp hal).kp hk2⟩, ⟨hne0, by simp [Value.ownBlock], by simp [Value.ownBlock]⟩, Nat.le_refl _, (hk1.trans (hal.mono hk1.size)).trans (hk2.mono (by have := hk1.size; omega)), Nat.le_refl _⟩)
  clear hmet hk1 hseg hal hk2 hml hsz hne0 hown1 hgr1 hown2 hgr2 hblk2 hb4 hi0 hz0 hz1
  go_loopg [6, 7] (9 * G.length + 1) (fun gk v6 v7 wr => ∃ sb so m cap, v7 = .slice (some ⟨sb, so, none⟩) m cap ∧ RSt G r W W.heap.size sb so m cap v6 gk wr)
  case atStart => exact ⟨sb, so, 1, cap, rfl, H0.out⟩
  case round =>
    obtain ⟨sb, so, m, cap, rfl, hst⟩ := hrel
    clear H0
    obtain ⟨F, hFF⟩ : ∃ F, F = gk := ⟨_, rfl⟩
    subst hFF
    obtain ⟨⟨st, out, hdfs, hnd, hsl, hol, hmu, hm, hseg, hown, hmet⟩, ⟨hn1, hn2, hn3⟩, hlo, hkp, hbig⟩ := hst
    have hfit := hseg.fit
    have hmaxc : cap ≤ 9223372036854775807 := by have := hseg.max; unfold maxLen at this; omega
    cases st with
    | nil =>
      obtain rfl : m = 0 := hm
      have hres : out = reach G r := by cases F <;> exact hdfs
      subst hres
      obtain ⟨l, hl⟩ := (reach_ok HG.out hr).first
      obtain ⟨b6, o6, c6, rfl, hs6⟩ := hown.seg (by rw [hl]; simp)
      have HO := Lib.hid hs6
      have HK := Lib.hid hkp
      clear hown hs6 hmet hkp hseg hdfs hnd hol hn1 hn2 hn3 hl
      go_wp2
      go_ret
      exact ⟨b6, o6, c6, rfl, HO.out, HK.out⟩
    | cons x st' =>
      have hm' : m = st'.length + 1 := by simpa using hm
      have hxG : x < G.length := hsl x (List.mem_cons_self ..)
      have hctop : wr.cell? ⟨sb, so + (m - 1), none⟩ = some (.int .i64 (x : Int)) := hseg.cell (j := m - 1) (by rw [hm']; simp [intsV])
      have hpop : Seg W.heap.size 1 wr sb so (m - 1) cap (intsV st'.reverse) := by
        obtain ⟨m', rfl⟩ : ∃ k, m = k + 1 := ⟨m - 1, by omega⟩
        exact Seg.init (ys := [Value.int .i64 (x : Int)]) (by simpa [intsV] using hseg) rfl
      have hcm := hmet.cell (i := x) (by rw [metB_length]; exact hxG)
      rw [metB_get out hxG] at hcm
      have hfm := hmet.frozen x
      have hm1 : IntKind.i64.wrap ((m : Int) - 1) = ((m - 1 : Nat) : Int) := by rw [IntWalk.i64_in _ (by omega)]; omega
      have hmp : 1 ≤ m := by omega
      have hmc : (m : Int) - 1 = ((m - 1 : Nat) : Int) := by omega
      have HPOP := Lib.hid hpop
      have HOWN := Lib.hid hown
      have HMET := Lib.hid hmet
      have HKP := Lib.hid hkp
      have HM := Lib.hid hm'
      have HDF := Lib.hid hdfs
      have HND := Lib.hid hnd
      have HSL := Lib.hid hsl
      have HOL := Lib.hid hol
      have HMU := Lib.hid hmu
      have HN := Lib.hid (show sb ≠ W.heap.size ∧ u6.ownBlock ≠ some W.heap.size ∧ u6.ownBlock ≠ some sb from ⟨hn1, hn2, hn3⟩)
      clear hseg hpop hown hmet hkp hm hm' hdfs hnd hsl hol hmu hn1 hn2 hn3 hm1 hmc
      by_cases hx : x ∈ out
      · rw [decide_eq_true hx] at hcm
        have HX := Lib.hid hx
        clear hx
        go_wp2_with fail
        have hmu := HMU.out
        simp only [List.length_cons] at hmu
        have hm2 := HM.out
        have hdf : dfs G (F - 1) st' out = reach G r := by
          have h := HDF.out
          obtain ⟨F', rfl⟩ : ∃ k, F = k + 1 := ⟨F - 1, by omega⟩
          unfold dfs at h
          rw [if_pos HX.out] at h
          exact h
        have hn := HN.out
        go_roundg (F - 1)
        case measure => omega
        case rel =>
          exact ⟨sb, so, m - 1, cap, rfl, ⟨st', out, hdf, HND.out, fun y hy => HSL.out y (List.mem_cons_of_mem _ hy), HOL.out, by omega, by omega, HPOP.out, HOWN.out, HMET.out⟩, hn, hlo, HKP.out, by omega⟩
      · rw [decide_eq_false hx] at hcm
        have HX := Lib.hid hx
        clear hx
        obtain ⟨nx, hnx⟩ : ∃ n, G[x]? = some n := ⟨_, List.getElem?_eq_getElem hxG⟩
        have nX := HV.out.at_ hnx
        obtain ⟨_, _, _, _, va, g3, hav⟩ := nX
        obtain ⟨ab, ac, rfl⟩ := hav.len
        have HNX := Lib.hid hnx
        have HG3 := Lib.hid g3
        have HAV := Lib.hid hav
        have h8 := (HG.out nx (List.mem_of_getElem? hnx)).1
        clear hnx g3 hav
        have hC3 : Chg W.heap.size wr (wr.setCell ⟨W.heap.size, x, none⟩ (.bool true)) := (Chg.refl _ _).setCell _ _
        have hn := HN.out
        have hsz3 : (wr.setCell ⟨W.heap.size, x, none⟩ (.bool true)).heap.size = wr.heap.size := by simp [World.setCell]
        have HO3 := Lib.hid (HOWN.out.chg hC3 hn.2.1)
        have HP3 := Lib.hid (HPOP.out.chg hC3 hn.1)
        have HM3 := Lib.hid (show RowB (wr.setCell ⟨W.heap.size, x, none⟩ (.bool true)) W.heap.size (metB G.length (out ++ [x])) by rw [← metB_set out hxG]; exact HMET.out.set x true)
        have HK3 := Lib.hid (HKP.out.setCell (p := ⟨W.heap.size, x, none⟩) (Nat.le_refl _) (.bool true))
        have hnews := news_alloc (wr.setCell ⟨W.heap.size, x, none⟩ (.bool true)) [.int .i64 (x : Int)] 3
        rw [hsz3] at hnews
        have hol := nodup_le _ _ HND.out HOL.out
        have hwz := HKP.out.size
        have HNW := Lib.hid hnews
        have HSZ := Lib.hid hsz3
        have hmu := HMU.out
        simp only [List.length_cons] at hmu
        have hm2 : m ≤ st'.length + 1 ∧ st'.length + 1 ≤ m := by have := HM.out; omega
        obtain ⟨hm2, hm3⟩ := hm2
        have hsbl := HPOP.out.lt
        have hmbl := HMET.out.lt
        clear hC3 hn hnews hsz3
        go_wp2_with (at_builtin; refine wpList_append_mine rfl (.tmp 38) (.tmp 40) 43 rfl W.heap.size 3 i3 (.int .i64 0) 1 8 Tryz.underlying43 hj0 hy0 hy1 hy2 rfl (by decide) u6 out.length (intsV out) rfl (HO3.out.kp ((Kp.refl _ _).alloc (Nat.le_refl _) _)) ⟨wr.heap.size, 0, none⟩ 1 1 [.int .i64 (x : Int)] rfl rfl HNW.out (by simp [Value.oneCell']) (by unfold maxLen; omega) (by omega) (by have := HSZ.out; simp; omega) ?_; intro v' w5 hown5 hgr5 hblk5; have hk5 := Lib.hid (Kp.of_grown_mine (HK3.out.alloc (by have := HSZ.out; omega) (Obj.cells #[Value.int .i64 (x : Int)] 3)) (HO3.out.kp ((Kp.refl _ _).alloc (Nat.le_refl _) (Obj.cells #[Value.int .i64 (x : Int)] 3))) hgr5 (by have := HSZ.out; simp; omega)); have g5 := hk5.out.cells HG3.out)
        have hn := HN.out
        have hal3 : Kp (wr.setCell ⟨W.heap.size, x, none⟩ (.bool true)).heap.size (wr.setCell ⟨W.heap.size, x, none⟩ (.bool true)) ((wr.setCell ⟨W.heap.size, x, none⟩ (.bool true)).alloc (Obj.cells #[Value.int .i64 (x : Int)] 3)) := (Kp.refl _ _).alloc (Nat.le_refl _) _
        have hsz4 := hal3.size
        have hsz3 := HSZ.out
        have hmb5 : v'.ownBlock ≠ some W.heap.size ∧ v'.ownBlock ≠ some sb := by
          rcases hblk5 with e | ⟨g, e, hg⟩
          · rw [e]; exact hn.2
          · rw [e]
            exact ⟨fun h => by have := Option.some.inj h; omega, fun h => by have := Option.some.inj h; omega⟩
        have HMB := Lib.hid hmb5
        have HM5 := Lib.hid ((HM3.out.kp hal3).of_heap (grown_other hgr5 (by omega) hn.2.1))
        have HP5 := Lib.hid ((HP3.out.kp hal3).of_heap (grown_other hgr5 (by omega) hn.2.2))
        have HO5 := Lib.hid hown5
        have HNE := Lib.hid hn.1
        clear hn hal3 hsz4 hsz3 hmb5 hgr5 hblk5 hown5 HM3 HP3 HO3 HK3 HNW HSZ
        have hbig2 : F ≤ 2000000 := by omega
        go_loopg [7, 9] nx.args.length (fun g2 v7 i wi => ∃ (z : Int) (sb' so' m' cap' : Nat), i = .int .i64 z ∧ z + 1 = (g2 : Int) ∧ g2 ≤ nx.args.length ∧ v7 = .slice (some ⟨sb', so', none⟩) m' cap' ∧ m' + g2 = st'.length + nx.args.length ∧
          Seg W.heap.size 1 wi sb' so' m' cap' (intsV ((argsAt G x).drop g2 ++ st').reverse) ∧ RowB wi W.heap.size (metB G.length (out ++ [x])) ∧ Own W.heap.size 1 wi v' (out.length + 1) (intsV out ++ [.int .i64 (x : Int)]) ∧ sb' ≠ W.heap.size ∧ v'.ownBlock ≠ some sb' ∧ Kp W.heap.size W wi)
        case atStart =>
          have hat : (argsAt G x).length = nx.args.length := argsAt_face HNX.out
          refine ⟨(nx.args.length : Int) - 1, sb, so, m - 1, cap, rfl, by omega, Nat.le_refl _, rfl, by omega, ?_, HM5.out, HO5.out, HNE.out, HMB.out.2, hk5.out⟩
          rw [List.drop_eq_nil_of_le (by omega), List.nil_append]; exact HP5.out
        case round =>
          obtain ⟨z, sb', so', m', cap', rfl, hz, hg2, rfl, hmg, hseg, hmet, hown, hne1, hne2, hkp⟩ := hrel
          have hfit' := hseg.fit
          have hmaxc' : cap' ≤ 9223372036854775807 := by have := hseg.max; unfold maxLen at this; omega
          have g6 := hkp.cells HG3.out
          have HZ := Lib.hid hz
          cases gk with
          | zero =>
            have hzn : z < 0 := by omega
            clear hz
            have hat : (argsAt G x).length = nx.args.length := argsAt_face HNX.out
            have hdf : dfs G (F - 1) (argsAt G x ++ st') (out ++ [x]) = reach G r := by
              have h := HDF.out
              obtain ⟨F', rfl⟩ : ∃ k, F = k + 1 := ⟨F - 1, by omega⟩
              unfold dfs at h
              rw [if_neg HX.out] at h
              exact h
            have hnd := nodup_snoc HND.out HX.out
            have hol2 : ∀ y ∈ out ++ [x], y < G.length := fun y hy => by
              rcases List.mem_append.1 hy with hy | hy
              · exact HOL.out y hy
              · rw [List.mem_singleton.1 hy]; exact hxG
            have hln := nodup_le _ _ hnd hol2
            rw [List.length_append, List.length_singleton] at hln
            rw [List.drop_zero] at hseg
            have HSEG := Lib.hid hseg
            have HMET2 := Lib.hid hmet
            have HOWN2 := Lib.hid hown
            have HKP2 := Lib.hid hkp
            have HNN := Lib.hid (And.intro hne1 hne2)
            have HDF2 := Lib.hid hdf
            have HND2 := Lib.hid hnd
            have HOL2 := Lib.hid hol2
            have HAT := Lib.hid hat
            have HMG := Lib.hid hmg
            clear hseg hmet hown hkp hne1 hne2 hdf hnd hol2 hat hmg
            go_wp2_with fail
            have hat := HAT.out
            have hmg := HMG.out
            go_roundg (F - 1)
            case measure => omega
            case rel =>
              refine ⟨sb', so', m', cap', rfl, ⟨argsAt G x ++ st', out ++ [x], HDF2.out, HND2.out, fun y hy => ?_, HOL2.out, ?_, ?_, HSEG.out, by simpa [intsV] using HOWN2.out, HMET2.out⟩, ⟨HNN.out.1, HMB.out.1, HNN.out.2⟩, Nat.le_refl _, HKP2.out, by omega⟩
              · rcases List.mem_append.1 hy with hy | hy
                · exact argsAt_lt HG.out hy
                · exact HSL.out y (List.mem_cons_of_mem _ hy)
              · simp only [List.length_append, List.length_singleton]; omega
              · simp only [List.length_append]; omega
          | succ k =>
            have hzp : 0 ≤ z := by omega
            have hz8 : z ≤ 8 := by omega
            have hzk : z.toNat = k := by omega
            have hkl : k < nx.args.length := by omega
            obtain ⟨b1, o1, rfl, hca⟩ := HAV.out.some hkl
            have hat : (argsAt G x).length = nx.args.length := argsAt_face HNX.out
            have hmem : nx.args.getD k 0 ∈ nx.args := by simp only [List.getD, List.getElem?_eq_getElem hkl, Option.getD_some]; exact List.getElem_mem hkl
            obtain ⟨z1, z2⟩ := (HG.out nx (List.mem_of_getElem? HNX.out)).2 _ hmem
            obtain ⟨y, hy⟩ : ∃ y : Nat, nx.args.getD k 0 = y := ⟨(nx.args.getD k 0).toNat, by omega⟩
            have hay : (argsAt G x)[k]'(by omega) = y := by
              have : (argsAt G x)[k]? = some y := by
                unfold argsAt
                rw [HNX.out]
                simp only [List.getElem?_map]
                have h1 : nx.args[k]? = some (y : Int) := by
                  rw [List.getElem?_eq_getElem hkl]
                  simp only [List.getD, List.getElem?_eq_getElem hkl, Option.getD_some] at hy
                  rw [hy]
                rw [h1]
                simp
              rw [List.getElem?_eq_getElem (by omega)] at this
              exact Option.some.inj this
            have hlist : intsV ((argsAt G x).drop (k + 1) ++ st').reverse ++ [Value.int .i64 (y : Int)] = intsV ((argsAt G x).drop k ++ st').reverse := by
              rw [List.drop_eq_getElem_cons (show k < (argsAt G x).length by omega), hay]
              simp [intsV]
            rw [hy, ← hzk] at hca
            replace hca := hkp.cells hca
            have hzl : z < (nx.args.length : Int) := by omega
            have HS6 := Lib.hid hseg
            have HM6 := Lib.hid hmet
            have HO6 := Lib.hid hown
            have HN6 := Lib.hid (And.intro hne1 hne2)
            have HK6 := Lib.hid hkp
            have HL6 := Lib.hid hlist
            have HAT6 := Lib.hid hat
            have HMG6 := Lib.hid hmg
            have hmm : m' ≤ 3000000 := by omega
            have hlt6 := hmet.lt
            clear hseg hmet hown hne1 hne2 hkp hlist hat hmg hmem z1 z2 hay hy hz hzk
            go_wp2_with (at_builtin; refine wpList_append_mine rfl (.tmp 53) (.tmp 62) 43 rfl W.heap.size 3 i3 (.int .i64 0) 1 8 Tryz.underlying43 hj0 hy0 hy1 hy2 rfl (by decide) (.slice (some ⟨sb', so', none⟩) m' cap') m' _ rfl (HS6.out.kp ((Kp.refl _ _).alloc (Nat.le_refl _) _)).own ⟨wr.heap.size, 0, none⟩ 1 1 [.int .i64 (y : Int)] rfl rfl (news_alloc wr [.int .i64 (y : Int)] 3) (by simp [Value.oneCell']) (by unfold maxLen; omega) (by omega) (by simp; omega) ?_; intro v7 w7 hown7 hgr7 hblk7)
            obtain ⟨b7, o7, c7, rfl, hs7⟩ := hown7.seg (by omega)
            have hal7 : Kp wr.heap.size wr (wr.alloc (Obj.cells #[Value.int .i64 (y : Int)] 3)) := (Kp.refl _ _).alloc (Nat.le_refl _) _
            have hsz7 := hal7.size
            have hn6 := HN6.out
            have hl6 := HM6.out.lt
            have hne7 : b7 ≠ W.heap.size ∧ v'.ownBlock ≠ some b7 := by
              rcases hblk7 with e | ⟨g, e, hg⟩
              · obtain rfl : b7 = sb' := Option.some.inj e
                exact hn6
              · obtain rfl : b7 = g := Option.some.inj e
                exact ⟨by omega, fun h => by have := (HO6.out.lt h).2; omega⟩
            rw [HL6.out] at hs7
            have hm7 := (HM6.out.kp hal7).of_heap (grown_other hgr7 (by omega) (fun h => hn6.1 (Option.some.inj h)))
            have ho7 := (HO6.out.kp hal7).of_same (fun g hg hl => grown_other hgr7 hl (fun h => hn6.2 (by rw [hg]; exact h.symm)))
            have hk7 := Kp.of_grown_mine (HK6.out.alloc (by omega) (Obj.cells #[Value.int .i64 (y : Int)] 3)) ((HS6.out.kp hal7).own) hgr7 (by omega)
            have hmg := HMG6.out
            clear hown7 hgr7 hblk7 hal7
            have hz := HZ.out
            go_roundg k
            case measure => omega
            case rel => exact ⟨z - 1, b7, o7, m' + 1, c7, rfl, by omega, by omega, rfl, by omega, hs7, hm7, ho7, hne7.1, hne7.2, hk7⟩
end Go.Ev
