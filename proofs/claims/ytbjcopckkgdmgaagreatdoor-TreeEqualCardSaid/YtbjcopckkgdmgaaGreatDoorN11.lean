import Derived.Test.YtbjcopckkgdmgaaGreatDoorN10
import Derived.Laws.EntriesVeiled
import Derived.StillTailTactics
/- The program's own least: the node of a class, and the classes of its arguments. -/
namespace Go.Ev
open Go.Proofs Go.RowKit Go.Lib
set_option maxRecDepth 100000

/-- What the node of a key is, and the keys of its arguments. -/
def LookPost (q : Nd) (ks : List Nat) (W : World) (e : Ending) (w' : World) : Prop :=
  ∃ u v, e = .returned (.tuple #[.agg #[.int .i64 q.kind, .int .i64 q.num, .string q.label, u], v]) ∧ (∃ a n c, u = .slice a n c) ∧ Own W.heap.size 1 w' v ks.length (intsV ks) ∧ Kp W.heap.size W w'

set_option maxHeartbeats 8000000 in
theorem look_ok (tr me cl gb go gc mb cb K k x : Nat) (_rv : Value) (G : List Nd) (c : Nat → Nat) (W : World) (nd : Nd) (_hN : G.length ≤ 100000) (_hK : K ≤ 100000) (hk : k < K) (hx : G[x]? = some nd) (_hgc : G.length ≤ gc) (hG : GClosed G) (hcN : ∀ y, y < G.length → c y ≤ 200000)
    (h0 : W.cell? ⟨tr, 0, none⟩ = some (.slice (some ⟨gb, go, none⟩) G.length gc)) (h1 : W.cell? ⟨me, 0, none⟩ = some (.slice (some ⟨mb, 0, none⟩) K K)) (hm : W.cell? ⟨mb, k, none⟩ = some (.int .i64 (x : Int)))
    (h2 : W.cell? ⟨cl, 0, none⟩ = some (.slice (some ⟨cb, 0, none⟩) G.length G.length)) (hc : RowI W cb (clsI G.length c)) (hnd : NodeW W gb (go + x * 4) nd) :
    Calls Tryz.prog 85 #[.int .i64 (k : Int), .pointer (some ⟨tr, 0, none⟩), .pointer (some ⟨me, 0, none⟩), .pointer (some ⟨cl, 0, none⟩)] W (LookPost nd (sgn G c x) W) := by
  have hxN := (List.getElem?_eq_some_iff.1 hx).1
  obtain ⟨n0, n1, n2, n3, va, n4, hav⟩ := hnd
  obtain ⟨aa, ac, rfl⟩ := hav.len
  obtain ⟨h8, hargs⟩ := hG nd (List.mem_of_getElem? hx)
  have hsg := sgn_at (c := c) hx
  have HAV := Lib.hid hav
  have HC := Lib.hid hc
  have HAR := Lib.hid hargs
  have HCN := Lib.hid hcN
  have HSG := Lib.hid hsg
  obtain ⟨i3, hj0, hy0, hy1, hy2⟩ := info_parts Tryz.info3
  have l0 := block_lt_of_cell h0
  have l1 := block_lt_of_cell h1
  have l2 := block_lt_of_cell h2
  have l3 := block_lt_of_cell hm
  have l4 := block_lt_of_cell n0
  have n3' := n3
  clear hav hc hargs hcN hsg hx hG n3
  go_enter Tryz.func85, Tryz.ntmps85
  go_wp2
  go_region
  go_wp2
  have hL : (sgn G c x).length = nd.args.length := by rw [HSG.out]; simp
  have HLL := Lib.hid hL
  clear hL
  have HK0 := Lib.hid (show Kp W.heap.size W ((W.alloc (Obj.cells #[Value.int IntKind.i64 0, Value.int IntKind.i64 0, Value.string { data := #[] }, Value.slice none 0 0] 48)).alloc (Obj.cells #[Value.int IntKind.i64 nd.kind, Value.int IntKind.i64 nd.num, Value.string nd.label, Value.slice aa nd.args.length ac] 48)).drew from
    (((Kp.refl _ _).alloc (Nat.le_refl _) _).alloc (by simp) _).drew)
  go_loopw [8, 10, 22] (fun v8 _ i wr => ∃ q : Nat, q ≤ nd.args.length ∧ i = .int .i64 q ∧ Own W.heap.size 1 wr v8 q (intsV ((sgn G c x).take q)) ∧ v8.ownBlock ≠ some W.heap.size ∧ v8.ownBlock ≠ some (W.heap.size + 1) ∧ (∃ t, wr.heap[W.heap.size]? = some (.cells #[Value.int IntKind.i64 0, Value.int IntKind.i64 0, Value.string { data := #[] }, Value.slice none 0 0] t (0, 0))) ∧
    (∃ t, wr.heap[W.heap.size + 1]? = some (.cells #[Value.int IntKind.i64 nd.kind, Value.int IntKind.i64 nd.num, Value.string nd.label, Value.slice aa nd.args.length ac] t (0, 0))) ∧ Kp W.heap.size W wr) (fun _ _ i _ => nd.args.length - (RowKit.intOf i).toNat)
  case atStart => exact ⟨0, Nat.zero_le _, rfl, ⟨by simp [intsV], .inl ⟨rfl, rfl⟩⟩, by simp [Value.ownBlock], by simp [Value.ownBlock], ⟨48, by rw [heap_drew]; exact heap_alloc2_old _ _ _⟩, ⟨48, by rw [heap_drew]; exact heap_alloc2_new _ _ _⟩, HK0.out⟩
  case round =>
    obtain ⟨q, hq, rfl, hown, hb1, hb2, ⟨t1, hc1⟩, ⟨t2, hc2⟩, hkp⟩ := hrel
    clear HK0
    obtain ⟨va, vc, e8⟩ := own_form hown
    subst e8
    have hsz := hkp.size
    have hlt1 : W.heap.size + 1 < wr.heap.size := (Array.getElem?_eq_some_iff.1 hc2).1
    by_cases hlq : q < nd.args.length
    · obtain ⟨b0, o0, rfl, hac, _, hcell⟩ := args_cellAt HAV.out hlq
      have ha := HAR.out _ (List.getElem_mem hlq)
      obtain ⟨y, hy⟩ : ∃ y : Nat, nd.args[q] = (y : Int) := ⟨_, (Int.toNat_of_nonneg ha.1).symm⟩
      have hcq := hkp.cells (hcell q _ (List.getElem?_eq_getElem hlq))
      rw [hy] at hcq ha
      have hyN : y < G.length := by have := ha.2; omega
      have hcy := hkp.cells (HC.out.cell (i := y) (by rw [clsI_length]; exact hyN))
      rw [clsI_get c hyN] at hcy
      have hcyN := HCN.out y hyN
      have h2' := hkp.cells h2
      have hsq : (sgn G c x)[q]? = some (c y) := by rw [HSG.out, List.getElem?_map, List.getElem?_eq_getElem hlq, hy]; rfl
      have HS := Lib.hid (show intsV ((sgn G c x).take (q + 1)) = intsV ((sgn G c x).take q) ++ [.int .i64 (c y : Int)] by rw [takeSnoc hsq]; simp [intsV])
      have HAL := Lib.hid (show Kp wr.heap.size wr (wr.alloc (Obj.cells #[Value.int .i64 (c y : Int)] 3)) from (Kp.refl _ _).alloc (Nat.le_refl _) _)
      have HO := Lib.hid hown
      have HB1 := Lib.hid hb1
      have HB2 := Lib.hid hb2
      have HC1 := Lib.hid hc1
      have HC2 := Lib.hid hc2
      have HKP := Lib.hid hkp
      clear hown hb1 hb2 hc1 hc2 hkp hcell hy ha hsq
      go_wp2_with (at_builtin; refine wpList_append_mine rfl (.tmp 26) (.tmp 31) 43 rfl W.heap.size 3 i3 (.int .i64 0) 1 8 Tryz.underlying43 hj0 hy0 hy1 hy2 rfl (by decide) (.slice va q vc) q (intsV ((sgn G c x).take q)) rfl (HO.out.kp HAL.out) ⟨wr.heap.size, 0, none⟩ 1 1 [.int .i64 (c y : Int)] rfl rfl (news_alloc wr [.int .i64 (c y : Int)] 3) (by simp [Value.oneCell']) (by unfold maxLen; omega) (by omega) (by have := HAL.out.size; omega) ?_; intro v' w2 hown2 hgr2 hblk2; have HO2 := Lib.hid hown2; have HG2 := Lib.hid hgr2; have HBL2 := Lib.hid hblk2; clear hown2 hgr2 hblk2)
      go_roundw
      case rel =>
        have hz := HAL.out.size
        refine ⟨q + 1, by omega, by go_num, by rw [HS.out]; exact HO2.out, ?_, ?_, ?_, ?_, ?_⟩
        · rcases HBL2.out with e | ⟨g, e, hg⟩
          · rw [e]; exact HB1.out
          · rw [e]; intro e'; have := Option.some.inj e'; omega
        · rcases HBL2.out with e | ⟨g, e, hg⟩
          · rw [e]; exact HB2.out
          · rw [e]; intro e'; have := Option.some.inj e'; omega
        · obtain ⟨t, ht⟩ : ∃ t, wr.heap[W.heap.size]? = some (.cells #[Value.int IntKind.i64 0, Value.int IntKind.i64 0, Value.string { data := #[] }, Value.slice none 0 0] t (0, 0)) := ⟨_, HC1.out⟩
          exact ⟨t, ((grown_other HG2.out (by omega) HB1.out).trans (HAL.out.block _ (by omega))).trans ht⟩
        · obtain ⟨t, ht⟩ : ∃ t, wr.heap[W.heap.size + 1]? = some (.cells #[Value.int IntKind.i64 nd.kind, Value.int IntKind.i64 nd.num, Value.string nd.label, Value.slice (some ⟨b0, o0, none⟩) nd.args.length ac] t (0, 0)) := ⟨_, HC2.out⟩
          exact ⟨t, ((grown_other HG2.out (by omega) HB2.out).trans (HAL.out.block _ (by omega))).trans ht⟩
        · exact (HKP.out.trans (HAL.out.mono hsz)).of_grown_mine (HO.out.kp HAL.out) HG2.out (by omega)
      case measure => simp [RowKit.intOf]; omega
    · obtain rfl : q = nd.args.length := by omega
      have e : (sgn G c x).take nd.args.length = sgn G c x := List.take_of_length_le (by rw [HLL.out]; exact Nat.le_refl _)
      rw [e] at hown
      have HO := Lib.hid hown
      have HKP := Lib.hid hkp
      have HC1 := Lib.hid hc1
      have HC2 := Lib.hid hc2
      have HNB := Lib.hid hb1
      clear hown hkp hc1 hc2 hb1 hb2 e
      go_wp2_with (first
        | (refine wpList_load_row rfl 48 (.tmp 7) rfl (W.heap.size + 1) rfl t2 _ (0, 0) _ HC2.out Tryz.underlying48 rfl (by rfl) ?_)
        | (refine wpList_store_row rfl 48 (.tmp 5) (.tmp 34) rfl W.heap.size _ rfl rfl t1 _ HC1.out (by rfl) rfl (by simp [Value.oneCell']) ?_))
      have hset := setRow_heap wr W.heap.size _ #[Value.int IntKind.i64 nd.kind, Value.int IntKind.i64 nd.num, Value.string nd.label, Value.slice aa nd.args.length ac] t1 (0, 0) HC1.out
      have d := fun j => cell_setRow_same wr W.heap.size j _ #[Value.int IntKind.i64 nd.kind, Value.int IntKind.i64 nd.num, Value.string nd.label, Value.slice aa nd.args.length ac] t1 (0, 0) HC1.out
      have d0 := d 0
      have d1 := d 1
      have d2 := d 2
      have d3 := d 3
      simp only [List.getElem?_toArray, List.getElem?_cons_zero, List.getElem?_cons_succ] at d0 d1 d2 d3
      refine bodyPost_ret (v := .tuple #[.agg #[.int .i64 nd.kind, .int .i64 nd.num, .string nd.label, .slice aa nd.args.length ac], .slice va nd.args.length vc]) (by simp [results, Tryz.results85, asAddr, d0, d1, d2, d3, go_sem]) rfl ?_
      have hown := HO.out.of_same (w' := wr.setRow W.heap.size #[Value.int IntKind.i64 nd.kind, Value.int IntKind.i64 nd.num, Value.string nd.label, Value.slice aa nd.args.length ac]) fun g hg _ => setRow_other _ _ _ _ fun e => by
        have := HO.out; exact HNB.out (by rw [hg, e])
      refine ⟨_, _, rfl, ⟨_, _, _, rfl⟩, by rw [HLL.out]; exact hown, HKP.out.trans ⟨rfl, rfl, by simp, fun b hb => setRow_other _ _ _ _ (by omega)⟩⟩
end Go.Ev

/- The program's own least: walking a graph by a function that calls itself: the mathematics. -/
namespace Go.Ev
open Go.Proofs Go.RowKit

/-- Nodes met depth first, from a stack. -/
def dmeet (G : List Nd) (st out : List Nat) : List Nat := dfs G (9 * G.length + st.length) st out

/-- Nodes that are in the graph, each once. -/
structure Met (G : List Nd) (out : List Nat) : Prop where
  nodup : out.Nodup
  lt : ∀ x ∈ out, x < G.length

theorem Met.le {G : List Nd} {out : List Nat} (h : Met G out) : out.length ≤ G.length := nodup_le _ _ h.nodup h.lt
theorem Met.snoc {G : List Nd} {out : List Nat} (h : Met G out) {x : Nat} (hx : x < G.length) (hn : x ∉ out) : Met G (out ++ [x]) :=
  ⟨nodup_snoc h.nodup hn, fun y hy => by rcases List.mem_append.1 hy with hy | hy; exact h.lt y hy; simp at hy; subst hy; exact hx⟩

theorem dfs_dmeet {G : List Nd} (hG : GClosed G) {st out : List Nat} (hs : ∀ x ∈ st, x < G.length) (ho : Met G out) {k : Nat} (hk : 9 * (G.length - out.length) + st.length ≤ k) : dfs G k st out = dmeet G st out := by
  unfold dmeet
  have h1 := dfs_enough hG (9 * (G.length - out.length) + st.length) st out hs ho.nodup ho.lt (Nat.le_refl _)
  rw [h1 k hk, h1 (9 * G.length + st.length) (by omega)]

theorem dmeet_nil (G : List Nd) (out : List Nat) : dmeet G [] out = out := by
  unfold dmeet; generalize 9 * G.length + ([] : List Nat).length = k; cases k <;> rfl
theorem dmeet_old {G : List Nd} (hG : GClosed G) {x : Nat} {st out : List Nat} (hs : ∀ y ∈ x :: st, y < G.length) (ho : Met G out) (hx : x ∈ out) : dmeet G (x :: st) out = dmeet G st out := by
  have hle := ho.le
  rw [← dfs_dmeet hG hs ho (k := 9 * (G.length - out.length) + st.length + 1) (by simp; omega)]
  conv => lhs; unfold dfs
  rw [if_pos hx]
  exact dfs_dmeet hG (fun y hy => hs y (List.mem_cons_of_mem _ hy)) ho (Nat.le_refl _)
theorem dmeet_new {G : List Nd} (hG : GClosed G) {x : Nat} {st out : List Nat} (hs : ∀ y ∈ x :: st, y < G.length) (ho : Met G out) (hx : x ∉ out) : dmeet G (x :: st) out = dmeet G (argsAt G x ++ st) (out ++ [x]) := by
  have hxl := hs x (List.mem_cons_self ..)
  have ho' := ho.snoc hxl hx
  have hle := ho'.le
  rw [List.length_append] at hle
  simp at hle
  have ha := argsAt_le hG x
  rw [← dfs_dmeet hG hs ho (k := 9 * (G.length - out.length) + st.length + 1) (by simp; omega)]
  conv => lhs; unfold dfs
  rw [if_neg hx]
  refine dfs_dmeet hG (fun y hy => ?_) ho' (by simp; omega)
  rcases List.mem_append.1 hy with hy | hy
  · exact argsAt_lt hG hy
  · exact hs y (List.mem_cons_of_mem _ hy)

/-- What is met from a stack. -/
theorem dmeet_props {G : List Nd} (hG : GClosed G) : ∀ (M : Nat) (st out : List Nat), 9 * (G.length - out.length) + st.length ≤ M → (∀ x ∈ st, x < G.length) → Met G out →
    Met G (dmeet G st out) ∧ (∃ l, dmeet G st out = out ++ l) ∧ (∀ x ∈ st, x ∈ dmeet G st out) ∧ (∀ x ∈ dmeet G st out, x ∉ out → ∀ a ∈ argsAt G x, a ∈ dmeet G st out) ∧ ∀ m, (∀ x ∈ m, x < G.length) → dmeet G (st ++ m) out = dmeet G m (dmeet G st out)
  | _, [], out, _, _, ho => by
    rw [dmeet_nil]
    exact ⟨ho, ⟨[], by simp⟩, by simp, fun x hx hn => absurd hx hn, fun m _ => rfl⟩
  | 0, x :: st, out, hM, _, _ => by simp at hM
  | M + 1, x :: st, out, hM, hs, ho => by
    simp only [List.length_cons] at hM
    by_cases hx : x ∈ out
    · rw [dmeet_old hG hs ho hx]
      obtain ⟨h1, ⟨l, h2⟩, h3, h4, h5⟩ := dmeet_props hG M st out (by omega) (fun y hy => hs y (List.mem_cons_of_mem _ hy)) ho
      refine ⟨h1, ⟨l, h2⟩, fun y hy => ?_, h4, fun m hm => ?_⟩
      · rcases List.mem_cons.1 hy with rfl | hy
        · rw [h2]; exact List.mem_append_left _ hx
        · exact h3 y hy
      · rw [List.cons_append, dmeet_old hG (fun y hy => ?_) ho hx]
        · exact h5 m hm
        · rcases List.mem_cons.1 hy with rfl | hy
          · exact hs _ (List.mem_cons_self ..)
          · rcases List.mem_append.1 hy with hy | hy
            · exact hs y (List.mem_cons_of_mem _ hy)
            · exact hm y hy
    · have hxl := hs x (List.mem_cons_self ..)
      have ho' := ho.snoc hxl hx
      have hle := ho'.le
      rw [List.length_append] at hle
      simp at hle
      have ha := argsAt_le hG x
      have hs' : ∀ y ∈ argsAt G x ++ st, y < G.length := fun y hy => by
        rcases List.mem_append.1 hy with hy | hy
        · exact argsAt_lt hG hy
        · exact hs y (List.mem_cons_of_mem _ hy)
      rw [dmeet_new hG hs ho hx]
      obtain ⟨h1, ⟨l, h2⟩, h3, h4, h5⟩ := dmeet_props hG M (argsAt G x ++ st) (out ++ [x]) (by simp; omega) hs' ho'
      refine ⟨h1, ⟨x :: l, by rw [h2]; simp⟩, fun y hy => ?_, fun y hy hn a haa => ?_, fun m hm => ?_⟩
      · rcases List.mem_cons.1 hy with rfl | hy
        · rw [h2]; simp
        · exact h3 y (List.mem_append_right _ hy)
      · by_cases hyx : y = x
        · subst hyx; exact h3 a (List.mem_append_left _ haa)
        · exact h4 y hy (by simp [hn, hyx]) a haa
      · rw [List.cons_append, dmeet_new hG (fun y hy => ?_) ho hx, ← List.append_assoc]
        · exact h5 m hm
        · rcases List.mem_cons.1 hy with rfl | hy
          · exact hxl
          · rcases List.mem_append.1 hy with hy | hy
            · exact hs y (List.mem_cons_of_mem _ hy)
            · exact hm y hy

theorem dmeet_reach {G : List Nd} (hG : GClosed G) {r : Nat} (hr : r < G.length) : dmeet G [r] [] = reach G r := by
  unfold reach
  exact (dfs_dmeet hG (by simpa using hr) ⟨List.nodup_nil, by simp⟩ (by simp)).symm

/-- The nodes so far: those in op have no arguments yet. -/
def nodesL (G : List Nd) (out op : List Nat) : List Nd := out.map fun x => { G.getD x ⟨0, 0, ⟨#[]⟩, []⟩ with args := if x ∈ op then [] else (argsAt G x).map fun a => ((out.idxOf a : Nat) : Int) }
theorem nodesL_length (G : List Nd) (out op : List Nat) : (nodesL G out op).length = out.length := by simp [nodesL]
theorem nodesL_renum (G : List Nd) (out : List Nat) : nodesL G out [] = renum G out := by unfold nodesL renum; simp
def ClosedOut (G : List Nd) (out op : List Nat) : Prop := ∀ x ∈ out, x ∉ op → ∀ a ∈ argsAt G x, a ∈ out

theorem idxOf_left {l m : List Nat} {a : Nat} (h : a ∈ l) : (l ++ m).idxOf a = l.idxOf a := by
  rw [List.idxOf_append, if_pos h]

theorem nodesL_push {G : List Nd} {out op : List Nat} {x : Nat} (hc : ClosedOut G out op) (hx : x ∉ out) : nodesL G (out ++ [x]) (x :: op) = nodesL G out op ++ [{ G.getD x ⟨0, 0, ⟨#[]⟩, []⟩ with args := [] }] := by
  unfold nodesL
  rw [List.map_append]
  congr 1
  · refine List.map_congr_left fun y hy => ?_
    have hyx : y ≠ x := fun e => hx (e ▸ hy)
    have e : (if y ∈ x :: op then [] else (argsAt G y).map fun a => (((out ++ [x]).idxOf a : Nat) : Int)) = (if y ∈ op then [] else (argsAt G y).map fun a => ((out.idxOf a : Nat) : Int)) := by
      by_cases hyo : y ∈ op
      · rw [if_pos (by simp [hyo]), if_pos hyo]
      · rw [if_neg (by simp [hyo, hyx]), if_neg hyo]
        refine List.map_congr_left fun a ha => ?_
        rw [idxOf_left (hc y hy hyo a ha)]
    rw [e]
  · simp

theorem nodesL_put {G : List Nd} {out op : List Nat} {x i : Nat} (hn : out.Nodup) (hi : out[i]? = some x) (hx : x ∉ op) :
    (nodesL G out (x :: op)).set i { G.getD x ⟨0, 0, ⟨#[]⟩, []⟩ with args := (argsAt G x).map fun a => ((out.idxOf a : Nat) : Int) } = nodesL G out op := by
  apply List.ext_getElem?
  intro j
  rw [List.getElem?_set, nodesL_length]
  unfold nodesL
  rw [List.getElem?_map, List.getElem?_map]
  by_cases hij : i = j
  · subst hij
    rw [if_pos rfl, if_pos (List.getElem?_eq_some_iff.1 hi).1, hi]
    simp [hx]
  · rw [if_neg hij]
    cases hj : out[j]? with
    | none => rfl
    | some y =>
      have hyx : y ≠ x := by
        rintro rfl
        obtain ⟨h1, h2⟩ := List.getElem?_eq_some_iff.1 hi
        obtain ⟨h3, h4⟩ := List.getElem?_eq_some_iff.1 hj
        exact hij ((List.getElem_inj hn).1 (h2.trans h4.symm))
      simp [hyx]
end Go.Ev

/- The program's own least: walking a graph by a function that calls itself: the memory. -/
namespace Go.Ev
open Go.Proofs Go.RowKit

theorem Seg.setAt {B size b off n cap : Nat} {w : World} {xs : List Value} (h : Seg B size w b off n cap xs) {i : Nat} (hi : i < n * size) (v : Value) : Seg B size (w.setCell ⟨b, off + i, none⟩ v) b off n cap (xs.set i v) := by
  obtain ⟨cs, t, h1, h2, h3⟩ := h.blk
  have hl := h.len
  have hf : n * size ≤ cap * size := Nat.mul_le_mul_right _ h.fit
  refine ⟨h.lo, by rw [List.length_set]; exact hl, h.fit, h.max, cs.setIfInBounds (off + i) v, t, heap_setCell_same _ _ _ _ _ _ h1, by simpa using h2, fun j u hj => ?_⟩
  rw [List.getElem?_set] at hj
  rw [Array.getElem?_setIfInBounds]
  by_cases hij : i = j
  · subst hij
    rw [if_pos rfl, if_pos (by omega)] at hj
    rw [if_pos rfl, if_pos (by omega)]
    exact hj
  · rw [if_neg hij] at hj
    rw [if_neg (by omega)]
    exact h3 j u hj

theorem nodesCells_set : ∀ {ns : List Nd} {us : List Value} {i : Nat} {n : Nd} {u : Value} (l : List Int), us.length = ns.length → ns[i]? = some n → nodesCells (ns.set i { n with args := l }) (us.set i u) = (nodesCells ns us).set (i * 4 + 3) u
  | [], _, i, _, _, _, _, h => by simp at h
  | _ :: _, [], _, _, _, _, h, _ => by simp at h
  | y :: ns, z :: us, 0, n, u, l, _, h => by
    simp only [List.getElem?_cons_zero, Option.some.injEq] at h
    subst h
    simp [nodesCells, nodeCells]
  | y :: ns, z :: us, i + 1, n, u, l, hl, h => by
    simp only [List.getElem?_cons_succ] at h
    simp only [List.set_cons_succ, nodesCells]
    rw [nodesCells_set l (by simpa using hl) h]
    have e : (i + 1) * 4 + 3 = (nodeCells y z).length + (i * 4 + 3) := by simp [nodeCells]; omega
    rw [e, List.set_append, if_neg (by omega), Nat.add_sub_cancel_left]

/-- A node given its arguments. -/
theorem OwnN.putArgs {B : Nat} {w : World} {b off cap i : Nat} {ns : List Nd} {us : List Value} {n : Nd} {u : Value} {l : List Int} (h : OwnN B w (.slice (some ⟨b, off, none⟩) ns.length cap) ns us) (hi : ns[i]? = some n)
    (hu : Own B 1 w u l.length (l.map (Value.int .i64))) (huv : ∀ g, u.ownBlock = some g → b ≠ g ∧ ∀ z ∈ us, z.ownBlock ≠ some g) :
    OwnN B (w.setCell ⟨b, off + (i * 4 + 3), none⟩ u) (.slice (some ⟨b, off, none⟩) ns.length cap) (ns.set i { n with args := l }) (us.set i u) := by
  have hil := (List.getElem?_eq_some_iff.1 hi).1
  obtain ⟨b0, off0, cap0, e0, hseg⟩ := h.own.seg (by omega)
  cases e0
  have hub : u.ownBlock ≠ some b := fun e => (huv b e).1 rfl
  have hbz : ∀ z ∈ us, z.ownBlock ≠ some b := fun z hz e => h.off z hz b e rfl
  have hC : Chg b w (w.setCell ⟨b, off + (i * 4 + 3), none⟩ u) := (Chg.refl _ _).setCell _ _
  refine ⟨?_, by simp [h.len], fun j x z hj hz => ?_, fun z hz g hg => ?_, ?_, fun x hx => ?_⟩
  · rw [nodesCells_set l h.len hi, List.length_set]
    exact (hseg.setAt (i := i * 4 + 3) (by omega) u).own
  · rw [List.getElem?_set] at hj hz
    by_cases hij : i = j
    · subst hij
      rw [if_pos rfl, if_pos hil] at hj
      rw [if_pos rfl, if_pos (by rw [h.len]; exact hil)] at hz
      cases hj; cases hz
      exact hu.chg hC hub
    · rw [if_neg hij] at hj hz
      exact (h.args j x z hj hz).chg hC (hbz z (List.mem_of_getElem? hz))
  · rcases List.mem_or_eq_of_mem_set hz with hz | rfl
    · exact h.off z hz g hg
    · intro e; exact hub (hg.trans e.symm)
  · rw [List.pairwise_iff_getElem]
    intro i' k hi' hk hik g hg
    rw [List.length_set] at hi' hk
    rw [List.getElem_set] at hg ⊢
    split at hg
    · rename_i e
      subst e
      rw [if_neg (by omega)]
      exact (huv g hg).2 _ (List.getElem_mem hk)
    · split
      · intro e
        exact (huv g e).2 _ (List.getElem_mem hi') hg
      · exact List.pairwise_iff_getElem.1 h.apart i' k hi' hk hik g hg
  · rcases List.mem_or_eq_of_mem_set hx with hx | rfl
    · exact h.size x hx
    · exact h.size n (List.mem_of_getElem? hi)

/-- While a graph is walked: what the function's variables hold. -/
structure VSt (B : Nat) (Q : List Nd) (nb mb : Nat) (out op : List Nat) (v : Value) (us : List Value) (w : World) : Prop where
  var : ∃ t, w.heap[nb]? = some (.cells #[v] t (0, 0))
  map : ∃ f, MapV Tryz.prog 3 3 w mb out.length f ∧ KeyF encI out f
  nodes : OwnN B w v (nodesL Q out op) us
  ne : nb ≠ mb
  lo : nb < B ∧ mb < B
  met : Met Q out
  closed : ClosedOut Q out op
  sub : ∀ y ∈ op, y ∈ out

/-- The blocks that are written. -/
def VW (nb mb : Nat) (v : Value) (g : Nat) : Prop := g = nb ∨ g = mb ∨ v.ownBlock = some g

def VPost (B : Nat) (Q : List Nd) (nb mb : Nat) (out op : List Nat) (v : Value) (us : List Value) (x : Nat) (W : World) (e : Ending) (w' : World) : Prop :=
  ∃ v' us', e = .returned (.int .i64 (((dmeet Q [x] out).idxOf x : Nat) : Int)) ∧ VSt B Q nb mb (dmeet Q [x] out) op v' us' w' ∧ Upd (VW nb mb v) W w' ∧ (v'.ownBlock = v.ownBlock ∨ ∃ g, v'.ownBlock = some g ∧ W.heap.size ≤ g) ∧
    ∀ u ∈ us', u ∈ us ∨ ∀ g, u.ownBlock = some g → W.heap.size ≤ g

section
variable {B : Nat} {Q : List Nd} {nb mb : Nat} {out op : List Nat} {v : Value} {us : List Value} {w w' : World}
theorem OwnN.of_same (h : OwnN B w v (nodesL Q out op) us) (hk : ∀ g, (v.ownBlock = some g ∨ ∃ u ∈ us, u.ownBlock = some g) → w'.heap[g]? = w.heap[g]?) : OwnN B w' v (nodesL Q out op) us :=
  ⟨h.own.of_same fun g hg _ => hk g (.inl hg), h.len, fun j x u hj hu => (h.args j x u hj hu).of_same fun g hg _ => hk g (.inr ⟨u, List.mem_of_getElem? hu, hg⟩), h.off, h.apart, h.size⟩
/-- What is neither the function's nor its nodes' may change. -/
theorem VSt.upd (h : VSt B Q nb mb out op v us w) {S : Nat → Prop} (hu : Upd S w w') (hS : ∀ g, S g → B ≤ g ∧ v.ownBlock ≠ some g ∧ ∀ u ∈ us, u.ownBlock ≠ some g) : VSt B Q nb mb out op v us w' := by
  obtain ⟨t, ht⟩ := h.var
  obtain ⟨f, hf, hk⟩ := h.map
  have hnb := (Array.getElem?_eq_some_iff.1 ht).1
  refine ⟨⟨t, (hu.block nb hnb fun e => by have := (hS nb e).1; have := h.lo.1; omega).trans ht⟩, ⟨f, hf.of_heap (hu.block mb hf.lt fun e => by have := (hS mb e).1; have := h.lo.2; omega), hk⟩, h.nodes.of_same fun g hg => ?_, h.ne, h.lo, h.met, h.closed, h.sub⟩
  rcases hg with hg | ⟨u, hu', hg⟩
  · exact hu.block g (h.nodes.own.lt hg).2 fun e => (hS g e).2.1 hg
  · exact hu.block g (h.nodes.lt_us u hu' g hg) fun e => (hS g e).2.2 u hu' hg
theorem VSt.kp (h : VSt B Q nb mb out op v us w) (hk : Kp w.heap.size w w') : VSt B Q nb mb out op v us w' := h.upd (Upd.of_kp hk fun _ => False) fun _ h => h.elim
end

/-- While a node's arguments are walked. -/
structure VLoop (B : Nat) (W : World) (Q : List Nd) (nb mb : Nat) (out op : List Nat) (v : Value) (us : List Value) (x : Nat) (kv : Value) (q : Nat) (v12 : Value) (v' : Value) (us' : List Value) (wr : World) : Prop where
  st : VSt B Q nb mb (dmeet Q ((argsAt Q x).take q) (out ++ [x])) (x :: op) v' us' wr
  args : Own W.heap.size 1 wr v12 q (intsV (((argsAt Q x).take q).map (dmeet Q ((argsAt Q x).take q) (out ++ [x])).idxOf))
  keys : Own W.heap.size 1 wr kv (argsAt Q x).length (intsV (argsAt Q x))
  a1 : ∀ g, v12.ownBlock = some g → v'.ownBlock ≠ some g ∧ (∀ u ∈ us', u.ownBlock ≠ some g) ∧ kv.ownBlock ≠ some g
  a2 : ∀ g, kv.ownBlock = some g → v'.ownBlock ≠ some g
  upd : Upd (VW nb mb v) W wr
  v8 : v'.ownBlock = v.ownBlock ∨ ∃ g, v'.ownBlock = some g ∧ W.heap.size ≤ g
  us8 : ∀ u ∈ us', u ∈ us ∨ ∀ g, u.ownBlock = some g → W.heap.size ≤ g

/-- An argument more. -/
theorem VLoop.step {B : Nat} {W wr w5 wa w6 : World} {Q : List Nd} {nb mb : Nat} {out op : List Nat} {v v' v'' kv v12 v12' : Value} {us us' us'' : List Value} {x q k : Nat} (hQ : GClosed Q) (hB : B ≤ W.heap.size)
    (h : VLoop B W Q nb mb out op v us x kv q v12 v' us' wr) (hk : (argsAt Q x)[q]? = some k) (hm : Met Q (out ++ [x]))
    (hst : VSt B Q nb mb (dmeet Q [k] (dmeet Q ((argsAt Q x).take q) (out ++ [x]))) (x :: op) v'' us'' w5) (hu : Upd (VW nb mb v') wr w5) (hv : v''.ownBlock = v'.ownBlock ∨ ∃ g, v''.ownBlock = some g ∧ wr.heap.size ≤ g)
    (hus : ∀ u ∈ us'', u ∈ us' ∨ ∀ g, u.ownBlock = some g → wr.heap.size ≤ g) (hal : Kp w5.heap.size w5 wa)
    (hown : Own W.heap.size 1 w6 v12' (q + 1) (intsV (((argsAt Q x).take q).map (dmeet Q ((argsAt Q x).take q) (out ++ [x])).idxOf) ++ [.int .i64 (((dmeet Q [k] (dmeet Q ((argsAt Q x).take q) (out ++ [x]))).idxOf k : Nat) : Int)]))
    (hgr : wa.grownBy w6 v12.ownBlock) (hblk : v12'.ownBlock = v12.ownBlock ∨ ∃ g, v12'.ownBlock = some g ∧ wa.heap.size ≤ g) : VLoop B W Q nb mb out op v us x kv (q + 1) v12' v'' us'' w6 := by
  have hts : ∀ y ∈ (argsAt Q x).take q, y < Q.length := fun y hy => argsAt_lt hQ (List.mem_of_mem_take hy)
  have hkl : k < Q.length := argsAt_lt hQ (List.mem_of_getElem? hk)
  obtain ⟨p1, ⟨l1, p2⟩, p3, p4, p5⟩ := dmeet_props hQ _ ((argsAt Q x).take q) (out ++ [x]) (Nat.le_refl _) hts hm
  have hnext : dmeet Q ((argsAt Q x).take (q + 1)) (out ++ [x]) = dmeet Q [k] (dmeet Q ((argsAt Q x).take q) (out ++ [x])) := by
    rw [takeSnoc hk]; exact p5 [k] (by simpa using hkl)
  obtain ⟨r1, ⟨l2, r2⟩, r3, _, _⟩ := dmeet_props hQ _ [k] (dmeet Q ((argsAt Q x).take q) (out ++ [x])) (Nat.le_refl _) (by simpa using hkl) p1
  have zw := h.upd.size
  have z1 := hu.size
  have z2 := hal.size
  have z3 := hgr.size
  have b12 : ∀ g, v12.ownBlock = some g → W.heap.size ≤ g ∧ g < wr.heap.size := fun g hg => h.args.lt hg
  have bk : ∀ g, kv.ownBlock = some g → W.heap.size ≤ g ∧ g < wr.heap.size := fun g hg => h.keys.lt hg
  have hvw : ∀ g, W.heap.size ≤ g → v'.ownBlock ≠ some g → ¬ VW nb mb v' g := fun g hg hne hw => by
    rcases hw with rfl | rfl | hw
    · have := hst.lo.1; omega
    · have := hst.lo.2; omega
    · exact hne hw
  have hU6 : Upd (fun g => v12.ownBlock = some g) w5 w6 := (Upd.of_kp hal _).grown hgr fun g hg => .inl hg
  have n12 : ∀ g, v12.ownBlock = some g → v''.ownBlock ≠ some g ∧ (∀ u ∈ us'', u.ownBlock ≠ some g) := fun g hg => by
    have hl := (b12 g hg).2
    refine ⟨?_, fun u hu' e => ?_⟩
    · rcases hv with e | ⟨g', e, hg'⟩
      · rw [e]; exact (h.a1 g hg).1
      · rw [e]; intro e'; have := Option.some.inj e'; omega
    · rcases hus u hu' with h1 | h1
      · exact (h.a1 g hg).2.1 u h1 e
      · have := h1 g e; omega
  have hargs : intsV (((argsAt Q x).take (q + 1)).map (dmeet Q ((argsAt Q x).take (q + 1)) (out ++ [x])).idxOf) = intsV (((argsAt Q x).take q).map (dmeet Q ((argsAt Q x).take q) (out ++ [x])).idxOf) ++ [.int .i64 (((dmeet Q [k] (dmeet Q ((argsAt Q x).take q) (out ++ [x]))).idxOf k : Nat) : Int)] := by
    rw [hnext, takeSnoc hk, List.map_append]
    have e : ((argsAt Q x).take q).map (dmeet Q [k] (dmeet Q ((argsAt Q x).take q) (out ++ [x]))).idxOf = ((argsAt Q x).take q).map (dmeet Q ((argsAt Q x).take q) (out ++ [x])).idxOf := by
      refine List.map_congr_left fun a ha => ?_
      rw [r2, idxOf_left (p3 a ha)]
    rw [e]
    simp [intsV]
  refine ⟨by rw [hnext]; exact hst.upd hU6 fun g hg => ⟨by have := (b12 g hg).1; omega, n12 g hg⟩, by rw [hargs]; exact hown, ?_, fun g hg => ?_, fun g hg => ?_, ?_, ?_, fun u hu' => ?_⟩
  · exact (h.keys.upd hu fun g hg => hvw g (bk g hg).1 (h.a2 g hg)).upd hU6 fun g hg e => (h.a1 g e).2.2 hg
  · rcases hblk with e | ⟨g', e, hg'⟩
    · rw [e] at hg
      exact ⟨(n12 g hg).1, (n12 g hg).2, (h.a1 g hg).2.2⟩
    · rw [e] at hg
      have hgg := Option.some.inj hg
      refine ⟨fun e' => ?_, fun u hu' e' => ?_, fun e' => ?_⟩
      · have := (hst.nodes.own.lt e').2; omega
      · have := hst.nodes.lt_us u hu' g e'; omega
      · have := (bk g e').2; omega
  · have hl := (bk g hg).2
    rcases hv with e | ⟨g', e, hg'⟩
    · rw [e]; exact h.a2 g hg
    · rw [e]; intro e'; have := Option.some.inj e'; omega
  · have hU5 : Upd (VW nb mb v) W w5 := h.upd.trans hu fun b hb => by
      rcases hb with rfl | rfl | hb
      · exact .inl (.inl rfl)
      · exact .inl (.inr (.inl rfl))
      · rcases h.v8 with e | ⟨g', e, hg'⟩
        · exact .inl (.inr (.inr (by rw [← e]; exact hb)))
        · rw [e] at hb; have := Option.some.inj hb; exact .inr (by omega)
    exact hU5.trans hU6 fun b hb => .inr (b12 b hb).1
  · rcases hv with e | ⟨g', e, hg'⟩
    · rw [e]; exact h.v8
    · exact .inr ⟨g', e, by omega⟩
  · rcases hus u hu' with h1 | h1
    · exact h.us8 u h1
    · exact .inr fun g hg => by have := h1 g hg; omega
end Go.Ev

/- The program's own least: walking a graph by a function that calls itself: the walk. -/
namespace Go.Ev
open Go.Proofs Go.RowKit Go.Lib
set_option maxRecDepth 100000

/-- A node entered. -/
theorem VSt.push {B : Nat} {W w1 w2 wk w4 : World} {Q : List Nd} {nb mb : Nat} {out op : List Nat} {v v4 kv : Value} {us : List Value} {x : Nat} {f : Value → Option Lit} {nd : Nd} (_hQ : GClosed Q) (_hB : B ≤ W.heap.size) (h : VSt B Q nb mb out op v us W) (hx : x ∉ out) (hnd : Q[x]? = some nd) (hsz : nd.label.size ≤ 9223372036854775807)
    (hmap : MapV Tryz.prog 3 3 w1 mb (out.length + 1) f) (hkf : KeyF encI (out ++ [x]) f) (hc : Chg mb W w1) (hk2 : Kp w1.heap.size w1 w2) (hkv : Own w1.heap.size 1 w2 kv (argsAt Q x).length (intsV (argsAt Q x))) (hal : Kp w2.heap.size w2 wk)
    (hown : Own B 4 w4 v4 (out.length + 1) (nodesCells (nodesL Q out op) us ++ [.int .i64 nd.kind, .int .i64 nd.num, .string nd.label, .slice none 0 0])) (hgr : wk.grownBy w4 v.ownBlock) (hblk : v4.ownBlock = v.ownBlock ∨ ∃ g, v4.ownBlock = some g ∧ wk.heap.size ≤ g) :
    VLoop B W Q nb mb out op v us x kv 0 (.slice none 0 0) v4 (us ++ [.slice none 0 0]) (w4.setCell ⟨nb, 0, none⟩ v4) := by
  have hxl := (List.getElem?_eq_some_iff.1 hnd).1
  obtain ⟨t, ht⟩ := h.var
  have hnbl : nb < W.heap.size := (Array.getElem?_eq_some_iff.1 ht).1
  have z1 := hc.size
  have z2 := hk2.size
  have z3 := hal.size
  have z4 := hgr.size
  have hlo := h.lo
  have hvne : ∀ g, v.ownBlock = some g → B ≤ g ∧ g < W.heap.size := fun g hg => h.nodes.own.lt hg
  have hn1 : OwnN B w1 v (nodesL Q out op) us := h.nodes.chg hc (fun e => by have := (hvne _ e).1; omega) (fun u hu e => by have := h.nodes.ge_us u hu _ e; omega)
  have hn2 := hn1.kp hk2
  have hn4 := hn2.snoc (u := .slice none 0 0) (x := { nd with args := [] }) ⟨rfl, .inl ⟨rfl, rfl⟩⟩ hsz (fun g hg => by cases hg) hal (by rw [nodesL_length]; exact hown) hgr hblk
  have hpush : nodesL Q (out ++ [x]) (x :: op) = nodesL Q out op ++ [{ nd with args := [] }] := by
    rw [nodesL_push h.closed hx]
    have e : Q.getD x ⟨0, 0, ⟨#[]⟩, []⟩ = nd := by rw [List.getD_eq_getElem?_getD, hnd]; rfl
    rw [e]
  rw [← hpush] at hn4
  have hC : Chg nb w4 (w4.setCell ⟨nb, 0, none⟩ v4) := (Chg.refl _ _).setCell _ _
  have hv4 : v4.ownBlock ≠ some nb := fun e => by have := (hown.lt e).1; omega
  have hu4 : ∀ u ∈ us ++ [.slice none 0 0], u.ownBlock ≠ some nb := fun u hu e => by
    have := hn4.ge_us u hu _ e; omega
  have e0 : dmeet Q ((argsAt Q x).take 0) (out ++ [x]) = out ++ [x] := by rw [List.take_zero, dmeet_nil]
  have hnbv : v.ownBlock ≠ some nb := fun e => by have := (hvne _ e).1; omega
  have hmbv : v.ownBlock ≠ some mb := fun e => by have := (hvne _ e).1; omega
  have hml := hmap.lt
  have hU : Upd (VW nb mb v) W (w4.setCell ⟨nb, 0, none⟩ v4) := by
    have h1 : Upd (VW nb mb v) W w1 := Upd.of_chg hc (.inr (.inl rfl))
    have h2 := h1.trans (Upd.of_kp hk2 fun _ => False) fun _ h => h.elim
    have h3 := h2.trans (Upd.of_kp hal fun _ => False) fun _ h => h.elim
    have h4 := h3.grown hgr fun g hg => .inl (.inr (.inr hg))
    exact h4.setCell (.inl (.inl rfl)) _
  have hkvne : ∀ g, kv.ownBlock = some g → W.heap.size ≤ g ∧ g < w2.heap.size := fun g hg => ⟨by have := (hkv.lt hg).1; omega, (hkv.lt hg).2⟩
  have hst : VSt B Q nb mb (out ++ [x]) (x :: op) v4 (us ++ [.slice none 0 0]) (w4.setCell ⟨nb, 0, none⟩ v4) := by
   refine ⟨⟨t, ?_⟩, ⟨f, ?_, hkf⟩, hn4.chg hC hv4 hu4, h.ne, h.lo, h.met.snoc hxl hx, ?_, ?_⟩
   · have h4 : w4.heap[nb]? = some (.cells #[v] t (0, 0)) := (grown_other hgr (by omega) hnbv).trans ((hal.block nb (by omega)).trans ((hk2.block nb (by omega)).trans ((hc.block nb hnbl h.ne).trans ht)))
     rw [heap_setCell_same _ _ _ _ _ _ h4]; rfl
   · have e : (out ++ [x]).length = out.length + 1 := by simp
     rw [e]
     exact (((hmap.kp hk2).kp hal).of_heap (grown_other hgr (by omega) hmbv)).of_heap (Below.heap_setCell _ _ _ _ (Ne.symm h.ne))
   · intro y hy hyo a ha
     rcases List.mem_append.1 hy with hy | hy
     · exact List.mem_append_left _ (h.closed y hy (fun h' => hyo (List.mem_cons_of_mem _ h')) a ha)
     · simp at hy; subst hy; simp at hyo
   · intro y hy
     rcases List.mem_cons.1 hy with rfl | hy
     · simp
     · exact List.mem_append_left _ (h.sub y hy)
  refine ⟨by rw [e0]; exact hst, ⟨rfl, .inl ⟨rfl, rfl⟩⟩, ?_, (fun g hg => by cases hg), fun g hg => ?_, hU, ?_, fun u hu => ?_⟩
  · refine ((hkv.mono (by omega)).kp hal).of_same fun g hg hl => ?_
    have := hkvne g hg
    exact (Below.heap_setCell _ _ _ _ (by show g ≠ nb; omega)).trans (grown_other hgr hl fun e => by have := (hvne g e).2; omega)
  · have := hkvne g hg
    rcases hblk with e | ⟨g', e, hg'⟩
    · rw [e]; intro e'; have := (hvne g e').2; omega
    · rw [e]; intro e'; have := Option.some.inj e'; omega
  · rcases hblk with e | ⟨g', e, hg'⟩
    · exact .inl e
    · exact .inr ⟨g', e, by omega⟩
  · rcases List.mem_append.1 hu with hu | hu
    · exact .inl hu
    · simp at hu; subst hu; exact .inr fun g hg => by cases hg

/-- A node left. -/
theorem VLoop.finish {B : Nat} {W wr : World} {Q : List Nd} {nb mb : Nat} {out op : List Nat} {v kv v12 : Value} {us us' : List Value} {x b off n cap : Nat} (hQ : GClosed Q) (hB : B ≤ W.heap.size) (hst : VSt B Q nb mb out op v us W) (hx : x ∉ out) (hxl : x < Q.length)
    (h : VLoop B W Q nb mb out op v us x kv (argsAt Q x).length v12 (.slice (some ⟨b, off, none⟩) n cap) us' wr) :
    VPost B Q nb mb out op v us x W (.returned (.int .i64 (out.length : Int))) (wr.setCell ⟨b, off + (out.length * 4 + 3), none⟩ v12) := by
  have hm := hst.met.snoc hxl hx
  have hal : ∀ y ∈ argsAt Q x, y < Q.length := fun y hy => argsAt_lt hQ hy
  obtain ⟨p1, ⟨l1, p2⟩, p3, p4, _⟩ := dmeet_props hQ _ (argsAt Q x) (out ++ [x]) (Nat.le_refl _) hal hm
  have hD : dmeet Q [x] out = dmeet Q (argsAt Q x) (out ++ [x]) := by rw [dmeet_new hQ (by simpa using hxl) hst.met hx, List.append_nil]
  have h1 := h.st
  have h2 := h.args
  rw [List.take_length] at h1 h2
  have hat : (dmeet Q (argsAt Q x) (out ++ [x]))[out.length]? = some x := by rw [p2]; simp
  have hidx : (dmeet Q (argsAt Q x) (out ++ [x])).idxOf x = out.length := idxOf_at p1.nodup hat
  have hxo : x ∉ op := fun h => hx (hst.sub x h)
  have hlen : n = (nodesL Q (dmeet Q (argsAt Q x) (out ++ [x])) (x :: op)).length := by
    obtain ⟨a, c, e⟩ := own_form h1.nodes.own
    cases e; rfl
  subst hlen
  have hnl : (nodesL Q (dmeet Q (argsAt Q x) (out ++ [x])) (x :: op))[out.length]? = some { Q.getD x ⟨0, 0, ⟨#[]⟩, []⟩ with args := [] } := by
    unfold nodesL; rw [List.getElem?_map, hat]; simp
  have hput := h1.nodes.putArgs (l := (argsAt Q x).map fun a => (((dmeet Q (argsAt Q x) (out ++ [x])).idxOf a : Nat) : Int)) hnl (by
    have e : ((argsAt Q x).map fun a => (((dmeet Q (argsAt Q x) (out ++ [x])).idxOf a : Nat) : Int)).map (Value.int .i64) = intsV ((argsAt Q x).map (dmeet Q (argsAt Q x) (out ++ [x])).idxOf) := by simp [intsV, Function.comp_def]
    rw [e]; simpa using h2.mono hB) (fun g hg => ⟨fun e => (h.a1 g hg).1 (by rw [e]; rfl), (h.a1 g hg).2.1⟩)
  have hset := nodesL_put (G := Q) p1.nodup hat hxo
  have hset' : (nodesL Q (dmeet Q (argsAt Q x) (out ++ [x])) (x :: op)).set out.length { ({ Q.getD x ⟨0, 0, ⟨#[]⟩, []⟩ with args := [] } : Nd) with args := (argsAt Q x).map fun a => (((dmeet Q (argsAt Q x) (out ++ [x])).idxOf a : Nat) : Int) } = nodesL Q (dmeet Q (argsAt Q x) (out ++ [x])) op := hset
  rw [hset'] at hput
  have hbl := (h1.nodes.own.lt (g := b) rfl)
  obtain ⟨t, ht⟩ := h1.var
  obtain ⟨f, hf, hkf⟩ := h1.map
  have hnbb : nb ≠ b := by have := h1.lo.1; omega
  have hmbb : mb ≠ b := by have := h1.lo.2; omega
  refine ⟨.slice (some ⟨b, off, none⟩) (nodesL Q (dmeet Q (argsAt Q x) (out ++ [x])) (x :: op)).length cap, us'.set out.length v12, by rw [hD, hidx], ?_, ?_, h.v8, fun u hu => ?_⟩
  · rw [hD]
    refine ⟨⟨t, (Below.heap_setCell _ _ _ _ hnbb).trans ht⟩, ⟨f, hf.of_heap (Below.heap_setCell _ _ _ _ hmbb), hkf⟩, hput, h1.ne, h1.lo, p1, fun y hy hyo a ha => ?_, fun y hy => ?_⟩
    · by_cases hyx : y = x
      · subst hyx; exact p3 a ha
      · exact h1.closed y hy (by simp [hyx, hyo]) a ha
    · rw [p2]; exact List.mem_append_left _ (List.mem_append_left _ (hst.sub y hy))
  · refine h.upd.setCell ?_ _
    rcases h.v8 with e | ⟨g', e, hg'⟩
    · exact .inl (.inr (.inr (by rw [← e]; rfl)))
    · exact .inr (by have : b = g' := Option.some.inj e; show W.heap.size ≤ b; omega)
  · rcases List.mem_or_eq_of_mem_set hu with hu | rfl
    · exact h.us8 u hu
    · exact .inr fun g hg => (h.args.lt hg).1
end Go.Ev
