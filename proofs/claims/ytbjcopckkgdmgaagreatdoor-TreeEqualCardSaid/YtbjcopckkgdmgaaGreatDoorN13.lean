import Derived.Test.YtbjcopckkgdmgaaGreatDoorOd2
import Derived.Test.YtbjcopckkgdmgaaGreatDoorLgA
import Derived.Test.YtbjcopckkgdmgaaGreatDoorN12
import Derived.Test.YtbjcopckkgdmgaaGreatDoorN9
import Derived.Deep.RegionWith
import Derived.Test.YtbjcopckkgdmgaaGreatDoorN3
import Derived.Test.YtbjcopckkgdmgaaGreatDoorVa7
/- Comparing, and what is the same; two boxes. -/
namespace Go.Ev
open Go.Proofs Go.RowKit Go.Lib

theorem two_kp (W : World) (o o' : Obj) : Kp W.heap.size W ((W.alloc o).alloc o') := ((Kp.refl _ _).alloc (Nat.le_refl _) _).alloc (by simp) _
theorem cmp_zero {A B : List Nd} {x y : Nat} {c : Int} (h : Cmp fcmp A x B y c) : c = 0 ↔ Bis A x B y := by
  constructor
  · intro hc
    rcases h with ⟨_, h⟩ | ⟨t, f, g, h1, h2, h3, h4⟩
    · exact h
    · exact absurd (h4.symm.trans hc) (Cmp.ne fcmp_order h1 h2 h3)
  · intro hb
    rcases h with ⟨h, _⟩ | ⟨t, f, g, ⟨_, h1⟩, _⟩
    · exact h
    · exact absurd (hb t) h1
end Go.Ev

/- The program's own least: the nodes of each class made one. -/
namespace Go.Ev
open Go.Proofs Go.RowKit Go.Lib
set_option maxRecDepth 100000

/-- The least graph of a node. -/
def LeastOf (G : List Nd) (r : Nat) (W : World) (e : Ending) (w' : World) : Prop :=
  ∃ v us L, e = .returned (.agg #[v, .int .i64 0]) ∧ OwnN W.heap.size w' v L us ∧ Canon L ∧ Bis L 0 G r ∧ L.length ≤ G.length ∧ Kp W.heap.size W w'

theorem clsI_zero (N : Nat) : List.replicate N (0 : Int) = clsI N fun _ => 0 := by
  unfold clsI
  simp [List.map_const']
theorem clsI_set (N : Nat) (f : Nat → Nat) {k : Nat} (_hk : k < N) (x : Nat) : (clsI N f).set k (x : Int) = clsI N fun j => if j = k then x else f j := by
  refine List.ext_getElem (by simp [clsI]) fun i h1 h2 => ?_
  simp only [clsI, List.getElem_set, List.getElem_map, List.getElem_range]
  by_cases h : k = i
  · subst h; simp
  · rw [if_neg h, if_neg (Ne.symm h)]

/-- The world in which the classes are gone through. -/
theorem mrg_start (s N : Nat) (tv cv : Value) (W w5 : World) (Z2 : Array Value) (r : Int) (hs : s = W.heap.size) (hZ : Z2 = madeCells (Value.int .i64 0).cells (N * 1))
    (hW : w5 = (((((W.alloc (Obj.cells #[tv, .int .i64 r] 24)).alloc (Obj.cells #[cv] 43)).alloc (Obj.cells #[Value.slice none 0 0, Value.int IntKind.i64 0] 24)).alloc (Obj.cells Z2 3)).alloc (Obj.cells #[Value.slice (some ⟨s + 1 + 1 + 1, 0, none⟩) N N] 43))) :
    RowI w5 (s + 1 + 1 + 1) (clsI N fun _ => 0) ∧ w5.heap[s]? = some (Obj.cells #[tv, .int .i64 r] 24) ∧ w5.heap[s + 1]? = some (Obj.cells #[cv] 43) ∧ w5.heap[s + 1 + 1]? = some (Obj.cells #[Value.slice none 0 0, Value.int IntKind.i64 0] 24) ∧
      w5.heap[s + 1 + 1 + 1 + 1]? = some (Obj.cells #[Value.slice (some ⟨s + 1 + 1 + 1, 0, none⟩) N N] 43) ∧ Kp W.heap.size W w5 ∧ w5.heap.size = s + 5 := by
  obtain ⟨wa, ha⟩ : ∃ wa, wa = W.alloc (Obj.cells #[tv, .int .i64 r] 24) := ⟨_, rfl⟩
  obtain ⟨wb, hb⟩ : ∃ wb, wb = wa.alloc (Obj.cells #[cv] 43) := ⟨_, rfl⟩
  obtain ⟨wc, hc⟩ : ∃ wc, wc = wb.alloc (Obj.cells #[Value.slice none 0 0, Value.int IntKind.i64 0] 24) := ⟨_, rfl⟩
  obtain ⟨wd, hd⟩ : ∃ wd, wd = wc.alloc (Obj.cells Z2 3) := ⟨_, rfl⟩
  rw [← ha, ← hb, ← hc, ← hd] at hW
  have sa : wa.heap.size = s + 1 := by rw [ha, hs]; simp
  have sb : wb.heap.size = s + 1 + 1 := by rw [hb, ← sa]; simp
  have sc : wc.heap.size = s + 1 + 1 + 1 := by rw [hc, ← sb]; simp
  have sd : wd.heap.size = s + 1 + 1 + 1 + 1 := by rw [hd, ← sc]; simp
  have se : w5.heap.size = s + 1 + 1 + 1 + 1 + 1 := by rw [hW, ← sd]; simp
  have b4 := heap_top hW sd
  have b3 := (heap_low hW (n := s + 1 + 1 + 1) (by omega)).trans (heap_top hd sc)
  have d3 := fun (n : Nat) (h : n < wc.heap.size) => (heap_low hW (n := n) (by omega)).trans (heap_low hd h)
  have b2 := (d3 (s + 1 + 1) (by omega)).trans (heap_top hc sb)
  have b1 := (d3 (s + 1) (by omega)).trans ((heap_low hc (by omega)).trans (heap_top hb sa))
  have b0 := (d3 s (by omega)).trans ((heap_low hc (by omega)).trans ((heap_low hb (by omega)).trans (heap_top ha hs.symm)))
  refine ⟨⟨_, by rw [← clsI_zero, b3, zeros_eq hZ]⟩, b0, b1, b2, b4, ?_, by omega⟩
  rw [hW, hd, hc, hb, ha]
  exact (((((Kp.refl _ _).alloc (Nat.le_refl _) _).alloc (by simp) _).alloc (by simp; omega) _).alloc (by simp; omega) _).alloc (by simp; omega) _

set_option maxHeartbeats 8000000 in
theorem merged_ok (gb go gc cb K r : Nat) (G : List Nd) (c : Nat → Nat) (W : World) (hN : G.length ≤ 100000) (hgc : G.length ≤ gc) (hG : GClosed G) (hnd : ∀ (j : Nat) (nd : Nd), G[j]? = some nd → NodeW W gb (go + j * 4) nd) (hc : RowI W cb (clsI G.length c)) (hdv : Dv G c K) (ht : Touched G c []) (hr : r < G.length) :
    Calls Tryz.prog 58 #[.agg #[.slice (some ⟨gb, go, none⟩) G.length gc, .int .i64 (r : Int)], .slice (some ⟨cb, 0, none⟩) G.length G.length] W (LeastOf G r W) := by
  obtain ⟨i3, hj0, hy0, hy1, hy2⟩ := info_parts Tryz.info3
  obtain ⟨N, hNe⟩ : ∃ N, N = G.length := ⟨_, rfl⟩
  rw [← hNe] at hN hgc hc hr ⊢
  obtain ⟨Z2, hZ2⟩ : ∃ Z, Z = madeCells (Value.int .i64 0).cells (N * 1) := ⟨_, rfl⟩
  have hm2 : ∀ w, (Instr.makeSlice 43 (.int .i64 (N : Int)) (.int .i64 (N : Int))).run Tryz.prog w = .ok (.slice (some ⟨w.heap.size, 0, none⟩) N N) (w.alloc (.cells Z2 3)) := fun w => by
    have := run_make (P := Tryz.prog) w 43 3 i3 _ Tryz.underlying43 hj0 hy0 .i64 .i64 N N (by omega) (Int.le_refl _) (by rw [hy2]; omega) (by omega)
    rw [hZ2]; simpa [hy1] using this
  have HZ := Lib.hid hZ2
  have HG := Lib.hid hG
  have HND := Lib.hid hnd
  have HC := Lib.hid hc
  have HDV := Lib.hid hdv
  have HT := Lib.hid ht
  have HNE := Lib.hid hNe
  have hK : K ≤ N := by rw [hNe]; exact hdv.le
  have hcl := hc.lt
  clear hZ2 hG hnd hc hdv ht hNe
  go_enter Tryz.func58, Tryz.ntmps58
  go_wp2_with fail
  obtain ⟨s, hs⟩ : ∃ s, s = W.heap.size := ⟨_, rfl⟩
  rw [← hs]
  obtain ⟨mv, hmv⟩ : ∃ mv, mv = s + 1 + 1 + 1 + 1 := ⟨_, rfl⟩
  rw [← hmv]
  obtain ⟨mb, hmb⟩ : ∃ mb, mb = s + 1 + 1 + 1 := ⟨_, rfl⟩
  rw [← hmb]
  obtain ⟨rb, hrb⟩ : ∃ rb, rb = s + 1 + 1 := ⟨_, rfl⟩
  rw [← hrb]
  obtain ⟨kb, hkb⟩ : ∃ kb, kb = s + 1 := ⟨_, rfl⟩
  rw [← hkb]
  generalize hW5 : World.alloc _ _ = w5
  obtain ⟨q0, q1, q2, q3, q4, qk, qs⟩ := mrg_start s N (.slice (some ⟨gb, go, none⟩) N gc) (.slice (some ⟨cb, 0, none⟩) N N) W w5 Z2 r hs HZ.out (by rw [← hmb]; exact hW5.symm)
  rw [← hmv] at q4
  rw [← hmb] at q0 q4
  rw [← hrb] at q3
  rw [← hkb] at q2
  have H0 := Lib.hid (And.intro (Upd.refl (fun g => g = mb) w5) q0)
  have hq : w5.heap.size = s + 5 := qs
  have Q1 := Lib.hid q1
  have Q2 := Lib.hid q2
  have Q3 := Lib.hid q3
  have Q4 := Lib.hid q4
  have QK := Lib.hid qk
  have HC5 := Lib.hid (HC.out.kp qk hcl)
  have e1 := And.intro (Nat.le_of_eq hmv) (Nat.le_of_eq hmv.symm)
  have e2 := And.intro (Nat.le_of_eq hmb) (Nat.le_of_eq hmb.symm)
  have e3 := And.intro (Nat.le_of_eq hrb) (Nat.le_of_eq hrb.symm)
  have e4 := And.intro (Nat.le_of_eq hkb) (Nat.le_of_eq hkb.symm)
  have e5 := And.intro (Nat.le_of_eq hs) (Nat.le_of_eq hs.symm)
  have e6 := And.intro (Nat.le_of_eq hq) (Nat.le_of_eq hq.symm)
  clear q0 q1 q2 q3 q4 qk qs hW5 HZ hm2 hmv hmb hrb hkb hs hq
  go_loopw [6, 7, 13] (fun _ _ i wr => ∃ (q : Nat) (f : Nat → Nat), q ≤ N ∧ i = .int .i64 (q : Int) ∧ Upd (fun g => g = mb) w5 wr ∧ RowI wr mb (clsI N f) ∧ ∀ x, x < q → f (c x) < q ∧ c (f (c x)) = c x) (fun _ _ i _ => N - (RowKit.intOf i).toNat)
  case atStart => exact ⟨0, fun _ => 0, Nat.zero_le _, rfl, H0.out.1, H0.out.2, fun x hx => by omega⟩
  case round =>
    obtain ⟨q, f, hqN, rfl, hU, hrow, hinv⟩ := hrel
    clear H0
    have hU5 := hU.size
    have k1 := (hU.block kb (by omega) (by omega)).trans Q2.out
    have k4 := (hU.block mv (by omega) (by omega)).trans Q4.out
    have z1 : wr.cell? ⟨kb, 0, none⟩ = some (.slice (some ⟨cb, 0, none⟩) N N) := by unfold World.cell?; rw [k1]; rfl
    have z4 : wr.cell? ⟨mv, 0, none⟩ = some (.slice (some ⟨mb, 0, none⟩) N N) := by unfold World.cell?; rw [k4]; rfl
    have hcr := HC5.out.upd hU (by omega)
    by_cases hlq : q < N
    · have hcq := hcr.cell (i := q) (by rw [clsI_length]; exact hlq)
      rw [clsI_get c hlq] at hcq
      have hcK : c q < N := by have := HDV.out.lt q (by rw [← HNE.out]; exact hlq); omega
      have hm := hrow.cell (i := c q) (by rw [clsI_length]; exact hcK)
      have hmf := hrow.frozen (c q)
      have HU := Lib.hid hU
      have HR := Lib.hid hrow
      have HI := Lib.hid hinv
      clear hU hrow hinv hcr k1 k4
      go_wp2_with fail
      go_roundw
      case rel =>
        refine ⟨q + 1, fun j => if j = c q then q else f j, by omega, by go_num, HU.out.setCell (.inl rfl) _, ?_, fun x hx => ?_⟩
        · rw [← clsI_set N f hcK q]; exact HR.out.set _ _
        · by_cases hxq : c x = c q
          · show (if c x = c q then q else f (c x)) < q + 1 ∧ c (if c x = c q then q else f (c x)) = c x
            rw [if_pos hxq]; exact ⟨by omega, hxq.symm⟩
          · have hx' : x < q := by
              refine Classical.byContradiction fun h => hxq ?_
              rw [show x = q by omega]
            obtain ⟨h1, h2⟩ := HI.out x hx'
            simp only [if_neg hxq]; exact ⟨by omega, h2⟩
      case measure => simp [RowKit.intOf]; omega
    · obtain rfl : q = N := by omega
      have hNe := HNE.out
      subst hNe
      have k0 := (hU.block s (by omega) (by omega)).trans Q1.out
      have k2 := (hU.block rb (by omega) (by omega)).trans Q3.out
      have y0 : wr.cell? ⟨s, 0, none⟩ = some (.slice (some ⟨gb, go, none⟩) G.length gc) := by unfold World.cell?; rw [k0]; rfl
      have y1 : wr.cell? ⟨s, 1, none⟩ = some (.int .i64 (r : Int)) := by unfold World.cell?; rw [k0]; rfl
      have hcx := hcr.cell (i := r) (by rw [clsI_length]; exact hr)
      rw [clsI_get c hr] at hcx
      have hcrK := HDV.out.lt r hr
      have hkp : Kp W.heap.size W wr := QK.out.trans (hU.kp (by omega) (by omega))
      have hmem : ∀ k, k < K → f k < G.length ∧ c (f k) = k := fun k hk => by
        obtain ⟨x, hx, rfl⟩ := HDV.out.onto k hk
        exact hinv x hx
      have hsz : ∀ n ∈ quotK G c K f, n.label.size ≤ 9223372036854775807 := fun n hn => by
        unfold quotK at hn
        obtain ⟨k, hk, rfl⟩ := List.mem_map.1 hn
        have h1 := (hmem k (by simpa using hk)).1
        have h2 := (HND.out (f k) G[f k] (List.getElem?_eq_getElem h1)).size
        simpa [List.getD_eq_getElem?_getD, List.getElem?_eq_getElem h1] using h2
      have hlook : ∀ (w : World) (k : Nat) (nd : Nd), Kp wr.heap.size wr w → (quotK G c K f)[k]? = some nd → Calls Tryz.prog 85 #[.int .i64 (k : Int), .pointer (some ⟨s, 0, none⟩), .pointer (some ⟨mv, 0, none⟩), .pointer (some ⟨kb, 0, none⟩)] w (LookPost nd (argsAt (quotK G c K f) k) w) := fun w k nd hkw hk => by
        have hkK : k < K := by have := (List.getElem?_eq_some_iff.1 hk).1; rwa [quotK_length] at this
        rw [quotK_get G c f hkK] at hk
        obtain ⟨h1, h2⟩ := hmem k hkK
        obtain ⟨nd0, hn0⟩ : ∃ nd0, G[f k]? = some nd0 := ⟨_, List.getElem?_eq_getElem h1⟩
        have hd0 : G.getD (f k) ⟨0, 0, ⟨#[]⟩, []⟩ = nd0 := by rw [List.getD_eq_getElem?_getD, hn0]; rfl
        rw [hd0] at hk
        obtain rfl := Option.some.inj hk
        rw [quotK_args G c f hkK]
        have hmc := hrow.cell (i := k) (by rw [clsI_length]; omega)
        rw [clsI_get f (by omega)] at hmc
        exact look_ok s mv kb gb go gc mb cb G.length k (f k) (.slice none 0 0) G c w nd0 hN hN (by omega) hn0 hgc HG.out (fun y hy => by have := HDV.out.lt y hy; omega) (hkw.cells y0) (hkw.cells z4) (hkw.cells hmc) (hkw.cells z1) (hcr.kp hkw hcr.lt) (((HND.out (f k) nd0 hn0).grown fun _ _ _ h => hkp.cells h).grown fun _ _ _ h => hkw.cells h)
      have HLK := Lib.hid hlook
      have HSZ := Lib.hid hsz
      have HM := Lib.hid hmem
      have HKP := Lib.hid hkp
      have HK2 := Lib.hid k2
      clear hU hrow hinv hcr k1 k4 k0 hlook hsz hmem hkp k2
      go_wp2_with (go_at_call 84; go_loud (refine (led_ok (quotK G c K f) (c r) _ _ _ wr (quotK_closed HG.out HDV.out) (by rw [quotK_length]; omega) HSZ.out (by rw [quotK_length]; exact hcrK) HLK.out).mono ?_); rintro e w7 ⟨v, us, rfl, hon, hk7⟩; obtain ⟨va, vc, rfl⟩ := own_form hon.own; have hb7 := (hk7.block rb (by omega)).trans HK2.out; have r0 : w7.cell? ⟨rb, 0, none⟩ = some (.slice none 0 0) := (by unfold World.cell?; rw [hb7]; rfl); have r1 : w7.cell? ⟨rb, 1, none⟩ = some (.int .i64 0) := (by unfold World.cell?; rw [hb7]; rfl); have r2 : ∀ o, w7.frozen? ⟨rb, o, none⟩ = false := (fun o => by simp [World.frozen?, hb7]); have HON := Lib.hid hon; have HK7 := Lib.hid hk7; clear hon hk7 hb7)
      have hC : Chg rb w7 ((w7.setCell ⟨rb, 0, none⟩ (.slice va (renum (quotK G c K f) (reach (quotK G c K f) (c r))).length vc)).setCell ⟨rb, 1, none⟩ (.int .i64 0)) := ((Chg.refl _ _).setCell _ _).setCell _ _
      have hQ := quotK_closed HG.out HDV.out (m := f)
      obtain ⟨hcan, hbis⟩ := quotK_canon HG.out HDV.out HT.out HM.out hr
      have hre := reach_ok hQ (r := c r) (by rw [quotK_length]; exact hcrK)
      refine bodyPost_ret (v := .agg #[.slice va (renum (quotK G c K f) (reach (quotK G c K f) (c r))).length vc, .int .i64 0]) (by simp [results, Tryz.results58, go_sem, r0, r1]) rfl ⟨_, us, renum (quotK G c K f) (reach (quotK G c K f) (c r)), rfl, ?_, hcan, hbis, ?_, ?_⟩
      · exact ((HON.out.chg hC (fun e => by have := (HON.out.own.lt e).1; omega) (fun u hu e => by have := HON.out.ge_us u hu _ e; omega))).mono (by omega)
      · rw [renum_length]
        have h1 := nodup_le _ _ hre.nodup hre.lt
        rw [quotK_length] at h1
        omega
      · exact ((HKP.out.trans (HK7.out.mono (by omega))).setCell (p := ⟨rb, 0, none⟩) (show W.heap.size ≤ rb by omega) _).setCell (p := ⟨rb, 1, none⟩) (show W.heap.size ≤ rb by omega) _
end Go.Ev

/- The program's own least: least. -/
namespace Go.Ev
open Go.Proofs Go.RowKit Go.Lib
set_option maxRecDepth 100000

set_option maxHeartbeats 8000000 in
theorem progLeast_ok (gb go gc r : Nat) (G : List Nd) (W : World) (hN : G.length ≤ 100000) (hgc : G.length ≤ gc) (hG : GClosed G) (hnd : ∀ (j : Nat) (nd : Nd), G[j]? = some nd → NodeW W gb (go + j * 4) nd) (hfit : ∀ nd ∈ G, FitN nd) (hr : r < G.length) :
    Calls Tryz.prog 43 #[.agg #[.slice (some ⟨gb, go, none⟩) G.length gc, .int .i64 (r : Int)]] W (LeastOf G r W) := by
  obtain ⟨s, hs⟩ : ∃ s, s = W.heap.size := ⟨_, rfl⟩
  obtain ⟨t, ht⟩ : ∃ t, t = s + 1 := ⟨_, rfl⟩
  obtain ⟨W2, hW2⟩ : ∃ W2, W2 = (W.alloc (Obj.cells #[.slice (some ⟨gb, go, none⟩) G.length gc, .int .i64 (r : Int)] 24)).alloc (Obj.cells #[Value.slice none 0 0, Value.int IntKind.i64 0] 24) := ⟨_, rfl⟩
  have hsz : W2.heap.size = s + 2 := by rw [hW2, hs]; simp
  have hk2 : Kp W.heap.size W W2.drew := by rw [hW2]; exact (((Kp.refl _ _).alloc (Nat.le_refl _) _).alloc (by simp) _).drew
  have b0 : W2.heap[s]? = some (Obj.cells #[.slice (some ⟨gb, go, none⟩) G.length gc, .int .i64 (r : Int)] 24) := (heap_low hW2 (by rw [hs]; simp)).trans (heap_top rfl hs.symm)
  have b1 : W2.heap[t]? = some (Obj.cells #[Value.slice none 0 0, Value.int IntKind.i64 0] 24) := heap_top hW2 (by rw [ht, hs]; simp)
  have KEEP : ∀ w, Kp W2.heap.size W2.drew w → w.cell? ⟨s, 0, none⟩ = some (.slice (some ⟨gb, go, none⟩) G.length gc) ∧ w.cell? ⟨s, 1, none⟩ = some (.int .i64 (r : Int)) ∧ w.cell? ⟨t, 0, none⟩ = some (.slice none 0 0) ∧ w.cell? ⟨t, 1, none⟩ = some (.int .i64 0) ∧ (∀ o, w.frozen? ⟨t, o, none⟩ = false) := fun w hk => by
    have h0 := (hk.block s (by omega)).trans ((congrArg (·[s]?) (heap_drew W2)).trans b0)
    have h1 := (hk.block t (by omega)).trans ((congrArg (·[t]?) (heap_drew W2)).trans b1)
    refine ⟨by unfold World.cell?; rw [h0]; rfl, by unfold World.cell?; rw [h0]; rfl, by unfold World.cell?; rw [h1]; rfl, by unfold World.cell?; rw [h1]; rfl, fun o => by simp [World.frozen?, h1]⟩
  have CN := newDiv_ok gb go gc G W2.drew hN (by omega) hgc hG (fun j nd h => (hnd j nd h).grown fun _ _ _ hx => hk2.cells hx) hfit
  have HND : ∀ (j : Nat) (nd : Nd), G[j]? = some nd → NodeW W2.drew gb (go + j * 4) nd := fun j nd h => (hnd j nd h).grown fun _ _ _ hx => hk2.cells hx
  obtain ⟨x0, x1, x2, x3, x4⟩ := KEEP W2.drew (Kp.refl _ _)
  have e1 := And.intro (Nat.le_of_eq hs) (Nat.le_of_eq hs.symm)
  have e2 := And.intro (Nat.le_of_eq ht) (Nat.le_of_eq ht.symm)
  have e3 := And.intro (Nat.le_of_eq hsz) (Nat.le_of_eq hsz.symm)
  have HS := Lib.hid hs
  have HT := Lib.hid ht
  have HW2 := Lib.hid hW2
  have HKEEP := Lib.hid KEEP
  have HCN := Lib.hid CN
  have HN2 := Lib.hid HND
  have HG := Lib.hid hG
  have HK2 := Lib.hid hk2
  clear hs ht hW2 KEEP CN HND hG hk2 b0 b1 hsz hnd hfit
  go_enter Tryz.func43, Tryz.ntmps43
  go_wp2
  rw [← HS.out, ← HT.out, ← HW2.out]
  go_region_with (first
    | (go_at_call 59; go_loud (refine HCN.out.mono ?_); go_loud (rintro e w3 ⟨d, ab, cb, c, K, sizes, mem, us, sv, mv, avs, abv, rfl, hd, hkept, hdv, hab, hk3⟩); go_loud (obtain ⟨y0, y1, y2, y3, y4⟩ := HKEEP.out w3 hk3); go_loud (have CS := settle_ok d cb gb go gc ab 0 G.length K G c sizes mem us avs sv mv abv W2.drew w3 hN HG.out hgc hk3 HN2.out hd hkept hdv hab); have HCS := Lib.hid CS; have HK3 := Lib.hid hk3; clear hd hkept hdv hab hk3 CS)
    | (go_at_call 60; go_loud (refine HCS.out.mono ?_); rintro e w4 ⟨c', K', rfl, hr4, hdv4, ht4, hk4⟩; obtain ⟨y0, y1, y2, y3, y4⟩ := HKEEP.out w4 hk4; have CM := merged_ok gb go gc cb K' r G c' w4 hN hgc HG.out (fun j nd h => (HN2.out j nd h).grown fun _ _ _ hx => hk4.cells hx) hr4 hdv4 ht4 hr; have HCM := Lib.hid CM; have HK4 := Lib.hid hk4; clear hr4 hdv4 ht4 hk4 CM)
    | (go_at_call 58; go_loud (refine HCM.out.mono ?_); rintro e w5 ⟨v5, us5, L, rfl, hon, hcan, hbis, hle, hk5⟩; obtain ⟨va, vc, rfl⟩ := own_form hon.own; have hk25 := HK4.out.trans (hk5.mono HK4.out.size); obtain ⟨y0, y1, y2, y3, y4⟩ := HKEEP.out w5 hk25; have H5 := Lib.hid (And.intro hon (And.intro hcan (And.intro hbis (And.intro hle hk25)))); have hz4 := HK4.out.size; clear hon hcan hbis hle hk5 hk25))
  all_goals
    go_wp2
    have hC : Chg t w5 ((w5.setCell ⟨t, 0, none⟩ (.slice va L.length vc)).setCell ⟨t, 1, none⟩ (.int .i64 0)) := ((Chg.refl _ _).setCell _ _).setCell _ _
    obtain ⟨hon, hcan, hbis, hle, hk25⟩ := H5.out
    have hs4 := HK4.out.size
    have hs2 : W2.drew.heap.size = W2.heap.size := rfl
    have hs5 := hk25.size
    refine bodyPost_ret (v := .agg #[.slice va L.length vc, .int .i64 0]) (by simp [results, Tryz.results43, go_sem, y2, y3]) rfl ⟨_, us5, L, rfl, ?_, hcan, hbis, hle, ?_⟩
    · exact ((hon.chg hC (fun e => by have := (hon.own.lt e).1; omega) (fun u hu e => by have := hon.ge_us u hu _ e; omega))).mono (by omega)
    · exact ((HK2.out.trans (hk25.mono (by omega))).setCell (p := ⟨t, 0, none⟩) (show W.heap.size ≤ t by omega) _).setCell (p := ⟨t, 1, none⟩) (show W.heap.size ≤ t by omega) _
end Go.Ev

/- Least graphs: what is said of nodes carries over. -/
namespace Go.Ev
open Go.Proofs Go.RowKit

/-- Each node of a least graph looks like one of the graph. -/
theorem least_face {G L : List Nd} {r : Nat} (hL : Canon L) (hb : Bis L 0 G r) {n : Nd} (hn : n ∈ L) : ∃ m ∈ G, n.face = m.face := by
  obtain ⟨x, hx⟩ := List.getElem?_of_mem hn
  have hxl := (List.getElem?_eq_some_iff.1 hx).1
  have hre := reach_ok hL.closed hL.some
  rw [hL.order] at hre
  obtain ⟨t, ht⟩ := hre.path x (by simpa using hxl)
  have h1 := hb t
  rw [faceAt_node ht] at h1
  unfold faceOf at h1
  rw [hx] at h1
  simp only [Option.map_some] at h1
  cases hy : nodeAt G r t with
  | none => unfold faceAt at h1; rw [hy] at h1; cases h1
  | some y =>
    rw [faceAt_node hy] at h1
    unfold faceOf at h1
    cases hm : G[y]? with
    | none => rw [hm] at h1; cases h1
    | some m => rw [hm] at h1; exact ⟨m, List.mem_of_getElem? hm, Option.some.inj h1⟩

theorem face_parts {n m : Nd} (h : n.face = m.face) : n.kind = m.kind ∧ n.args.length = m.args.length ∧ n.label = m.label ∧ n.num = m.num := by
  unfold Nd.face at h
  simp only [Prod.mk.injEq] at h
  exact ⟨h.1, h.2.1, h.2.2.1, h.2.2.2⟩

theorem least_fit {G L : List Nd} {r : Nat} (hL : Canon L) (hb : Bis L 0 G r) (hf : ∀ n ∈ G, FitN n) : ∀ n ∈ L, FitN n := fun n hn => by
  obtain ⟨m, hm, e⟩ := least_face hL hb hn
  obtain ⟨e1, e2, e3, e4⟩ := face_parts e
  have := hf m hm
  unfold FitN at this ⊢
  rw [e1, e4]; exact this

theorem good_face {n m : Nd} {c d : Int} (e : n.face = m.face) (hn : ∀ a ∈ n.args, 0 ≤ a ∧ a < c) (hm : goodNode d m = true) : goodNode c n = true := by
  obtain ⟨e1, e2, e3, e4⟩ := face_parts e
  unfold goodNode nodeB argsB at hm ⊢
  rw [e1, e2, e3, e4]
  have hall : (n.args.all fun x => decide (0 ≤ x ∧ x < c)) = true := by
    rw [List.all_eq_true]
    intro a ha
    simpa using hn a ha
  rw [hall]
  split at hm
  · rename_i h1; rw [if_pos h1]; exact hm
  split at hm
  · rename_i h1 h2; rw [if_neg h1, if_pos h2]; exact hm
  split at hm
  · rename_i h1 h2 h3; rw [if_neg h1, if_neg h2, if_pos h3]; exact hm
  split at hm
  · rename_i h1 h2 h3 h4
    rw [if_neg h1, if_neg h2, if_neg h3, if_pos h4]
    simp only [Bool.and_eq_true, Bool.and_true] at hm ⊢
    exact ⟨hm.1, hm.2.1⟩
  split at hm
  · rename_i h1 h2 h3 h4 h5; rw [if_neg h1, if_neg h2, if_neg h3, if_neg h4, if_pos h5]; exact hm
  · cases hm

theorem least_valid {G L : List Nd} {r : Nat} {z : Int} (hL : Canon L) (hb : Bis L 0 G r) (hv : validB G z = true) (hle : L.length ≤ G.length) (x : Nat) (hx : x < L.length) : validB L (x : Int) = true := by
  unfold validB at hv ⊢
  simp only [Bool.and_eq_true, decide_eq_true_eq] at hv ⊢
  obtain ⟨⟨⟨h1, h2⟩, _⟩, h5⟩ := hv
  refine ⟨⟨⟨by omega, by omega⟩, by omega, by omega⟩, ?_⟩
  unfold goodNodes at h5 ⊢
  rw [List.all_eq_true] at h5 ⊢
  intro n hn
  obtain ⟨m, hm, e⟩ := least_face hL hb hn
  exact good_face e (hL.closed n hn).2 (h5 m hm)
end Go.Ev

/- The program's Least. -/
namespace Go.Ev
open Go.Proofs Go.RowKit Go.Lib
set_option maxRecDepth 100000

/-- The least graph is returned. -/
def TLeastPost (A : List Nd) (r : Nat) (W : World) (e : Ending) (w' : World) : Prop :=
  ∃ L v us, e = .returned (.tuple #[.agg #[v, .int .i64 0], .int .i64 0]) ∧ OwnN W.heap.size w' v L us ∧ Canon L ∧ Bis L 0 A r ∧ L.length ≤ A.length ∧ Kp W.heap.size W w'

theorem NodesV.at {w : World} {gb go gc : Nat} {G : List Nd} (h : NodesV w (.slice (some ⟨gb, go, none⟩) G.length gc) G) (h0 : 0 < G.length) : G.length ≤ gc ∧ ∀ (j : Nat) (nd : Nd), G[j]? = some nd → NodeW w gb (go + j * 4) nd := by
  generalize hv : Value.slice (some ⟨gb, go, none⟩) G.length gc = v at h
  cases h with
  | empty => simp at h0
  | row b off cap ns hc hc2 hcell => cases hv; exact ⟨hc, hcell⟩

set_option maxHeartbeats 4000000 in
theorem tleast_bad (va : Value) (A : List Nd) (za : Int) (W : World) (ha : NodesV W va A) (hva : validB A za = false) :
    Calls Tryz.prog 21 #[.agg #[va, .int .i64 za]] W fun e w' => e = .returned (.tuple #[.agg #[.slice none 0 0, .int .i64 0], .int .i64 2]) ∧ Kp W.heap.size W w' := by
  obtain ⟨w1, hw1⟩ : ∃ w1, w1 = (W.alloc (Obj.cells #[va, Value.int IntKind.i64 za] 24)).alloc (Obj.cells #[Value.slice none 0 0, Value.int IntKind.i64 0] 24) := ⟨_, rfl⟩
  have k1 : Kp W.heap.size W w1 := by rw [hw1]; exact two_kp _ _ _
  have b1 : w1.heap[W.heap.size + 1]? = some (Obj.cells #[Value.slice none 0 0, Value.int IntKind.i64 0] 24) := heap_top hw1 (by simp)
  have CV := valid_ok va A za w1 (ha.kp k1)
  rw [hva] at CV
  clear ha hva
  have K1 := Lib.hid k1
  have B1 := Lib.hid b1
  clear k1 b1
  go_enter Tryz.func21, Tryz.ntmps21
  go_wp2_with fail
  rw [← hw1]
  refine CV.mono ?_
  rintro e w3 ⟨rfl, k3⟩
  have hb := (k3.block (W.heap.size + 1) (by rw [hw1]; simp)).trans B1.out
  have r0 : w3.cell? ⟨W.heap.size + 1, 0, none⟩ = some (.slice none 0 0) := by rw [cell_of hb]; rfl
  have r1 : w3.cell? ⟨W.heap.size + 1, 1, none⟩ = some (.int .i64 0) := by rw [cell_of hb]; rfl
  have r2 : ∀ o, w3.frozen? ⟨W.heap.size + 1, o, none⟩ = false := fun o => by simp [World.frozen?, hb]
  have HK3 := Lib.hid (K1.out.trans (k3.mono (K1.out.size)))
  clear k3 hb hw1 CV
  go_wp2_with fail
  refine bodyPost_ret (v := .tuple #[.agg #[.slice none 0 0, .int .i64 0], .int .i64 2]) ?_ rfl ⟨rfl, ?_⟩
  · simp [results, Tryz.results21, go_sem, r0, r1]
  · exact (HK3.out.setCell (p := ⟨W.heap.size + 1, 0, none⟩) (Nat.le_succ _) _).setCell (p := ⟨W.heap.size + 1, 1, none⟩) (Nat.le_succ _) _

set_option maxHeartbeats 4000000 in
theorem tleast_ok (va : Value) (A : List Nd) (za : Int) (W : World) (ha : NodesV W va A) (hva : validB A za = true) (hfit : ∀ n ∈ A, FitN n) :
    Calls Tryz.prog 21 #[.agg #[va, .int .i64 za]] W (TLeastPost A za.toNat W) := by
  obtain ⟨ra, rfl, hra, hA8, hA⟩ := valid_nodes hva
  obtain ⟨⟨ab, ao, asp⟩, ac, rfl⟩ : ∃ a c, va = .slice (some a) A.length c := by
    obtain ⟨ab, ao, ac, rfl⟩ := ha.shape (by omega)
    exact ⟨_, _, rfl⟩
  obtain rfl : asp = none := by
    obtain ⟨ab', ao', ac', e⟩ := ha.shape (by omega)
    cases e; rfl
  obtain ⟨w1, hw1⟩ : ∃ w1, w1 = (W.alloc (Obj.cells #[.slice (some ⟨ab, ao, none⟩) A.length ac, Value.int IntKind.i64 ra] 24)).alloc (Obj.cells #[Value.slice none 0 0, Value.int IntKind.i64 0] 24) := ⟨_, rfl⟩
  have k1 : Kp W.heap.size W w1 := by rw [hw1]; exact two_kp _ _ _
  have b0 : w1.heap[W.heap.size]? = some (Obj.cells #[.slice (some ⟨ab, ao, none⟩) A.length ac, Value.int IntKind.i64 ra] 24) := (heap_low hw1 (by simp)).trans (heap_top rfl rfl)
  have b1 : w1.heap[W.heap.size + 1]? = some (Obj.cells #[Value.slice none 0 0, Value.int IntKind.i64 0] 24) := heap_top hw1 (by simp)
  have hs1 : w1.heap.size = W.heap.size + 2 := by rw [hw1]; simp
  have CV := valid_ok _ A ra w1 (ha.kp k1)
  rw [hva] at CV
  obtain ⟨hgc, hcell⟩ := ha.at (by omega)
  have CL := fun w (h : Kp W.heap.size W w) => progLeast_ok ab ao ac ra A w (by omega) hgc hA (fun j nd hj => (hcell j nd hj).grown fun _ _ _ hx => h.cells hx) hfit hra
  have K1 := Lib.hid k1
  have B0 := Lib.hid b0
  have B1 := Lib.hid b1
  have HCL := Lib.hid CL
  have e1 := And.intro (Nat.le_of_eq hs1) (Nat.le_of_eq hs1.symm)
  clear ha hva hfit k1 b0 b1 CL hcell hs1
  go_enter Tryz.func21, Tryz.ntmps21
  go_wp2_with fail
  rw [← hw1]
  clear hw1
  refine CV.mono ?_
  rintro e w3 ⟨rfl, k3⟩
  have hb := (k3.block (W.heap.size + 1) (by omega)).trans B1.out
  have ha := (k3.block W.heap.size (by omega)).trans B0.out
  have a0 : w3.cell? ⟨W.heap.size, 0, none⟩ = some (.slice (some ⟨ab, ao, none⟩) A.length ac) := by rw [cell_of ha]; rfl
  have a1 : w3.cell? ⟨W.heap.size, 1, none⟩ = some (.int .i64 ra) := by rw [cell_of ha]; rfl
  have HB := Lib.hid hb
  have HK3 := Lib.hid (K1.out.trans (k3.mono K1.out.size))
  have hs3 := k3.size
  clear k3 hb ha CV
  go_wp2_with fail
  refine (HCL.out w3 HK3.out).mono ?_
  rintro e w4 ⟨v, us, L, rfl, hon, hcan, hbis, hle, k4⟩
  obtain ⟨va, vc, rfl⟩ := own_form hon.own
  have hb := (k4.block (W.heap.size + 1) (by omega)).trans HB.out
  have r0 : w4.cell? ⟨W.heap.size + 1, 0, none⟩ = some (.slice none 0 0) := by rw [cell_of hb]; rfl
  have r1 : w4.cell? ⟨W.heap.size + 1, 1, none⟩ = some (.int .i64 0) := by rw [cell_of hb]; rfl
  have r2 : ∀ o, w4.frozen? ⟨W.heap.size + 1, o, none⟩ = false := fun o => by simp [World.frozen?, hb]
  have H4 := Lib.hid (And.intro hon (And.intro hcan (And.intro hbis (And.intro hle k4))))
  clear hon hcan hbis hle k4 hb
  go_wp2_with fail
  have hC : Chg (W.heap.size + 1) w4 ((w4.setCell ⟨W.heap.size + 1, 0, none⟩ (.slice va L.length vc)).setCell ⟨W.heap.size + 1, 1, none⟩ (.int .i64 0)) := ((Chg.refl _ _).setCell _ _).setCell _ _
  obtain ⟨hon, hcan, hbis, hle, k4⟩ := H4.out
  refine bodyPost_ret (v := .tuple #[.agg #[.slice va L.length vc, .int .i64 0], .int .i64 0]) ?_ rfl ⟨L, _, us, rfl, ?_, hcan, by simpa using hbis, hle, ?_⟩
  · simp [results, Tryz.results21, go_sem, r0, r1]
  · exact ((hon.chg hC (fun e => by have := (hon.own.lt e).1; omega) (fun u hu e => by have := hon.ge_us u hu _ e; omega))).mono (by omega)
  · exact ((HK3.out.trans (k4.mono (by omega))).setCell (p := ⟨W.heap.size + 1, 0, none⟩) (Nat.le_succ _) _).setCell (p := ⟨W.heap.size + 1, 1, none⟩) (Nat.le_succ _) _
end Go.Ev
