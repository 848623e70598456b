import Derived.Test.YtbjcopckkgdmgaaGreatDoorMp
import Derived.Test.YtbjcopckkgdmgaaGreatDoorRb
import Derived.Test.YtbjcopckkgdmgaaGreatDoorN1
import Derived.Test.YtbjcopckkgdmgaaGreatDoorN1
import Derived.Laws.Rows
import Derived.Laws.Tables
import Derived.Test.YtbjcopckkgdmgaaGreatDoorLgA
import Derived.Test.YtbjcopckkgdmgaaGreatDoorCsB
/- Rows of numbers in memory of the call's own. -/
namespace Go.Ev
open Go.Proofs Go.RowKit

/-- Of the blocks that there were, only those of S may have changed. -/
structure Upd (S : Nat → Prop) (w w' : World) : Prop where
  os : w'.os = w.os
  output : w'.output = w.output
  size : w.heap.size ≤ w'.heap.size
  block : ∀ b, b < w.heap.size → ¬ S b → w'.heap[b]? = w.heap[b]?

section
variable {S S' : Nat → Prop} {w w' w'' : World}
theorem Upd.refl (S : Nat → Prop) (w : World) : Upd S w w := ⟨rfl, rfl, Nat.le_refl _, fun _ _ _ => rfl⟩
theorem Upd.of_kp (h : Kp w.heap.size w w') (S : Nat → Prop) : Upd S w w' := ⟨h.os, h.output, h.size, fun b hb _ => h.block b hb⟩
theorem Upd.of_chg {c : Nat} (h : Chg c w w') (hc : S c) : Upd S w w' := ⟨h.os, h.output, h.size, fun b hb hS => h.block b hb fun e => hS (e ▸ hc)⟩
theorem Upd.trans (h : Upd S w w') (k : Upd S' w' w'') (hS : ∀ b, S' b → S b ∨ w.heap.size ≤ b) : Upd S w w'' :=
  ⟨k.os.trans h.os, k.output.trans h.output, Nat.le_trans h.size k.size, fun b hb hn => (k.block b (Nat.lt_of_lt_of_le hb h.size) fun h' => (hS b h').elim hn fun h'' => by omega).trans (h.block b hb hn)⟩
theorem Upd.mono (h : Upd S w w') (hS : ∀ b, S b → S' b) : Upd S' w w' := ⟨h.os, h.output, h.size, fun b hb hn => h.block b hb fun h' => hn (hS b h')⟩
theorem Upd.kp (h : Upd S w w') {B : Nat} (hB : B ≤ w.heap.size) (hS : ∀ b, S b → B ≤ b) : Kp B w w' := ⟨h.os, h.output, h.size, fun b hb => h.block b (by omega) fun h' => by have := hS b h'; omega⟩
theorem Upd.setCell (h : Upd S w w') {p : Addr} (hp : S p.block ∨ w.heap.size ≤ p.block) (u : Value) : Upd S w (w'.setCell p u) :=
  ⟨h.os, h.output, by have := h.size; simpa [World.setCell] using this, fun b hb hn => (Below.heap_setCell _ _ _ _ fun e => hp.elim (fun h' => hn (by rw [e]; exact h')) fun h' => by omega).trans (h.block b hb hn)⟩
theorem Upd.alloc (h : Upd S w w') (o : Obj) : Upd S w (w'.alloc o) := h.trans (.of_kp ((Kp.refl _ _).alloc (Nat.le_refl _) o) (fun _ => False)) fun _ h => h.elim
theorem Upd.grown (h : Upd S w w') {row : Option Nat} (hg : w'.grownBy w'' row) (hr : ∀ g, row = some g → S g ∨ w.heap.size ≤ g) : Upd S w w'' :=
  h.trans (S' := fun b => row = some b) ⟨hg.os, hg.output, hg.size, fun b hb hn => hg.block b hb fun e => hn e.symm⟩ fun b hb => hr b hb
theorem Own.upd {B size n : Nat} {v : Value} {xs : List Value} (h : Own B size w v n xs) (hk : Upd S w w') (hv : ∀ g, v.ownBlock = some g → ¬ S g) : Own B size w' v n xs := h.of_same fun g hg hl => hk.block g hl (hv g hg)
theorem Seg.upd {B size b off n cap : Nat} {xs : List Value} (h : Seg B size w b off n cap xs) (hk : Upd S w w') (hv : ¬ S b) : Seg B size w' b off n cap xs := h.of_heap (hk.block b h.lt hv)
theorem Seg.frozen {B size b off n cap : Nat} {xs : List Value} (h : Seg B size w b off n cap xs) (o : Nat) : w.frozen? ⟨b, o, none⟩ = false := by
  obtain ⟨cs, t, h1, _⟩ := h.blk
  simp [World.frozen?, h1]
theorem RowI.upd {b : Nat} {ls : List Int} (h : RowI w b ls) (hk : Upd S w w') (hv : ¬ S b) : RowI w' b ls := h.of_heap (hk.block b h.lt hv)
theorem MapV.upd {P : Program} {k e : TypeId} {b n : Nat} {f : Value → Option Lit} (h : MapV P k e w b n f) (hk : Upd S w w') (hv : ¬ S b) : MapV P k e w' b n f := h.of_heap (hk.block b h.lt hv)
end

/-- Rows of numbers: the slices in a block of their own, each row in another one. -/
structure OwnG (B : Nat) (w : World) (v : Value) (ls : List (List Nat)) (us : List Value) : Prop where
  own : Own B 1 w v ls.length us
  rows : ∀ (j : Nat) (l : List Nat) (u : Value), ls[j]? = some l → us[j]? = some u → Own B 1 w u l.length (intsV l)
  off : ∀ u ∈ us, ∀ g, u.ownBlock = some g → v.ownBlock ≠ some g
  apart : us.Pairwise fun u u' => ∀ g, u.ownBlock = some g → u'.ownBlock ≠ some g

section
variable {B : Nat} {w w' : World} {v : Value} {ls : List (List Nat)} {us : List Value}
theorem OwnG.len (h : OwnG B w v ls us) : us.length = ls.length := by have := h.own.1; omega
theorem OwnG.nil : OwnG B w (.slice none 0 0) [] [] := ⟨⟨rfl, .inl ⟨rfl, rfl⟩⟩, fun j x u hj => by simp at hj, fun u hu => (by cases hu), .nil⟩
theorem OwnG.of_same (h : OwnG B w v ls us) (hb : ∀ g, B ≤ g → g < w.heap.size → w'.heap[g]? = w.heap[g]?) : OwnG B w' v ls us :=
  ⟨h.own.of_same fun g hg hl => hb g (h.own.lt hg).1 hl, fun j l u hj hu => (h.rows j l u hj hu).of_same fun g hg hl => hb g ((h.rows j l u hj hu).lt hg).1 hl, h.off, h.apart⟩
theorem OwnG.kp (h : OwnG B w v ls us) (hk : Kp w.heap.size w w') : OwnG B w' v ls us := h.of_same fun g _ hl => hk.block g hl
theorem OwnG.chg {c : Nat} (h : OwnG B w v ls us) (hk : Chg c w w') (hv : v.ownBlock ≠ some c) (hu : ∀ u ∈ us, u.ownBlock ≠ some c) : OwnG B w' v ls us :=
  ⟨h.own.chg hk hv, fun j x u hj hu' => (h.rows j x u hj hu').chg hk (hu u (List.mem_of_getElem? hu')), h.off, h.apart⟩
theorem OwnG.row (h : OwnG B w v ls us) {j : Nat} {l : List Nat} (hj : ls[j]? = some l) : ∃ u, us[j]? = some u ∧ Own B 1 w u l.length (intsV l) := by
  have hl := (List.getElem?_eq_some_iff.1 hj).1
  exact ⟨us[j]'(by rw [h.len]; exact hl), by simp [h.len, hl], h.rows j l _ hj (by simp [h.len, hl])⟩
theorem OwnG.lt (h : OwnG B w v ls us) {u : Value} (hu : u ∈ us) {g : Nat} (hg : u.ownBlock = some g) : B ≤ g ∧ g < w.heap.size := by
  obtain ⟨j, hj⟩ := List.getElem?_of_mem hu
  have hl : j < ls.length := by rw [← h.len]; exact (List.getElem?_eq_some_iff.1 hj).1
  exact (h.rows j _ u (List.getElem?_eq_getElem hl) hj).lt hg

/-- A row more. -/
theorem OwnG.snoc {wa w8 : World} {v' u : Value} {l : List Nat} (h : OwnG B w v ls us) (hu : Own B 1 w u l.length (intsV l))
    (huv : ∀ g, u.ownBlock = some g → v.ownBlock ≠ some g ∧ ∀ u' ∈ us, u'.ownBlock ≠ some g) (hal : Kp w.heap.size w wa)
    (hown : Own B 1 w8 v' (ls.length + 1) (us ++ [u])) (hgr : wa.grownBy w8 v.ownBlock) (hblk : v'.ownBlock = v.ownBlock ∨ ∃ g, v'.ownBlock = some g ∧ wa.heap.size ≤ g) : OwnG B w8 v' (ls ++ [l]) (us ++ [u]) := by
  have hs := hal.size
  have keep : ∀ (z : Value) (n : Nat) (xs : List Value), Own B 1 w z n xs → (∀ g, z.ownBlock = some g → v.ownBlock ≠ some g) → Own B 1 w8 z n xs := fun z n xs hz hzv =>
    (hz.kp hal).of_same fun g hg hl => grown_other hgr hl (hzv g hg)
  have hlt : ∀ z ∈ us ++ [u], ∀ g, z.ownBlock = some g → g < w.heap.size := by
    intro z hz g hg
    rcases List.mem_append.1 hz with hz | hz
    · exact (h.lt hz hg).2
    · obtain rfl : z = u := by simpa using hz
      exact (hu.lt hg).2
  refine ⟨by simpa using hown, fun j y z hj hz => ?_, fun z hz g hg => ?_, ?_⟩
  · rcases Nat.lt_or_ge j ls.length with hl | hl
    · rw [List.getElem?_append_left hl] at hj
      rw [List.getElem?_append_left (by rw [h.len]; exact hl)] at hz
      exact keep _ _ _ (h.rows j y z hj hz) (h.off z (List.mem_of_getElem? hz))
    · rw [List.getElem?_append_right hl] at hj
      rw [List.getElem?_append_right (by rw [h.len]; exact hl)] at hz
      rw [h.len] at hz
      have e : j - ls.length = 0 := by
        have := (List.getElem?_eq_some_iff.1 hj).1
        simp at this
        omega
      rw [e] at hj hz
      simp only [List.getElem?_cons_zero, Option.some.injEq] at hj hz
      subst hj hz
      exact keep _ _ _ hu fun g hg => (huv g hg).1
  · have hgl := hlt z hz g hg
    rcases hblk with e | ⟨g', e, hg'⟩
    · rw [e]
      rcases List.mem_append.1 hz with hz | hz
      · exact h.off z hz g hg
      · obtain rfl : z = u := by simpa using hz
        exact (huv g hg).1
    · rw [e]
      intro e'
      have := Option.some.inj e'
      omega
  · rw [List.pairwise_append]
    refine ⟨h.apart, by simp, fun a ha b hb g hg => ?_⟩
    obtain rfl : b = u := by simpa using hb
    intro e
    exact (huv g e).2 a ha hg

/-- A row replaced: the new one is in the old one's block, or in one that is new. -/
theorem OwnG.setRow {wa w8 : World} {u u' : Value} {b off cap j : Nat} {l l' : List Nat} (h : OwnG B w (.slice (some ⟨b, off, none⟩) ls.length cap) ls us) (hj : ls[j]? = some l) (hu : us[j]? = some u) (hal : Kp w.heap.size w wa)
    (hown : Own B 1 w8 u' l'.length (intsV l')) (hgr : wa.grownBy w8 u.ownBlock) (hblk : u'.ownBlock = u.ownBlock ∨ ∃ g, u'.ownBlock = some g ∧ wa.heap.size ≤ g) :
    OwnG B (w8.setCell ⟨b, off + j, none⟩ u') (.slice (some ⟨b, off, none⟩) ls.length cap) (ls.set j l') (us.set j u') := by
  have hs := hal.size
  have hjl := (List.getElem?_eq_some_iff.1 hj).1
  have hum := List.mem_of_getElem? hu
  obtain ⟨b0, off0, cap0, e0, hseg⟩ := h.own.seg (by omega)
  simp only [Value.slice.injEq, Option.some.injEq, Addr.mk.injEq, and_true] at e0
  obtain ⟨⟨rfl, rfl⟩, _, rfl⟩ := e0
  have hbu : ∀ z ∈ us, z.ownBlock ≠ some b := fun z hz e => h.off z hz b e rfl
  have hseg8 : Seg B 1 w8 b off ls.length cap us := (hseg.kp hal).of_heap (grown_other hgr ((hseg.kp hal).lt) (hbu u hum))
  have hbl : b < wa.heap.size := (hseg.kp hal).lt
  have hu'b : u'.ownBlock ≠ some b := by
    rcases hblk with e | ⟨g, e, hg⟩
    · rw [e]; exact hbu u hum
    · rw [e]; intro e'; have := Option.some.inj e'; omega
  have hC : Chg b w8 (w8.setCell ⟨b, off + j, none⟩ u') := (Chg.refl _ _).setCell _ _
  have hset := (hseg8.setOne (i := j) hjl u').own
  refine ⟨by simpa using hset, fun i y z hi hz => ?_, fun z hz g hg => ?_, ?_⟩
  · rw [List.getElem?_set] at hi hz
    by_cases hij : j = i
    · subst hij
      rw [if_pos rfl, if_pos hjl] at hi
      rw [if_pos rfl, if_pos (by rw [h.len]; exact hjl)] at hz
      cases hi; cases hz
      exact hown.chg hC hu'b
    · rw [if_neg hij] at hi hz
      have hzm := List.mem_of_getElem? hz
      have hzu : ∀ g, z.ownBlock = some g → u.ownBlock ≠ some g := by
        intro g hg e
        obtain ⟨hil, hie⟩ := List.getElem?_eq_some_iff.1 hz
        obtain ⟨hjl', hje⟩ := List.getElem?_eq_some_iff.1 hu
        rcases Nat.lt_or_gt_of_ne hij with hlt | hlt
        · exact (List.pairwise_iff_getElem.1 h.apart j i hjl' hil hlt) g (by rw [hje]; exact e) (by rw [hie]; exact hg)
        · exact (List.pairwise_iff_getElem.1 h.apart i j hil hjl' hlt) g (by rw [hie]; exact hg) (by rw [hje]; exact e)
      exact (((h.rows i y z hi hz).kp hal).of_same fun g hg hl => grown_other hgr hl (hzu g hg)).chg hC (hbu z hzm)
  · rcases List.mem_or_eq_of_mem_set hz with hz | rfl
    · exact h.off z hz g hg
    · intro e; exact hu'b (hg.trans e.symm)
  · rw [List.pairwise_iff_getElem]
    intro i k hi hk hik g hg
    rw [List.length_set] at hi hk
    rw [List.getElem_set] at hg ⊢
    have hlt : ∀ z ∈ us, ∀ g, z.ownBlock = some g → g < wa.heap.size := fun z hz g hg => by have := (h.lt hz hg).2; omega
    obtain ⟨hjl', hje⟩ := List.getElem?_eq_some_iff.1 hu
    split at hg
    · rename_i e
      subst e
      rw [if_neg (by omega)]
      rcases hblk with e | ⟨g', e, hg'⟩
      · exact List.pairwise_iff_getElem.1 h.apart j k hi hk hik g (by rw [hje, ← e]; exact hg)
      · intro e'
        have h1 := hlt _ (List.getElem_mem hk) g e'
        rw [hg] at e
        have := Option.some.inj e
        omega
    · split
      · rename_i e
        subst e
        have h1 := hlt _ (List.getElem_mem hi) g hg
        rcases hblk with e | ⟨g', e, hg'⟩
        · rw [e, ← hje]
          exact List.pairwise_iff_getElem.1 h.apart i j hi hk hik g hg
        · rw [e]
          intro e'
          have := Option.some.inj e'
          omega
      · exact List.pairwise_iff_getElem.1 h.apart i k hi hk hik g hg
end
end Go.Ev

/- The program's division of nodes into classes: the small functions. -/
namespace Go.Ev
open Go.Proofs Go.RowKit Go.Lib
set_option maxRecDepth 100000

/-- The numbers of the classes of N nodes. -/
def clsI (N : Nat) (c : Nat → Nat) : List Int := (List.range N).map fun i => ((c i : Nat) : Int)
theorem clsI_length (N : Nat) (c : Nat → Nat) : (clsI N c).length = N := by simp [clsI]
theorem clsI_get {N i : Nat} (c : Nat → Nat) (h : i < N) : (clsI N c).getD i 0 = (c i : Int) := by simp [clsI, List.getD, h]

set_option maxHeartbeats 2000000 in
theorem classOf_ok (d cb N n cap : Nat) (c : Nat → Nat) (w : World) (hn : n < N) (_hN : N ≤ 200000) (_hcap : N ≤ cap) (hd : w.cell? ⟨d, 2, none⟩ = some (.slice (some ⟨cb, 0, none⟩) N cap)) (hc : w.cell? ⟨cb, n, none⟩ = some (.int .i64 (c n : Int))) :
    Calls Tryz.prog 117 #[.pointer (some ⟨d, 0, none⟩), .int .i64 n] w fun e w' => e = .returned (.int .i64 (c n)) ∧ w = w' := by
  go_enter Tryz.func117, Tryz.ntmps117
  go_wp2
  go_ret
  exact ⟨rfl, rfl⟩

set_option maxHeartbeats 2000000 in
theorem all_ok (d N : Nat) (gb go gc : Nat) (w : World) (hN : N ≤ 200000) (hgc : N ≤ gc) (hd : w.cell? ⟨d, 0, none⟩ = some (.slice (some ⟨gb, go, none⟩) N gc)) :
    Calls Tryz.prog 87 #[.pointer (some ⟨d, 0, none⟩)] w fun e w' => e = .returned (.slice (some ⟨w.heap.size, 0, none⟩) N N) ∧ RowI w' w.heap.size ((List.range N).map fun (i : Nat) => (i : Int)) ∧ Kp w.heap.size w w' := by
  have h0 : (0 : Int) ≤ N := Int.natCast_nonneg _
  obtain ⟨i0, hi0, hz0, hz1, hz2⟩ := info_parts Tryz.info3
  have hz2' : i0.bytes * N ≤ 281474976710656 := by rw [hz2]; omega
  have H2 := Lib.hid hz2
  clear hz2
  go_enter Tryz.func87, Tryz.ntmps87
  go_wp2_with (refine wpList_make_full _ rfl _ _ 43 rfl w.heap.size 3 i0 _ 1 Tryz.underlying43 hi0 hz0 hz1 .i64 .i64 N N N rfl rfl rfl rfl hz2' (by unfold maxLen; omega) (Nat.le_refl _) ?_; intro w' hown hgr)
  have hrow := RowI.made hown
  rw [← upTo_zero] at hrow
  have hkp := (Kp.refl w.heap.size w).grownBy hgr (Nat.le_refl _) (fun k hk => by cases hk)
  have HK := Lib.hid hkp
  have HR := Lib.hid hrow
  clear hown hgr hkp hrow hz0 hz1 hi0 hz2' hd
  go_wp2
  go_loopw [13] (fun i wr => ∃ k : Nat, k ≤ N ∧ i = .int .i64 k ∧ RowI wr w.heap.size (upTo N k) ∧ Kp w.heap.size w wr) (fun i _ => N - (RowKit.intOf i).toNat)
  case atStart => exact ⟨0, Nat.zero_le _, rfl, HR.out, HK.out⟩
  case round =>
    obtain ⟨k, hk, rfl, hr, hkp⟩ := hrel
    by_cases hlt : k < N
    · have hc := hr.cell (i := k) (by rw [upTo_length]; exact hlt)
      have hf := hr.frozen k
      have HR2 := Lib.hid hr
      have HK2 := Lib.hid hkp
      clear hr hkp
      go_wp2
      go_roundw
      case rel => exact ⟨k + 1, by omega, by go_num, by rw [← upTo_set N k hlt]; exact HR2.out.set k _, HK2.out.setCell (Nat.le_refl _) _⟩
      case measure => simp [RowKit.intOf]; omega
    · have HR2 := Lib.hid hr
      have HK2 := Lib.hid hkp
      clear hr hkp
      obtain rfl : k = N := by omega
      go_wp2
      go_ret
      exact ⟨rfl, by rw [← upTo_all]; exact HR2.out, HK2.out⟩
end Go.Ev

/- The program's division of nodes into classes: face and signature. -/
namespace Go.Ev
open Go.Proofs Go.RowKit Go.Lib
set_option maxRecDepth 100000

def faceV (nd : Nd) : Value := .agg #[.int .i64 nd.kind, .int .i64 nd.num, .int .i64 nd.args.length, .string nd.label]

set_option maxHeartbeats 4000000 in
theorem face_ok (d n N gb go gc : Nat) (nd : Nd) (w : World) (hn : n < N) (_hN : N ≤ 200000) (_hgc : N ≤ gc) (hd : w.cell? ⟨d, 0, none⟩ = some (.slice (some ⟨gb, go, none⟩) N gc)) (hnd : NodeW w gb (go + n * 4) nd) :
    Calls Tryz.prog 88 #[.pointer (some ⟨d, 0, none⟩), .int .i64 n] w fun e w' => e = .returned (faceV nd) ∧ Kp w.heap.size w w' := by
  obtain ⟨h0, h1, h2, h3, v, h4, hav⟩ := hnd
  obtain ⟨ab, ac, rfl⟩ := hav.len
  unfold faceV
  have hdl := block_lt_of_cell hd
  have hgl := block_lt_of_cell h0
  clear hav h3
  go_enter Tryz.func88, Tryz.ntmps88
  go_wp2
  refine bodyPost_ret (v := .agg #[.int .i64 nd.kind, .int .i64 nd.num, .int .i64 nd.args.length, .string nd.label]) (by simp [results, Tryz.results88, go_sem]) rfl ⟨rfl, ?_⟩
  exact (((Kp.refl _ _).alloc (Nat.le_refl _) _).alloc (by simp) _)

/-- Eight numbers: those of a list, and zeros. -/
def sigI (l : List Nat) : List Int := (List.range 8).map fun i => ((l.getD i 0 : Nat) : Int)
def sigV (l : List Nat) : Value := .agg ((sigI l).map (Value.int .i64)).toArray
theorem Tryz.size134 : (Tryz.prog.info? 134).map (·.size) = some 8 := by kernel_rfl
theorem sigC_size (l : List Nat) : (Tryz.prog.info? 134).map (·.size) = some ((sigI l).map (Value.int .i64)).toArray.size := by rw [Tryz.size134]; simp [sigI]
theorem sigI_length (l : List Nat) : (sigI l).length = 8 := by simp [sigI]
theorem sigI_take {l : List Nat} {k m : Nat} (h : l[k]? = some m) (h8 : k < 8) : (sigI (l.take k)).set k (m : Int) = sigI (l.take (k + 1)) := by
  have hk := (List.getElem?_eq_some_iff.1 h).1
  apply List.ext_getElem?
  intro j
  rw [List.getElem?_set]
  unfold sigI
  by_cases hj : j < 8
  · simp only [List.getElem?_map, List.getElem?_range hj, List.length_map, List.length_range, Option.map_some]
    by_cases e : k = j
    · subst e
      rw [if_pos rfl, if_pos h8]
      simp [List.getD, h]
    · rw [if_neg e]
      congr 2
      simp only [List.getD_eq_getElem?_getD, List.getElem?_take]
      by_cases h1 : j < k
      · rw [if_pos h1, if_pos (by omega)]
      · rw [if_neg h1, if_neg (by omega)]
  · rw [if_neg (by omega)]
    simp only [List.getElem?_map, List.getElem?_eq_none (show (List.range 8).length ≤ j by simp; omega), Option.map_none]

theorem args_cellAt {w : World} {ab : Option Addr} {n ac k : Nat} {xs : List Int} (h : ArgsV w (.slice ab n ac) xs) (hk : k < xs.length) : ∃ b off, ab = some ⟨b, off, none⟩ ∧ n ≤ ac ∧ n = xs.length ∧ ∀ (j : Nat) (x : Int), xs[j]? = some x → w.cell? ⟨b, off + j, none⟩ = some (.int .i64 x) := by
  generalize hv : Value.slice ab n ac = v at h
  cases h with
  | empty => simp at hk
  | row b off c xs hc hc2 hcell =>
    cases hv
    exact ⟨b, off, rfl, hc, rfl, hcell⟩

set_option maxHeartbeats 4000000 in
theorem sigOf_ok (d n N gb go gc cb cap : Nat) (nd : Nd) (c : Nat → Nat) (w : World) (hn : n < N) (_hN : N ≤ 200000) (_hgc : N ≤ gc) (_hcap : N ≤ cap) (hd : w.cell? ⟨d, 0, none⟩ = some (.slice (some ⟨gb, go, none⟩) N gc)) (hnd : NodeW w gb (go + n * 4) nd)
    (h8 : nd.args.length ≤ 8) (ha : ∀ a ∈ nd.args, 0 ≤ a ∧ a < N) (hd2 : w.cell? ⟨d, 2, none⟩ = some (.slice (some ⟨cb, 0, none⟩) N cap)) (hc : RowI w cb (clsI N c)) :
    Calls Tryz.prog 119 #[.pointer (some ⟨d, 0, none⟩), .int .i64 n] w fun e w' => e = .returned (sigV (nd.args.map fun a => c a.toNat)) ∧ Kp w.heap.size w w' := by
  obtain ⟨h0, h1, h2, h3, v, h4, hav⟩ := hnd
  obtain ⟨ab, ac, rfl⟩ := hav.len
  have hdl := block_lt_of_cell hd
  have hgl := block_lt_of_cell h0
  have HAV := Lib.hid hav
  have HC := Lib.hid hc
  have HA := Lib.hid ha
  clear h0 h1 h2 h3 hc hav ha
  go_enter Tryz.func119, Tryz.ntmps119
  go_wp2
  have HK0 := Lib.hid (((Kp.refl w.heap.size w).alloc (Nat.le_refl _) (Obj.cells #[Value.int IntKind.i64 0, Value.int IntKind.i64 0, Value.int IntKind.i64 0, Value.int IntKind.i64 0, Value.int IntKind.i64 0, Value.int IntKind.i64 0, Value.int IntKind.i64 0, Value.int IntKind.i64 0] 134)).alloc (by simp) (Obj.cells #[Value.int IntKind.i64 0, Value.int IntKind.i64 0, Value.int IntKind.i64 0, Value.int IntKind.i64 0, Value.int IntKind.i64 0, Value.int IntKind.i64 0, Value.int IntKind.i64 0, Value.int IntKind.i64 0] 134))
  go_loopw [6, 7, 17] (fun _ _ i wr => ∃ k : Nat, k ≤ nd.args.length ∧ i = .int .i64 k ∧ (∃ t, wr.heap[w.heap.size]? = some (.cells (List.replicate 8 (Value.int .i64 0)).toArray t (0, 0))) ∧ RowI wr (w.heap.size + 1) (sigI ((nd.args.map fun a => c a.toNat).take k)) ∧ Kp w.heap.size w wr) (fun _ _ i _ => nd.args.length - (RowKit.intOf i).toNat)
  case atStart => exact ⟨0, Nat.zero_le _, rfl, ⟨134, heap_alloc2_old _ _ _⟩, ⟨134, heap_alloc2_new _ _ _⟩, HK0.out⟩
  case round =>
    obtain ⟨k, hk, rfl, hr0, hr, hkp⟩ := hrel
    clear HK0
    have hsz := hkp.size
    have hrl := hr.lt
    have hd := hkp.cells hd
    have hd2 := hkp.cells hd2
    by_cases hlt : k < nd.args.length
    · obtain ⟨ab', ao', rfl, hac, _, hcell⟩ := (args_cellAt HAV.out hlt)
      have hck := hkp.cells (hcell k _ (List.getElem?_eq_getElem hlt))
      obtain ⟨hm0, hm1⟩ := HA.out _ (List.getElem_mem hlt)
      obtain ⟨m, hm⟩ : ∃ m : Nat, nd.args[k] = (m : Int) := ⟨_, (Int.toNat_of_nonneg hm0).symm⟩
      have hlk : (nd.args.map fun a => c a.toNat)[k]? = some (c m) := by rw [List.getElem?_map, List.getElem?_eq_getElem hlt, hm]; rfl
      rw [hm] at hck hm1
      have hmN : m < N := by omega
      have hcm := hkp.cells (HC.out.cell (i := m) (by rw [clsI_length]; exact hmN))
      rw [clsI_get c hmN] at hcm
      have hf := hr.frozen k
      have hcur := hr.cell (i := k) (by rw [sigI_length]; omega)
      have HS := Lib.hid (sigI_take hlk (by omega))
      have HR := Lib.hid hr
      have HR0 := Lib.hid hr0
      have HK := Lib.hid hkp
      have HD := Lib.hid (show (Kp w.heap.size w wr → w.heap.size ≤ wr.heap.size) from fun h => h.size)
      have hk8 : k < 8 := by omega
      clear hr hkp hr0 hm hlk hcell hm0 hm1 HD
      go_wp2
      go_roundw
      case rel =>
        refine ⟨k + 1, by omega, by go_num, ?_, ?_, HK.out.setCell (by simp) _⟩
        · obtain ⟨t, ht⟩ := HR0.out
          exact ⟨t, (heap_setCell_other _ _ _ _ (by simp)).trans ht⟩
        · rw [← HS.out]; exact HR.out.set k _
      case measure => simp [RowKit.intOf]; omega
    · obtain rfl : k = nd.args.length := by omega
      obtain ⟨t0, ht0⟩ := hr0
      obtain ⟨t1, ht1⟩ := hr
      have HK := Lib.hid hkp
      have e : (nd.args.map fun a => c a.toNat).take nd.args.length = nd.args.map fun a => c a.toNat := List.take_of_length_le (by simp)
      rw [e] at ht1
      have HT0 := Lib.hid ht0
      have HT1 := Lib.hid ht1
      clear ht0 ht1 hkp e
      go_wp2_with (first
        | (refine wpList_load_row rfl 134 (.tmp 5) rfl (w.heap.size + 1) rfl t1 _ (0, 0) _ HT1.out Tryz.underlying134 rfl (sigC_size _) ?_)
        | (refine wpList_store_row rfl 134 (.tmp 4) (.tmp 32) rfl w.heap.size _ rfl rfl t0 _ HT0.out (sigC_size _) (by simp [sigI_length]) (by simp [Value.oneCell']) ?_))
      refine bodyPost_ret (v := sigV (nd.args.map fun a => c a.toNat)) ?_ rfl ⟨rfl, ?_⟩
      · exact results_cell_row Tryz.results119 _ _ w.heap.size t0 _ (0, 0) _ rfl (setRow_heap _ _ _ _ _ _ HT0.out) Tryz.underlying134 rfl (sigC_size _)
      · exact HK.out.trans ⟨rfl, rfl, by simp, fun b hb => setRow_other _ _ _ _ (by omega)⟩
end Go.Ev

/- Every node of a renumbered graph is reached from the first. -/
namespace Go.Ev

theorem renum_node {G : List Nd} {r : Nat} {l : List Nat} (h : Reach G r l) : ∀ t x, nodeAt G r t = some x → x ∈ l ∧ nodeAt (renum G l) 0 t = some (l.idxOf x) := by
  intro t
  induction t using Nat.strongRecOn with
  | _ t ih =>
    intro x hx
    by_cases h0 : t = 0
    · subst h0
      rw [nodeAt_zero] at hx ⊢
      obtain rfl := Option.some.inj hx
      obtain ⟨m, hm⟩ := h.first
      exact ⟨by rw [hm]; simp, by rw [hm]; simp⟩
    · obtain ⟨u, i, hi, rfl⟩ : ∃ u i, i < 8 ∧ t = 8 * u + i + 1 := ⟨(t - 1) / 8, (t - 1) % 8, by omega, by omega⟩
      rw [nodeAt_child _ _ _ _ hi] at hx ⊢
      cases hn : nodeAt G r u with
      | none => rw [hn] at hx; cases hx
      | some y =>
        rw [hn] at hx
        obtain ⟨y1, y2⟩ := ih u (by omega) y hn
        rw [y2]
        have hx' : (argsAt G y)[i]? = some x := by rw [← child_args]; exact hx
        refine ⟨h.closed y y1 x (List.mem_of_getElem? hx'), ?_⟩
        show child (renum G l) (l.idxOf y) i = some (l.idxOf x)
        rw [child_args, renum_args (idxOf_get y1), List.getElem?_map, hx']
        rfl
theorem renum_paths {G : List Nd} {r : Nat} {l : List Nat} (h : Reach G r l) : ∀ x, x < (renum G l).length → ∃ t, nodeAt (renum G l) 0 t = some x := by
  intro x hx
  rw [renum_length] at hx
  obtain ⟨t, ht⟩ := h.path l[x] (List.getElem_mem hx)
  refine ⟨t, ?_⟩
  rw [(renum_node h t _ ht).2, h.nodup.idxOf_getElem x hx]
end Go.Ev

/- Graphs of the call's own: small laws. -/
namespace Go.Ev
open Go.Proofs Go.RowKit Go.Lib
set_option maxRecDepth 100000

theorem reach_le {G : List Nd} (hG : GClosed G) {r : Nat} (hr : r < G.length) : (reach G r).length ≤ G.length := nodup_le _ _ (reach_ok hG hr).nodup (reach_ok hG hr).lt
theorem idxOf_at {l : List Nat} (h : l.Nodup) {j x : Nat} (hj : l[j]? = some x) : l.idxOf x = j := by
  obtain ⟨h1, h2⟩ := List.getElem?_eq_some_iff.1 hj
  subst h2
  exact h.idxOf_getElem j h1

theorem Own.mono {B B' size n : Nat} {w : World} {v : Value} {xs : List Value} (h : Own B size w v n xs) (hB : B' ≤ B) : Own B' size w v n xs := by
  refine ⟨h.1, ?_⟩
  rcases h.2 with h2 | ⟨b, off, cap, cs, t, e, hb, r⟩
  · exact .inl h2
  · exact .inr ⟨b, off, cap, cs, t, e, Nat.le_trans hB hb, r⟩
theorem OwnN.lt_us {B : Nat} {w : World} {v : Value} {ns : List Nd} {us : List Value} (h : OwnN B w v ns us) : ∀ u ∈ us, ∀ g, u.ownBlock = some g → g < w.heap.size := by
  intro u hu g hg
  obtain ⟨j, hj, rfl⟩ := List.getElem_of_mem hu
  exact ((h.args j _ _ (List.getElem?_eq_getElem (by rw [← h.len]; exact hj)) (List.getElem?_eq_getElem hj)).lt hg).2
theorem own_form {B size n : Nat} {w : World} {v : Value} {xs : List Value} (h : Own B size w v n xs) : ∃ a cap, v = .slice a n cap := by
  rcases h.2 with ⟨rfl, rfl⟩ | ⟨b, off, cap, cs, t, rfl, _⟩
  · exact ⟨_, _, rfl⟩
  · exact ⟨_, _, rfl⟩
theorem OwnN.ge_us {B : Nat} {w : World} {v : Value} {ns : List Nd} {us : List Value} (h : OwnN B w v ns us) : ∀ u ∈ us, ∀ g, u.ownBlock = some g → B ≤ g := by
  intro u hu g hg
  obtain ⟨j, hj, rfl⟩ := List.getElem_of_mem hu
  exact ((h.args j _ _ (List.getElem?_eq_getElem (by rw [← h.len]; exact hj)) (List.getElem?_eq_getElem hj)).lt hg).1
theorem OwnN.mono {B B' : Nat} {w : World} {v : Value} {ns : List Nd} {us : List Value} (h : OwnN B w v ns us) (hB : B' ≤ B) : OwnN B' w v ns us :=
  ⟨h.own.mono hB, h.len, fun j x u hj hu => (h.args j x u hj hu).mono hB, h.off, h.apart, h.size⟩
theorem Tryz.info48 : (Tryz.prog.info? 48).map (fun i => (i.zero, i.size, i.bytes)) = some (some (.agg #[.int .i64 0, .int .i64 0, .string ⟨#[]⟩, .slice none 0 0]), 4, 56) := by kernel_rfl
end Go.Ev

/- Nodes grouped by their keys: what holds after some of them. -/
namespace Go.Ev
open Go.Proofs Go.RowKit

section
variable {α : Type}

/-- A map's function says of each key where it was met. -/
structure KeyF (enc : α → Value) (keys : List α) (f : Value → Option Lit) : Prop where
  hit : ∀ (g : Nat) (q : α), keys[g]? = some q → f (enc q) = some (.int .i64 (g : Int))
  miss : ∀ q, q ∉ keys → f (enc q) = none

theorem KeyF.nil (enc : α → Value) : KeyF enc [] (fun _ => none) := ⟨fun g q h => by simp at h, fun _ _ => rfl⟩
open Classical in
theorem KeyF.snoc {enc : α → Value} (hinj : ∀ a b, enc a = enc b → a = b) {keys : List α} {f : Value → Option Lit} (h : KeyF enc keys f) {q : α} (hq : q ∉ keys) :
    KeyF enc (keys ++ [q]) (fun v => if v = enc q then some (.int .i64 (keys.length : Int)) else f v) := by
  refine ⟨fun g p hp => ?_, fun p hp => ?_⟩
  · rcases Nat.lt_or_ge g keys.length with hl | hl
    · rw [List.getElem?_append_left hl] at hp
      have hne : enc p ≠ enc q := fun e => hq (by rw [← hinj _ _ e]; exact List.mem_of_getElem? hp)
      simp only [hne, if_false]
      exact h.hit g p hp
    · rw [List.getElem?_append_right hl] at hp
      have h0 : g - keys.length = 0 := by have := (List.getElem?_eq_some_iff.1 hp).1; simp at this; omega
      rw [h0] at hp
      simp at hp
      subst hp
      simp only [if_true]
      rw [show g = keys.length by omega]
  · simp only [List.mem_append, List.mem_singleton, not_or] at hp
    have hne : enc p ≠ enc q := fun e => hp.2 (hinj _ _ e)
    simp only [hne, if_false]
    exact h.miss p hp.1

variable [DecidableEq α] (κ : Nat → α) (enc : α → Value)

/-- What holds after k nodes are grouped. -/
structure GSt (t : TypeId) (W : World) (mb : Nat) (l : List Nat) (k : Nat) (v : Value) (wr : World) : Prop where
  grp : ∃ us, OwnG W.heap.size wr v (groupsOf κ (l.take k)) us ∧ ∀ u ∈ us, u.ownBlock ≠ some mb
  ne : v.ownBlock ≠ some mb
  map : ∃ f, MapV Tryz.prog t 3 wr mb (keysOf κ (l.take k)).length f ∧ KeyF enc (keysOf κ (l.take k)) f
  lo : W.heap.size ≤ mb
  kp : Kp W.heap.size W wr

def GroupPost (l : List Nat) (W : World) (e : Ending) (w' : World) : Prop := ∃ v us, e = .returned v ∧ OwnG W.heap.size w' v (groupsOf κ l) us ∧ Kp W.heap.size W w'

theorem keysOf_le (l : List Nat) : (keysOf κ l).length ≤ l.length := by
  induction l using snocInd with
  | h0 => simp [keysOf]
  | h1 l x ih =>
    rw [keysOf_snoc]
    split <;> simp <;> omega

variable {κ enc}

/-- A node laid behind its row. -/
theorem GSt.push {t : TypeId} {W wr wa w8 : World} {mb k g b off cap : Nat} {l r : List Nat} {ls : List (List Nat)} {u u' : Value} {us : List Value} {x : Nat} (hr : ls[g]? = some r)
    (h : OwnG W.heap.size wr (.slice (some ⟨b, off, none⟩) ls.length cap) ls us) (hend : ls.set g (r ++ [x]) = groupsOf κ (l.take (k + 1))) (hus : ∀ u ∈ us, u.ownBlock ≠ some mb) (hmb : b ≠ mb)
    {f : Value → Option Lit} (hm : MapV Tryz.prog t 3 wr mb (keysOf κ (l.take (k + 1))).length f) (hf : KeyF enc (keysOf κ (l.take (k + 1))) f) (hlo : W.heap.size ≤ mb) (hkp : Kp W.heap.size W wr)
    (hu : us[g]? = some u) (hal : Kp wr.heap.size wr wa) (hown : Own W.heap.size 1 w8 u' (r.length + 1) (intsV r ++ [.int .i64 (x : Int)])) (hgr : wa.grownBy w8 u.ownBlock)
    (hblk : u'.ownBlock = u.ownBlock ∨ ∃ g, u'.ownBlock = some g ∧ wa.heap.size ≤ g) :
    GSt κ enc t W mb l (k + 1) (.slice (some ⟨b, off, none⟩) ls.length cap) (w8.setCell ⟨b, off + g, none⟩ u') := by
  have hset := h.setRow hr hu hal (l' := r ++ [x]) (by simpa [intsV] using hown) hgr hblk
  have hmw : mb < wr.heap.size := hm.lt
  have hum := hus u (List.mem_of_getElem? hu)
  have hsz := hal.size
  have hbl := (h.own.lt (g := b) rfl)
  refine ⟨⟨us.set g u', ?_, ?_⟩, fun e => hmb (Option.some.inj e), ⟨f, ?_, hf⟩, hlo, ?_⟩
  · rw [← hend]; simpa using hset
  · intro z hz
    rcases List.mem_or_eq_of_mem_set hz with hz | rfl
    · exact hus z hz
    · rcases hblk with e | ⟨g', e, hg'⟩
      · rw [e]; exact hum
      · rw [e]; intro e'; have := Option.some.inj e'; omega
  · refine ((hm.kp hal).of_heap (grown_other hgr (by omega) hum)).of_heap (Below.heap_setCell _ _ _ _ ?_)
    exact Ne.symm hmb
  · have h1 : Kp W.heap.size W wa := hkp.trans (hal.mono hkp.size)
    have hus' := h.rows g _ u hr hu
    have h2 : Kp W.heap.size W w8 := h1.of_grown_mine (hus'.kp hal) hgr h1.size
    exact h2.setCell hbl.1 _
end

theorem Chg.of_grown {b : Nat} {w w' : World} (h : w.grownBy w' (some b)) : Chg b w w' := ⟨h.os, h.output, h.size, fun k hk hne => h.block k hk fun e => hne (Option.some.inj e)⟩

/-- A new row, which is nil. -/
theorem grow_nil {B mb m : Nat} {w1 wa w2 W : World} {v v' : Value} {ls : List (List Nat)} {us : List Value} (hm : m = ls.length) (h : OwnG B w1 v ls us) (hus : ∀ u ∈ us, u.ownBlock ≠ some mb) (hne : v.ownBlock ≠ some mb) (hal : Kp w1.heap.size w1 wa)
    (hown : Own B 1 w2 v' (m + 1) (us ++ [.slice none 0 0])) (hgr : wa.grownBy w2 v.ownBlock) (hblk : v'.ownBlock = v.ownBlock ∨ ∃ g, v'.ownBlock = some g ∧ wa.heap.size ≤ g) (hmb : mb < w1.heap.size) (hkp : Kp B W w1) (hB : B ≤ w1.heap.size)
    {P : Program} {t e n : Nat} {f : Value → Option Lit} (hmap : MapV P t e w1 mb n f) :
    ∃ b off cap, v' = .slice (some ⟨b, off, none⟩) (m + 1) cap ∧ OwnG B w2 (.slice (some ⟨b, off, none⟩) (m + 1) cap) (ls ++ [[]]) (us ++ [.slice none 0 0]) ∧ m + 1 ≤ cap ∧ w2.cell? ⟨b, off + m, none⟩ = some (.slice none 0 0) ∧
      Seg B 1 w2 b off (m + 1) cap (us ++ [.slice none 0 0]) ∧ b ≠ mb ∧ (∀ u ∈ us ++ [.slice none 0 0], u.ownBlock ≠ some mb) ∧ MapV P t e w2 mb n f ∧ Kp B W w2 ∧ (us ++ [.slice none 0 0])[m]? = some (.slice none 0 0) ∧ (ls ++ [[]])[m]? = some [] := by
  subst hm
  have hsz := hal.size
  have hG := h.snoc (u := .slice none 0 0) (l := []) ⟨rfl, .inl ⟨rfl, rfl⟩⟩ (fun g hg => by cases hg) hal hown hgr hblk
  obtain ⟨b, off, cap, rfl, hs⟩ := hown.seg (by omega)
  have hl := h.len
  have hlast : (us ++ [Value.slice none 0 0])[ls.length]? = some (.slice none 0 0) := by rw [← hl]; simp
  refine ⟨b, off, cap, rfl, by simpa using hG, hs.fit, hs.cell hlast, hs, ?_, ?_, (hmap.kp hal).of_heap (grown_other hgr (by omega) hne), ?_, hlast, by simp⟩
  · rintro rfl
    rcases hblk with e | ⟨g, e, hg⟩
    · exact hne (by rw [← e]; rfl)
    · have : b = g := Option.some.inj e
      omega
  · intro u hu
    rcases List.mem_append.1 hu with hu | hu
    · exact hus u hu
    · simp at hu; subst hu; simp [Value.ownBlock]
  · exact (hkp.trans (hal.mono hB)).of_grown_mine (h.own.kp hal) hgr (by omega)

section
variable {α : Type} [DecidableEq α] {κ : Nat → α} {l : List Nat} {k g x : Nat}
theorem takeSnoc (hx : l[k]? = some x) : l.take (k + 1) = l.take k ++ [x] := by rw [List.take_add_one, hx]; rfl
theorem keys_old (hx : l[k]? = some x) (hg : (keysOf κ (l.take k))[g]? = some (κ x)) : keysOf κ (l.take (k + 1)) = keysOf κ (l.take k) := by
  rw [takeSnoc hx, keysOf_snoc, if_pos (List.mem_of_getElem? hg)]
theorem keys_new (hx : l[k]? = some x) (hg : κ x ∉ keysOf κ (l.take k)) : keysOf κ (l.take (k + 1)) = keysOf κ (l.take k) ++ [κ x] := by
  rw [takeSnoc hx, keysOf_snoc, if_neg hg]
theorem groups_old (hx : l[k]? = some x) (hg : (keysOf κ (l.take k))[g]? = some (κ x)) : (groupsOf κ (l.take k)).set g ((groupsOf κ (l.take k)).getD g [] ++ [x]) = groupsOf κ (l.take (k + 1)) := by
  rw [takeSnoc hx, groupsOf_old κ hg]
theorem groups_new (hx : l[k]? = some x) (hg : κ x ∉ keysOf κ (l.take k)) : (groupsOf κ (l.take k) ++ [[]]).set (groupsOf κ (l.take k)).length ([] ++ [x]) = groupsOf κ (l.take (k + 1)) := by
  rw [takeSnoc hx, groupsOf_new κ hg]
  simp
theorem groups_row_le (hk : k < l.length) {r : List Nat} (h : (groupsOf κ (l.take k))[g]? = some r) : r.length ≤ l.length := by
  obtain ⟨q, _, rfl⟩ := groupsOf_mem κ (List.mem_of_getElem? h)
  exact Nat.le_trans (List.length_filter_le _ _) (by simp; omega)
theorem groups_le (l : List Nat) (k : Nat) : (groupsOf κ (l.take k)).length ≤ k := by
  rw [groupsOf_length]; exact Nat.le_trans (keysOf_le κ _) (by simp; omega)
end
end Go.Ev
