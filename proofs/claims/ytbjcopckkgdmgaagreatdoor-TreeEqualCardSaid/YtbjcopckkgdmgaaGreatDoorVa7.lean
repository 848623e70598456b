import Derived.Test.YtbjcopckkgdmgaaGreatDoorVaA
import Derived.Test.YtbjcopckkgdmgaaGreatDoorOr1
import Derived.Test.YtbjcopckkgdmgaaGreatDoorKp
import Derived.Outline
import Derived.StillTailTactics
/- Trees: what a value is, and Valid. -/
namespace Go.Ev
open Go.Proofs Go.RowKit Go.Lib
set_option maxRecDepth 100000

/-- A node lies at a place. -/
structure NodeW (w : World) (b o : Nat) (nd : Nd) : Prop where
  kind : w.cell? ⟨b, o, none⟩ = some (.int .i64 nd.kind)
  num : w.cell? ⟨b, o + 1, none⟩ = some (.int .i64 nd.num)
  label : w.cell? ⟨b, o + 2, none⟩ = some (.string nd.label)
  size : nd.label.size ≤ 9223372036854775807
  args : ∃ v, w.cell? ⟨b, o + 3, none⟩ = some v ∧ ArgsV w v nd.args

/-- The value is a slice of these nodes. -/
inductive NodesV (w : World) : Value → List Nd → Prop where
  | empty (base : Option Addr) (c : Nat) : NodesV w (.slice base 0 c) []
  | row (b off c : Nat) (ns : List Nd) (hc : ns.length ≤ c) (hc2 : ns.length ≤ 9223372036854775807) (hcell : ∀ j nd, ns[j]? = some nd → NodeW w b (off + j * 4) nd) : NodesV w (.slice (some ⟨b, off, none⟩) ns.length c) ns

theorem ArgsV.grown {w w' : World} {v : Value} {xs : List Int} (h : ArgsV w v xs) (hg : ∀ b o x, w.cell? ⟨b, o, none⟩ = some x → w'.cell? ⟨b, o, none⟩ = some x) : ArgsV w' v xs := by
  cases h with
  | empty base c => exact .empty base c
  | row b off c xs hc hc2 hcell => exact .row b off c xs hc hc2 fun j x hj => hg _ _ _ (hcell j x hj)
theorem NodeW.grown {w w' : World} {b o : Nat} {nd : Nd} (h : NodeW w b o nd) (hg : ∀ b o x, w.cell? ⟨b, o, none⟩ = some x → w'.cell? ⟨b, o, none⟩ = some x) : NodeW w' b o nd :=
  ⟨hg _ _ _ h.kind, hg _ _ _ h.num, hg _ _ _ h.label, h.size, by obtain ⟨v, h1, h2⟩ := h.args; exact ⟨v, hg _ _ _ h1, h2.grown hg⟩⟩
theorem NodesV.grown {w w' : World} {v : Value} {ns : List Nd} (h : NodesV w v ns) (hg : ∀ b o x, w.cell? ⟨b, o, none⟩ = some x → w'.cell? ⟨b, o, none⟩ = some x) : NodesV w' v ns := by
  cases h with
  | empty base c => exact .empty base c
  | row b off c ns hc hc2 hcell => exact .row b off c ns hc hc2 fun j nd hj => (hcell j nd hj).grown hg

theorem NodesV.kp {W w : World} {v : Value} {ns : List Nd} (h : NodesV W v ns) (hk : Kp W.heap.size W w) : NodesV w v ns := h.grown fun _ _ _ hx => hk.cells hx

def goodNode (count : Int) (x : Nd) : Bool := nodeB x.kind x.num x.label x.args count
def goodNodes (count : Int) (ns : List Nd) : Bool := ns.all (goodNode count)
def validB (ns : List Nd) (root : Int) : Bool := decide (1 ≤ ns.length ∧ ns.length ≤ 8000) && decide (0 ≤ root ∧ root < ns.length) && goodNodes ns.length ns

theorem nodes_snoc {count : Int} {ns : List Nd} {k : Nat} (h : k < ns.length) : goodNodes count (ns.take (k + 1)) = (goodNodes count (ns.take k) && goodNode count ns[k]) := by
  unfold goodNodes
  rw [List.take_succ_eq_append_getElem h, List.all_append]
  simp
theorem nodes_not {count : Int} {ns : List Nd} {k : Nat} (h : k < ns.length) (hb : goodNode count ns[k] = false) : goodNodes count ns = false := by
  unfold goodNodes
  rw [List.all_eq_false]
  exact ⟨ns[k], List.getElem_mem h, by rw [hb]; simp⟩


theorem kp_grown {B : Nat} {a w w' : World} (h : Kp B a w) (hB : B ≤ w.heap.size) (hg : Grown w w') : Kp B a w' := h.trans ((Kp.of_grown hg).mono hB)

set_option maxHeartbeats 4000000 in
theorem valid_row (b off n c : Nat) (ns : List Nd) (root : Int) (w : World) (hn : n = ns.length) (_hc : n ≤ c) (hc2 : n ≤ 9223372036854775807) (hcell : ∀ j nd, ns[j]? = some nd → NodeW w b (off + j * 4) nd) :
    Calls Tryz.prog 17 #[.agg #[.slice (some ⟨b, off, none⟩) n c, .int .i64 root]] w fun e w' => e = .returned (.bool (validB ns root)) ∧ Kp w.heap.size w w' := by
  have HN := Lib.hid hn
  have HC := Lib.hid hcell
  clear hn hcell
  by_cases h1 : 1 ≤ n ∧ n ≤ 8000
  · obtain ⟨h1, h2⟩ := h1
    by_cases h3 : 0 ≤ root ∧ root < n
    · obtain ⟨h3, h4⟩ := h3
      have e3 : decide (0 ≤ root) = true := by simpa using h3
      have e4 : decide (root < (n : Int)) = true := by simpa using h4
      have e1 : decide ((n : Int) < 1) = false := by simp; omega
      have e2 : decide (8000 < (n : Int)) = false := by simp; omega
      have HV := Lib.hid (show validB ns root = goodNodes n ns by
        have hn := HN.out
        unfold validB
        rw [← hn, show decide (1 ≤ n ∧ n ≤ 8000) = true by simp; omega, show decide (0 ≤ root ∧ root < (n : Int)) = true by simp; omega]
        simp)
      go_enter Tryz.func17, Tryz.ntmps17
      go_wp2_with (first
        | (go_at_call 41; refine (isIndex_ok _ _ _).mono ?_; rintro e w' ⟨rfl, rfl⟩)
        | go_in)
      go_loopw [25] (fun i wr => ∃ k : Nat, k ≤ n ∧ i = .int .i64 k ∧ goodNodes n (ns.take k) = true ∧ Kp w.heap.size w wr) (fun i _ => n - (RowKit.intOf i).toNat)
      case atStart => exact ⟨0, Nat.zero_le _, rfl, rfl, (Kp.refl _ _).alloc (Nat.le_refl _) _⟩
      case round =>
        obtain ⟨k, hk, rfl, hl, hkp⟩ := hrel
        by_cases hlt : k < n
        · have hlx : k < ns.length := by rw [← HN.out]; exact hlt
          have hsn := nodes_snoc (count := n) hlx
          have HS : Hid (goodNodes n (ns.take (k + 1)) = (goodNodes n (ns.take k) && goodNode n ns[k])) := hsn
          have HL : Hid (goodNodes n (ns.take k) = true) := hl
          have hnd := (HC.out k _ (List.getElem?_eq_getElem hlx)).grown (w' := wr) fun b o x hx => by rw [hkp.cell (block_lt_of_cell hx)]; exact hx
          obtain ⟨g0, g1, g2, hsz, v, g3, hav⟩ := hnd
          obtain ⟨vb, vc, rfl⟩ := hav.len
          clear hsn hl
          have hkb := hkp.size
          cases hgd : goodNode n ns[k] with
          | true =>
            have HG := Lib.hid hgd
            have hcon := fun W (hW : ArgsV W (.slice vb ns[k].args.length vc) ns[k].args) => (validNode_ok ns[k].kind ns[k].num ns[k].label hsz vb ns[k].args.length vc ns[k].args n W rfl hW)
            rw [show nodeB ns[k].kind ns[k].num ns[k].label ns[k].args n = true from hgd] at hcon
            clear hgd
            go_wp2_with (first
              | (go_at_call 42; refine (hcon _ (hav.alloc _)).mono ?_; rintro e w' ⟨rfl, hgr⟩)
              | go_in)
            have hk2 := kp_grown (hkp.alloc (Nat.le_trans (Nat.le_refl _) hkb) _) (by simp; omega) hgr
            go_roundw
            case rel => exact ⟨k + 1, by omega, by go_num, by rw [HS.out, HL.out, HG.out]; rfl, hk2⟩
            case measure => simp [RowKit.intOf]; omega
          | false =>
            have HG := Lib.hid hgd
            have hcon := fun W (hW : ArgsV W (.slice vb ns[k].args.length vc) ns[k].args) => (validNode_ok ns[k].kind ns[k].num ns[k].label hsz vb ns[k].args.length vc ns[k].args n W rfl hW)
            rw [show nodeB ns[k].kind ns[k].num ns[k].label ns[k].args n = false from hgd] at hcon
            clear hgd
            go_wp2_with (first
              | (go_at_call 42; refine (hcon _ (hav.alloc _)).mono ?_; rintro e w' ⟨rfl, hgr⟩)
              | go_in)
            have hk2 := kp_grown (hkp.alloc (Nat.le_trans (Nat.le_refl _) hkb) _) (by simp; omega) hgr
            go_ret
            refine ⟨?_, hk2⟩
            rw [HV.out, nodes_not hlx HG.out]
            rfl
        · have HL : Hid (goodNodes n (ns.take k) = true) := hl
          clear hl
          go_wp2
          go_ret
          refine ⟨?_, by assumption⟩
          have hl := HL.out
          rw [List.take_of_length_le (by rw [← HN.out]; omega)] at hl
          rw [HV.out, hl]
          rfl
    · have e1 : decide ((n : Int) < 1) = false := by simp; omega
      have e2 : decide (8000 < (n : Int)) = false := by simp; omega
      have HV := Lib.hid (show validB ns root = false by
        have hn := HN.out
        unfold validB
        rw [← hn, show decide (0 ≤ root ∧ root < (n : Int)) = false by simp; omega]
        simp)
      have e5 := Lib.hid (show decide (0 ≤ root ∧ root < (n : Int)) = false by simp; omega)
      go_enter Tryz.func17, Tryz.ntmps17
      go_wp2_with (first
        | (go_at_call 41; refine (isIndex_ok _ _ _).mono ?_; rw [e5.out]; rintro e w' ⟨rfl, rfl⟩)
        | go_in)
      go_ret
      refine ⟨?_, (Kp.refl _ _).alloc (Nat.le_refl _) _⟩
      rw [HV.out]
      rfl
  · have HV := Lib.hid (show validB ns root = false by
      have hn := HN.out
      unfold validB
      rw [← hn, show decide (1 ≤ n ∧ n ≤ 8000) = false by simp; omega]
      simp)
    by_cases h2 : 1 ≤ n
    · have e1 : decide ((n : Int) < 1) = false := by simp; omega
      have e2 : decide (8000 < (n : Int)) = true := by simp; omega
      clear h1
      go_enter Tryz.func17, Tryz.ntmps17
      go_wp2
      go_ret
      refine ⟨?_, (Kp.refl _ _).alloc (Nat.le_refl _) _⟩
      rw [HV.out]
      rfl
    · have e1 : decide ((n : Int) < 1) = true := by simp; omega
      clear h1
      go_enter Tryz.func17, Tryz.ntmps17
      go_wp2
      go_ret
      refine ⟨?_, (Kp.refl _ _).alloc (Nat.le_refl _) _⟩
      rw [HV.out]
      rfl

theorem valid_ok (v : Value) (ns : List Nd) (root : Int) (w : World) (h : NodesV w v ns) :
    Calls Tryz.prog 17 #[.agg #[v, .int .i64 root]] w fun e w' => e = .returned (.bool (validB ns root)) ∧ Kp w.heap.size w w' := by
  cases h with
  | row b off c ns hc hc2 hcell => exact valid_row b off ns.length c ns root w rfl hc hc2 hcell
  | empty base c =>
    go_enter Tryz.func17, Tryz.ntmps17
    go_wp2
    go_ret
    exact ⟨rfl, (Kp.refl _ _).alloc (Nat.le_refl _) _⟩

set_option maxHeartbeats 4000000 in
theorem rvalid_row (b off n c : Nat) (ns : List Nd) (root : Int) (w : World) (hn : n = ns.length) (_hc : n ≤ c) (hc2 : n ≤ 9223372036854775807) (hcell : ∀ j nd, ns[j]? = some nd → NodeW w b (off + j * 4) nd) :
    Calls Tryz.prog 18 #[.agg #[.slice (some ⟨b, off, none⟩) n c, .int .i64 root]] w fun e w' => e = .returned (.bool (validB ns root)) ∧ Kp w.heap.size w w' := by
  have HN := Lib.hid hn
  have HC := Lib.hid hcell
  clear hn hcell
  by_cases h1 : 1 ≤ n ∧ n ≤ 8000
  · obtain ⟨h1, h2⟩ := h1
    have e1 : decide ((n : Int) < 1) = false := by simp; omega
    have e2 : decide (8000 < (n : Int)) = false := by simp; omega
    by_cases h3 : 0 ≤ root ∧ root < n
    · obtain ⟨h3, h4⟩ := h3
      have e3 : decide (root < 0) = false := by simp; omega
      have e4 : decide ((n : Int) ≤ root) = false := by simp; omega
      have HV := Lib.hid (show validB ns root = goodNodes n ns by
        have hn := HN.out
        unfold validB
        rw [← hn, show decide (1 ≤ n ∧ n ≤ 8000) = true by simp; omega, show decide (0 ≤ root ∧ root < (n : Int)) = true by simp; omega]
        simp)
      go_enter Tryz.func18, Tryz.ntmps18
      go_wp2
      go_loopw [3] (fun i wr => ∃ k : Nat, k ≤ n ∧ i = .int .i64 k ∧ goodNodes n (ns.take k) = true ∧ Kp w.heap.size w wr ∧ w.heap.size < wr.heap.size ∧ wr.cell? ⟨w.heap.size, 0, none⟩ = some (.slice (some ⟨b, off, none⟩) n c)) (fun i _ => n - (RowKit.intOf i).toNat)
      case atStart => exact ⟨0, Nat.zero_le _, rfl, rfl, (Kp.refl _ _).alloc (Nat.le_refl _) _, by simp, by go_simp⟩
      case round =>
        obtain ⟨k, hk, rfl, hl, hkp, hsz0, hc0⟩ := hrel
        by_cases hlt : k < n
        · have hlx : k < ns.length := by rw [← HN.out]; exact hlt
          have hsn := nodes_snoc (count := n) hlx
          have HS : Hid (goodNodes n (ns.take (k + 1)) = (goodNodes n (ns.take k) && goodNode n ns[k])) := hsn
          have HL : Hid (goodNodes n (ns.take k) = true) := hl
          have hnd := (HC.out k _ (List.getElem?_eq_getElem hlx)).grown (w' := wr) fun b o x hx => by rw [hkp.cell (block_lt_of_cell hx)]; exact hx
          obtain ⟨g0, g1, g2, hsz, v, g3, hav⟩ := hnd
          obtain ⟨vb, vc, rfl⟩ := hav.len
          have hkb := hkp.size
          have HKP := Lib.hid hkp
          clear hsn hl hkp
          cases hgd : goodNode n ns[k] with
          | true =>
            have HG := Lib.hid hgd
            have hcon := fun W (hW : ArgsV W (.slice vb ns[k].args.length vc) ns[k].args) => (right_ok ns[k].kind ns[k].num ns[k].label hsz (.slice vb ns[k].args.length vc) ns[k].args n W hW)
            rw [show nodeB ns[k].kind ns[k].num ns[k].label ns[k].args n = true from hgd] at hcon
            clear hgd
            go_wp2_with fail
            go_still_tail 8, (by kernel_rfl)
            change wpList _ _ _ _ _ wr.drew
            go_wp2_with (first
              | (go_at_call 40; refine (hcon wr.drew (hav.grown fun _ _ _ h => h)).mono ?_; rintro e w' ⟨rfl, hgr⟩)
              | go_in)
            have hk2 := kp_grown HKP.out.drew hkb hgr
            have hs2 := hgr.2.2
            have hc2 : w'.cell? ⟨w.heap.size, 0, none⟩ = _ := (Kp.of_grown hgr).cells hc0
            have HK2 := Lib.hid hk2
            clear hk2
            go_wp2
            go_roundw
            case rel => exact ⟨k + 1, by omega, by go_num, by rw [HS.out, HL.out, HG.out]; rfl, HK2.out, Nat.lt_of_lt_of_le hsz0 hs2, hc2⟩
            case measure => simp [RowKit.intOf]; omega
          | false =>
            have HG := Lib.hid hgd
            have hcon := fun W (hW : ArgsV W (.slice vb ns[k].args.length vc) ns[k].args) => (right_ok ns[k].kind ns[k].num ns[k].label hsz (.slice vb ns[k].args.length vc) ns[k].args n W hW)
            rw [show nodeB ns[k].kind ns[k].num ns[k].label ns[k].args n = false from hgd] at hcon
            clear hgd
            go_wp2_with fail
            go_still_tail 8, (by kernel_rfl)
            change wpList _ _ _ _ _ wr.drew
            go_wp2_with (first
              | (go_at_call 40; refine (hcon wr.drew (hav.grown fun _ _ _ h => h)).mono ?_; rintro e w' ⟨rfl, hgr⟩)
              | go_in)
            have hk2 := kp_grown HKP.out.drew hkb hgr
            go_ret
            refine ⟨?_, hk2⟩
            rw [HV.out, nodes_not hlx HG.out]
            rfl
        · have HL : Hid (goodNodes n (ns.take k) = true) := hl
          clear hl
          go_wp2
          go_ret
          refine ⟨?_, by assumption⟩
          have hl := HL.out
          rw [List.take_of_length_le (by rw [← HN.out]; omega)] at hl
          rw [HV.out, hl]
          rfl
    · have HV := Lib.hid (show validB ns root = false by
        have hn := HN.out
        unfold validB
        rw [← hn, show decide (0 ≤ root ∧ root < (n : Int)) = false by simp; omega]
        simp)
      by_cases h4 : root < 0
      · have e3 : decide (root < 0) = true := by simpa using h4
        go_enter Tryz.func18, Tryz.ntmps18
        go_wp2
        go_ret
        refine ⟨?_, (Kp.refl _ _).alloc (Nat.le_refl _) _⟩
        rw [HV.out]
        rfl
      · have e3 : decide (root < 0) = false := by simp; omega
        have e4 : decide ((n : Int) ≤ root) = true := by simp; omega
        go_enter Tryz.func18, Tryz.ntmps18
        go_wp2
        go_ret
        refine ⟨?_, (Kp.refl _ _).alloc (Nat.le_refl _) _⟩
        rw [HV.out]
        rfl
  · have HV := Lib.hid (show validB ns root = false by
      have hn := HN.out
      unfold validB
      rw [← hn, show decide (1 ≤ n ∧ n ≤ 8000) = false by simp; omega]
      simp)
    by_cases h2 : 1 ≤ n
    · have e1 : decide ((n : Int) < 1) = false := by simp; omega
      have e2 : decide (8000 < (n : Int)) = true := by simp; omega
      clear h1
      go_enter Tryz.func18, Tryz.ntmps18
      go_wp2
      go_ret
      refine ⟨?_, (Kp.refl _ _).alloc (Nat.le_refl _) _⟩
      rw [HV.out]
      rfl
    · have e1 : decide ((n : Int) < 1) = true := by simp; omega
      clear h1
      go_enter Tryz.func18, Tryz.ntmps18
      go_wp2
      go_ret
      refine ⟨?_, (Kp.refl _ _).alloc (Nat.le_refl _) _⟩
      rw [HV.out]
      rfl

theorem rvalid_ok (v : Value) (ns : List Nd) (root : Int) (w : World) (h : NodesV w v ns) :
    Calls Tryz.prog 18 #[.agg #[v, .int .i64 root]] w fun e w' => e = .returned (.bool (validB ns root)) ∧ Kp w.heap.size w w' := by
  cases h with
  | row b off c ns hc hc2 hcell => exact rvalid_row b off ns.length c ns root w rfl hc hc2 hcell
  | empty base c =>
    go_enter Tryz.func18, Tryz.ntmps18
    go_wp2
    go_ret
    exact ⟨rfl, (Kp.refl _ _).alloc (Nat.le_refl _) _⟩
end Go.Ev
