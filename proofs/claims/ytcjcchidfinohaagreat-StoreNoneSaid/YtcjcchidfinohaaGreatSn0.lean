/- undo where there is nothing to be undone (a range over slices.Backward of a nil slice). -/
import Derived.Test.YtcjcchidfinohaaGreatEv25
import Derived.Test.YtcjcchidfinohaaGreatKp
import Derived.RangeFuncNested
import Derived.RangeFuncBound
import Derived.RangeFuncCalls
import Derived.RangeFuncLeaves
import Derived.Shelf.Abstract
import Derived.Shelf.RegionOpen
import Derived.WalkKit
import Derived.OwnWalkIn
import Derived.TacticsInMore
import Derived.LoopNIn
import Derived.LoopIn
import Derived.ProofKit
import Derived.Test.YtcjcchidfinohaaGreatProg
namespace Go.Sn
open Go.Proofs Go.RowKit Go.Shelf Go.Ev
set_option maxRecDepth 100000

theorem backward_ok (n : Nat) (w : World) : CallsIn Fence.wide n Tryz.prog 71 #[.slice none 0 0] w fun e w' => e = .returned (.func (.func 85) #[] #[.pointer (some ⟨w.heap.size, 0, none⟩)]) ∧ w' = w.alloc (.cells #[.slice none 0 0] 33) := by
  have hmf : ∀ (fn : Fn) (first cap : Array Value) (w : World), (Instr.makeFunc fn first cap).run Tryz.prog w = .ok (.func fn first cap) w := fun _ _ _ _ => rfl
  rw [callsIn_wide]
  go_enter Tryz.func71, Tryz.ntmps71
  go_wp2
  go_ret
  exact ⟨rfl, rfl⟩

theorem nothing (n : Nat) (Bn n₀ : Nat) (w : World) (hb : Bn < w.heap.size) (hc : w.cell? ⟨Bn, 0, none⟩ = some (.slice none 0 0)) :
    SeqStopsK (α := Empty) Fence.wide n Tryz.prog 85 #[.pointer (some ⟨Bn, 0, none⟩)] (fun x => x.elim) (Below n₀) (fun xs => xs = []) (fun _ => False) 0 w := by
  intro l J Jx W hW _ _ _ hJ
  have hc' : W.cell? ⟨Bn, 0, none⟩ = some (.slice none 0 0) := (hW.cell (p := ⟨Bn, 0, none⟩) hb).trans hc
  refine callsIn_of_wp Tryz.func85 rfl trivial ?_ rfl
  simp only [Tryz.ntmps85, List.size_toArray, List.length_cons, List.length_nil, Nat.reduceAdd, Nat.reduceSub, Array.replicate_succ, Array.replicate_zero, List.push_toArray, List.append_toArray, List.nil_append, List.cons_append]
  gi_wp2
  gi_loopw [3] (fun p wr => p = .int .i64 (-1) ∧ wr = W) (fun _ _ => 0)
  case atStart => exact ⟨rfl, rfl⟩
  case round =>
    obtain ⟨rfl, rfl⟩ := hrel
    gi_wp2
    go_end0
    exact ⟨⟨_, rfl⟩, .inl ⟨[], rfl, hJ⟩⟩

theorem undo_in (b off : Nat) (w : World) (hc : w.cell? ⟨b, off + 2, none⟩ = some (.slice none 0 0)) :
    CallsIn Fence.wide 3 Tryz.prog 47 #[.pointer (some ⟨b, off, none⟩)] w fun e W' => e = .returned (.tuple #[]) ∧ Below w.heap.size w W' := by
  refine callsIn_of_wp_marks Tryz.func47 rfl trivial ?_ rfl
  simp only [Tryz.ntmps47, List.size_toArray, List.length_cons, List.length_nil, Nat.reduceAdd, Nat.reduceSub, Array.replicate_succ, Array.replicate_zero, List.push_toArray, List.append_toArray, List.nil_append, List.cons_append]
  have h71 : Fence.wide.fn 71 := trivial
  have hc1 : ∀ o, (w.alloc o).cell? ⟨b, off + 2, none⟩ = some (.slice none 0 0) := fun o => by rw [World.cell?_alloc_past _ b _ (block_lt_of_cell hc)]; exact hc
  gi_wp2_with (gi_at_call 71; (first | refine (backward_ok _ _).mono ?_ | refine ⟨h71, (backward_ok _ _).mono ?_⟩); rintro e w' ⟨rfl, rfl⟩)
  have hb : ((w.alloc (.cells #[.pointer (some ⟨b, off, none⟩)] 76)).alloc (.cells #[.slice none 0 0] 33)).cell? ⟨(w.alloc (.cells #[.pointer (some ⟨b, off, none⟩)] 76)).heap.size, 0, none⟩ = some (.slice none 0 0) := by rw [World.cell?_alloc_new]; rfl
  rw [World.size_alloc] at hb
  have hB0 : Below w.heap.size w ((w.alloc (.cells #[.pointer (some ⟨b, off, none⟩)] 76)).alloc (.cells #[.slice none 0 0] 33)) := ((Below.refl _ w).alloc (Nat.le_refl _) _).alloc (by simp) _
  refine wpIn_rangeFunc_ownF (n := 3) rfl (by decide) (gf := 85) (lb := #[.pointer (some ⟨w.heap.size + 1, 0, none⟩)]) rfl trivial (enters_of Tryz.func85 (by kernel_rfl) rfl)
    (nothing _ (w.heap.size + 1) w.heap.size _ (by simp) hb) belowK_t (belowK_b (by simp; omega)) (Below.refl _ _) (fun x => x.elim)
    (fun _ W => Below w.heap.size w W) (fun _ _ _ => False) (ownFrom_below (Nat.le_refl _) (by simp; omega)) (fun _ _ _ _ _ hs _ _ => hs) hB0 (fun x => x.elim) ?assign ?body ?done ?stop
  case assign => intro _ x; exact x.elim
  case body => intro _ _ x; exact x.elim
  case done =>
    rintro D ys W hD rfl hB hK
    gi_wp2
    refine ⟨by simp, .inl ⟨_, _, rfl, run_takeDeferred hK, ?_⟩⟩
    exact ⟨_, results_none rfl _ _ _, rfl, hB.trans (belowK_b (w := w) (Nat.le_refl _) W D _ _ (by simp at hD; omega) hK rfl rfl)⟩
  case stop =>
    rintro D c pre W _ h _ _
    exact h.elim

theorem undo_ok (b off : Nat) (w : World) (hc : w.cell? ⟨b, off + 2, none⟩ = some (.slice none 0 0)) :
    Calls Tryz.prog 47 #[.pointer (some ⟨b, off, none⟩)] w fun e w' => e = .returned (.tuple #[]) ∧ Kp w.heap.size w w' :=
  (callsIn_wide.1 (undo_in b off w hc)).mono fun _ _ ⟨h1, h2⟩ => ⟨h1, .of_below h2⟩

noncomputable def undoCell (K : AV → St → Prop) (s : St) : Option AV → Prop
  | some .nilSlice => K (.tuple []) s
  | _ => False
noncomputable def undoRow (K : AV → St → Prop) (s : St) (o : Nat) : Option (List AV) → Prop
  | some r => undoCell K s (nth r (Nat.add o 2))
  | none => False
/-- What undo does where there is nothing to be undone. -/
noncomputable def undoSpec : Go.Ev.Spec Prop := fun l K s => match l with
  | [.ptr a o] => undoRow K s o (rowOf s a)
  | _ => False

theorem undoSpec_ok : CallOk Tryz.prog 0 (fun i l K s => i = 47 ∧ undoSpec l K s) := by
  rintro _ l K s w ρ us R ⟨rfl, h⟩ hs hl hR
  unfold undoSpec at h
  split at h
  · rename_i a o
    unfold undoRow at h
    split at h
    · rename_i r hr
      unfold undoCell at h
      split at h
      · rename_i hn
        obtain ⟨p, c, t, fr, hp, hh, hsz, hcr⟩ := row_ok hs hr
        obtain ⟨v, hv, rfl⟩ := hcr _ _ hn
        obtain ⟨v0, us, rfl, h0, rfl⟩ := hl
        obtain ⟨p', hp', rfl⟩ := h0
        obtain rfl : p = p' := Option.some.inj (hp.symm.trans hp')
        refine ⟨⟨_, Tryz.func47, rfl⟩, ?_⟩
        have hcell : w.cell? ⟨p.b, p.o + o + 2, none⟩ = some (.slice none 0 0) := by
          rw [cell_of hh]; rw [show p.o + o + 2 = p.o + Nat.add o 2 from by simp; omega]; exact hv
        refine (undo_ok p.b (p.o + o) w hcell).mono ?_
        rintro e w' ⟨rfl, hk⟩
        have hb : ∀ b : Nat, b < w.heap.size → w'.heap[b]? = w.heap[b]? := hk.block
        refine hR (.tuple []) s w' ρ _ h ⟨#[], rfl, rfl⟩ ?_ ?_ ⟨hk.os, hk.output⟩
        · refine ⟨fun l ob hl => ?_, hs.sep, hs.fresh, hs.glob⟩
          obtain ⟨p, o, h1, h2, h3⟩ := hs.obj l ob hl
          exact ⟨p, o, h1, (hb _ (Array.getElem?_eq_some_iff.1 h2).1).trans h2, h3⟩
        · exact ⟨Nat.le_refl _, fun _ _ => rfl, hk.size, fun b hb' _ => hb b hb', fun l ob p a c => .inr ⟨l, ob, p, a, id, c, rfl⟩⟩
      · exact h.elim
    · exact h.elim
  · exact h.elim
end Go.Sn
