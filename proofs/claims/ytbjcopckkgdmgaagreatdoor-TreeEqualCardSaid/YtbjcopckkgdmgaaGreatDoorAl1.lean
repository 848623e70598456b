import Derived.Test.YtbjcopckkgdmgaaGreatDoorIn2
import Derived.ProofKit
/- The closed run of the package returns true, from whatever world. -/
namespace Go.Ev
open Go.Proofs

noncomputable def En : Env Prop := { P := Tryz.prog, g := 0, no := fun _ => False, spec := fun f => match Nat.beq f 124 with | true => some insSpec | false => none }
def yes : AV → St → Prop := fun v _ => match v with
  | .bool true => True
  | _ => False

theorem named : Named Tryz.prog := fun i fn h => by
  have hall : (Tryz.prog.funcs.toList.all fun fn => !(fn.name == "runtime.NumGoroutine")) = true := by kernel_rfl
  have := List.all_eq_true.1 hall fn (by
    have : fn ∈ Tryz.prog.funcs := Array.mem_of_getElem? h
    simpa using this)
  simpa using this

theorem good : Good En Tryz.prog := ⟨rfl, by kernel_rfl, fun _ h => h, named⟩

theorem specs : ∀ g q, En.spec g = some q → CallOk Tryz.prog En.g (fun i l K s => i = g ∧ q l K s) := by
  intro g q h
  have h : (match Nat.beq g 124 with | true => some insSpec | false => none) = some q := h
  split at h
  · rename_i hg
    obtain rfl := Nat.eq_of_beq_eq_true hg
    obtain rfl := Option.some.inj h
    exact ins_ok
  · cases h

theorem run_eq : callN En 1000 19 [] yes ⟨.e, 0⟩ = True := by kernel_rfl

/-- Nothing is known of the memory. -/
theorem sim_none (h : Array Obj) : Sim (fun _ => none) 0 ⟨.e, 0⟩ h :=
  ⟨fun l ob hl => by simp [St.look, T.get_e] at hl, fun l l' ob ob' p p' hl => by simp [St.look, T.get_e] at hl, fun _ _ => rfl, fun i hi => absurd hi (Nat.not_lt_zero i)⟩

theorem kept_of {w w' : World} (ho : Out w w') (h : ∀ b : Nat, b < w.heap.size → w'.heap[b]? = w.heap[b]?) : w.keptBut w' (fun _ => False) := by
  refine ⟨ho.1, ho.2, fun i hi => ?_⟩
  rw [h i hi]
  cases hw : w.heap[i]? with
  | none => rfl
  | some o =>
    cases o with
    | cells c t fr => exact ⟨rfl, rfl, rfl, fun _ _ => rfl⟩
    | map es k => exact .inr ⟨rfl, rfl⟩
    | _ => rfl

theorem alive_of (F : CallR Prop) (hF : CallOk Tryz.prog 0 F) (hrun : F 19 [] yes ⟨.e, 0⟩) (w : World) :
    Calls Tryz.prog 19 #[] w fun e w' => e = .returned (.bool true) ∧ Out w w' ∧ w.heap.size ≤ w'.heap.size ∧ ∀ b : Nat, b < w.heap.size → w'.heap[b]? = w.heap[b]? := by
  refine (hF 19 [] yes ⟨.e, 0⟩ w (fun _ => none) [] _ hrun (sim_none _) rfl ?_).2
  intro v s' w' ρ' u hv hu hsim hste hout
  unfold yes at hv
  split at hv
  · obtain rfl : u = .bool true := hu
    exact ⟨rfl, hout, hste.size, fun b hb => hste.frame b hb (fun l ob p hl => by simp [St.look, T.get_e] at hl)⟩
  · exact hv.elim

/-- THE CLOSED RUN. -/
theorem alive (w : World) : Calls Tryz.prog 19 #[] w fun e w' => e = .returned (.bool true) ∧ Out w w' ∧ w.heap.size ≤ w'.heap.size ∧ ∀ b : Nat, b < w.heap.size → w'.heap[b]? = w.heap[b]? := by
  have hF := callN_ok good specs 1000
  have hrun := run_eq
  generalize callN En 1000 = F at hF hrun
  exact alive_of F hF (of_eq_true hrun) w
#print axioms alive
end Go.Ev
