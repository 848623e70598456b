/- The closed run of the package's examples (stage 2) returns true, from whatever world. -/
import Derived.Test.YtcjcchidfinohaaGreatSn0
import Derived.Test.YtcjcchidfinohaaGreatProg
import Derived.ProofKit
namespace Go.Sn
open Go.Proofs Go.Ev

noncomputable def En : Env Prop := { P := Tryz.prog, g := 0, no := fun _ => False, spec := fun f => match Nat.beq f 47 with | true => some undoSpec | false => none }
def yes : AV → St → Prop := fun v _ => match v with
  | .bool true => True
  | _ => False

theorem named : Named Tryz.prog := fun i fn h => by
  have hall : (Tryz.prog.funcs.toList.all fun fn => !(fn.name == "runtime.NumGoroutine")) = true := by kernel_rfl
  have := List.all_eq_true.1 hall fn (by
    have : fn ∈ Tryz.prog.funcs := Array.mem_of_getElem? h
    simpa using this)
  simpa using this

theorem good : Go.Ev.Good En Tryz.prog := ⟨rfl, by kernel_rfl, fun _ h => h, named⟩

theorem specs : ∀ g q, En.spec g = some q → CallOk Tryz.prog En.g (fun i l K s => i = g ∧ q l K s) := by
  intro g q h
  have h : (match Nat.beq g 47 with | true => some undoSpec | false => none) = some q := h
  split at h
  · rename_i hg
    obtain rfl := Nat.eq_of_beq_eq_true hg
    obtain rfl := Option.some.inj h
    exact undoSpec_ok
  · cases h

theorem run_eq : callN En 1000 5 [] yes ⟨.e, 0⟩ = True := by kernel_rfl

/-- Nothing is known of the memory. -/
theorem sim_none (h : Array Obj) : Sim (fun _ => none) 0 ⟨.e, 0⟩ h :=
  ⟨fun l ob hl => by simp [St.look, T.get_e] at hl, fun l l' ob ob' p p' hl => by simp [St.look, T.get_e] at hl, fun _ _ => rfl, fun i hi => absurd hi (Nat.not_lt_zero i)⟩

theorem alive_of (F : CallR Prop) (hF : CallOk Tryz.prog 0 F) (hrun : F 5 [] yes ⟨.e, 0⟩) (w : World) :
    Calls Tryz.prog 5 #[] w fun e w' => e = .returned (.bool true) ∧ Out w w' ∧ w.heap.size ≤ w'.heap.size ∧ ∀ b : Nat, b < w.heap.size → w'.heap[b]? = w.heap[b]? := by
  refine (hF 5 [] yes ⟨.e, 0⟩ w (fun _ => none) [] _ hrun (sim_none _) rfl ?_).2
  intro v s' w' ρ' u hv hu hsim hste hout
  unfold yes at hv
  split at hv
  · obtain rfl : u = .bool true := hu
    exact ⟨rfl, hout, hste.size, fun b hb => hste.frame b hb (fun l ob p hl => by simp [St.look, T.get_e] at hl)⟩
  · exact hv.elim

/-- THE CLOSED RUN. -/
theorem alive_kp (w : World) : Calls Tryz.prog 5 #[] w fun e w' => e = .returned (.bool true) ∧ Kp w.heap.size w w' := by
  have hF := callN_ok good specs 1000
  have hrun := run_eq
  generalize callN En 1000 = F at hF hrun
  exact (alive_of F hF (of_eq_true hrun) w).mono fun _ _ ⟨h1, h2, h3, h4⟩ => ⟨h1, .of_out h2 h3 h4⟩
#print axioms alive_kp
end Go.Sn
