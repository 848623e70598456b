import Derived.Test.YtbjcopckkgdmgaaGreatDoorOp
import Derived.Test.YtbjcopckkgdmgaaGreatDoorWit
import Derived.Test.YtbjcopckkgdmgaaGreatDoorE3
import Derived.Test.YtbjcopckkgdmgaaGreatDoorE1
import Derived.Test.YtbjcopckkgdmgaaGreatDoorN3
/-
  TreeEqual: called with any three trees and any bytes that can be read as data, the law returns true and leaves its arguments as they were. No condition but those of the given row.
-/
namespace Go.Proofs.YtbjcopckkgdmgaaGreatDoor.treeEqual
open Go.ChangeShapes Go.WideShapes Go.ChangeAt Go.RowKit Go.Ev 
set_option maxRecDepth 100000

theorem contract (H : Type) (enc : TypeId × Value → H) (W : World) (base : Nat) (args : Array Value) (ds gs : List (DataW H)) (before : List MemPlace)
    (hval : ∀ (j : Nat) t v, Tryz.f10.params[j]? = some t → args[j]? = some v → Value.okWide Tryz.prog W .any base t v)
    (hW : DataW.Whole enc Tryz.prog Tryz.f10.params.toList Rows.treeEqualSpec.vars false W args.toList ds gs before) :
    Calls Tryz.prog 10 args W fun e W' => ∃ v, e = .returned v ∧ Rows.treeEqualSpec.post enc Tryz.prog Tryz.f10 false true false false W args v W' := by
  have hW' := hW
  obtain ⟨p, q, hA0, hV, rfl, hfz, hnd⟩ := hW
  have hA : DataW.TrodAll enc Tryz.prog W 0 (fun _ => true) true Tryz.f10.params.toList args.toList ds p := hA0
  rw [Tryz.params10] at hA hval
  obtain ⟨v0, vs0, d0, ds0, p0, q0, hargs, rfl, rfl, h0, r0⟩ := trodAll_cons hA
  obtain ⟨v1, vs1, d1, ds1, p1, q1, rfl, rfl, rfl, h1, r1⟩ := trodAll_cons r0
  obtain ⟨v2, vs2, d2, ds2, p2, q2, rfl, rfl, rfl, h2, r2⟩ := trodAll_cons r1
  obtain ⟨v3, vs3, d3, ds3, p3, q3, rfl, rfl, rfl, h3, r3⟩ := trodAll_cons r2
  obtain ⟨rfl, rfl, rfl⟩ := trodAll_nil r3
  obtain rfl : args = #[v0, v1, v2, v3] := by cases args; simp_all
  obtain ⟨sa, na, za, rfl, ha, hfa⟩ := open_tree_fit (hval 0 24 v0 rfl rfl) h0
  obtain ⟨sb, nb, zb, rfl, hb, hfb⟩ := open_tree_fit (hval 1 24 v1 rfl rfl) h1
  obtain ⟨sc, nc, zc, rfl, hc, _⟩ := open_tree_fit (hval 2 24 v2 rfl rfl) h2
  obtain ⟨ps, hp, hpl⟩ := open_u8s (hval 3 46 v3 rfl rfl) h3
  refine (treeEqual_true sa sb sc v3 na nb nc za zb zc ps W ha hb hc hp hpl hfa hfb).mono fun e W' ⟨he, hk⟩ => ?_
  subst he
  exact ⟨_, rfl, post_law wit.laidOut Tryz.underlying4 (by kernel_rfl) rfl (by
    rw [Tryz.params10]
    intro t ht
    have ht' : t = 24 ∨ t = 46 := by simpa using ht
    rcases ht' with rfl | rfl
    all_goals exact ⟨by kernel_rfl, of_decide_eq_true (by kernel_rfl)⟩) hW' rfl hk⟩

theorem laid_met (os : Os) (args : Array Value) : laidMet Tryz.prog Rows.treeEqualRow.laid ((wit.laidWorld os).forCall (fun _ _ => 0) ⟨#[], args, []⟩).memory := wit.laid_met os args

theorem reads (os : Os) {H : Type} (enc : TypeId × Value → H) : ∃ places, DataW.whole enc Tryz.prog ((wit.laidWorld os).forCall (fun _ _ => 0) ⟨#[], #[wit.tree0, wit.tree0, wit.tree0, .slice none 0 0], []⟩).memory Tryz.f10.params.toList Rows.treeEqualSpec.vars false #[wit.tree0, wit.tree0, wit.tree0, .slice none 0 0].toList 8 = some ([.agg [.nil, .lit (.int .i64 0)], .agg [.nil, .lit (.int .i64 0)], .agg [.nil, .lit (.int .i64 0)], .nil], [], places) :=
  ⟨[], by kernel_rfl⟩

theorem lifted (os : Os) (started : os.Started) (H : Type) (enc : TypeId × Value → H) (F : Stop.Interp) :
    ReturnsInHanded {} Tryz.checked os 10 .any ((OpenSpec.ofChange Rows.treeEqualSpec).preRow enc Tryz.prog Tryz.f10 Rows.treeEqualRow.domain false Rows.treeEqualRow.laid) (((OpenSpec.ofChange Rows.treeEqualSpec).at F).post enc Tryz.prog Tryz.f10 false true false false) := by
  obtain ⟨places, hx⟩ := reads os enc
  refine returnsInHanded_of_row (C := Tryz.checked) (s := OpenSpec.ofChange Rows.treeEqualSpec) wit.own started (by kernel_rfl) Tryz.func10
    (witness_row_atRef (enc := enc) (C := Tryz.checked) false (wit.laidWorld os) #[wit.tree0, wit.tree0, wit.tree0, .slice none 0 0] rfl (by kernel_rfl) (by kernel_rfl) (by kernel_rfl)
      (OpenSpec.preRow_of_cond 8 hx (by kernel_rfl) (fun k hk => by cases hk) (by kernel_rfl) (laid_met os _))) ?_
  intro W base args ds gs before hval hW _ _ _ hL _ _
  exact contract H enc W base args ds gs before hval hW

theorem said : Rows.TreeEqualSaid :=
  OpenClaim.holds_of_cond 10 Tryz.f10 rfl rfl rfl rfl rfl rfl rfl ⟨rfl, rfl, rfl, rfl, rfl⟩ rfl rfl rfl rfl rfl (by kernel_rfl) Tryz.func10 (by kernel_rfl)
    (of_decide_eq_true (by kernel_rfl)) (by unfold Func.isWrapper; first | (rw [if_pos (by decide +kernel)]; kernel_rfl) | (rw [if_neg (by decide +kernel)]; exact ⟨rfl, rfl⟩))
    (fun os started H enc _ F => by rw [OpenClaim.pre_eq_preRow]; exact lifted os started H enc F)

theorem plain (f : FuncId) (fn : Func) (hf : Tryz.pinned.checked.prog.funcNamed "leatwork/leatworklaw01.TreeEqual" = some f) (hfn : Tryz.pinned.checked.prog.funcs[f]? = some fn) :
    true = Tryz.pinned.checked.prog.looks [] ∧ ∀ (j : Nat) t, fn.params[j]? = some t → Tryz.pinned.checked.prog.wantsStandIn t = false := by
  obtain rfl : f = 10 := Option.some.inj ((show Tryz.prog.funcNamed "leatwork/leatworklaw01.TreeEqual" = some 10 by kernel_rfl).symm.trans hf) |>.symm
  obtain rfl : fn = Tryz.f10 := (Option.some.inj (Tryz.func10.symm.trans hfn)).symm
  refine ⟨by kernel_rfl, fun j t ht => ?_⟩
  rw [Tryz.params10] at ht
  have ht' : t = 24 ∨ t = 46 := by simpa using Array.mem_of_getElem? ht
  rcases ht' with rfl | rfl
  · exact (show Tryz.prog.wantsStandIn 24 = false by kernel_rfl)
  · exact (show Tryz.prog.wantsStandIn 46 = false by kernel_rfl)

/-- THE CARD. -/
theorem card : Rows.TreeEqualCardSaid :=
  Claim7.holds_tied_plain_at .later [] _ _ _ _ said (fun _ h => by cases h) (by kernel_rfl) (fun _ h => by cases h) treeEqual_row_tie rfl ⟨rfl, rfl⟩ (by kernel_rfl) rfl plain (by kernel_rfl)
#print axioms card
end Go.Proofs.YtbjcopckkgdmgaaGreatDoor.treeEqual
