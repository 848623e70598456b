import Derived.Test.YtbjcopckkgdmgaaGreatDoorLiA
import Derived.Test.YtbjcopckkgdmgaaGreatDoorOr3
import Derived.Deep.RegionHeld3
import Derived.WalkLawsBesides
/- Comparing nodes by themselves. -/
namespace Go.Ev
open Go.Proofs Go.RowKit Go.Lib
set_option maxRecDepth 100000


set_option maxHeartbeats 1000000 in
theorem cmpInt_ok (x y : Int) (w : World) : Calls Tryz.prog 98 #[.int .i64 x, .int .i64 y] w fun e w' => e = .returned (.int .i64 (cmpI x y)) ∧ w = w' := by
  go_enter Tryz.func98, Tryz.ntmps98
  go_wp2
  all_goals go_ret
  all_goals refine ⟨?_, rfl⟩
  all_goals simp_all [cmpI]
  all_goals omega

set_option maxHeartbeats 1000000 in
theorem cmpStr_ok (x y : ByteArray) (w : World) : Calls Tryz.prog 99 #[.string x, .string y] w fun e w' => e = .returned (.int .i64 (cmpS x y)) ∧ w = w' := by
  go_enter Tryz.func99, Tryz.ntmps99
  go_wp2
  all_goals go_ret
  all_goals refine ⟨?_, rfl⟩
  all_goals simp_all [cmpS]

def firstI : List Int → Int
  | [] => 0
  | x :: r => if x = 0 then firstI r else x

theorem firstI_zero {xs : List Int} {k : Nat} (hk : k < xs.length) (h : xs[k] = 0) : firstI (xs.drop k) = firstI (xs.drop (k + 1)) := by
  rw [List.drop_eq_getElem_cons hk]
  simp [firstI, h]
theorem firstI_here {xs : List Int} {k : Nat} (hk : k < xs.length) (h : xs[k] ≠ 0) : firstI (xs.drop k) = xs[k] := by
  rw [List.drop_eq_getElem_cons hk]
  simp [firstI, h]

set_option maxHeartbeats 2000000 in
theorem or_ok (b n : Nat) (xs : List Int) (hn : n = xs.length) (hn2 : n ≤ 100) (w : World) (hcell : ∀ j x, xs[j]? = some x → w.cell? ⟨b, j, none⟩ = some (.int .i64 x)) :
    Calls Tryz.prog 97 #[.slice (some ⟨b, 0, none⟩) n n] w fun e w' => e = .returned (.int .i64 (firstI xs)) ∧ w = w' := by
  have HN := Lib.hid hn
  have HC := Lib.hid hcell
  clear hn hcell
  go_enter Tryz.func97, Tryz.ntmps97
  go_wp2
  go_loop [8] (fun i => ∃ k : Nat, k ≤ n ∧ i = .int .i64 k ∧ firstI xs = firstI (xs.drop k)) (fun i => n - (RowKit.intOf i).toNat)
  case atStart => exact ⟨0, Nat.zero_le _, rfl, rfl⟩
  case round =>
    obtain ⟨k, hk, rfl, hf⟩ := hrel
    by_cases hlt : k < n
    · have hlx : k < xs.length := by rw [← HN.out]; exact hlt
      have hc := HC.out k _ (List.getElem?_eq_getElem hlx)
      by_cases hz : xs[k] = 0
      · have HF := Lib.hid (hf.trans (firstI_zero hlx hz))
        rw [hz] at hc
        clear hf hz
        go_wp2
        go_round
        case rel => exact ⟨k + 1, by omega, by go_num, HF.out⟩
        case measure => simp [RowKit.intOf]; omega
      · have HF := Lib.hid (hf.trans (firstI_here hlx hz))
        have hz' : (xs[k] != 0) = true := by simpa using hz
        clear hf hz
        go_wp2
        go_ret
        exact ⟨by rw [HF.out]; rfl, rfl⟩
    · have HF := Lib.hid (show firstI xs = 0 by rw [hf, List.drop_eq_nil_of_le (by rw [← HN.out]; omega)]; rfl)
      clear hf
      go_wp2
      go_ret
      exact ⟨by rw [HF.out]; rfl, rfl⟩

theorem first_face (x y : Nd) : firstI [cmpI x.kind y.kind, cmpI (x.args.length : Int) (y.args.length : Int), cmpS x.label y.label, cmpI x.num y.num] = fcmp x.face y.face := by
  unfold fcmp lexC Nd.face
  simp only [firstI]
  repeat' split
  all_goals first | rfl | omega | skip

set_option maxHeartbeats 4000000 in
theorem orderFaces_ok (x y : Nd) (va vb : Value) (W : World) (ha : ArgsV W va x.args) (hb : ArgsV W vb y.args) :
    Calls Tryz.prog 66 #[.agg #[.int .i64 x.kind, .int .i64 x.num, .string x.label, va], .agg #[.int .i64 y.kind, .int .i64 y.num, .string y.label, vb]] W fun e w' =>
      e = .returned (.int .i64 (fcmp x.face y.face)) ∧ Kp W.heap.size W w' := by
  obtain ⟨ab, ac, rfl⟩ := ha.len
  obtain ⟨bb, bc, rfl⟩ := hb.len
  have HV := Lib.hid (first_face x y)
  clear ha hb
  go_enter Tryz.func66, Tryz.ntmps66
  go_wp2_with fail
  go_region_held3 (fun w' => w'.cell? ⟨W.heap.size, 0, none⟩ = some (.int .i64 x.kind) ∧ w'.cell? ⟨W.heap.size, 1, none⟩ = some (.int .i64 x.num) ∧ w'.cell? ⟨W.heap.size, 2, none⟩ = some (.string x.label) ∧ w'.cell? ⟨W.heap.size, 3, none⟩ = some (.slice ab x.args.length ac) ∧
      w'.cell? ⟨W.heap.size + 1, 0, none⟩ = some (.int .i64 y.kind) ∧ w'.cell? ⟨W.heap.size + 1, 1, none⟩ = some (.int .i64 y.num) ∧ w'.cell? ⟨W.heap.size + 1, 2, none⟩ = some (.string y.label) ∧ w'.cell? ⟨W.heap.size + 1, 3, none⟩ = some (.slice bb y.args.length bc) ∧ Kp W.heap.size W w' ∧ W.heap.size + 1 < w'.heap.size)
    (first
      | exact ⟨by go_simp, by go_simp, by go_simp, by go_simp, by go_simp, by go_simp, by go_simp, by go_simp, (((Kp.refl _ _).alloc (Nat.le_refl _) _).alloc (by simp) _).drew, by simp⟩
      | exact ⟨by go_simp, by go_simp, by go_simp, by go_simp, by go_simp, by go_simp, by go_simp, by go_simp, ((((Kp.refl _ _).alloc (Nat.le_refl _) _).alloc (by simp) _).drew.alloc (by simp; omega) _), by simp⟩
      | assumption)
    (first
      | (go_at_call 97; refine (or_ok _ 4 [cmpI x.kind y.kind, cmpI (x.args.length : Int) (y.args.length : Int), cmpS x.label y.label, cmpI x.num y.num] rfl (by omega) _ ?_).mono ?_; (intro j z hj; rcases j with _ | _ | _ | _ | j <;> simp at hj <;> subst hj <;> go_simp); rintro e w' ⟨rfl, rfl⟩)
      | (go_at_call 98; refine (cmpInt_ok _ _ _).mono ?_; rintro e w' ⟨rfl, rfl⟩)
      | (go_at_call 99; refine (cmpStr_ok _ _ _).mono ?_; rintro e w' ⟨rfl, rfl⟩))
  rename (_ ∧ _ ∧ _ ∧ _ ∧ _ ∧ _ ∧ _ ∧ _ ∧ Kp W.heap.size W _ ∧ _) => hS
  have HS := Lib.hid hS.2.2.2.2.2.2.2.2.1
  clear hS
  rw [HV.out]
  go_wp2
  go_ret
  exact ⟨rfl, HS.out⟩
end Go.Ev
