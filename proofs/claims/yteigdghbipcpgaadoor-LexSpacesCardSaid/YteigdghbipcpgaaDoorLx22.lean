/- The chapter's examples hold. -/
import Derived.Test.YteigdghbipcpgaaDoorLx21
namespace Go.Lx
open Go.Proofs Go.RowKit Go.Lib Go.Ev
set_option maxRecDepth 100000

/-- A scan that ends well. -/
theorem scan_good (s : ByteArray) (ts : List Tok) (h : scanL s.data.toList = .ok ts) (hs : s.size ≤ 140737488355328) (w : World) (hg : Glb w) :
    Calls Tryd.prog 15 #[.string s] w fun e w' => ∃ v, e = .returned (.tuple #[v, .int .i64 0, .int .i64 0]) ∧ ToksV w' v ts ∧ Kp w.heap.size w w' :=
  (scan_ok s hs w hg).mono fun e w' hS => by
    unfold Scanned at hS
    rw [h] at hS
    obtain ⟨hk, v, he, ho⟩ := hS
    exact ⟨v, he, own_toks ho, hk⟩
theorem scan_bad (s : ByteArray) (k : Nat) (h : scanL s.data.toList = .form k) (hs : s.size ≤ 140737488355328) (w : World) (hg : Glb w) :
    Calls Tryd.prog 15 #[.string s] w fun e w' => e = .returned (.tuple #[.slice none 0 0, .int .i64 k, .int .i64 2]) ∧ Kp w.heap.size w w' :=
  (scan_ok s hs w hg).mono fun e w' hS => by
    unfold Scanned at hS
    rw [h] at hS
    exact ⟨hS.2, hS.1⟩

def ex1 : List Tok := [⟨3, [88], 0⟩, ⟨5, [61], 1⟩, ⟨2, [102], 2⟩, ⟨5, [40], 3⟩, ⟨3, [89], 4⟩, ⟨1, [45, 51], 6⟩, ⟨5, [41], 8⟩]
def src2 : List UInt8 := [91, 93, 32, 91, 32, 93, 32, 61, 60, 32, 61, 32, 60, 32, 97, 124, 98, 32, 39, 105, 102, 39, 32, 105, 102]
theorem scan1 : scanL [88, 61, 102, 40, 89, 32, 126, 51, 41, 37, 32, 111, 107] = .ok ex1 := by decide +kernel
theorem scan2 : ∃ ts, scanL src2 = .ok ts ∧ ts.length = 11 ∧ (ts[9]?.map (·.kind)) = some 2 ∧ (ts[10]?.map (·.kind)) = some 4 := by
  refine ⟨[⟨5, [91, 93], 0⟩, ⟨5, [91], 3⟩, ⟨5, [93], 5⟩, ⟨5, [61, 60], 7⟩, ⟨5, [61], 10⟩, ⟨5, [60], 12⟩, ⟨2, [97], 14⟩, ⟨5, [124], 15⟩, ⟨2, [98], 16⟩, ⟨2, [105, 102], 18⟩, ⟨4, [105, 102], 23⟩], ?_, rfl, rfl, rfl⟩
  decide +kernel
theorem scan3 : scanL [48, 49] = .form 0 := by decide +kernel
theorem scan4 : scanL [120, 92, 121] = .form 1 := by decide +kernel

theorem toks_new (w : World) (ts : List Tok) (t : TypeId) (cs : Array Value) (hcs : cs = (toksCells ts).toArray) (h : ts.length ≤ 1000) : ToksV (w.alloc (.cells cs t)) (.slice (some ⟨w.heap.size, 0, none⟩) ts.length ts.length) ts := by
  subst hcs
  refine .row _ _ _ _ (Nat.le_refl _) (by omega) fun j x hj => ?_
  have hc : ∀ i, i < 3 → (w.alloc (.cells (toksCells ts).toArray t)).cell? ⟨w.heap.size, 0 + (j * 3 + i), none⟩ = (tokCells x)[i]? := fun i hi => by
    rw [World.cell?_alloc_new, Nat.zero_add]
    rw [← toksCells_at hj hi]
    simp
  exact ⟨hc 0 (by omega), hc 1 (by omega), hc 2 (by omega)⟩
theorem ToksV.kind {w : World} {v : Value} {ts : List Tok} (h : ToksV w v ts) {j : Nat} {t : Tok} (hj : ts[j]? = some t) : ∃ b off c, v = .slice (some ⟨b, off, none⟩) ts.length c ∧ ts.length ≤ c ∧ w.cell? ⟨b, off + j * 3, none⟩ = some (.int .i64 t.kind) := by
  cases h with
  | empty base c => simp at hj
  | row b off c ts hc hc2 hcell => exact ⟨b, off, c, rfl, hc, (hcell j t hj).1⟩

set_option maxHeartbeats 400000 in
theorem alive_ok (w : World) (hg : Glb w) : Calls Tryd.prog 14 #[] w fun e w' => e = .returned (.bool true) ∧ Kp w.heap.size w w' := by
  have HG := Lib.hid hg
  clear hg
  have C1 := fun w hg => scan_good ⟨#[88, 61, 102, 40, 89, 32, 126, 51, 41, 37, 32, 111, 107]⟩ ex1 scan1 (by decide) w hg
  obtain ⟨ts2, h2, hl2, h9, h10⟩ := scan2
  have C2 := fun w hg => scan_good ⟨#[91, 93, 32, 91, 32, 93, 32, 61, 60, 32, 61, 32, 60, 32, 97, 124, 98, 32, 39, 105, 102, 39, 32, 105, 102]⟩ ts2 h2 (by decide) w hg
  have C3 := fun w hg => scan_bad ⟨#[48, 49]⟩ 0 scan3 (by decide) w hg
  have C4 := fun w hg => scan_bad ⟨#[120, 92, 121]⟩ 1 scan4 (by decide) w hg
  obtain ⟨t9, ht9, hk9⟩ := Option.map_eq_some_iff.1 h9
  obtain ⟨t10, ht10, hk10⟩ := Option.map_eq_some_iff.1 h10
  have HL2 := Lib.hid hl2
  have H9 := Lib.hid (And.intro ht9 hk9)
  have H10 := Lib.hid (And.intro ht10 hk10)
  clear h2 hl2 h9 h10 ht9 hk9 ht10 hk10
  go_enter Tryd.func14, Tryd.ntmps14
  go_wp2_with (first
    | (go_at_call 15; (with_reducible refine (C1 _ HG.out).mono ?_); rintro e w1 ⟨v1, rfl, hv1, hk1⟩; have HV1 := Lib.hid hv1; have HK1 := Lib.hid hk1; have HG1 := Lib.hid (HG.out.kp hk1); clear hv1 hk1)
    | (go_at_call 15; (with_reducible refine (C2 _ (HG1.out.alloc _)).mono ?_); rintro e w2 ⟨v2, rfl, hv2, hk2⟩; obtain ⟨b2, o2, c2, hve, hcc, hq9⟩ := hv2.kind H9.out.1; obtain ⟨b3, o3, c3, hve3, _, hq10⟩ := hv2.kind H10.out.1; rw [hve] at hve3; injection hve3 with e1 e2 e3; injection e1 with e1; injection e1 with e4 e5; subst e4 e5; subst hve; rw [HL2.out] at hcc ⊢; rw [H9.out.2] at hq9; rw [H10.out.2] at hq10; have HQ := Lib.hid (And.intro hq9 hq10); clear hq9 hq10 e2 e3 hv2; have HW := Lib.hid (show ToksV _ (.slice (some ⟨w1.heap.size, 0, none⟩) 7 7) ex1 from toks_new w1 ex1 35 _ rfl (by decide)); have HW2 := Lib.hid (HW.out.kp hk2); have HK2 := Lib.hid (kp_box hk2); have HG2 := Lib.hid ((HG1.out.alloc _).kp hk2); clear HW hk2)
    | (go_at_call 15; (with_reducible refine (C3 _ HG2.out).mono ?_); rintro e w3 ⟨rfl, hk3⟩; have HK3 := Lib.hid hk3; have HG3 := Lib.hid (HG2.out.kp hk3); clear hk3)
    | (go_at_call 15; (with_reducible refine (C4 _ HG3.out).mono ?_); rintro e w4 ⟨rfl, hk4⟩; have HK4 := Lib.hid hk4; clear hk4)
    | (go_at_call 17; (with_reducible refine (tokens_ok _ _ ex1 ex1 true _ (HV1.out.kp (kp_then (kp_then HK2.out HK3.out) HK4.out)) (HW2.out.kp (kp_then HK3.out HK4.out)) (Same.refl _ _)).mono ?_); rintro e w5 ⟨rfl, hk5⟩; have hc9 := hk5.cells (HK4.out.cells (HK3.out.cells HQ.out.1)); have hc10 := hk5.cells (HK4.out.cells (HK3.out.cells HQ.out.2)); rw [show o2 + 9 * 3 = o2 + 27 from rfl] at hc9; rw [show o2 + 10 * 3 = o2 + 30 from rfl] at hc10; have HK5 := Lib.hid hk5; clear hk5))
  go_ret
  exact ⟨rfl, kp_then HK1.out (kp_then HK2.out (kp_then (kp_then HK3.out HK4.out) HK5.out))⟩
end Go.Lx
