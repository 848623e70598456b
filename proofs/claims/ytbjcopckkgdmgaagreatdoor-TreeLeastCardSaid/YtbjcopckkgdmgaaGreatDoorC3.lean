import Derived.Test.YtbjcopckkgdmgaaGreatDoorC1
import Derived.Test.YtbjcopckkgdmgaaGreatDoorC2
import Derived.Test.YtbjcopckkgdmgaaGreatDoorN2
import Derived.Test.YtbjcopckkgdmgaaGreatDoorN13
import Derived.Test.YtbjcopckkgdmgaaGreatDoorCq1
import Derived.Test.YtbjcopckkgdmgaaGreatDoorLn1
import Derived.Test.YtbjcopckkgdmgaaGreatDoorLa1
/- The document's own Cyclic. -/
namespace Go.Ev
open Go.Proofs Go.RowKit Go.Lib
set_option maxRecDepth 100000

/-- Marks that say nothing false. -/
structure Marked (G : List Nd) (bs : List Bool) : Prop where
  len : bs.length = G.length
  ends : ∀ y, bs.getD y false = true → Ends G y

/-- No more can be marked. -/
def Settled (G : List Nd) (bs : List Bool) (i : Nat) : Prop := ∀ y, y < i → (∀ a ∈ argsAt G y, bs.getD a false = true) → bs.getD y false = true

theorem Settled.all {G : List Nd} (hG : GClosed G) {bs : List Bool} (h : Settled G bs G.length) {x : Nat} (he : Ends G x) : x < G.length → bs.getD x false = true := by
  induction he with
  | node x _ ih => exact fun hx => h x hx fun a ha => ih a ha (argsAt_lt hG ha)

theorem Marked.set {G : List Nd} {bs : List Bool} (h : Marked G bs) {i : Nat} (hi : i < G.length) (ha : ∀ a ∈ argsAt G i, bs.getD a false = true) : Marked G (bs.set i true) :=
  ⟨by rw [List.length_set]; exact h.len, fun y hy => by
    rw [getD_set (by rw [h.len]; exact hi)] at hy
    by_cases e : i = y
    · subst e; exact .node _ fun a h1 => h.ends a (ha a h1)
    · rw [if_neg e] at hy; exact h.ends y hy⟩

def allM (G : List Nd) (bs : List Bool) (i k : Nat) : Bool := ((argsAt G i).take k).all fun a => bs.getD a false

theorem allM_snoc {G : List Nd} {bs : List Bool} {i k a : Nat} (h : (argsAt G i)[k]? = some a) : allM G bs i (k + 1) = (allM G bs i k && bs.getD a false) := by
  unfold allM; rw [takeSnoc h, List.all_append]; simp

def RCycPost (A : List Nd) (r : Nat) (W : World) (e : Ending) (w' : World) : Prop := ∃ b : Bool, e = .returned (.tuple #[.bool b, .int .i64 0]) ∧ (b = true ↔ ¬ Ends A r) ∧ Kp W.heap.size W w'

set_option maxHeartbeats 16000000 in
theorem rcyclic_ok (va : Value) (A : List Nd) (za : Int) (W : World) (ha : NodesV W va A) (hva : validB A za = true) :
    Calls Tryz.prog 26 #[.agg #[va, .int .i64 za]] W (RCycPost A za.toNat W) := by
  obtain ⟨i4, hj0, hy0, hy1, hy2⟩ := info_parts Tryz.info4
  obtain ⟨ra, rfl, hra, hA8, hA⟩ := valid_nodes hva
  have hm2 : ∀ N : Nat, N ≤ 100000 → ∀ w, (Instr.makeSlice 57 (.int .i64 (N : Int)) (.int .i64 (N : Int))).run Tryz.prog w = .ok (.slice (some ⟨w.heap.size, 0, none⟩) N N) (w.alloc (.cells (madeCells (Value.bool false).cells (N * 1)) 4)) := fun N hN w => by
    have := run_make (P := Tryz.prog) w 57 4 i4 _ Tryz.underlying57 hj0 hy0 .i64 .i64 N N (by omega) (Int.le_refl _) (by rw [hy2]; omega) (by omega)
    simpa [hy1] using this
  obtain ⟨w1, hw1⟩ : ∃ w1, w1 = W.alloc (Obj.cells #[va, Value.int IntKind.i64 ra] 24) := ⟨_, rfl⟩
  have k1 : Kp W.heap.size W w1 := by rw [hw1]; exact (Kp.refl _ _).alloc (Nat.le_refl _) _
  have CL := rleast_good va A ra w1 (ha.kp k1) hva
  have HM := Lib.hid hm2
  have K1 := Lib.hid k1
  have HAC := Lib.hid hA
  clear hm2 k1 ha hva hA
  go_enter Tryz.func26, Tryz.ntmps26
  go_wp2_with fail
  rw [← hw1]
  clear hw1
  refine CL.mono ?_
  rintro e w2 ⟨L, v, rfl, hnv, hcan, hbis, hle, k2⟩
  obtain ⟨xb, xo, xc, rfl⟩ := hnv.shape hcan.some
  have hL8 : L.length ≤ 8000 := by omega
  have hm := HM.out L.length (by omega)
  obtain ⟨Z, hZ⟩ : ∃ Z, Z = madeCells (Value.bool false).cells (L.length * 1) := ⟨_, rfl⟩
  rw [← hZ] at hm
  have HZ := Lib.hid hZ
  have HN2 := Lib.hid hnv
  have HCN := Lib.hid hcan
  have HBS := Lib.hid hbis
  have K2 := Lib.hid (K1.out.trans (k2.mono K1.out.size))
  have hl0 := hcan.some
  clear CL hnv hcan hbis k2 hZ hle
  go_wp2_with fail
  obtain ⟨X, hX⟩ : ∃ X, X = w2.heap.size := ⟨_, rfl⟩
  rw [← hX]
  obtain ⟨fb, hfb⟩ : ∃ fb, fb = X + 1 := ⟨_, rfl⟩
  rw [← hfb]
  generalize hW5 : World.alloc _ _ = w5
  obtain ⟨w3, hw3⟩ : ∃ w3, w3 = w2.alloc (Obj.cells #[.slice (some ⟨xb, xo, none⟩) L.length xc, Value.int IntKind.i64 0] 24) := ⟨_, rfl⟩
  have hw5 : w5 = w3.alloc (Obj.cells Z 4) := by rw [hw3]; exact hW5.symm
  have hs3 : w3.heap.size = fb := by rw [hw3, hfb, hX]; simp
  have bX := (heap_low hw5 (n := X) (by omega)).trans (heap_top hw3 hX.symm)
  have bF : RowB w5 fb (List.replicate L.length false) := ⟨_, by rw [heap_top hw5 hs3, show Z = ((List.replicate L.length false).map Value.bool).toArray from by rw [← madeBools, HZ.out]]⟩
  have hk25 : Kp w2.heap.size w2 w5 := by rw [hw5, hw3]; exact ((Kp.refl _ _).alloc (Nat.le_refl _) _).alloc (by simp) _
  have hs5 : w5.heap.size = fb + 1 := by rw [hw5, ← hs3]; simp
  have HKEEP := Lib.hid (show ∀ w, Upd (fun g => g = fb) w5 w → w.cell? ⟨X, 0, none⟩ = some (.slice (some ⟨xb, xo, none⟩) L.length xc) ∧ NodesV w (.slice (some ⟨xb, xo, none⟩) L.length xc) L ∧ Kp W.heap.size W w from fun w hU => by
    have h1 := (hU.block X (by omega) (by omega)).trans bX
    have h2 : Kp w2.heap.size w2 w := hk25.trans (hU.kp (by omega) (fun g hg => by omega))
    exact ⟨by unfold World.cell?; rw [h1]; rfl, HN2.out.kp h2, K2.out.trans (h2.mono K2.out.size)⟩)
  have HB0 := Lib.hid bF
  have e1 := And.intro (Nat.le_of_eq hfb) (Nat.le_of_eq hfb.symm)
  clear hX hfb hW5 hw3 hw5 hs3 bX bF hk25 hs5 hm
  have HM0 := Lib.hid (show Marked L (List.replicate L.length false) from ⟨by simp, fun y hy => by
    rw [List.getD_eq_getElem?_getD, List.getElem?_replicate] at hy
    split at hy
    · cases hy
    · cases hy⟩)
  go_loopg [7, 8, 9, 10] (L.length + 1) (fun gk v7 _ _ _ wr => ∃ (bs : List Bool) (mo : Bool), v7 = .bool mo ∧ Upd (fun g => g = fb) w5 wr ∧ RowB wr fb bs ∧ Marked L bs ∧ (mo = false → Settled L bs L.length) ∧ bs.count false + (if mo = true then 1 else 0) ≤ gk)
  case atStart => exact ⟨_, true, rfl, Upd.refl _ _, HB0.out, HM0.out, fun h => (by cases h), by rw [List.count_replicate_self]; exact Nat.le_refl _⟩
  case round =>
    obtain ⟨bs, mo, rfl, hU, hrow, hmk, hset, hmu⟩ := hrel
    clear HB0 HM0
    obtain ⟨F, hFF⟩ : ∃ F, F = gk := ⟨_, rfl⟩
    subst hFF
    have HU := Lib.hid hU
    have HROW := Lib.hid hrow
    have HMK := Lib.hid hmk
    have HSET := Lib.hid hset
    have HMU := Lib.hid hmu
    cases mo with
    | false =>
      have c0 := hrow.cell (i := 0) (by rw [hmk.len]; exact hl0)
      obtain ⟨b, hb⟩ : ∃ b, bs.getD 0 false = b := ⟨_, rfl⟩
      rw [hb] at c0
      have HBB := Lib.hid hb
      clear hU hrow hmk hset hmu hb
      go_wp2_with fail
      go_ret2
      refine ⟨!b, rfl, ?_, (HKEEP.out _ HU.out).2.2⟩
      have hiff : b = true ↔ Ends L 0 := ⟨fun h => HMK.out.ends 0 (HBB.out.trans h), fun h => by rw [← HBB.out]; exact (HSET.out (by first | trivial | rfl)).all HCN.out.closed h hl0⟩
      have hbis : Ends L 0 ↔ Ends A ra := ⟨fun h => h.bis HCN.out.closed HAC.out hl0 hra (by simpa using HBS.out), fun h => h.bis HAC.out HCN.out.closed hra hl0 (by simpa using HBS.out.symm)⟩
      first | rw [← hbis, ← hiff] | rw [show ((ra : Int)).toNat = ra by simp, ← hbis, ← hiff]
      cases b <;> simp
    | true =>
      obtain ⟨wo, rfl⟩ : ∃ wo : World, wo = wr := ⟨_, rfl⟩
      clear hU hrow hmk hset hmu
      go_wp2_with fail
      go_loopg [7, 8, 9, 10] L.length (fun g v7 v8 _ _ wi => ∃ (i : Nat) (bs' : List Bool) (mo' : Bool), v8 = .int .i64 (i : Int) ∧ v7 = .bool mo' ∧ i + g = L.length ∧ Upd (fun g => g = fb) w5 wi ∧ RowB wi fb bs' ∧ Marked L bs' ∧ bs'.count false + (if mo' = true then 1 else 0) ≤ bs.count false ∧ (mo' = false → Settled L bs' i))
      case atStart => exact ⟨0, bs, false, rfl, rfl, by omega, HU.out, HROW.out, HMK.out, by simp, fun _ y hy => by omega⟩
      case round =>
        obtain ⟨i, bs', mo', rfl, rfl, hig, hU, hrow, hmk, hcnt, hset⟩ := hrel
        obtain ⟨F2, hFF⟩ : ∃ F2, F2 = gk := ⟨_, rfl⟩
        subst hFF
        obtain ⟨wi, rfl⟩ : ∃ wi : World, wi = wr := ⟨_, rfl⟩
        have HU2 := Lib.hid hU
        have HROW2 := Lib.hid hrow
        have HMK2 := Lib.hid hmk
        have HSET2 := Lib.hid hset
        have HCNT2 := Lib.hid hcnt
        obtain ⟨x0, hnv, -⟩ := HKEEP.out wi hU
        by_cases hin : i < L.length
        · obtain ⟨nd, hnd⟩ : ∃ nd, L[i]? = some nd := ⟨_, List.getElem?_eq_getElem hin⟩
          obtain ⟨hgc, hcell⟩ := hnv.at hl0
          obtain ⟨n0, n1, n2, n3, va', n4, hav⟩ := hcell i nd hnd
          obtain ⟨aa, ac, rfl⟩ := hav.len
          obtain ⟨h8, hargs⟩ := HCN.out.closed nd (List.mem_of_getElem? hnd)
          have hat : nd.args.map Int.toNat = argsAt L i := by unfold argsAt; rw [hnd]
          have hci := hrow.cell (i := i) (by rw [hmk.len]; exact hin)
          have hfi := hrow.frozen i
          obtain ⟨fi, hbi⟩ : ∃ fi, bs'.getD i false = fi := ⟨_, rfl⟩
          rw [hbi] at hci
          have HBI := Lib.hid hbi
          have HAV := Lib.hid hav
          have HAR := Lib.hid hargs
          have HAT := Lib.hid hat
          have hig2 : i + F2 ≤ L.length := by omega
          have hig3 : L.length ≤ i + F2 := by omega
          clear hU hrow hmk hset hcnt hnv hnd hcell hav hargs hat hbi n3 hig n0 n1 n2
          go_wp2_with fail
          go_loopg [9, 10] nd.args.length (fun g v9 v10 wk => ∃ k : Nat, v10 = .int .i64 (k : Int) ∧ v9 = .bool (allM L bs' i k) ∧ k + g = nd.args.length ∧ wk = wi)
          case atStart => exact ⟨0, rfl, by simp [allM], by omega, rfl⟩
          case round =>
            obtain ⟨k, rfl, rfl, hkg, rfl⟩ := hrel
            by_cases hkm : k < nd.args.length
            · obtain ⟨b0, o0, rfl, hac, -, hcell⟩ := args_cellAt HAV.out hkm
              obtain ⟨a, hxa⟩ : ∃ a : Nat, nd.args[k] = (a : Int) := ⟨_, (Int.toNat_of_nonneg (HAR.out _ (List.getElem_mem hkm)).1).symm⟩
              have hck := hcell k _ (List.getElem?_eq_getElem hkm)
              have haL := (HAR.out _ (List.getElem_mem hkm)).2
              rw [hxa] at hck haL
              have haL' : a < L.length := by omega
              have hak : (argsAt L i)[k]? = some a := by rw [← HAT.out, List.getElem?_map, List.getElem?_eq_getElem hkm, hxa]; rfl
              have hca := HROW2.out.cell (i := a) (by rw [HMK2.out.len]; exact haL')
              have HSN := Lib.hid (allM_snoc (bs := bs') hak)
              obtain ⟨fa, hfa⟩ : ∃ fa, bs'.getD a false = fa := ⟨_, rfl⟩
              rw [hfa] at hca
              have HFA := Lib.hid hfa
              have hkg2 : k + gk ≤ nd.args.length := by omega
              have hkg3 : nd.args.length ≤ k + gk := by omega
              clear hcell hxa hak hfa hkg
              cases hall : allM L bs' i k with
              | true =>
                have HALL := Lib.hid hall
                clear hall
                go_wp2_with fail
                go_roundg (gk - 1)
                case measure => omega
                case rel => exact ⟨k + 1, by go_num, by rw [HSN.out, HALL.out, HFA.out]; rfl, by omega, rfl⟩
              | false =>
                have HALL := Lib.hid hall
                clear hall
                go_wp2_with fail
                go_roundg (gk - 1)
                case measure => omega
                case rel => exact ⟨k + 1, by go_num, by rw [HSN.out, HALL.out]; rfl, by omega, rfl⟩
            · have hke : k = nd.args.length := by omega
              have HALLM := Lib.hid (show allM L bs' i k = true ↔ ∀ a ∈ argsAt L i, bs'.getD a false = true from by
                unfold allM
                rw [List.take_of_length_le (by rw [← HAT.out, List.length_map]; omega), List.all_eq_true])
              clear hkg hke
              have hkm2 : (nd.args.length : Int) ≤ (k : Int) := by omega
              cases hall : allM L bs' i k with
              | true =>
                rw [hall] at HALLM
                clear hall
                cases fi with
                | true =>
                  go_wp2_with fail
                  go_roundg (F2 - 1)
                  case measure => omega
                  case rel => exact ⟨i + 1, bs', mo', by go_num, rfl, by omega, HU2.out, HROW2.out, HMK2.out, HCNT2.out, fun h y hy ha => by
                    rcases Nat.lt_succ_iff_lt_or_eq.1 hy with h1 | rfl
                    · exact HSET2.out h y h1 ha
                    · exact HBI.out⟩
                | false =>
                  go_wp2_with fail
                  go_roundg (F2 - 1)
                  case measure => omega
                  case rel => exact ⟨i + 1, bs'.set i true, true, by go_num, rfl, by omega, HU2.out.setCell (.inl rfl) _, HROW2.out.set i true, HMK2.out.set hin (HALLM.out.1 (by first | trivial | rfl)), by
                    have h1 := count_mark (by rw [HMK2.out.len]; exact hin) HBI.out
                    have h2 := HCNT2.out
                    simp only [if_true]
                    omega, fun h => (by cases h)⟩
              | false =>
                rw [hall] at HALLM
                clear hall
                go_wp2_with fail
                go_roundg (F2 - 1)
                case measure => omega
                case rel => exact ⟨i + 1, bs', mo', by go_num, rfl, by omega, HU2.out, HROW2.out, HMK2.out, HCNT2.out, fun h y hy ha => by
                    rcases Nat.lt_succ_iff_lt_or_eq.1 hy with h1 | rfl
                    · exact HSET2.out h y h1 ha
                    · have := HALLM.out.2 ha; cases this⟩
        · have hie : i = L.length := by omega
          have HSE := Lib.hid (show mo' = false → Settled L bs' L.length from fun h => by have h1 := hset h; rwa [hie] at h1)
          have hin2 : (L.length : Int) ≤ (i : Int) := by omega
          clear hU hrow hmk hset hcnt hnv hie hig
          go_wp2_with fail
          go_roundg (F - 1)
          case measure => have := HMU.out; simp at this; omega
          case rel => exact ⟨bs', mo', rfl, HU2.out, HROW2.out, HMK2.out, HSE.out, by have := HMU.out; have := HCNT2.out; simp at *; omega⟩
end Go.Ev

/- The document's own Size; what both give of a malformed tree; Equal of two that are nothing. -/
namespace Go.Ev
open Go.Proofs Go.RowKit Go.Lib
set_option maxRecDepth 100000

set_option maxHeartbeats 4000000 in
theorem rcyclic_bad (va : Value) (A : List Nd) (za : Int) (W : World) (ha : NodesV W va A) (hva : validB A za = false) :
    Calls Tryz.prog 26 #[.agg #[va, .int .i64 za]] W fun e w' => e = .returned (.tuple #[.bool false, .int .i64 2]) ∧ Kp W.heap.size W w' := by
  obtain ⟨w1, hw1⟩ : ∃ w1, w1 = W.alloc (Obj.cells #[va, Value.int IntKind.i64 za] 24) := ⟨_, rfl⟩
  have k1 : Kp W.heap.size W w1 := by rw [hw1]; exact (Kp.refl _ _).alloc (Nat.le_refl _) _
  have CL := rleast_bad va A za w1 (ha.kp k1) hva
  have K1 := Lib.hid k1
  clear k1 ha hva
  go_enter Tryz.func26, Tryz.ntmps26
  go_wp2_with fail
  rw [← hw1]
  clear hw1
  refine CL.mono ?_
  rintro e w2 ⟨rfl, k2⟩
  have K2 := Lib.hid ((K1.out.trans (k2.mono K1.out.size)).alloc (Nat.le_trans K1.out.size k2.size) (Obj.cells #[Value.slice none 0 0, Value.int IntKind.i64 0] 24))
  clear CL k2
  go_wp2_with fail
  go_ret2
  exact ⟨rfl, K2.out⟩

set_option maxHeartbeats 4000000 in
theorem rsize_bad (va : Value) (A : List Nd) (za : Int) (W : World) (ha : NodesV W va A) (hva : validB A za = false) :
    Calls Tryz.prog 24 #[.agg #[va, .int .i64 za]] W fun e w' => e = .returned (.tuple #[.int .i64 0, .int .i64 2]) ∧ Kp W.heap.size W w' := by
  obtain ⟨w1, hw1⟩ : ∃ w1, w1 = W.alloc (Obj.cells #[va, Value.int IntKind.i64 za] 24) := ⟨_, rfl⟩
  have k1 : Kp W.heap.size W w1 := by rw [hw1]; exact (Kp.refl _ _).alloc (Nat.le_refl _) _
  have CL := rleast_bad va A za w1 (ha.kp k1) hva
  have K1 := Lib.hid k1
  clear k1 ha hva
  go_enter Tryz.func24, Tryz.ntmps24
  go_wp2_with fail
  rw [← hw1]
  clear hw1
  refine CL.mono ?_
  rintro e w2 ⟨rfl, k2⟩
  have K2 := Lib.hid ((K1.out.trans (k2.mono K1.out.size)).alloc (Nat.le_trans K1.out.size k2.size) (Obj.cells #[Value.slice none 0 0, Value.int IntKind.i64 0] 24))
  clear CL k2
  go_wp2_with fail
  go_ret2
  exact ⟨rfl, K2.out⟩

set_option maxHeartbeats 4000000 in
theorem rsize_ok (va : Value) (A : List Nd) (za : Int) (W : World) (ha : NodesV W va A) (hva : validB A za = true) :
    Calls Tryz.prog 24 #[.agg #[va, .int .i64 za]] W fun e w' => ∃ L, e = .returned (.tuple #[.int .i64 (L.length : Int), .int .i64 0]) ∧ Canon L ∧ Bis L 0 A za.toNat ∧ Kp W.heap.size W w' := by
  obtain ⟨w1, hw1⟩ : ∃ w1, w1 = W.alloc (Obj.cells #[va, Value.int IntKind.i64 za] 24) := ⟨_, rfl⟩
  have k1 : Kp W.heap.size W w1 := by rw [hw1]; exact (Kp.refl _ _).alloc (Nat.le_refl _) _
  have CL := rleast_good va A za w1 (ha.kp k1) hva
  have K1 := Lib.hid k1
  clear k1 ha hva
  go_enter Tryz.func24, Tryz.ntmps24
  go_wp2_with fail
  rw [← hw1]
  clear hw1
  refine CL.mono ?_
  rintro e w2 ⟨L, v, rfl, hnv, hcan, hbis, hle, k2⟩
  obtain ⟨xb, xo, xc, rfl⟩ := hnv.shape hcan.some
  obtain ⟨m, hm⟩ : ∃ m, m = L.length := ⟨_, rfl⟩
  rw [← hm]
  have K2 := Lib.hid ((K1.out.trans (k2.mono K1.out.size)).alloc (Nat.le_trans K1.out.size k2.size) (Obj.cells #[Value.slice (some ⟨xb, xo, none⟩) m xc, Value.int IntKind.i64 0] 24))
  have H2 := Lib.hid (And.intro hcan hbis)
  have HM := Lib.hid hm
  clear CL k2 hnv hcan hbis hle hm
  go_wp2_with fail
  go_ret2
  exact ⟨L, by rw [← HM.out]; rfl, H2.out.1, H2.out.2, K2.out⟩

set_option maxHeartbeats 4000000 in
theorem equal_zero (W : World) : Calls Tryz.prog 27 #[.agg #[.slice none 0 0, .int .i64 0], .agg #[.slice none 0 0, .int .i64 0]] W fun e w' => e = .returned (.bool true) ∧ Kp W.heap.size W w' := by
  have K := Lib.hid (((Kp.refl W.heap.size W).alloc (Nat.le_refl _) (Obj.cells #[Value.slice none 0 0, Value.int IntKind.i64 0] 24)).alloc (by simp) (Obj.cells #[Value.slice none 0 0, Value.int IntKind.i64 0] 24))
  go_enter Tryz.func27, Tryz.ntmps27
  go_wp2_with fail
  refine wp_loop_rounds 1 ?_
  rw [rounds_succ]
  go_wp2_with fail
  go_ret
  exact ⟨rfl, K.out⟩
end Go.Ev

/- TreeLeast: the law. -/
namespace Go.Ev
open Go.Proofs Go.RowKit Go.Lib
set_option maxRecDepth 100000

set_option maxHeartbeats 16000000 in
theorem treeLeast_gen (va : Value) (za q : Int) (ga : Bool) (W : World) (C : List Nd → Prop) (D : Bool → Prop) (R : World → Value → List Nd → Prop) (hq : q = 0 ∨ q = 2) (hC : ∀ L L', C L → C L' → L = L') (hD : ∀ b b', D b → D b' → b = b')
    (hR : ∀ w w' v L, R w v L → Kp w.heap.size w w' → R w' v L) (hS : ∀ w v L, R w v L → ∃ a n c, v = .slice a n c)
    (GA : ∀ w, L1 W va za w → Calls Tryz.prog 20 #[.agg #[va, .int .i64 za]] w fun e w' => e = .returned (.bool ga) ∧ Kp w.heap.size w w')
    (H21 : ∀ w, L1 W va za w → Calls Tryz.prog 21 #[.agg #[va, .int .i64 za]] w fun e w' => ∃ L v, e = .returned (.tuple #[.agg #[v, .int .i64 0], .int .i64 q]) ∧ C L ∧ R w' v L ∧ Kp w.heap.size w w')
    (H22 : ∀ w, L1 W va za w → Calls Tryz.prog 22 #[.agg #[va, .int .i64 za]] w fun e w' => ∃ L v, e = .returned (.tuple #[.agg #[v, .int .i64 0], .int .i64 q]) ∧ C L ∧ R w' v L ∧ Kp w.heap.size w w')
    (H23 : ∀ w, L1 W va za w → Calls Tryz.prog 23 #[.agg #[va, .int .i64 za]] w fun e w' => ∃ L, e = .returned (.tuple #[.int .i64 (L.length : Int), .int .i64 q]) ∧ C L ∧ Kp w.heap.size w w')
    (H24 : ∀ w, L1 W va za w → Calls Tryz.prog 24 #[.agg #[va, .int .i64 za]] w fun e w' => ∃ L, e = .returned (.tuple #[.int .i64 (L.length : Int), .int .i64 q]) ∧ C L ∧ Kp w.heap.size w w')
    (H25 : ∀ w, L1 W va za w → Calls Tryz.prog 25 #[.agg #[va, .int .i64 za]] w fun e w' => ∃ b, e = .returned (.tuple #[.bool b, .int .i64 q]) ∧ D b ∧ Kp w.heap.size w w')
    (H26 : ∀ w, L1 W va za w → Calls Tryz.prog 26 #[.agg #[va, .int .i64 za]] w fun e w' => ∃ b, e = .returned (.tuple #[.bool b, .int .i64 q]) ∧ D b ∧ Kp w.heap.size w w')
    (H27 : ∀ w L v v', C L → R w v L → R w v' L → Calls Tryz.prog 27 #[.agg #[v, .int .i64 0], .agg #[v', .int .i64 0]] w fun e w' => e = .returned (.bool true) ∧ Kp w.heap.size w w') :
    Calls Tryz.prog 4 #[.agg #[va, .int .i64 za]] W fun e w' => e = .returned (.bool true) ∧ Kp W.heap.size W w' := by
  have s0 : L1 W va za (W.alloc (Obj.cells #[va, Value.int IntKind.i64 za] 24)) := ⟨by go_simp, by go_simp, (Kp.refl _ _).alloc (Nat.le_refl _) _⟩
  obtain ⟨W2, hW2⟩ : ∃ W2, W2 = W.alloc (Obj.cells #[va, Value.int IntKind.i64 za] 24) := ⟨_, rfl⟩
  rw [← hW2] at s0
  have HCU := Lib.hid hC
  have HDU := Lib.hid hD
  have HRR := Lib.hid hR
  have HSS := Lib.hid hS
  have H1 := Lib.hid H21
  have H2 := Lib.hid H22
  have H3 := Lib.hid H23
  have H4 := Lib.hid H24
  have H5 := Lib.hid H25
  have H6 := Lib.hid H26
  have H7 := Lib.hid H27
  have HQ := Lib.hid hq
  clear hC hD hR hS H21 H22 H23 H24 H25 H26 H27 hq
  go_enter Tryz.func4, Tryz.ntmps4
  go_wp2_with fail
  rw [← hW2]
  clear hW2
  refine (GA _ s0).mono ?_
  rintro e w1 ⟨rfl, k1⟩
  have S1 := Lib.hid (s0.step k1)
  obtain ⟨a0, a1, -⟩ := s0.step k1
  clear s0 k1 GA
  cases ga
  · go_wp2_with fail
    refine (H1.out _ S1.out).mono ?_
    rintro e w2 ⟨L, v, rfl, hc, hr, k2⟩
    obtain ⟨xa, xn, xc, rfl⟩ := HSS.out _ _ _ hr
    have S2 := S1.out.step k2
    have a0 := S2.a0
    have a1 := S2.a1
    have hlt : W.heap.size < w2.heap.size := block_lt_of_cell a0
    obtain ⟨X, hX⟩ : ∃ X, X = w2.heap.size := ⟨_, rfl⟩
    obtain ⟨w3, hw3⟩ : ∃ w3, w3 = w2.alloc (Obj.cells #[.slice xa xn xc, Value.int IntKind.i64 0] 24) := ⟨_, rfl⟩
    have k23 : Kp w2.heap.size w2 w3 := by rw [hw3]; exact (Kp.refl _ _).alloc (Nat.le_refl _) _
    have S3 := Lib.hid (S2.step k23)
    have X3 := Lib.hid (show w3.cell? ⟨X, 0, none⟩ = some (.slice xa xn xc) ∧ w3.cell? ⟨X, 1, none⟩ = some (.int .i64 0) from by
      have hb := heap_top hw3 hX.symm
      exact ⟨by unfold World.cell?; rw [hb]; rfl, by unfold World.cell?; rw [hb]; rfl⟩)
    have R3 := Lib.hid (HRR.out _ _ _ _ hr k23)
    have HW3 := Lib.hid hw3
    have HX := Lib.hid hX
    have HC := Lib.hid hc
    clear k2 S2 k23 hw3 hX hr hc
    go_wp2_with fail
    rw [← HW3.out, ← HX.out]
    refine (H2.out _ S3.out).mono ?_
    rintro e w4 ⟨L', v', rfl, hc', hr', k4⟩
    have hLL := HCU.out L' L hc' HC.out
    rw [hLL] at hr'
    obtain ⟨ya, yn, yc, rfl⟩ := HSS.out _ _ _ hr'
    clear a0 a1 hlt
    have S4 := S3.out.step k4
    have a0 := S4.a0
    have a1 := S4.a1
    have x0 := k4.cells X3.out.1
    have x1 := k4.cells X3.out.2
    have hlt : W.heap.size < w4.heap.size := block_lt_of_cell a0
    have hltX : X < w4.heap.size := block_lt_of_cell x0
    obtain ⟨Y, hY⟩ : ∃ Y, Y = w4.heap.size := ⟨_, rfl⟩
    obtain ⟨w5, hw5⟩ : ∃ w5, w5 = w4.alloc (Obj.cells #[.slice ya yn yc, Value.int IntKind.i64 0] 24) := ⟨_, rfl⟩
    have k45 : Kp w4.heap.size w4 w5 := by rw [hw5]; exact (Kp.refl _ _).alloc (Nat.le_refl _) _
    have S5 := Lib.hid (S4.step k45)
    have X5 := Lib.hid (show (w5.cell? ⟨X, 0, none⟩ = some (.slice xa xn xc) ∧ w5.cell? ⟨X, 1, none⟩ = some (.int .i64 0)) ∧ w5.cell? ⟨Y, 0, none⟩ = some (.slice ya yn yc) ∧ w5.cell? ⟨Y, 1, none⟩ = some (.int .i64 0) ∧ R w5 (.slice xa xn xc) L ∧ R w5 (.slice ya yn yc) L from by
      have hb := heap_top hw5 hY.symm
      exact ⟨⟨k45.cells x0, k45.cells x1⟩, by unfold World.cell?; rw [hb]; rfl, by unfold World.cell?; rw [hb]; rfl, HRR.out _ _ _ _ (HRR.out _ _ _ _ R3.out k4) k45, HRR.out _ _ _ _ hr' k45⟩)
    have HW5 := Lib.hid hw5
    have HY := Lib.hid hY
    clear k4 S4 k45 hw5 hY hr' hc' hLL x0 x1
    go_wp2_with fail
    rw [← HW5.out, ← HY.out]
    refine (H3.out _ S5.out).mono ?_
    rintro e w6 ⟨L6, rfl, hc6, k6⟩
    have h6 := HCU.out L6 L hc6 HC.out
    rw [h6]
    obtain ⟨n, hn⟩ : ∃ n, n = L.length := ⟨_, rfl⟩
    rw [← hn]
    have HNN := Lib.hid hn
    clear a0 a1 hlt hltX hn h6 hc6
    have S6 := Lib.hid (S5.out.step k6)
    obtain ⟨a0, a1, -⟩ := S5.out.step k6
    have K6 := Lib.hid k6
    clear k6
    go_wp2_with fail
    refine (H4.out _ S6.out).mono ?_
    rintro e w7 ⟨L7, rfl, hc7, k7⟩
    have h7 := HCU.out L7 L hc7 HC.out
    rw [h7, ← HNN.out]
    clear a0 a1 h7 hc7
    have S7 := Lib.hid (S6.out.step k7)
    obtain ⟨a0, a1, -⟩ := S6.out.step k7
    have K7 := Lib.hid (K6.out.trans (k7.mono K6.out.size))
    clear k7
    go_wp2_with fail
    refine (H5.out _ S7.out).mono ?_
    rintro e w8 ⟨b, rfl, hb, k8⟩
    have HB := Lib.hid hb
    clear a0 a1 hb
    have S8 := Lib.hid (S7.out.step k8)
    obtain ⟨a0, a1, -⟩ := S7.out.step k8
    have K8 := Lib.hid (K7.out.trans (k8.mono K7.out.size))
    clear k8
    go_wp2_with fail
    refine (H6.out _ S8.out).mono ?_
    rintro e w9 ⟨b', rfl, hb', k9⟩
    have hbb := HDU.out b' b hb' HB.out
    rw [hbb]
    clear a0 a1 hb' hbb
    have S9 := Lib.hid (S8.out.step k9)
    have K9 := K8.out.trans (k9.mono K8.out.size)
    obtain ⟨⟨p0, p1⟩, p2, p3, p4, p5⟩ := X5.out
    have x0 := K9.cells p0
    have x1 := K9.cells p1
    have y0 := K9.cells p2
    have y1 := K9.cells p3
    have HE := Lib.hid (H7.out w9 L _ _ HC.out (HRR.out _ _ _ _ p4 K9) (HRR.out _ _ _ _ p5 K9))
    clear k9 K9 p0 p1 p2 p3 p4 p5
    go_wp2_with fail
    refine HE.out.mono ?_
    rintro e w10 ⟨rfl, k10⟩
    have S10 := Lib.hid (S9.out.step k10)
    clear k10 x0 x1 y0 y1
    cases b
    · rcases HQ.out with rfl | rfl
      all_goals
        go_wp2_with (go_at_call 19; refine (alive_kp _).mono ?_; rintro e w11 ⟨rfl, k11⟩; have S11 := Lib.hid (S10.out.step k11); clear k11)
        go_ret
        exact ⟨rfl, S11.out.kp⟩
    · rcases HQ.out with rfl | rfl
      all_goals
        go_wp2_with (go_at_call 19; refine (alive_kp _).mono ?_; rintro e w11 ⟨rfl, k11⟩; have S11 := Lib.hid (S10.out.step k11); clear k11)
        go_ret
        exact ⟨rfl, S11.out.kp⟩
  · go_wp2_with (go_at_call 19; refine (alive_kp _).mono ?_; rintro e w7 ⟨rfl, k7⟩; have S7 := Lib.hid (S1.out.step k7); clear k7)
    go_ret
    exact ⟨rfl, S7.out.kp⟩

theorem treeLeast_true (va : Value) (A : List Nd) (za : Int) (W : World) (ha : NodesV W va A) (hfit : ∀ n ∈ A, FitN n) :
    Calls Tryz.prog 4 #[.agg #[va, .int .i64 za]] W fun e w' => e = .returned (.bool true) ∧ Kp W.heap.size W w' := by
  cases hv : validB A za with
  | false =>
    refine treeLeast_gen va za 2 _ W (fun L => L = []) (fun b => b = false) (fun _ v L => v = .slice none 0 0 ∧ L = []) (.inr rfl) (fun L L' h h' => by rw [h, h']) (fun b b' h h' => by rw [h, h']) (fun w w' v L h _ => h) (fun w v L h => ⟨_, _, _, h.1⟩) (fun w h => great_ok va A za w (ha.kp h.kp)) (fun w h => ?_) (fun w h => ?_) (fun w h => ?_) (fun w h => ?_) (fun w h => ?_) (fun w h => ?_) (fun w L v v' _ h h' => ?_)
    · exact (tleast_bad va A za w (ha.kp h.kp) hv).mono fun e w' ⟨h1, h2⟩ => ⟨[], _, h1, rfl, ⟨rfl, rfl⟩, h2⟩
    · exact (rleast_bad va A za w (ha.kp h.kp) hv).mono fun e w' ⟨h1, h2⟩ => ⟨[], _, h1, rfl, ⟨rfl, rfl⟩, h2⟩
    · exact (tsize_bad va A za w (ha.kp h.kp) hv).mono fun e w' ⟨h1, h2⟩ => ⟨[], h1, rfl, h2⟩
    · exact (rsize_bad va A za w (ha.kp h.kp) hv).mono fun e w' ⟨h1, h2⟩ => ⟨[], h1, rfl, h2⟩
    · exact (tcyclic_bad va A za w (ha.kp h.kp) hv).mono fun e w' ⟨h1, h2⟩ => ⟨false, h1, rfl, h2⟩
    · exact (rcyclic_bad va A za w (ha.kp h.kp) hv).mono fun e w' ⟨h1, h2⟩ => ⟨false, h1, rfl, h2⟩
    · obtain ⟨rfl, -⟩ := h
      obtain ⟨rfl, -⟩ := h'
      exact equal_zero w
  | true =>
    have hA8 : A.length ≤ 8000 := by obtain ⟨_, _, _, h, _⟩ := valid_nodes hv; exact h
    refine treeLeast_gen va za 0 _ W (fun L => Canon L ∧ Bis L 0 A za.toNat) (fun b => b = true ↔ ¬ Ends A za.toNat) (fun w v L => NodesV w v L ∧ L.length ≤ 8000) (.inl rfl) (fun L L' h h' => Canon.unique h.1 h'.1 (h.2.trans h'.2.symm)) (fun b b' h h' => by rw [Bool.eq_iff_iff, h, h']) (fun w w' v L h k => ⟨h.1.kp k, h.2⟩) (fun w v L h => ?_) (fun w h => great_ok va A za w (ha.kp h.kp)) (fun w h => ?_) (fun w h => ?_) (fun w h => ?_) (fun w h => ?_) (fun w h => ?_) (fun w h => ?_) (fun w L v v' hc h h' => ?_)
    · obtain ⟨h, _⟩ := h
      cases h with
      | empty => exact ⟨_, _, _, rfl⟩
      | row => exact ⟨_, _, _, rfl⟩
    · exact (tleast_ok va A za w (ha.kp h.kp) hv hfit).mono fun e w' ⟨L, v, us, h1, h2, h3, h4, h5, h6⟩ => ⟨L, v, h1, ⟨h3, h4⟩, ⟨h2.nodes, by omega⟩, h6⟩
    · exact (rleast_good va A za w (ha.kp h.kp) hv).mono fun e w' ⟨L, v, h1, h2, h3, h4, h5, h6⟩ => ⟨L, v, h1, ⟨h3, h4⟩, ⟨h2, by omega⟩, h6⟩
    · exact (tsize_ok va A za w (ha.kp h.kp) hv hfit).mono fun e w' ⟨L, h1, h3, h4, h6⟩ => ⟨L, h1, ⟨h3, h4⟩, h6⟩
    · exact (rsize_ok va A za w (ha.kp h.kp) hv).mono fun e w' ⟨L, h1, h3, h4, h6⟩ => ⟨L, h1, ⟨h3, h4⟩, h6⟩
    · exact tcyclic_ok va A za w (ha.kp h.kp) hv
    · exact rcyclic_ok va A za w (ha.kp h.kp) hv
    · obtain ⟨xb, xo, xc, rfl⟩ := h.1.shape hc.1.some
      obtain ⟨yb, yo, yc, rfl⟩ := h'.1.shape hc.1.some
      have hle := h.2
      exact (rEqual_ok L L 0 0 w xb xo xc yb yo yc hc.1.closed (by omega) (by omega) h.1 h'.1).mono fun e w' ⟨r, h1, h2, h3⟩ => ⟨by rw [h1, h2.2 ⟨rfl, rfl⟩], h3⟩
end Go.Ev
