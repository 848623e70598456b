/- LexJoined. -/
import Derived.Test.YteigdghbipcpgaaDoorLx27
import Derived.Test.YteigdghbipcpgaaDoorLm5
namespace Go.Lx
open Go.Proofs Go.RowKit Go.Lib Go.Ev
set_option maxRecDepth 100000

theorem run_append_none {P : Program} {w : World} (t ty e : TypeId) (i : TypeInfo) (ht : P.underlying t = some (.slice e)) (hi : P.info? e = some i) :
    (Builtin.append_ #[t, t] ty #[.slice none 0 0, .slice none 0 0]).run P w = .ok (.slice none 0 0) w := by
  simp [Builtin.append_, run_underlying ht, sizeOf, typeInfo, hi, Builtin.lenOf, Builtin.firstCells]

/-- append(nil, x...), x a slice of some call's own. -/
theorem wpList_append_all {P : Program} {w : World} {ops : Array Oper} {rest : List Oper} {o : Oper} {a : Act} {Q : Exit → Act → World → Prop} (hgd : o.guard = none) (s x : Operand) (t : TypeId)
    (ho : o.op = .call { callee := .builtin .append, args := #[s, x], argTypes := #[t, t] })
    (e : TypeId) (i : TypeInfo) (z : Value) (size bytes : Nat) (ht : P.underlying t = some (.slice e)) (hi : P.info? e = some i) (hz : i.zero = some z)
    (hsize : i.size = size) (hby : i.bytes = bytes) (hzs : z.cells.size = size) (hsz : 0 < size)
    (B : Nat) (v : Value) (n : Nat) (xs : List Value) (hs : a.eval s = .slice none 0 0) (hx : a.eval x = v) (hown : Own B size w v n xs) (h1 : ∀ u ∈ xs, u.oneCell' = true)
    (h63 : n ≤ maxLen) (hbytes : n * bytes ≤ 140737488355328)
    (h : ∀ v' w', Own w.heap.size size w' v' n xs → Kp w.heap.size w w' → wpList P ops Q rest (a.put o.dst v') w') : wpList P ops Q (o :: rest) a w := by
  have hnil : Own w.heap.size size w (.slice none 0 0) 0 [] := ⟨by simp, .inl ⟨rfl, rfl⟩⟩
  obtain ⟨hlen, hcase⟩ := hown
  rcases hcase with ⟨rfl, rfl⟩ | ⟨b, off, cap, cs, ty, rfl, hb, hh, hn, hm, hfit, hcell⟩
  · obtain rfl : xs = [] := List.length_eq_zero_iff.1 (by simpa using hlen)
    refine wpList_plain hgd fun K hK' => ?_
    have hrun := run_append_none (P := P) (w := w) t o.type e i ht hi
    unfold Oper.wp
    simp [execOp, ho, resolve, invoke, builtin, hs, hx, hrun, Result.andThen]
    exact hK' _ _ (h _ _ hnil (Kp.refl _ _))
  · refine wpList_append_mine hgd s x t ho w.heap.size e i z size bytes ht hi hz hsize hby hzs hsz _ 0 [] hs hnil ⟨b, off, none⟩ n cap xs hx hlen
      (fun j u hj => by rw [Go.WideShapes.add_plain, cell_of hh]; exact hcell j u hj) h1 (by omega) (by simpa using hbytes) (Nat.le_refl _) fun v' w' r1 r2 _ => ?_
    refine h v' w' ?_ (Kp.of_grown_mine (Kp.refl _ _) hnil r2 (Nat.le_refl _))
    simpa using r1
theorem toks_one : ∀ {ts : List Tok} {u : Value}, u ∈ toksCells ts → u.oneCell' = true := by
  intro ts u h
  obtain ⟨t, _, ht⟩ := List.mem_flatMap.1 h
  simp only [tokCells, List.mem_cons, List.not_mem_nil, or_false] at ht
  rcases ht with rfl | rfl | rfl <;> rfl
theorem toks_map_take (b : List Tok) (d : Nat) {j : Nat} {t : Tok} (h : b[j]? = some t) : (b.take (j + 1)).map (shiftT d) = (b.take j).map (shiftT d) ++ [shiftT d t] := by
  obtain ⟨hj, he⟩ := List.getElem?_eq_some_iff.1 h
  rw [List.take_succ_eq_append_getElem hj, List.map_append, he]
  rfl

set_option maxHeartbeats 4000000 in
theorem lexJoined_true (s t : ByteArray) (hs : s.size ≤ 140737488355328) (ht : t.size ≤ 140737488355328) (w : World) (hg : Glb w) : Calls Tryd.prog 12 #[.string s, .string t] w fun e w' => e = .returned (.bool true) ∧ Kp w.heap.size w w' := by
  have HG := Lib.hid hg
  clear hg
  have hls := Lib.size_eq s
  have hlt := Lib.size_eq t
  by_cases h1 : 400 < s.size
  · have hx1 : decide (400 < (s.size : Int)) = true := by simp; omega
    clear hls hlt
    go_enter Tryd.func12, Tryd.ntmps12
    go_wp2_with (go_at_call 14; refine (alive_ok _ (by first | exact HG.out | exact HG.out.kp (kp_drewN (Kp.refl _ _) _))).mono ?_; rintro e w4 ⟨rfl, hk⟩; have HK4 := Lib.hid hk; clear hk)
    go_ret
    exact ⟨rfl, HK4.out⟩
  have hx1 : decide (400 < (s.size : Int)) = false := by simp; omega
  by_cases h2 : 400 < t.size
  · have hx2 : decide (400 < (t.size : Int)) = true := by simp; omega
    clear hls hlt
    go_enter Tryd.func12, Tryd.ntmps12
    go_wp2_with (go_at_call 14; refine (alive_ok _ (by first | exact HG.out | exact HG.out.kp (kp_drewN (Kp.refl _ _) _))).mono ?_; rintro e w4 ⟨rfl, hk⟩; have HK4 := Lib.hid hk; clear hk)
    go_ret
    exact ⟨rfl, HK4.out⟩
  have hx2 : decide (400 < (t.size : Int)) = false := by simp; omega
  have hj := joined (s := s.data.toList) (t := t.data.toList) (by omega) (by omega)
  have hjl : (s ++ ⟨#[10]⟩ ++ t).data.toList = s.data.toList ++ 10 :: t.data.toList := by
    rw [ByteArray.data_append, ByteArray.data_append, Array.toList_append, Array.toList_append]; simp
  have hju : (s ++ ⟨#[10]⟩ ++ t).size ≤ 801 := by rw [Lib.size_eq, hjl, List.length_append, List.length_cons]; omega
  rw [← hjl, ← hls] at hj
  have CU := fun w hg => scanV (s ++ ⟨#[10]⟩ ++ t) (by omega) w hg
  rw [hj] at CU
  cases hR : scanL s.data.toList with
  | long => exact absurd hR (scan_not_long (by omega))
  | form k =>
    have CS := fun w hg => scanV s hs w hg
    have CT := fun w hg => scanV t ht w hg
    rw [hR] at CU CS
    simp only [outM, outE, outTs] at CU CS
    generalize outM (scanL t.data.toList) = m at *
    generalize outE (scanL t.data.toList) = q at *
    generalize outTs (scanL t.data.toList) = ts at *
    clear hls hlt hj hjl hju hR
    generalize hz : s ++ ⟨#[10]⟩ ++ t = z at *
    have hkk : ((k : Int) == (k : Int)) = true := by simp
    go_enter Tryd.func12, Tryd.ntmps12
    go_wp2_with (first
      | (go_at_call 15; (with_reducible refine (CS _ HG.out).mono ?_); rintro e w1 ⟨v1, rfl, hv, hk⟩; have HK1 := Lib.hid hk; have HG1 := Lib.hid (HG.out.kp hk); clear hk hv)
      | (go_at_call 15; (with_reducible refine (CT _ HG1.out).mono ?_); rintro e w2 ⟨v2, rfl, hv, hk⟩; have HK2 := Lib.hid hk; have HG2 := Lib.hid (HG1.out.kp hk); clear hk hv)
      | (go_at_call 15; (with_reducible refine (CU _ HG2.out).mono ?_); rintro e w3 ⟨v3, rfl, hv, hk⟩; have HK3 := Lib.hid hk; have HG3 := Lib.hid (HG2.out.kp hk); clear hk hv)
      | (go_at_call 14; refine (alive_ok _ HG3.out).mono ?_; rintro e w4 ⟨rfl, hk⟩; have HK4 := Lib.hid hk; clear hk))
    go_ret
    exact ⟨rfl, kp_then HK1.out (kp_then HK2.out (kp_then HK3.out HK4.out))⟩
  | ok a =>
    rw [hR] at CU
    simp only at CU
    have hax := longest_of hR
    have htn := ((scanL_ok _ _).1 hR).2.1
    cases hR2 : scanL t.data.toList with
    | long => exact absurd hR2 (scan_not_long (by omega))
    | form k =>
      have CS := fun w hg => scanV s hs w hg
      have CT := fun w hg => scanV t ht w hg
      rw [hR] at CS
      rw [hR2] at CT CU
      simp only [outM, outE, outTs] at CU CS CT
      have hk := scanL_form_le hR2
      have hkk : (((s.size + 1 + k : Nat) : Int) == (s.size : Int) + 1 + (k : Int)) = true := by simp
      have hw1 : IntKind.i64.wrap ((s.size : Int) + 1) = (s.size : Int) + 1 := IntWalk.i64_in _ (by omega)
      have hw2 : IntKind.i64.wrap ((s.size : Int) + 1 + (k : Int)) = (s.size : Int) + 1 + (k : Int) := IntWalk.i64_in _ (by omega)
      clear hls hlt hj hjl hju hR hR2 hax htn hk
      generalize hz : s ++ ⟨#[10]⟩ ++ t = z at *
      go_enter Tryd.func12, Tryd.ntmps12
      go_wp2_with (first
        | (go_at_call 15; (with_reducible refine (CS _ HG.out).mono ?_); rintro e w1 ⟨v1, rfl, hv, hk⟩; have HK1 := Lib.hid hk; have HG1 := Lib.hid (HG.out.kp hk); clear hk hv)
        | (go_at_call 15; (with_reducible refine (CT _ HG1.out).mono ?_); rintro e w2 ⟨v2, rfl, hv, hk⟩; have HK2 := Lib.hid hk; have HG2 := Lib.hid (HG1.out.kp hk); clear hk hv)
        | (go_at_call 15; (with_reducible refine (CU _ HG2.out).mono ?_); rintro e w3 ⟨v3, rfl, hv, hk⟩; have HK3 := Lib.hid hk; have HG3 := Lib.hid (HG2.out.kp hk); clear hk hv)
        | (go_at_call 14; refine (alive_ok _ HG3.out).mono ?_; rintro e w4 ⟨rfl, hk⟩; have HK4 := Lib.hid hk; clear hk))
      go_ret
      exact ⟨rfl, kp_then HK1.out (kp_then HK2.out (kp_then HK3.out HK4.out))⟩
    | ok b =>
      obtain ⟨i35, hi0, hz0, hz1, hz2⟩ := info_parts Tryd.info35
      have HZ := Lib.hid (And.intro hi0 (And.intro hz0 (And.intro hz1 hz2)))
      have CS := fun w hg => scan_ok s hs w hg
      have CT := fun w hg => scanV t ht w hg
      rw [hR] at CS
      rw [hR2] at CT CU
      unfold Scanned at CS
      simp only [outM, outE, outTs] at CU CS CT
      have HB := Lib.hid (longest_of hR2)
      have hbn := ((scanL_ok _ _).1 hR2).2.1
      clear hls hlt hj hjl hju hR hR2 hax hi0 hz0 hz1 hz2
      go_enter Tryd.func12, Tryd.ntmps12
      go_wp2_with (first
        | (go_at_call 15; (with_reducible refine (CS _ HG.out).mono ?_); rintro e w1 ⟨hk, v1, rfl, hv⟩; have HV1 := Lib.hid hv; have HK1 := Lib.hid hk; have HG1 := Lib.hid (HG.out.kp hk); clear hk hv)
        | (go_at_call 15; (with_reducible refine (CT _ HG1.out).mono ?_); rintro e w2 ⟨v2, rfl, hv, hk⟩; have HV2 := Lib.hid hv; have HK2 := Lib.hid hk; have HG2 := Lib.hid (HG1.out.kp hk); clear hk hv)
        | (go_at_call 15; (with_reducible refine (CU _ HG2.out).mono ?_); rintro e w3 ⟨v3, rfl, hv, hk⟩; have HV3 := Lib.hid hv; have HK3 := Lib.hid hk; have HG3 := Lib.hid (HG2.out.kp hk); have HV13 := Lib.hid (HV1.out.kp (kp_then HK2.out hk)); have HV23 := Lib.hid (HV2.out.kp hk); clear hk hv)
        | (at_builtin; obtain ⟨hi0, hz0, hz1', hz2⟩ := HZ.out; refine wpList_append_all rfl (.tmp 77) (.tmp 78) 24 rfl 35 i35 (.agg #[.int .i64 0, .string ⟨#[]⟩, .int .i64 0]) 3 32 Tryd.underlying24 hi0 hz0 hz1' hz2 rfl (by decide) w.heap.size v1 a.length (toksCells a) rfl rfl HV13.out (fun _ => toks_one) (by unfold maxLen; omega) (by omega) ?_; clear hi0 hz0 hz1' hz2; intro v8 w8 hown8 hk8; have H8 := Lib.hid hown8; have K8 := Lib.hid hk8; clear hown8 hk8))
      have HV28 := Lib.hid (HV23.out.kp K8.out)
      have HV38 := Lib.hid (HV3.out.kp K8.out)
      have HG8 := Lib.hid (HG3.out.kp K8.out)
      obtain ⟨bb, bc, rfl⟩ := HV2.out.len
      go_loopg [14, 15] b.length (fun gk v14 v15 wr => ∃ j : Nat, v15 = .int .i64 j ∧ j + gk = b.length ∧ Own w3.heap.size 3 wr v14 (a.length + j) (toksCells (a ++ (b.take j).map (shiftT (s.size + 1)))) ∧ Kp w3.heap.size w3 wr)
      case atStart => exact ⟨0, rfl, by omega, by simpa using H8.out, K8.out⟩
      case round =>
        obtain ⟨j, rfl, hgk, how, hkp⟩ := hrel
        have HOW := Lib.hid how
        have HKP := Lib.hid hkp
        obtain ⟨sa, sc, rfl, hsa⟩ := own_slice how
        clear how hkp hsa
        by_cases hlt2 : j < b.length
        · obtain ⟨u, hu⟩ : ∃ u, b[j]? = some u := ⟨_, List.getElem?_eq_getElem hlt2⟩
          have HTK := Lib.hid (toks_map_take b (s.size + 1) hu)
          obtain ⟨b0, off, cc, hve, hcap, hc0, hc1, hc2⟩ := HV23.out.row3 hu
          injection hve with e1 e2 e3
          subst e1 e3
          have hc0 := HKP.out.cells hc0
          have hc1 := HKP.out.cells hc1
          have hc2 := HKP.out.cells hc2
          obtain ⟨q, hq, hqp, htx, hlong⟩ := HB.out u (List.mem_of_getElem? hu)
          rw [hqp] at hc2
          rw [← Lib.size_eq t] at hq
          obtain ⟨tk, tt, tp⟩ := u
          simp only [] at hc0 hc1 hc2 htx hlong hqp
          subst hqp
          clear hlong hu e2
          have hx3 : decide ((j : Int) < (b.length : Int)) = true := by simp; omega
          have hw1 : IntKind.i64.wrap ((q : Int) + (s.size : Int)) = (q : Int) + (s.size : Int) := IntWalk.i64_in _ (by omega)
          have hw2 : IntKind.i64.wrap ((q : Int) + (s.size : Int) + 1) = (q : Int) + (s.size : Int) + 1 := IntWalk.i64_in _ (by omega)
          generalize hy : (⟨tt.toArray⟩ : ByteArray) = y at *
          have HY := Lib.hid hy
          clear hy
          have hjl : (j : Int) < (b.length : Int) := by omega
          have HAL := Lib.hid (show Kp wr.heap.size wr ((wr.alloc (.cells #[.int .i64 tk, .string y, .int .i64 ((q : Int) + (s.size : Int) + 1)] 35)).alloc (.cells #[.int .i64 tk, .string y, .int .i64 ((q : Int) + (s.size : Int) + 1)] 35)) from ((Kp.refl _ _).alloc (Nat.le_refl _) _).alloc (by simp) _)
          have hnw := news_alloc (wr.alloc (.cells #[.int .i64 tk, .string y, .int .i64 ((q : Int) + (s.size : Int) + 1)] 35)) [.int .i64 tk, .string y, .int .i64 ((q : Int) + (s.size : Int) + 1)] 35
          rw [show (wr.alloc (.cells #[.int .i64 tk, .string y, .int .i64 ((q : Int) + (s.size : Int) + 1)] 35)).heap.size = wr.heap.size + 1 by simp] at hnw
          have HNW := Lib.hid hnw
          clear hnw
          go_wp2_with (at_builtin; obtain ⟨hi0, hz0, hz1', hz2⟩ := HZ.out; refine wpList_append_mine rfl (.tmp 97) (.tmp 99) 24 rfl w3.heap.size 35 i35 (.agg #[.int .i64 0, .string ⟨#[]⟩, .int .i64 0]) 3 32 Tryd.underlying24 hi0 hz0 hz1' hz2 rfl (by decide) (.slice sa (a.length + j) sc) (a.length + j) (toksCells (a ++ (b.take j).map (shiftT (s.size + 1)))) rfl (HOW.out.kp HAL.out) ⟨wr.heap.size + 1, 0, none⟩ 1 1 [.int .i64 tk, .string y, .int .i64 ((q : Int) + (s.size : Int) + 1)] rfl rfl HNW.out (by simp [Value.oneCell']) (by unfold maxLen; omega) (by omega) (by have := HKP.out.size; have := HAL.out.size; omega) ?_; clear hi0 hz0 hz1' hz2; intro v' w8' hown8 hgr8 hblk8; have H8' := Lib.hid hown8; have K8' := Lib.hid (Kp.of_grown_mine (kp_then HKP.out HAL.out) (HOW.out.kp HAL.out) hgr8 (by have := HKP.out.size; have := HAL.out.size; omega)); clear hown8 hgr8 hblk8)
          have H9 := Lib.hid (show Own w3.heap.size 3 w8' v' (a.length + (j + 1)) (toksCells (a ++ (b.take (j + 1)).map (shiftT (s.size + 1)))) by
            rw [HTK.out, ← List.append_assoc, toksCells_snoc]
            have e : tokCells (shiftT (s.size + 1) ⟨tk, tt, (q : Int)⟩) = [.int .i64 tk, .string y, .int .i64 ((q : Int) + (s.size : Int) + 1)] := by
              unfold tokCells shiftT
              rw [HY.out]
              simp only [List.cons.injEq, Value.int.injEq, true_and, and_true]
              omega
            rw [e]
            exact H8'.out)
          go_roundg (b.length - (j + 1))
          case measure => omega
          case rel => exact ⟨j + 1, by go_num, by omega, H9.out, K8'.out⟩
        · have hjj : j = b.length := by omega
          subst hjj
          have hx3 : decide ((b.length : Int) < (b.length : Int)) = false := by simp
          have hown := HOW.out
          rw [List.take_length] at hown
          have hl : a.length + b.length = (a ++ b.map (shiftT (s.size + 1))).length := by simp
          rw [hl] at hown
          have HTV := Lib.hid (own_toks hown)
          have HKR := Lib.hid (HV3.out.kp HKP.out)
          have HGR := Lib.hid (HG3.out.kp HKP.out)
          rw [← hl] at HTV
          clear hown hl
          go_wp2_with (first
            | (go_at_call 17; refine (tokens_ok _ _ _ _ true _ HTV.out HKR.out (Same.refl _ _)).mono ?_; rintro e w5 ⟨rfl, hk⟩; have HK5 := Lib.hid hk; have HG5 := Lib.hid (HGR.out.kp hk); clear hk)
            | (go_at_call 14; refine (alive_ok _ HG5.out).mono ?_; rintro e w6 ⟨rfl, hk⟩; have HK6 := Lib.hid hk; clear hk))
          go_ret
          exact ⟨rfl, kp_then HK1.out (kp_then HK2.out (kp_then HK3.out (kp_then HKP.out (kp_then HK5.out HK6.out))))⟩
end Go.Lx
