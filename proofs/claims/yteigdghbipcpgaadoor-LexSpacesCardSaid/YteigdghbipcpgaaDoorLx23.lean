/- LexKeywords, LexScans, LexMany. -/
import Derived.Test.YteigdghbipcpgaaDoorLx22
namespace Go.Lx
open Go.Proofs Go.RowKit Go.Lib Go.Ev
set_option maxRecDepth 100000

set_option maxHeartbeats 1000000 in
theorem lexKeywords_true (s : ByteArray) (w : World) (hg : Glb w) : Calls Tryd.prog 6 #[.string s] w fun e w' => e = .returned (.bool true) ∧ Kp w.heap.size w w' := by
  have HG := Lib.hid hg
  clear hg
  have C20 := fun w => keyword_ok s w
  have C21 := fun w => rkeyword_ok s w
  generalize kwB s.data.toList = b at *
  have hbb : (b == b) = true := by simp
  go_enter Tryd.func6, Tryd.ntmps6
  go_wp2_with (first
    | (go_at_call 20; refine (C20 _).mono ?_; rintro e w' ⟨rfl, rfl⟩)
    | (go_at_call 21; refine (C21 _).mono ?_; rintro e w1 ⟨rfl, hk⟩; have HK := Lib.hid hk; have HG1 := Lib.hid (HG.out.kp hk); clear hk)
    | (go_at_call 14; refine (alive_ok _ HG1.out).mono ?_; rintro e w2 ⟨rfl, hk⟩; have HK2 := Lib.hid hk; clear hk))
  go_ret
  exact ⟨rfl, kp_then HK.out HK2.out⟩

/-- What a scan has handed back, as three values. -/
theorem scanned_out {R : Res} {w w' : World} {e : Ending} (h : Scanned R w e w') : ∃ (v : Value) (ts : List Tok) (m q : Int), e = .returned (.tuple #[v, .int .i64 m, .int .i64 q]) ∧ ToksV w' v ts ∧ Kp w.heap.size w w' ∧
    (match R with
      | .ok ts' => ts = ts' ∧ m = 0 ∧ q = 0
      | .form k => ts = [] ∧ m = k ∧ q = 2
      | .long => ts = [] ∧ m = 0 ∧ q = 3) := by
  obtain ⟨hk, h⟩ := h
  cases R with
  | ok ts =>
    obtain ⟨v, he, ho⟩ := h
    exact ⟨v, ts, 0, 0, he, own_toks ho, hk, rfl, rfl, rfl⟩
  | form k => exact ⟨_, [], _, _, h, .empty _ _, hk, rfl, rfl, rfl⟩
  | long => exact ⟨_, [], _, _, h, .empty _ _, hk, rfl, rfl, rfl⟩
/-- What the two scans of one source hand back. -/
def outTs : Res → List Tok
  | .ok ts => ts
  | _ => []
def outM : Res → Int
  | .form k => k
  | _ => 0
def outE : Res → Int
  | .ok _ => 0
  | .form _ => 2
  | .long => 3
theorem scanned_vals {R : Res} {w w' : World} {e : Ending} (h : Scanned R w e w') : ∃ v, e = .returned (.tuple #[v, .int .i64 (outM R), .int .i64 (outE R)]) ∧ ToksV w' v (outTs R) ∧ Kp w.heap.size w w' := by
  obtain ⟨v, ts, m, q, h1, h2, h3, h4⟩ := scanned_out h
  cases R with
  | ok ts' => obtain ⟨rfl, rfl, rfl⟩ := h4; exact ⟨v, h1, h2, h3⟩
  | form k => obtain ⟨rfl, rfl, rfl⟩ := h4; exact ⟨v, h1, h2, h3⟩
  | long => obtain ⟨rfl, rfl, rfl⟩ := h4; exact ⟨v, h1, h2, h3⟩
theorem scanV (s : ByteArray) (hs : s.size ≤ 140737488355328) (w : World) (hg : Glb w) :
    Calls Tryd.prog 15 #[.string s] w fun e w' => ∃ v, e = .returned (.tuple #[v, .int .i64 (outM (scanL s.data.toList)), .int .i64 (outE (scanL s.data.toList))]) ∧ ToksV w' v (outTs (scanL s.data.toList)) ∧ Kp w.heap.size w w' :=
  (scan_ok s hs w hg).mono fun _ _ h => scanned_vals h
theorem rscanV (s : ByteArray) (hs : s.size ≤ 140737488355328) (w : World) :
    Calls Tryd.prog 16 #[.string s] w fun e w' => ∃ v, e = .returned (.tuple #[v, .int .i64 (outM (scanL s.data.toList)), .int .i64 (outE (scanL s.data.toList))]) ∧ ToksV w' v (outTs (scanL s.data.toList)) ∧ Kp w.heap.size w w' :=
  (rscan_ok s hs w).mono fun _ _ h => scanned_vals h

set_option maxHeartbeats 1000000 in
theorem lexScans_true (s : ByteArray) (hs : s.size ≤ 140737488355328) (w : World) (hg : Glb w) : Calls Tryd.prog 3 #[.string s] w fun e w' => e = .returned (.bool true) ∧ Kp w.heap.size w w' := by
  have HG := Lib.hid hg
  clear hg
  have C13 := fun w => great_ok s w
  have C15 := fun w hg => scanV s hs w hg
  have C16 := fun w => rscanV s hs w
  generalize decide (1000 < s.size ∧ s.size ≤ 4000) = g at *
  generalize scanL s.data.toList = R at *
  generalize outM R = m at *
  generalize outE R = q at *
  generalize outTs R = ts at *
  have hm : (m == m) = true := by simp
  have hq : (q == q) = true := by simp
  go_enter Tryd.func3, Tryd.ntmps3
  go_wp2_with (first
    | (go_at_call 13; refine (C13 _).mono ?_; rintro e w' ⟨rfl, rfl⟩)
    | (go_at_call 15; refine (C15 _ HG.out).mono ?_; rintro e w1 ⟨v1, rfl, hv, hk⟩; have HV1 := Lib.hid hv; have HK1 := Lib.hid hk; have HG1 := Lib.hid (HG.out.kp hk); clear hk hv)
    | (go_at_call 16; refine (C16 _).mono ?_; rintro e w2 ⟨v2, rfl, hv, hk⟩; have HV2 := Lib.hid hv; have HK2 := Lib.hid hk; have HG2 := Lib.hid (HG1.out.kp hk); clear hk hv)
    | (go_at_call 17; refine (tokens_ok _ _ ts ts true _ (HV1.out.kp HK2.out) HV2.out (Same.refl _ _)).mono ?_; rintro e w3 ⟨rfl, hk⟩; have HK3 := Lib.hid hk; have HG3 := Lib.hid (HG2.out.kp hk); clear hk)
    | (go_at_call 14; (first
        | (refine (alive_ok _ HG3.out).mono ?_; rintro e w4 ⟨rfl, hk⟩; have HK4 := Lib.hid hk; clear hk)
        | (refine (alive_ok _ HG.out).mono ?_; rintro e w4 ⟨rfl, hk⟩; have HK4 := Lib.hid hk; clear hk))))
  · go_ret
    exact ⟨rfl, HK4.out⟩
  · go_ret
    exact ⟨rfl, kp_then HK1.out (kp_then HK2.out (kp_then HK3.out HK4.out))⟩

theorem size_app (a b : ByteArray) : (a ++ b).size = a.size + b.size := ByteArray.size_append

set_option maxHeartbeats 1000000 in
theorem lexMany_true (s : ByteArray) (many : Int) (hm0 : 0 ≤ many) (hm1 : many ≤ 65535) (en : ByteArray) (hs : s.size ≤ 140737488355328) (hen : en.size ≤ 140737488355328) (w : World) (hg : Glb w) :
    Calls Tryd.prog 4 #[.string s, .int .u16 many, .string en] w fun e w' => e = .returned (.bool true) ∧ Kp w.heap.size w w' := by
  have HG := Lib.hid hg
  clear hg
  obtain ⟨M, rfl⟩ : ∃ M : Nat, many = M := ⟨many.toNat, by omega⟩
  go_enter Tryd.func4, Tryd.ntmps4
  by_cases h1 : 8 < s.size
  · have hx1 : decide (8 < (s.size : Int)) = true := by simp; omega
    go_wp2_with (go_at_call 14; refine (alive_ok _ HG.out).mono ?_; rintro e w4 ⟨rfl, hk⟩; have HK4 := Lib.hid hk; clear hk)
    go_ret
    exact ⟨rfl, HK4.out⟩
  by_cases h2 : 8 < en.size
  · have hx1 : decide (8 < (s.size : Int)) = false := by simp; omega
    have hx2 : decide (8 < (en.size : Int)) = true := by simp; omega
    go_wp2_with (go_at_call 14; refine (alive_ok _ HG.out).mono ?_; rintro e w4 ⟨rfl, hk⟩; have HK4 := Lib.hid hk; clear hk)
    go_ret
    exact ⟨rfl, HK4.out⟩
  have hx1 : decide (8 < (s.size : Int)) = false := by simp; omega
  have hx2 : decide (8 < (en.size : Int)) = false := by simp; omega
  go_wp2_with fail
  go_loopg [7, 8] M (fun gk v i wr => wr = w ∧ ∃ (t : ByteArray) (k : Nat), v = .string t ∧ i = .int .i64 k ∧ k + gk = M ∧ t.size ≤ 4008)
  case atStart => exact ⟨rfl, ⟨#[]⟩, 0, rfl, rfl, by omega, by decide⟩
  case round =>
    obtain ⟨rfl, t, k, rfl, rfl, hgk, ht⟩ := hrel
    by_cases hlt : k < M
    · have hx3 : decide ((k : Int) < (M : Int)) = true := by simp; omega
      by_cases h3 : t.size ≤ 4000
      · have hx4 : decide ((t.size : Int) ≤ 4000) = true := by simp; omega
        have hsz := size_app t s
        have HSZ := Lib.hid (show (t ++ s).size ≤ 4008 by omega)
        clear hsz
        go_wp2_with fail
        go_roundg (M - (k + 1))
        case measure => omega
        case rel => exact ⟨rfl, t ++ s, k + 1, rfl, by go_num, by omega, HSZ.out⟩
      · have hx4 : decide ((t.size : Int) ≤ 4000) = false := by simp; omega
        have hsz := size_app t en
        have hts : (t ++ en).size ≤ 140737488355328 := by omega
        have C15 := fun w hg => scanV (t ++ en) hts w hg
        have C16 := fun w => rscanV (t ++ en) hts w
        generalize scanL (t ++ en).data.toList = R at *
        generalize outM R = m at *
        generalize outE R = q at *
        generalize outTs R = ts at *
        have hm : (m == m) = true := by simp
        have hq : (q == q) = true := by simp
        clear hsz hts
        go_wp2_with (first
          | (go_at_call 15; refine (C15 _ HG.out).mono ?_; rintro e w1 ⟨v1, rfl, hv, hk⟩; have HV1 := Lib.hid hv; have HK1 := Lib.hid hk; have HG1 := Lib.hid (HG.out.kp hk); clear hk hv)
          | (go_at_call 16; refine (C16 _).mono ?_; rintro e w2 ⟨v2, rfl, hv, hk⟩; have HV2 := Lib.hid hv; have HK2 := Lib.hid hk; have HG2 := Lib.hid (HG1.out.kp hk); clear hk hv)
          | (go_at_call 17; refine (tokens_ok _ _ ts ts true _ (HV1.out.kp HK2.out) HV2.out (Same.refl _ _)).mono ?_; rintro e w3 ⟨rfl, hk⟩; have HK3 := Lib.hid hk; have HG3 := Lib.hid (HG2.out.kp hk); clear hk)
          | (go_at_call 14; refine (alive_ok _ HG3.out).mono ?_; rintro e w4 ⟨rfl, hk⟩; have HK4 := Lib.hid hk; clear hk))
        go_ret
        exact ⟨rfl, kp_then HK1.out (kp_then HK2.out (kp_then HK3.out HK4.out))⟩
    · have hx3 : decide ((k : Int) < (M : Int)) = false := by simp; omega
      have hsz := size_app t en
      have hts : (t ++ en).size ≤ 140737488355328 := by omega
      have C15 := fun w hg => scanV (t ++ en) hts w hg
      have C16 := fun w => rscanV (t ++ en) hts w
      generalize scanL (t ++ en).data.toList = R at *
      generalize outM R = m at *
      generalize outE R = q at *
      generalize outTs R = ts at *
      have hm : (m == m) = true := by simp
      have hq : (q == q) = true := by simp
      clear hsz hts
      go_wp2_with (first
        | (go_at_call 15; refine (C15 _ HG.out).mono ?_; rintro e w1 ⟨v1, rfl, hv, hk⟩; have HV1 := Lib.hid hv; have HK1 := Lib.hid hk; have HG1 := Lib.hid (HG.out.kp hk); clear hk hv)
        | (go_at_call 16; refine (C16 _).mono ?_; rintro e w2 ⟨v2, rfl, hv, hk⟩; have HV2 := Lib.hid hv; have HK2 := Lib.hid hk; have HG2 := Lib.hid (HG1.out.kp hk); clear hk hv)
        | (go_at_call 17; refine (tokens_ok _ _ ts ts true _ (HV1.out.kp HK2.out) HV2.out (Same.refl _ _)).mono ?_; rintro e w3 ⟨rfl, hk⟩; have HK3 := Lib.hid hk; have HG3 := Lib.hid (HG2.out.kp hk); clear hk)
        | (go_at_call 14; refine (alive_ok _ HG3.out).mono ?_; rintro e w4 ⟨rfl, hk⟩; have HK4 := Lib.hid hk; clear hk))
      go_ret
      exact ⟨rfl, kp_then HK1.out (kp_then HK2.out (kp_then HK3.out HK4.out))⟩
end Go.Lx
