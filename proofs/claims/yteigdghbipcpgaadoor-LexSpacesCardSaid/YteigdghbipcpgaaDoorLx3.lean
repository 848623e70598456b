/- The small functions of package lex. -/
import Derived.Test.YteigdghbipcpgaaDoorLx2
import Derived.Test.YteigdghbipcpgaaDoorSh
import Derived.Test.YteigdghbipcpgaaDoorMem
import Derived.WalkKit
import Derived.ProofKit
import Derived.RowKit3
import Derived.Lib.Hide
import Derived.Outline
import Derived.Deep.QuietTactic
import Derived.BigQuiet
namespace Go.Lx
open Go.Proofs Go.RowKit Go.Lib Go.Ev
set_option maxRecDepth 100000

theorem kindOf_ok (c : Int) (w : World) : Calls Tryd.prog 37 #[.int .u8 c] w fun e w' => e = .returned (.int .i64 (kindI c)) ∧ w' = w := by
  go_enter Tryd.func37, Tryd.ntmps37
  go_wp2
  all_goals go_ret
  all_goals refine ⟨?_, rfl⟩
  all_goals simp_all [kindI]
  all_goals omega

theorem keyword_ok (s : ByteArray) (w : World) : Calls Tryd.prog 20 #[.string s] w fun e w' => e = .returned (.bool (kwB s.data.toList)) ∧ w' = w := by
  go_enter Tryd.func20, Tryd.ntmps20
  go_wp2
  all_goals go_ret
  all_goals refine ⟨?_, rfl⟩
  all_goals simp_all [kwB, kws, toList_data]

theorem isSymbol_ok (s : ByteArray) (w : World) : Calls Tryd.prog 44 #[.string s] w fun e w' => e = .returned (.bool (symB s.data.toList)) ∧ w' = w := by
  go_enter Tryd.func44, Tryd.ntmps44
  go_wp2
  all_goals go_ret
  all_goals refine ⟨?_, rfl⟩
  all_goals simp_all [symB, syms, toList_data]

/-! ### Runs of bytes of some kinds -/
/-- The value is a slice of these integers. -/
inductive IntsV (w : World) : Value → List Int → Prop where
  | row (b off c : Nat) (xs : List Int) (hc : xs.length ≤ c) (hc2 : xs.length ≤ 9223372036854775807) (hcell : ∀ j x, xs[j]? = some x → w.cell? ⟨b, off + j, none⟩ = some (.int .i64 x)) : IntsV w (.slice (some ⟨b, off, none⟩) xs.length c) xs

theorem contains_snoc (xs : List Int) (k : Nat) (h : k < xs.length) (x : Int) : (xs.take (k + 1)).contains x = ((xs.take k).contains x || x == xs[k]) := by
  rw [List.take_succ_eq_append_getElem h, List.contains_append, Bool.eq_iff_iff]
  simp
theorem contains_at (xs : List Int) (k : Nat) (h : k < xs.length) (x : Int) (e : x = xs[k]) : xs.contains x = true := by
  subst e; simp

def Found (xs : List Int) (x : Int) (n : Int) : Prop := decide (0 ≤ n) = xs.contains x

set_option maxHeartbeats 1000000 in
theorem index_ok (v : Value) (xs : List Int) (x : Int) (w : World) (h : IntsV w v xs) :
    Calls Tryd.prog 67 #[v, .int .i64 x] w fun e w' => ∃ n : Int, e = .returned (.int .i64 n) ∧ Found xs x n ∧ w' = w := by
  cases h with
  | row b off c xs hc hc2 hcell =>
    have HC := Lib.hid hcell
    clear hcell
    obtain ⟨n, hn⟩ : ∃ n, n = xs.length := ⟨_, rfl⟩
    rw [← hn] at hc hc2 ⊢
    have HN := Lib.hid hn
    clear hn
    go_enter Tryd.func67, Tryd.ntmps67
    go_wp2
    go_loop [8] (fun i => ∃ k : Nat, k ≤ n ∧ i = .int .i64 k ∧ (xs.take k).contains x = false) (fun i => n - (RowKit.intOf i).toNat)
    case atStart => exact ⟨0, Nat.zero_le _, rfl, by simp⟩
    case round =>
      obtain ⟨k, hk, rfl, hl⟩ := hrel
      by_cases hlt : k < n
      · have hlx : k < xs.length := by rw [← HN.out]; exact hlt
        have HS := Lib.hid (contains_snoc xs k hlx x)
        have HL := Lib.hid hl
        have hg : w.cell? ⟨b, off + k, none⟩ = some (.int .i64 xs[k]) := HC.out k _ (List.getElem?_eq_getElem hlx)
        clear hl
        go_wp2
        · go_ret
          refine ⟨_, rfl, ?_, rfl⟩
          have he : x = xs[k] := by simp_all
          unfold Found
          rw [contains_at xs k hlx x he]
          simp
        · have he : ¬ x = xs[k] := by simp_all
          go_round
          case rel => exact ⟨k + 1, by omega, by go_num, by rw [HS.out, HL.out]; simp [he]⟩
          case measure => simp [RowKit.intOf]; omega
      · have HL := Lib.hid hl
        clear hl
        go_wp2
        go_ret
        refine ⟨_, rfl, ?_, rfl⟩
        have hl := HL.out
        rw [List.take_of_length_le (by rw [← HN.out]; omega)] at hl
        unfold Found
        rw [hl]
        simp

theorem contains_ok (v : Value) (xs : List Int) (x : Int) (w : World) (h : IntsV w v xs) :
    Calls Tryd.prog 57 #[v, .int .i64 x] w fun e w' => e = .returned (.bool (xs.contains x)) ∧ w' = w := by
  generalize hr : xs.contains x = r
  have HR := Lib.hid hr
  clear hr
  have C := index_ok v xs x w h
  clear h
  go_enter Tryd.func57, Tryd.ntmps57
  go_wp2_with (go_at_call 67; refine C.mono ?_; rintro e w' ⟨n, rfl, hf, rfl⟩; have HF := Lib.hid hf; clear hf)
  go_ret
  refine ⟨?_, rfl⟩
  have hf := HF.out
  unfold Found at hf
  rw [HR.out] at hf
  rw [← hf]
  rfl

/-- How far a run goes: byte by byte. -/
theorem run_step {p : UInt8 → Bool} {s : ByteArray} {k : Nat} (h : k < s.size) (hl : (s.data.toList.take k).all p = true) (hk : p s[k] = true) : (s.data.toList.take (k + 1)).all p = true := by
  rw [List.take_succ_eq_append_getElem (by simpa using h), List.all_append, hl]
  have : s.data.toList[k]'(by simpa using h) = s[k] := rfl
  simp [this, hk]
theorem run_stop {p : UInt8 → Bool} : ∀ {l : List UInt8} {k : Nat}, (l.take k).all p = true → (∀ h : k < l.length, p l[k] = false) → k ≤ l.length → (l.takeWhile p).length = k
  | [], k, _, _, h => by simp at h; subst h; rfl
  | c :: l, 0, _, hk, _ => by
    have := hk (by simp)
    rw [List.takeWhile_cons, show p c = false from this]; rfl
  | c :: l, k + 1, hl, hk, hle => by
    rw [List.take_succ_cons, List.all_cons, Bool.and_eq_true] at hl
    rw [List.takeWhile_cons, if_pos hl.1]
    have := run_stop (l := l) (k := k) hl.2 (fun h => hk (by simpa using h)) (by simpa using hle)
    simpa using this

set_option maxHeartbeats 1000000 in
theorem run_ok (s : ByteArray) (hs : s.size ≤ 9223372036854775807) (v : Value) (ks : List Int) (w : World) (h : IntsV w v ks) :
    Calls Tryd.prog 34 #[.string s, v] w fun e w' => e = .returned (.int .i64 (s.data.toList.takeWhile (inB ks)).length) ∧ w' = w := by
  have C := fun c => contains_ok v ks c w h
  clear h
  have key : ∀ k : Nat, (s.data.toList.take k).all (inB ks) = true → (∀ h : k < s.size, inB ks s[k] = false) → k ≤ s.size → (s.data.toList.takeWhile (inB ks)).length = k := fun k h1 h2 h3 =>
    run_stop h1 (fun h => h2 (by simpa using h)) (by simpa using h3)
  have KEY := Lib.hid key
  clear key
  go_enter Tryd.func34, Tryd.ntmps34
  go_wp2
  go_loop [8] (fun i => ∃ k : Nat, k ≤ s.size ∧ i = .int .i64 k ∧ (s.data.toList.take k).all (inB ks) = true) (fun i => s.size - (RowKit.intOf i).toNat)
  case atStart => exact ⟨0, Nat.zero_le _, rfl, by simp⟩
  case round =>
    obtain ⟨k, hk, rfl, hl⟩ := hrel
    have HL := Lib.hid hl
    clear hl
    by_cases hlt : k < s.size
    · generalize hb : inB ks s[k] = bb
      have hb' : ks.contains (kindI (s[k].toNat : Int)) = bb := hb
      have HB := Lib.hid hb
      have C1 := C (kindI (s[k].toNat : Int))
      rw [hb'] at C1
      clear hb hb'
      go_wp2_with (first
        | (go_at_call 37; refine (kindOf_ok _ _).mono ?_; rintro e w' ⟨rfl, rfl⟩)
        | (go_at_call 57; refine C1.mono ?_; rintro e w' ⟨rfl, rfl⟩)
        | go_in)
      · go_ret
        refine ⟨?_, rfl⟩
        have hb : bb = false := by simp_all
        rw [KEY.out k HL.out (fun _ => HB.out.trans hb) (by omega)]
        rfl
      · have hb : bb = true := by simp_all
        go_round
        case rel => exact ⟨k + 1, by omega, by go_num, run_step hlt HL.out (HB.out.trans hb)⟩
        case measure => simp [RowKit.intOf]; omega
    · go_wp2
      go_ret
      refine ⟨?_, rfl⟩
      have hk' : k = s.size := by omega
      rw [KEY.out k HL.out (fun h => absurd h hlt) hk, hk']
      rfl
end Go.Lx
