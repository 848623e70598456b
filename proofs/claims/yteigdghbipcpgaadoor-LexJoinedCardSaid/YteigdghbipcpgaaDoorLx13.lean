/- The document's own answers: words, digits, what is between. -/
import Derived.Test.YteigdghbipcpgaaDoorLx12
namespace Go.Lx
open Go.Proofs Go.RowKit Go.Lib Go.Ev
set_option maxRecDepth 100000

inductive StrsV (w : World) : Value → List (List UInt8) → Prop where
  | row (b off c : Nat) (xs : List (List UInt8)) (hc : xs.length ≤ c) (hc2 : xs.length ≤ 9223372036854775807) (hcell : ∀ j x, xs[j]? = some x → w.cell? ⟨b, off + j, none⟩ = some (.string ⟨x.toArray⟩)) : StrsV w (.slice (some ⟨b, off, none⟩) xs.length c) xs

theorem any_snoc (xs : List (List UInt8)) (k : Nat) (h : k < xs.length) (l : List UInt8) : ((xs.take (k + 1)).any fun x => l == x) = (((xs.take k).any fun x => l == x) || l == xs[k]) := by
  rw [List.take_succ_eq_append_getElem h, List.any_append]
  simp
theorem any_at (xs : List (List UInt8)) (k : Nat) (h : k < xs.length) (l : List UInt8) (e : l = xs[k]) : (xs.any fun x => l == x) = true := by
  rw [List.any_eq_true]
  exact ⟨xs[k], List.getElem_mem h, by subst e; simp⟩

set_option maxHeartbeats 1000000 in
theorem in_ok (v : Value) (xs : List (List UInt8)) (s : ByteArray) (w : World) (h : StrsV w v xs) :
    Calls Tryd.prog 32 #[v, .string s] w fun e w' => e = .returned (.bool (xs.any fun x => s.data.toList == x)) ∧ w' = w := by
  cases h with
  | row b off c xs hc hc2 hcell =>
    have HC := Lib.hid hcell
    clear hcell
    obtain ⟨n, hn⟩ : ∃ n, n = xs.length := ⟨_, rfl⟩
    rw [← hn] at hc hc2 ⊢
    have HN := Lib.hid hn
    clear hn
    generalize hr : (xs.any fun x => s.data.toList == x) = r
    have HR := Lib.hid hr
    clear hr
    go_enter Tryd.func32, Tryd.ntmps32
    go_wp2
    go_loop [5] (fun i => ∃ k : Nat, k ≤ n ∧ i = .int .i64 k ∧ ((xs.take k).any fun x => s.data.toList == x) = false) (fun i => n - (RowKit.intOf i).toNat)
    case atStart => exact ⟨0, Nat.zero_le _, rfl, by simp⟩
    case round =>
      obtain ⟨k, hk, rfl, hl⟩ := hrel
      by_cases hlt : k < n
      · have hlx : k < xs.length := by rw [← HN.out]; exact hlt
        have HS := Lib.hid (any_snoc xs k hlx s.data.toList)
        have HL := Lib.hid hl
        have hg : w.cell? ⟨b, off + k, none⟩ = some (.string ⟨xs[k].toArray⟩) := HC.out k _ (List.getElem?_eq_getElem hlx)
        have hq : ((⟨xs[k].toArray⟩ : ByteArray).toList == s.toList) = (s.data.toList == xs[k]) := by
          rw [toList_data, toList_data]
          simp only
          rw [Bool.eq_iff_iff, beq_iff_eq, beq_iff_eq]; exact eq_comm
        generalize (⟨xs[k].toArray⟩ : ByteArray) = y at hg hq
        by_cases he : s.data.toList = xs[k]
        · have hq2 : (y.toList == s.toList) = true := by rw [hq, beq_iff_eq]; exact he
          have HE := Lib.hid (any_at xs k hlx s.data.toList he)
          clear hl hq he
          go_wp2
          go_ret
          refine ⟨?_, rfl⟩
          rw [← HR.out, HE.out]
          rfl
        · have hq2 : (y.toList == s.toList) = false := by rw [hq]; simpa using he
          have HE := Lib.hid he
          clear hl hq he
          go_wp2
          go_round
          case rel => exact ⟨k + 1, by omega, by go_num, by rw [HS.out, HL.out]; simpa using HE.out⟩
          case measure => simp [RowKit.intOf]; omega
      · have HL := Lib.hid hl
        clear hl
        go_wp2
        go_ret
        refine ⟨?_, rfl⟩
        have hl := HL.out
        rw [List.take_of_length_le (by rw [← HN.out]; omega)] at hl
        rw [← HR.out, hl]
        rfl

theorem strs_new (w : World) (zs : List (List UInt8)) (t : TypeId) (h : zs.length ≤ 100) : StrsV (w.alloc (.cells (zs.map fun z => Value.string ⟨z.toArray⟩).toArray t)) (.slice (some ⟨w.heap.size, 0, none⟩) zs.length zs.length) zs := by
  refine .row _ _ _ _ (Nat.le_refl _) (by omega) fun j x hj => ?_
  rw [World.cell?_alloc_new, Nat.zero_add]
  simp [hj]

theorem keywords_ok (w : World) : Calls Tryd.prog 33 #[] w fun e w' => ∃ v, e = .returned v ∧ StrsV w' v kws ∧ Kp w.heap.size w w' := by
  go_enter Tryd.func33, Tryd.ntmps33
  go_wp2
  go_ret
  exact ⟨_, rfl, strs_new w kws _ (by decide), (Kp.refl _ _).alloc (Nat.le_refl _) _⟩
theorem symbols_ok (w : World) : Calls Tryd.prog 50 #[] w fun e w' => ∃ v, e = .returned v ∧ StrsV w' v syms ∧ Kp w.heap.size w w' := by
  go_enter Tryd.func50, Tryd.ntmps50
  go_wp2
  go_ret
  exact ⟨_, rfl, strs_new w syms _ (by decide), (Kp.refl _ _).alloc (Nat.le_refl _) _⟩

theorem rkeyword_ok (s : ByteArray) (w : World) : Calls Tryd.prog 21 #[.string s] w fun e w' => e = .returned (.bool (kwB s.data.toList)) ∧ Kp w.heap.size w w' := by
  have C33 := keywords_ok w
  go_enter Tryd.func21, Tryd.ntmps21
  go_wp2_with (first
    | (go_at_call 33; refine C33.mono ?_; rintro e w1 ⟨v, rfl, hv, hk⟩; have HV := Lib.hid hv; have HK := Lib.hid hk; clear hv hk)
    | (go_at_call 32; refine (in_ok _ kws s _ HV.out).mono ?_; rintro e w2 ⟨rfl, rfl⟩))
  go_ret
  exact ⟨rfl, HK.out⟩

theorem rletter_ok (c : Int) (w : World) : Calls Tryd.prog 48 #[.int .u8 c] w fun e w' => e = .returned (.bool (ltrI c)) ∧ w' = w := by
  go_enter Tryd.func48, Tryd.ntmps48
  go_wp2
  all_goals go_ret
  all_goals refine ⟨?_, rfl⟩
  all_goals rw [show ltrI c = decide ((97 ≤ c ∧ c ≤ 122) ∨ (65 ≤ c ∧ c ≤ 90) ∨ (48 ≤ c ∧ c ≤ 57) ∨ c = 95) from rfl]
  all_goals simp
  all_goals try rw [Bool.eq_iff_iff]
  all_goals try simp
  all_goals omega

theorem all_step {p : UInt8 → Bool} {s : ByteArray} {k : Nat} (h : k < s.size) : (s.data.toList.take (k + 1)).all p = ((s.data.toList.take k).all p && p s[k]) := by
  rw [List.take_succ_eq_append_getElem (by simpa using h), List.all_append]
  have : s.data.toList[k]'(by simpa using h) = s[k] := rfl
  simp [this]
theorem all_not {p : UInt8 → Bool} {s : ByteArray} {k : Nat} (h : k < s.size) (hb : p s[k] = false) : s.data.toList.all p = false := by
  rw [List.all_eq_false]
  exact ⟨s[k], by show s.data[k] ∈ _; simp, by rw [hb]; simp⟩

def wrdB (s : ByteArray) : Bool := decide (1 ≤ s.size ∧ s.size ≤ 16) && s.data.toList.all letB

set_option maxHeartbeats 1000000 in
theorem word_ok (s : ByteArray) (hs : s.size ≤ 9223372036854775807) (w : World) : Calls Tryd.prog 63 #[.string s] w fun e w' => e = .returned (.bool (wrdB s)) ∧ w' = w := by
  go_enter Tryd.func63, Tryd.ntmps63
  go_wp2
  · go_ret
    refine ⟨?_, rfl⟩
    rw [show wrdB s = false by unfold wrdB; rw [show decide (1 ≤ s.size ∧ s.size ≤ 16) = false by simp; omega]; simp]
    rfl
  · rename_i h1 h2 _ _
    have hx1 : decide ((s.size : Int) < 1) = false := by simp; omega
    have hx2 : decide (16 < (s.size : Int)) = false := by simp; omega
    simp only [hx1, hx2, Bool.or_false]
    clear hx1 hx2
    go_loop [3] (fun i => ∃ k : Nat, k ≤ s.size ∧ i = .int .i64 k ∧ (s.data.toList.take k).all letB = true) (fun i => s.size - (RowKit.intOf i).toNat)
    case atStart => exact ⟨0, Nat.zero_le _, rfl, rfl⟩
    case round =>
      obtain ⟨k, hk, rfl, hl⟩ := hrel
      by_cases hlt : k < s.size
      · have HS := Lib.hid (all_step (p := letB) hlt)
        have HL := Lib.hid hl
        clear hl
        go_wp2_with (first
          | (go_at_call 48; refine (rletter_ok _ _).mono ?_; rintro e w' ⟨rfl, rfl⟩)
          | go_in)
        · go_ret
          refine ⟨?_, rfl⟩
          have hb : letB s[k] = false := by unfold letB; simp_all
          rw [show wrdB s = false by unfold wrdB; rw [all_not hlt hb]; simp]
          rfl
        · have hb : letB s[k] = true := by unfold letB; simp_all
          go_round
          case rel => exact ⟨k + 1, by omega, by go_num, by rw [HS.out, HL.out, hb]; rfl⟩
          case measure => simp [RowKit.intOf]; omega
      · have HL := Lib.hid hl
        clear hl
        go_wp2
        go_ret
        refine ⟨?_, rfl⟩
        have hl := HL.out
        rw [List.take_of_length_le (by simp; have h' : ¬ k < s.data.size := hlt; omega)] at hl
        rw [show wrdB s = true by unfold wrdB; rw [hl]; simp; omega]
        rfl
  · go_ret
    refine ⟨?_, rfl⟩
    rw [show wrdB s = false by unfold wrdB; rw [show decide (1 ≤ s.size ∧ s.size ≤ 16) = false by simp; omega]; simp]
    rfl

theorem wd_eq (k : Int) (s : ByteArray) : wdB k s.data.toList = (wrdB s && decide (headK s.data.toList = k)) := by
  unfold wdB wrdB
  rw [← Lib.size_eq s]
  cases decide (1 ≤ s.size ∧ s.size ≤ 16) <;> cases decide (headK s.data.toList = k) <;> cases s.data.toList.all letB <;> rfl
theorem kindI_small (c : Int) : kindI c = 3 ↔ 97 ≤ c ∧ c ≤ 122 := by unfold kindI; split <;> (try split) <;> (try split) <;> (try split) <;> (try split) <;> (try split) <;> (try split) <;> omega
theorem kindI_cap (c : Int) : kindI c = 4 ↔ 65 ≤ c ∧ c ≤ 90 := by unfold kindI; split <;> (try split) <;> (try split) <;> (try split) <;> (try split) <;> (try split) <;> (try split) <;> omega

set_option maxHeartbeats 1000000 in
theorem ratom_ok (s : ByteArray) (hs : s.size ≤ 9223372036854775807) (w : World) : Calls Tryd.prog 47 #[.string s] w fun e w' => e = .returned (.bool (atB s.data.toList)) ∧ w' = w := by
  rw [show atB s.data.toList = (s.toList == [124] || s.toList == [35] || (wrdB s && decide (headK s.data.toList = 3))) by unfold atB; rw [wd_eq, toList_data]]
  go_enter Tryd.func47, Tryd.ntmps47
  by_cases hw : wrdB s = true
  · have hsz : 1 ≤ s.size ∧ s.size ≤ 16 := by
      have h1 := hw
      unfold wrdB at h1
      simp at h1
      exact h1.1
    have h0 : 0 < s.size := by omega
    have hh : headK s.data.toList = kindI (s[0].toNat : Int) := by rw [head_cons h0]; rfl
    rw [hh]
    simp only [kindI_small]
    clear hh
    go_wp2_with (first
      | (go_at_call 63; refine (word_ok _ hs _).mono ?_; rintro e w' ⟨rfl, rfl⟩)
      | go_in)
    all_goals go_ret
    all_goals refine ⟨?_, rfl⟩
    all_goals simp_all
    all_goals omega
  · go_wp2_with (first
      | (go_at_call 63; refine (word_ok _ hs _).mono ?_; rintro e w' ⟨rfl, rfl⟩)
      | go_in)
    all_goals go_ret
    all_goals refine ⟨?_, rfl⟩
    all_goals simp_all

set_option maxHeartbeats 1000000 in
theorem rident_ok (s : ByteArray) (hs : s.size ≤ 9223372036854775807) (w : World) : Calls Tryd.prog 49 #[.string s] w fun e w' => e = .returned (.bool (wdB 4 s.data.toList)) ∧ w' = w := by
  rw [wd_eq]
  go_enter Tryd.func49, Tryd.ntmps49
  by_cases hw : wrdB s = true
  · have hsz : 1 ≤ s.size ∧ s.size ≤ 16 := by
      have h1 := hw
      unfold wrdB at h1
      simp at h1
      exact h1.1
    have h0 : 0 < s.size := by omega
    have hh : headK s.data.toList = kindI (s[0].toNat : Int) := by rw [head_cons h0]; rfl
    rw [hh]
    simp only [kindI_cap]
    clear hh
    go_wp2_with (first
      | (go_at_call 63; refine (word_ok _ hs _).mono ?_; rintro e w' ⟨rfl, rfl⟩)
      | go_in)
    all_goals go_ret
    all_goals refine ⟨?_, rfl⟩
    all_goals simp_all
    all_goals omega
  · go_wp2_with (first
      | (go_at_call 63; refine (word_ok _ hs _).mono ?_; rintro e w' ⟨rfl, rfl⟩)
      | go_in)
    all_goals go_ret
    all_goals refine ⟨?_, rfl⟩
    all_goals simp_all
end Go.Lx
