/- Lists of tokens compared; the law's own small functions. -/
import Derived.Test.YteigdghbipcpgaaDoorLx20
import Derived.Test.YteigdghbipcpgaaDoorLm3
namespace Go.Lx
open Go.Proofs Go.RowKit Go.Lib Go.Ev
set_option maxRecDepth 100000

/-- The value is a slice of these tokens. -/
inductive ToksV (w : World) : Value → List Tok → Prop where
  | empty (base : Option Addr) (c : Nat) : ToksV w (.slice base 0 c) []
  | row (b off c : Nat) (ts : List Tok) (hc : ts.length ≤ c) (hc2 : ts.length ≤ 9223372036854775807)
      (hcell : ∀ j t, ts[j]? = some t → w.cell? ⟨b, off + j * 3, none⟩ = some (.int .i64 t.kind) ∧ w.cell? ⟨b, off + j * 3 + 1, none⟩ = some (.string ⟨t.text.toArray⟩) ∧ w.cell? ⟨b, off + j * 3 + 2, none⟩ = some (.int .i64 t.pos)) :
      ToksV w (.slice (some ⟨b, off, none⟩) ts.length c) ts

theorem toksCells_at : ∀ {ts : List Tok} {j i : Nat} {t : Tok}, ts[j]? = some t → i < 3 → (toksCells ts)[j * 3 + i]? = (tokCells t)[i]?
  | [], j, _, _, h, _ => by simp at h
  | x :: ts, 0, i, t, h, hi => by
    simp only [List.getElem?_cons_zero, Option.some.injEq] at h
    subst h
    simp only [toksCells, List.flatMap_cons, Nat.zero_mul, Nat.zero_add]
    rw [List.getElem?_append_left (by simpa [tokCells] using hi)]
  | x :: ts, j + 1, i, t, h, hi => by
    simp only [List.getElem?_cons_succ] at h
    have := toksCells_at h hi
    simp only [toksCells, List.flatMap_cons]
    rw [List.getElem?_append_right (by simp [tokCells]; omega), show (j + 1) * 3 + i - (tokCells x).length = j * 3 + i by simp [tokCells]; omega]
    exact this
theorem own_toks {B : Nat} {w : World} {v : Value} {ts : List Tok} (h : Own B 3 w v ts.length (toksCells ts)) : ToksV w v ts := by
  rcases h.2 with ⟨rfl, h0⟩ | ⟨b, off, cap, cs, t, rfl, hb, hh, hf, hm, hs, hx⟩
  · obtain rfl : ts = [] := List.length_eq_zero_iff.1 h0
    exact .empty _ _
  · refine .row b off cap ts hf (Nat.le_trans hf (Nat.le_trans hm (by unfold maxLen; omega))) fun j x hj => ?_
    have hc : ∀ i, i < 3 → w.cell? ⟨b, off + (j * 3 + i), none⟩ = (tokCells x)[i]? := fun i hi => by
      obtain ⟨z, hz⟩ : ∃ z, (tokCells x)[i]? = some z := ⟨_, List.getElem?_eq_getElem (by simpa [tokCells] using hi)⟩
      rw [cell_of hh, hz]
      exact hx (j * 3 + i) _ ((toksCells_at hj hi).trans hz)
    exact ⟨hc 0 (by omega), hc 1 (by omega), hc 2 (by omega)⟩
theorem ToksV.len {w : World} {v : Value} {ts : List Tok} (h : ToksV w v ts) : ∃ base c, v = .slice base ts.length c := by
  cases h with
  | empty base c => exact ⟨_, _, rfl⟩
  | row b off c => exact ⟨_, _, rfl⟩
theorem ToksV.kp {w w' : World} {v : Value} {ts : List Tok} (h : ToksV w v ts) (hk : Kp w.heap.size w w') : ToksV w' v ts := by
  cases h with
  | empty base c => exact .empty _ _
  | row b off c ts hc hc2 hcell =>
    exact .row b off c ts hc hc2 fun j t hj => by
      obtain ⟨h1, h2, h3⟩ := hcell j t hj
      exact ⟨hk.cells h1, hk.cells h2, hk.cells h3⟩

set_option maxHeartbeats 2000000 in
theorem tokens_row (ab ao ac bb bo bc n : Nat) (ts us : List Tok) (p : Bool) (w : World) (hn : ts.length = n) (hn2 : us.length = n) (h63 : n ≤ 9223372036854775807)
    (_hac : n ≤ ac) (_hbc : n ≤ bc)
    (ha : ∀ j t, ts[j]? = some t → w.cell? ⟨ab, ao + j * 3, none⟩ = some (.int .i64 t.kind) ∧ w.cell? ⟨ab, ao + j * 3 + 1, none⟩ = some (.string ⟨t.text.toArray⟩) ∧ w.cell? ⟨ab, ao + j * 3 + 2, none⟩ = some (.int .i64 t.pos))
    (hb : ∀ j t, us[j]? = some t → w.cell? ⟨bb, bo + j * 3, none⟩ = some (.int .i64 t.kind) ∧ w.cell? ⟨bb, bo + j * 3 + 1, none⟩ = some (.string ⟨t.text.toArray⟩) ∧ w.cell? ⟨bb, bo + j * 3 + 2, none⟩ = some (.int .i64 t.pos))
    (hs : Same p ts us) :
    Calls Tryd.prog 17 #[.slice (some ⟨ab, ao, none⟩) n ac, .slice (some ⟨bb, bo, none⟩) n bc, .bool p] w fun e w' => e = .returned (.bool true) ∧ ∃ k, w' = w.drewN k := by
  have HA := Lib.hid ha
  have HB := Lib.hid hb
  have HS := Lib.hid hs
  have HN := Lib.hid hn
  have HN2 := Lib.hid hn2
  clear ha hb hs hn hn2
  go_enter Tryd.func17, Tryd.ntmps17
  go_wp2_with fail
  go_loopg [7] n (fun gk v wr => (∃ q, wr = w.drewN q) ∧ ∃ j : Nat, v = .int .i64 j ∧ j + gk = n)
  case atStart => exact ⟨⟨0, rfl⟩, 0, rfl, by omega⟩
  case round =>
    obtain ⟨⟨q, rfl⟩, j, rfl, hgk⟩ := hrel
    by_cases hlt : j < n
    · obtain ⟨t, ht⟩ : ∃ t, ts[j]? = some t := ⟨_, List.getElem?_eq_getElem (by rw [HN.out]; exact hlt)⟩
      obtain ⟨u, hu⟩ : ∃ u, us[j]? = some u := ⟨_, List.getElem?_eq_getElem (by rw [HN2.out]; exact hlt)⟩
      obtain ⟨hk, hx, hp⟩ := HS.out.2 j t u ht hu
      obtain ⟨c0, c1, c2⟩ := HA.out j t ht
      obtain ⟨d0, d1, d2⟩ := HB.out j u hu
      rw [← hk] at d0
      rw [← hx] at d1
      obtain ⟨tk, tt, tp⟩ := t
      obtain ⟨uk, ut, up⟩ := u
      simp only [] at c0 c1 c2 d0 d1 d2 hk hx hp
      generalize (⟨tt.toArray⟩ : ByteArray) = y at *
      clear ht hu hk hx
      have hx1 : (j : Int) < (n : Int) := by omega
      cases p
      · clear hp
        go_wp2_with fail
        go_quiet (fail)
        go_wp2_with fail
        go_roundg (n - (j + 1))
        case measure => omega
        case rel => exact ⟨⟨_, rfl⟩, j + 1, by go_num, by omega⟩
      · have hp := hp rfl
        rw [← hp] at d2
        clear hp
        go_wp2_with fail
        go_quiet (fail)
        go_wp2_with fail
        go_roundg (n - (j + 1))
        case measure => omega
        case rel => exact ⟨⟨_, rfl⟩, j + 1, by go_num, by omega⟩
    · have hj : j = n := by omega
      have hx : decide ((j : Int) < (n : Int)) = false := by simp; omega
      clear hj
      go_wp2_with fail
      go_ret
      exact ⟨rfl, q, rfl⟩

theorem tokens_nil (a b : Option Addr) (ac bc : Nat) (p : Bool) (w : World) :
    Calls Tryd.prog 17 #[.slice a 0 ac, .slice b 0 bc, .bool p] w fun e w' => e = .returned (.bool true) ∧ ∃ k, w' = w.drewN k := by
  go_enter Tryd.func17, Tryd.ntmps17
  go_wp2_with fail
  go_loopg [7] 1 (fun gk v wr => wr = w ∧ v = .int .i64 0)
  case atStart => exact ⟨rfl, rfl⟩
  case round =>
    obtain ⟨rfl, rfl⟩ := hrel
    go_wp2_with fail
    go_ret
    exact ⟨rfl, 0, rfl⟩

theorem tokens_ok (a b : Value) (ts us : List Tok) (p : Bool) (w : World) (ha : ToksV w a ts) (hb : ToksV w b us) (hs : Same p ts us) :
    Calls Tryd.prog 17 #[a, b, .bool p] w fun e w' => e = .returned (.bool true) ∧ Kp w.heap.size w w' := by
  have key : Calls Tryd.prog 17 #[a, b, .bool p] w fun e w' => e = .returned (.bool true) ∧ ∃ k, w' = w.drewN k := by
    have hl := hs.1
    cases ha with
    | empty base c =>
      obtain ⟨b2, c2, rfl⟩ := hb.len
      rw [← hl]
      exact tokens_nil _ _ _ _ _ _
    | row ab ao ac ts hc hc2 hcell =>
      cases hb with
      | empty base c =>
        rw [hl]
        exact tokens_nil _ _ _ _ _ _
      | row bb bo bc us hd hd2 hdell =>
        rw [← hl] at hd hd2 ⊢
        exact tokens_row ab ao ac bb bo bc ts.length ts us p w rfl hl.symm hc2 hc hd hcell hdell hs
  exact key.mono fun e w' ⟨h1, k, h2⟩ => ⟨h1, by subst h2; exact kp_drewN (Kp.refl _ _) k⟩

theorem great_ok (s : ByteArray) (w : World) : Calls Tryd.prog 13 #[.string s] w fun e w' => e = .returned (.bool (decide (1000 < s.size ∧ s.size ≤ 4000))) ∧ w' = w := by
  go_enter Tryd.func13, Tryd.ntmps13
  go_wp2
  all_goals go_ret
  all_goals refine ⟨?_, rfl⟩
  all_goals simp_all
  all_goals try (rw [Bool.eq_iff_iff]; simp)
  all_goals omega
end Go.Lx
