/- LexLongest. -/
import Derived.Test.YteigdghbipcpgaaDoorLx23
import Derived.Test.YteigdghbipcpgaaDoorLm3
namespace Go.Lx
open Go.Proofs Go.RowKit Go.Lib Go.Ev
set_option maxRecDepth 100000

theorem at0_get {s : ByteArray} {q : Nat} (h : q < s.size) : at0 s.data.toList q = s[q] := by
  unfold at0
  have h' : q < s.data.toList.length := by rw [← Lib.size_eq s]; exact h
  rw [List.getD_eq_getElem?_getD, List.getElem?_eq_getElem h']
  rfl

theorem ToksV.row3 {w : World} {v : Value} {ts : List Tok} (h : ToksV w v ts) {j : Nat} {t : Tok} (hj : ts[j]? = some t) : ∃ b off c, v = .slice (some ⟨b, off, none⟩) ts.length c ∧ ts.length ≤ c ∧
    w.cell? ⟨b, off + j * 3, none⟩ = some (.int .i64 t.kind) ∧ w.cell? ⟨b, off + j * 3 + 1, none⟩ = some (.string ⟨t.text.toArray⟩) ∧ w.cell? ⟨b, off + j * 3 + 2, none⟩ = some (.int .i64 t.pos) := by
  cases h with
  | empty base c => simp at hj
  | row b off c ts hc hc2 hcell => exact ⟨b, off, c, rfl, hc, hcell j t hj⟩
theorem next_text' (l : List UInt8) : (nextL l).1.text.length ≤ l.length := next_text l

theorem size_ok (s : ByteArray) (hs : s.size ≤ 9223372036854775800) (k : Int) (x : List UInt8) (hx : x.length ≤ 9223372036854775800) (p : Nat) (hp : p < s.size) (w : World) :
    Calls Tryd.prog 23 #[.string s, .agg #[.int .i64 k, .string ⟨x.toArray⟩, .int .i64 p]] w fun e w' => e = .returned (.int .i64 (sizeT s.data.toList p x)) ∧ Kp w.heap.size w w' := by
  unfold sizeT
  rw [at0_get hp]
  have hxl : (⟨x.toArray⟩ : ByteArray).size = x.length := by rw [Lib.size_eq]
  have hz : ((⟨x.toArray⟩ : ByteArray).size : Int) = (x.length : Int) := by rw [hxl]
  rw [← hxl] at hx ⊢
  clear hxl hz
  generalize (⟨x.toArray⟩ : ByteArray) = y at *
  by_cases h : s[p] = 39
  · have e1 : ((s[p].toNat : Int) == 39) = true := by rw [h]; rfl
    rw [if_pos h]
    clear h
    go_enter Tryd.func23, Tryd.ntmps23
    go_wp2_with fail
    go_ret
    exact ⟨rfl, (Kp.refl _ _).alloc (Nat.le_refl _) _⟩
  · have e1 : ((s[p].toNat : Int) == 39) = false := by rw [show (39 : Int) = ((39 : UInt8).toNat : Int) from rfl, byte_eq]; simpa using h
    rw [if_neg h]
    clear h
    go_enter Tryd.func23, Tryd.ntmps23
    go_wp2_with fail
    go_ret
    exact ⟨rfl, (Kp.refl _ _).alloc (Nat.le_refl _) _⟩

/-- What the law of P3.3 asks of a token. -/
def Longest (l : List UInt8) (t : Tok) : Prop := ∃ q : Nat, q < l.length ∧ t.pos = q ∧ t.text.length ≤ l.length ∧
  (q + sizeT l q t.text < l.length → t.kind ≠ 5 → at0 l q ≠ 39 → (t.kind = 1 ∧ digB (at0 l (q + sizeT l q t.text)) = false) ∨ (t.kind ≠ 1 ∧ letB (at0 l (q + sizeT l q t.text)) = false))
theorem longest_of {l : List UInt8} {ts : List Tok} (h : scanL l = .ok ts) : ∀ t ∈ ts, Longest l t := by
  obtain ⟨_, _, h⟩ := (scanL_ok l ts).1 h
  intro t ht
  obtain ⟨q, hq, rfl, hok⟩ := h.mem t ht
  exact ⟨q, hq, rfl, Nat.le_trans (next_text' _) (by simp), fun h1 h2 h3 => next_longest hq hok h2 h3 h1⟩

set_option maxHeartbeats 4000000 in
theorem lexLongest_true (s : ByteArray) (hs : s.size ≤ 140737488355328) (w : World) (hg : Glb w) : Calls Tryd.prog 10 #[.string s] w fun e w' => e = .returned (.bool true) ∧ Kp w.heap.size w w' := by
  have HG := Lib.hid hg
  clear hg
  go_enter Tryd.func10, Tryd.ntmps10
  by_cases h1 : 1000 < s.size
  · have hx1 : decide (1000 < (s.size : Int)) = true := by simp; omega
    go_wp2_with (go_at_call 14; refine (alive_ok _ HG.out).mono ?_; rintro e w4 ⟨rfl, hk⟩; have HK4 := Lib.hid hk; clear hk)
    go_ret
    exact ⟨rfl, HK4.out⟩
  have hx1 : decide (1000 < (s.size : Int)) = false := by simp; omega
  have C15 := fun w hg => scanV s hs w hg
  cases hR : scanL s.data.toList with
  | form k =>
    rw [hR] at C15
    simp only [outM, outE, outTs] at C15
    clear hR
    go_wp2_with (first
      | (go_at_call 15; refine (C15 _ HG.out).mono ?_; rintro e w1 ⟨v1, rfl, hv, hk⟩; have HK1 := Lib.hid hk; have HG1 := Lib.hid (HG.out.kp hk); clear hk hv)
      | (go_at_call 14; refine (alive_ok _ HG1.out).mono ?_; rintro e w4 ⟨rfl, hk⟩; have HK4 := Lib.hid hk; clear hk))
    go_ret
    exact ⟨rfl, kp_then HK1.out HK4.out⟩
  | long =>
    rw [hR] at C15
    simp only [outM, outE, outTs] at C15
    clear hR
    go_wp2_with (first
      | (go_at_call 15; refine (C15 _ HG.out).mono ?_; rintro e w1 ⟨v1, rfl, hv, hk⟩; have HK1 := Lib.hid hk; have HG1 := Lib.hid (HG.out.kp hk); clear hk hv)
      | (go_at_call 14; refine (alive_ok _ HG1.out).mono ?_; rintro e w4 ⟨rfl, hk⟩; have HK4 := Lib.hid hk; clear hk))
    go_ret
    exact ⟨rfl, kp_then HK1.out HK4.out⟩
  | ok ts =>
    rw [hR] at C15
    simp only [outM, outE, outTs] at C15
    have HL := Lib.hid (longest_of hR)
    have htl : ts.length ≤ 1200 := ((scanL_ok _ _).1 hR).2.1
    clear hR
    go_wp2_with (go_at_call 15; refine (C15 _ HG.out).mono ?_; rintro e w1 ⟨v1, rfl, hv, hk⟩; obtain ⟨base, c, rfl⟩ := hv.len; have HV1 := Lib.hid hv; have HK1 := Lib.hid hk; have HG1 := Lib.hid (HG.out.kp hk); clear hk hv)
    go_loopg [6] ts.length (fun gk v wr => Kp w1.heap.size w1 wr ∧ ∃ j : Nat, v = .int .i64 j ∧ j + gk = ts.length)
    case atStart => exact ⟨Kp.refl _ _, 0, rfl, by omega⟩
    case round =>
      obtain ⟨hkr, j, rfl, hgk⟩ := hrel
      have HKR := Lib.hid hkr
      clear hkr
      by_cases hlt : j < ts.length
      · obtain ⟨t, ht⟩ : ∃ t, ts[j]? = some t := ⟨_, List.getElem?_eq_getElem hlt⟩
        obtain ⟨b, off, cc, hve, hcap, hc0, hc1, hc2⟩ := HV1.out.row3 ht
        injection hve with e1 e2 e3
        subst e1 e3
        have hc0 := HKR.out.cells hc0
        have hc1 := HKR.out.cells hc1
        have hc2 := HKR.out.cells hc2
        obtain ⟨q, hq, hqp, htx, hlong⟩ := HL.out t (List.mem_of_getElem? ht)
        rw [← Lib.size_eq s] at hq htx hlong
        rw [hqp] at hc2
        obtain ⟨tk, tt, tp⟩ := t
        simp only [] at hc0 hc1 hc2 htx hlong
        have C23 := fun w => size_ok s (by omega) tk tt (by omega) q hq w
        have HLG := Lib.hid hlong
        clear hlong ht hqp e2
        have hx : decide ((j : Int) < (ts.length : Int)) = true := by simp; omega
        obtain ⟨sz, hsz⟩ : ∃ sz, sz = sizeT s.data.toList q tt := ⟨_, rfl⟩
        rw [← hsz] at C23
        have hszb : sz ≤ s.size + 2 := by rw [hsz]; unfold sizeT; split <;> omega
        have HSZ := Lib.hid hsz
        have hsum : IntKind.i64.wrap ((q : Int) + (sz : Int)) = (q : Int) + (sz : Int) := IntWalk.i64_in _ (by omega)
        clear hsz
        generalize (⟨tt.toArray⟩ : ByteArray) = y at *
        have hjl : (j : Int) < (ts.length : Int) := by omega
        go_wp2_with fail
        go_region_held3 (fun w' => w'.cell? ⟨b, off + j * 3, none⟩ = some (.int .i64 tk) ∧ w'.cell? ⟨b, off + j * 3 + 1, none⟩ = some (.string y) ∧ w'.cell? ⟨b, off + j * 3 + 2, none⟩ = some (.int .i64 q) ∧ Kp wr.heap.size wr w')
          (first
            | exact ⟨by go_simp, by go_simp, by go_simp, (Kp.refl _ _).drew⟩
            | assumption
            | (rename Kp _ _ _ => hk
               rename (_ ∧ _ ∧ _ ∧ Kp wr.heap.size wr _) => hS
               exact ⟨hk.cells hS.1, hk.cells hS.2.1, hk.cells hS.2.2.1, hS.2.2.2.trans (hk.mono hS.2.2.2.size)⟩))
          (first
            | (go_at_call 23; refine (C23 _).mono ?_; rintro e w' ⟨rfl, hk⟩))
        rename (_ ∧ _ ∧ _ ∧ Kp wr.heap.size wr _) => hS
        rename World => w5
        obtain ⟨d0, d1, d2, hK⟩ := hS
        have HK5 := Lib.hid (kp_then HKR.out hK)
        clear hK hsum
        by_cases hA : s.size ≤ q + sz
        · have hx5 : decide ((s.size : Int) ≤ (q : Int) + (sz : Int)) = true := by simp; omega
          go_wp2_with fail
          go_roundg (ts.length - (j + 1))
          case measure => omega
          case rel => exact ⟨HK5.out, j + 1, by go_num, by omega⟩
        have hx5 : decide ((s.size : Int) ≤ (q : Int) + (sz : Int)) = false := by simp; omega
        by_cases h5 : tk = 5
        · have hx6 : (tk == 5) = true := by simpa using h5
          go_wp2_with fail
          go_roundg (ts.length - (j + 1))
          case measure => omega
          case rel => exact ⟨HK5.out, j + 1, by go_num, by omega⟩
        have hx6 : (tk == 5) = false := by simpa using h5
        by_cases h39 : s[q] = 39
        · have hx7 : ((s[q].toNat : Int) == 39) = true := by rw [h39]; rfl
          go_wp2_with fail
          go_roundg (ts.length - (j + 1))
          case measure => omega
          case rel => exact ⟨HK5.out, j + 1, by go_num, by omega⟩
        have hx7 : ((s[q].toNat : Int) == 39) = false := by rw [show (39 : Int) = ((39 : UInt8).toNat : Int) from rfl, byte_eq]; simpa using h39
        have hE : q + sz < s.size := by omega
        have hlg := HLG.out (by rw [← HSZ.out]; exact hE) h5 (by rw [at0_get hq]; exact h39)
        rw [← HSZ.out, at0_get hE] at hlg
        have hE2 : (q : Int) + (sz : Int) < (s.size : Int) := by omega
        rcases hlg with ⟨hk1, hd⟩ | ⟨hk1, hl⟩
        · have hx8 : (tk == 1) = true := by simpa using hk1
          have hx9 : (tk != 1) = false := by simpa using hk1
          have hd' : ¬ (48 ≤ (s[q + sz].toNat : Int) ∧ (s[q + sz].toNat : Int) ≤ 57) := by
            intro h
            have : digB s[q + sz] = true := by unfold digB; simp; omega
            rw [this] at hd; cases hd
          clear hd hk1 h5 h39 hA h1
          by_cases hlo : 48 ≤ (s[q + sz].toNat : Int)
          · have y1 : decide (48 ≤ (s[q + sz].toNat : Int)) = true := by simpa using hlo
            have y2 : decide ((s[q + sz].toNat : Int) ≤ 57) = false := by simp; omega
            clear hd' hlo
            go_wp2_with fail
            all_goals go_roundg (ts.length - (j + 1))
            all_goals first
              | omega
              | exact ⟨HK5.out, j + 1, by go_num, by omega⟩
          · have y1 : decide (48 ≤ (s[q + sz].toNat : Int)) = false := by simpa using hlo
            clear hd' hlo
            go_wp2_with fail
            all_goals go_roundg (ts.length - (j + 1))
            all_goals first
              | omega
              | exact ⟨HK5.out, j + 1, by go_num, by omega⟩
        · have hx8 : (tk == 1) = false := by simpa using hk1
          have hx9 : (tk != 1) = true := by simpa using hk1
          have hl' : ¬ ((97 ≤ (s[q + sz].toNat : Int) ∧ (s[q + sz].toNat : Int) ≤ 122) ∨ (65 ≤ (s[q + sz].toNat : Int) ∧ (s[q + sz].toNat : Int) ≤ 90) ∨ (48 ≤ (s[q + sz].toNat : Int) ∧ (s[q + sz].toNat : Int) ≤ 57) ∨ (s[q + sz].toNat : Int) = 95) := by
            intro h
            have : letB s[q + sz] = true := by unfold letB ltrI; exact decide_eq_true h
            rw [this] at hl; cases hl
          clear hl hk1 h5 h39 hA h1
          have y7 : ((s[q + sz].toNat : Int) == 95) = false := by simp; omega
          have hcs : (s[q + sz].toNat : Int) < 48 ∨ (57 < (s[q + sz].toNat : Int) ∧ (s[q + sz].toNat : Int) < 65) ∨ (90 < (s[q + sz].toNat : Int) ∧ (s[q + sz].toNat : Int) < 97) ∨ 122 < (s[q + sz].toNat : Int) := by omega
          clear hl'
          rcases hcs with hc | hc | hc | hc
          · have y1 : decide (48 ≤ (s[q + sz].toNat : Int)) = false := by simp; omega
            have y2 : decide ((s[q + sz].toNat : Int) ≤ 57) = true := by simp; omega
            have y3 : decide (65 ≤ (s[q + sz].toNat : Int)) = false := by simp; omega
            have y4 : decide ((s[q + sz].toNat : Int) ≤ 90) = true := by simp; omega
            have y5 : decide (97 ≤ (s[q + sz].toNat : Int)) = false := by simp; omega
            have y6 : decide ((s[q + sz].toNat : Int) ≤ 122) = true := by simp; omega
            clear hc
            go_wp2_with fail
            all_goals go_roundg (ts.length - (j + 1))
            all_goals first
              | omega
              | exact ⟨HK5.out, j + 1, by go_num, by omega⟩
          · have y1 : decide (48 ≤ (s[q + sz].toNat : Int)) = true := by simp; omega
            have y2 : decide ((s[q + sz].toNat : Int) ≤ 57) = false := by simp; omega
            have y3 : decide (65 ≤ (s[q + sz].toNat : Int)) = false := by simp; omega
            have y4 : decide ((s[q + sz].toNat : Int) ≤ 90) = true := by simp; omega
            have y5 : decide (97 ≤ (s[q + sz].toNat : Int)) = false := by simp; omega
            have y6 : decide ((s[q + sz].toNat : Int) ≤ 122) = true := by simp; omega
            clear hc
            go_wp2_with fail
            all_goals go_roundg (ts.length - (j + 1))
            all_goals first
              | omega
              | exact ⟨HK5.out, j + 1, by go_num, by omega⟩
          · have y1 : decide (48 ≤ (s[q + sz].toNat : Int)) = true := by simp; omega
            have y2 : decide ((s[q + sz].toNat : Int) ≤ 57) = false := by simp; omega
            have y3 : decide (65 ≤ (s[q + sz].toNat : Int)) = true := by simp; omega
            have y4 : decide ((s[q + sz].toNat : Int) ≤ 90) = false := by simp; omega
            have y5 : decide (97 ≤ (s[q + sz].toNat : Int)) = false := by simp; omega
            have y6 : decide ((s[q + sz].toNat : Int) ≤ 122) = true := by simp; omega
            clear hc
            go_wp2_with fail
            all_goals go_roundg (ts.length - (j + 1))
            all_goals first
              | omega
              | exact ⟨HK5.out, j + 1, by go_num, by omega⟩
          · have y1 : decide (48 ≤ (s[q + sz].toNat : Int)) = true := by simp; omega
            have y2 : decide ((s[q + sz].toNat : Int) ≤ 57) = false := by simp; omega
            have y3 : decide (65 ≤ (s[q + sz].toNat : Int)) = true := by simp; omega
            have y4 : decide ((s[q + sz].toNat : Int) ≤ 90) = false := by simp; omega
            have y5 : decide (97 ≤ (s[q + sz].toNat : Int)) = true := by simp; omega
            have y6 : decide ((s[q + sz].toNat : Int) ≤ 122) = false := by simp; omega
            clear hc
            go_wp2_with fail
            all_goals go_roundg (ts.length - (j + 1))
            all_goals first
              | omega
              | exact ⟨HK5.out, j + 1, by go_num, by omega⟩
      · have hx : decide ((j : Int) < (ts.length : Int)) = false := by simp; omega
        have HG2 := Lib.hid (HG1.out.kp HKR.out)
        go_wp2_with (go_at_call 14; refine (alive_ok _ HG2.out).mono ?_; rintro e w4 ⟨rfl, hk⟩; have HK4 := Lib.hid hk; clear hk)
        go_ret
        exact ⟨rfl, kp_then HK1.out (kp_then HKR.out HK4.out)⟩
end Go.Lx
