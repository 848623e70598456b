import Derived.Test.YtbjcopckkgdmgaaGreatDoorSgA
import Derived.Test.YtbjcopckkgdmgaaGreatDoorOr2
import Derived.Test.YtbjcopckkgdmgaaGreatDoorVa7
/- Linked numbers: the walks. -/
namespace Go.Ev
open Go.Proofs Go.RowKit Go.Lib
set_option maxRecDepth 100000

/-- The numbers that are laid up to k, and zeros. -/
def upTo (n k : Nat) : List Int := (List.range n).map fun (i : Nat) => if i < k then (i : Int) else 0
theorem upTo_length (n k : Nat) : (upTo n k).length = n := by simp [upTo]
theorem upTo_set (n k : Nat) (h : k < n) : (upTo n k).set k k = upTo n (k + 1) := by
  apply List.ext_getElem?
  intro j
  rw [List.getElem?_set]
  unfold upTo
  by_cases hj : j < n
  · simp only [List.getElem?_map, List.getElem?_range hj, List.length_map, List.length_range, Option.map_some]
    split
    · rename_i e; subst e; simp
    · congr 1
      by_cases h1 : j < k
      · rw [if_pos h1, if_pos (by omega)]
      · rw [if_neg h1, if_neg (by omega)]
  · simp only [List.getElem?_map, List.getElem?_eq_none (show (List.range n).length ≤ j by simp; omega), List.length_map, List.length_range, Option.map_none]
    split
    · omega
    · rfl
theorem upTo_zero (n : Nat) : upTo n 0 = List.replicate n 0 := by
  apply List.ext_getElem?
  intro j
  unfold upTo
  by_cases hj : j < n
  · simp [hj]
  · simp [hj]
theorem Tryz.info3 : (Tryz.prog.info? 3).map (fun i => (i.zero, i.size, i.bytes)) = some (some (.int .i64 0), 1, 8) := by kernel_rfl
theorem upTo_all (n : Nat) : upTo n n = (List.range n).map fun (i : Nat) => (i : Int) := by
  unfold upTo
  refine List.map_congr_left fun i hi => ?_
  rw [if_pos (by simpa using hi)]

set_option maxHeartbeats 2000000 in
theorem newLinks_ok (n : Nat) (hn : n ≤ 16000) (w : World) :
    Calls Tryz.prog 64 #[.int .i64 n] w fun e w' => e = .returned (.slice (some ⟨w.heap.size, 0, none⟩) n n) ∧ RowI w' w.heap.size ((List.range n).map fun (i : Nat) => (i : Int)) ∧ Kp w.heap.size w w' := by
  have h0 : (0 : Int) ≤ n := Int.natCast_nonneg _
  have h1 : (n : Int) ≤ 16000 := by omega
  obtain ⟨i0, hi0, hz0, hz1, hz2⟩ := info_parts Tryz.info3
  have hz2' : i0.bytes * n ≤ 281474976710656 := by rw [hz2]; omega
  have H2 := Lib.hid hz2
  clear hz2
  go_enter Tryz.func64, Tryz.ntmps64
  go_wp2_with (refine wpList_make_full _ rfl _ _ 80 rfl w.heap.size 3 i0 _ 1 Tryz.underlying80 hi0 hz0 hz1 .i64 .i64 n n n rfl rfl rfl rfl hz2' (by unfold maxLen; omega) (Nat.le_refl _) ?_; intro w' hown hgr)
  have hrow := RowI.made hown
  rw [← upTo_zero] at hrow
  have hkp := (Kp.refl w.heap.size w).grownBy hgr (Nat.le_refl _) (fun k hk => by cases hk)
  have HK := Lib.hid hkp
  have HR := Lib.hid hrow
  clear hown hgr hkp hrow hz0 hz1 hi0 hz2'
  go_wp2
  go_loopw [9] (fun i wr => ∃ k : Nat, k ≤ n ∧ i = .int .i64 k ∧ RowI wr w.heap.size (upTo n k) ∧ Kp w.heap.size w wr) (fun i _ => n - (RowKit.intOf i).toNat)
  case atStart => exact ⟨0, Nat.zero_le _, rfl, HR.out, HK.out⟩
  case round =>
    obtain ⟨k, hk, rfl, hr, hkp⟩ := hrel
    by_cases hlt : k < n
    · have hc := hr.cell (i := k) (by rw [upTo_length]; exact hlt)
      have hf := hr.frozen k
      have HR2 := Lib.hid hr
      have HK2 := Lib.hid hkp
      clear hr hkp
      go_wp2
      go_roundw
      case rel => exact ⟨k + 1, by omega, by go_num, by rw [← upTo_set n k hlt]; exact HR2.out.set k _, HK2.out.setCell (Nat.le_refl _) _⟩
      case measure => simp [RowKit.intOf]; omega
    · have HR2 := Lib.hid hr
      have HK2 := Lib.hid hkp
      clear hr hkp
      obtain rfl : k = n := by omega
      go_wp2
      go_ret
      exact ⟨rfl, by rw [← upTo_all]; exact HR2.out, HK2.out⟩

/-- The block holds linked numbers, so many of them, with so many roots. -/
structure LRow (w : World) (b n : Nat) (ρ : Nat → Nat) (r : Nat) : Prop where
  all : ∃ ls d, RowI w b ls ∧ LInv ls ρ d ∧ ls.length = n ∧ roots ls = r

def TopPost (b n : Nat) (ρ : Nat → Nat) (r m : Nat) (w : World) (e : Ending) (w' : World) : Prop := e = .returned (.int .i64 (ρ m)) ∧ LRow w' b n ρ r ∧ Chg b w w'

set_option maxHeartbeats 2000000 in
theorem top_ok (b n c m : Nat) (ρ : Nat → Nat) (r : Nat) (hm : m < n) (_hn : n ≤ 16000) (_hc : n ≤ c) (w : World) (h : LRow w b n ρ r) :
    Calls Tryz.prog 96 #[.slice (some ⟨b, 0, none⟩) n c, .int .i64 m] w (TopPost b n ρ r m w) := by
  obtain ⟨ls, d, h1, h2, h3, h4⟩ := h
  have H1 := Lib.hid h1
  have H2 := Lib.hid h2
  have H3 := Lib.hid h3
  have H4 := Lib.hid h4
  clear h1 h2 h3 h4
  go_enter Tryz.func96, Tryz.ntmps96
  go_wp2
  go_loopw [1] (fun v wr => ∃ (k : Nat) (ls : List Int), k < n ∧ v = .int .i64 k ∧ ρ k = ρ m ∧ RowI wr b ls ∧ LInv ls ρ d ∧ ls.length = n ∧ roots ls = r ∧ Chg b w wr) (fun v _ => d (RowKit.intOf v).toNat)
  case atStart => exact ⟨m, ls, hm, rfl, rfl, H1.out, H2.out, H3.out, H4.out, Chg.refl _ _⟩
  case round =>
    obtain ⟨k, ls, hk, rfl, hρ, hr, hl, hn', hro, hch⟩ := hrel
    have hkl : k < ls.length := by omega
    have hpk := hl.par_lt hkl
    have hck := hr.cell hkl
    rw [hl.par_int hkl] at hck
    by_cases hp : par ls k = k
    · rw [hp] at hck
      have HV := Lib.hid (show ρ m = k by rw [← hρ]; exact hl.root k hkl hp)
      have HE := Lib.hid (show LRow wr b n ρ r from ⟨ls, d, hr, hl, hn', hro⟩)
      have HCH := Lib.hid hch
      clear hr hl hch hpk hkl hp hρ hn' hro
      go_wp2
      go_ret
      exact ⟨by rw [HV.out]; rfl, HE.out, HCH.out⟩
    · have hck2 := hr.cell hpk
      rw [hl.par_int hpk] at hck2
      have hqk := hl.par_lt hpk
      have hf := hr.frozen k
      have HA := Lib.hid (hl.halve hkl hp)
      have HB := Lib.hid (roots_halve hl hkl hp)
      have HC := Lib.hid (hl.up _ hpk)
      have HD := Lib.hid (hl.up _ hkl)
      have HE := Lib.hid (Nat.lt_of_le_of_lt (hl.dle hpk) (hl.down k hkl hp))
      have HR := Lib.hid hr
      have HCH := Lib.hid hch
      have HN := Lib.hid hn'
      have HRO := Lib.hid hro
      have HP := Lib.hid hρ
      have hpn : par ls k < n := by omega
      have hqn : par ls (par ls k) < n := by omega
      clear hr hl hch hkl hpk hqk hn' hro hρ
      generalize hpe : par ls k = p at *
      generalize hqe : par ls p = q at *
      go_wp2
      go_roundw
      case rel => exact ⟨q, ls.set k (q : Int), hqn, rfl, by rw [HC.out, HD.out, HP.out], HR.out.set k _, HA.out, by rw [List.length_set, HN.out], by rw [HB.out, HRO.out], HCH.out.setCell _ _⟩
      case measure => simp [RowKit.intOf]; exact HE.out
end Go.Ev

/- Linked numbers: add. -/
namespace Go.Ev
open Go.Proofs Go.RowKit Go.Lib
set_option maxRecDepth 100000

def AddPost (b n : Nat) (ρ : Nat → Nat) (r x y : Nat) (w : World) (e : Ending) (w' : World) : Prop :=
  ∃ ρ' r', e = .returned (.bool true) ∧ LRow w' b n ρ' r' ∧ r' + 1 = r ∧ (∀ u v, ρ' u = ρ' v → ρ u = ρ v ∨ (ρ u = ρ x ∧ ρ v = ρ y) ∨ (ρ u = ρ y ∧ ρ v = ρ x)) ∧ Chg b w w'

theorem LRow.rho {w : World} {b n : Nat} {ρ : Nat → Nat} {r : Nat} (h : LRow w b n ρ r) {u : Nat} (hu : u < n) : ρ u < n ∧ ρ (ρ u) = ρ u := by
  obtain ⟨ls, d, h1, h2, h3, h4⟩ := h
  subst h3
  exact ⟨(h2.top u hu).1, h2.rho_root hu⟩

theorem LRow.link {w : World} {b n : Nat} {ρ : Nat → Nat} {r x y : Nat} (h : LRow w b n ρ r) (hx : x < n) (hy : y < n) (hxr : ρ x = x) (hyr : ρ y = y) (hne : x ≠ y) :
    ∃ r', LRow (w.setCell ⟨b, x, none⟩ (.int .i64 y)) b n (fun z => if ρ z = x then y else ρ z) r' ∧ r' + 1 = r := by
  obtain ⟨ls, d, h1, h2, h3, h4⟩ := h
  subst h3
  have hpx : par ls x = x := by have := (h2.top x hx).2; rwa [hxr] at this
  exact ⟨_, ⟨_, _, h1.set x y, h2.link hx hy hxr hyr hne, by simp, rfl⟩, by rw [← h4]; exact roots_link hx hpx hne⟩

theorem LRow.cell {w : World} {b n : Nat} {ρ : Nat → Nat} {r x : Nat} (h : LRow w b n ρ r) (hx : x < n) : ∃ v, w.cell? ⟨b, x, none⟩ = some v ∧ w.frozen? ⟨b, x, none⟩ = false := by
  obtain ⟨ls, d, h1, h2, h3, h4⟩ := h
  exact ⟨_, h1.cell (by omega), h1.frozen x⟩

set_option maxHeartbeats 2000000 in
theorem add_same (b n c x y : Nat) (ρ : Nat → Nat) (r : Nat) (hx : x < n) (hy : y < n) (hn : n ≤ 16000) (hc : n ≤ c) (w : World) (h : LRow w b n ρ r) (he : ρ x = ρ y) :
    Calls Tryz.prog 65 #[.slice (some ⟨b, 0, none⟩) n c, .int .i64 x, .int .i64 y] w fun e w' => e = .returned (.bool false) ∧ LRow w' b n ρ r ∧ Chg b w w' := by
  have H := Lib.hid h
  have HE := Lib.hid he
  have C := fun (m : Nat) (hm : m < n) (w : World) (h : LRow w b n ρ r) => top_ok b n c m ρ r hm hn hc w h
  clear h he
  go_enter Tryz.func65, Tryz.ntmps65
  go_wp2_with fail
  refine (C x hx _ H.out).mono ?_
  rintro e w1 ⟨rfl, h1, k1⟩
  have H1 := Lib.hid h1
  have K1 := Lib.hid k1
  clear h1 k1
  go_wp2_with fail
  refine (C y hy _ H1.out).mono ?_
  rintro e w2 ⟨rfl, h2, k2⟩
  have H2 := Lib.hid h2
  have K2 := Lib.hid k2
  clear h2 k2
  rw [HE.out]
  go_wp2
  go_ret
  exact ⟨rfl, H2.out, K1.out.trans K2.out⟩

set_option maxHeartbeats 2000000 in
theorem add_new (b n c x y : Nat) (ρ : Nat → Nat) (r : Nat) (hx : x < n) (hy : y < n) (hn : n ≤ 16000) (hc : n ≤ c) (w : World) (h : LRow w b n ρ r) (hne : ρ x ≠ ρ y) :
    Calls Tryz.prog 65 #[.slice (some ⟨b, 0, none⟩) n c, .int .i64 x, .int .i64 y] w (AddPost b n ρ r x y w) := by
  have H := Lib.hid h
  have C := fun (m : Nat) (hm : m < n) (w : World) (h : LRow w b n ρ r) => top_ok b n c m ρ r hm hn hc w h
  obtain ⟨hx1, hx2⟩ := h.rho hx
  obtain ⟨hy1, hy2⟩ := h.rho hy
  have HX := Lib.hid hx2
  have HY := Lib.hid hy2
  have hNE : ((ρ x : Int) == (ρ y : Int)) = false := by simp; omega
  have HNE := Lib.hid hne
  have HB := Lib.hid (fun (u v : Nat) (h : (if ρ u = ρ x then ρ y else ρ u) = if ρ v = ρ x then ρ y else ρ v) => link_back h)
  clear h hx2 hy2 hne
  go_enter Tryz.func65, Tryz.ntmps65
  go_wp2_with fail
  refine (C x hx _ H.out).mono ?_
  rintro e w1 ⟨rfl, h1, k1⟩
  have H1 := Lib.hid h1
  have K1 := Lib.hid k1
  clear h1 k1
  go_wp2_with fail
  refine (C y hy _ H1.out).mono ?_
  rintro e w2 ⟨rfl, h2, k2⟩
  obtain ⟨v, hcv, hfv⟩ := h2.cell hx1
  obtain ⟨r', hl, hr'⟩ := h2.link hx1 hy1 HX.out HY.out HNE.out
  have H2 := Lib.hid hl
  have H3 := Lib.hid hr'
  have K2 := Lib.hid k2
  clear h2 k2 hl hr'
  generalize hpx : ρ x = px at *
  generalize hpy : ρ y = py at *
  have HPX := Lib.hid hpx
  have HPY := Lib.hid hpy
  clear hpx hpy
  go_wp2
  go_ret
  exact ⟨_, r', rfl, H2.out, H3.out, fun u v h => by rw [HPX.out, HPY.out]; exact HB.out u v h, (K1.out.trans K2.out).setCell _ _⟩
end Go.Ev
