import Derived.Test.YtbjcopckkgdmgaaGreatDoorLi1
/- Linked numbers: add. -/
namespace Go.Ev
open Go.Proofs Go.RowKit Go.Lib
set_option maxRecDepth 100000

def AddPost (b n : Nat) (ρ : Nat → Nat) (r x y : Nat) (w : World) (e : Ending) (w' : World) : Prop :=
  ∃ ρ' r', e = .returned (.bool true) ∧ LRow w' b n ρ' r' ∧ r' + 1 = r ∧ (∀ u v, ρ' u = ρ' v → ρ u = ρ v ∨ (ρ u = ρ x ∧ ρ v = ρ y) ∨ (ρ u = ρ y ∧ ρ v = ρ x)) ∧ Chg b w w'

theorem LRow.rho {w : World} {b n : Nat} {ρ : Nat → Nat} {r : Nat} (h : LRow w b n ρ r) {u : Nat} (hu : u < n) : ρ u < n ∧ ρ (ρ u) = ρ u := by
  obtain ⟨ls, d, h1, h2, h3, h4⟩ := h
  subst h3
  exact ⟨(h2.top u hu).1, h2.rho_root hu⟩

theorem LRow.link {w : World} {b n : Nat} {ρ : Nat → Nat} {r x y : Nat} (h : LRow w b n ρ r) (hx : x < n) (hy : y < n) (hxr : ρ x = x) (hyr : ρ y = y) (hne : x ≠ y) :
    ∃ r', LRow (w.setCell ⟨b, x, none⟩ (.int .i64 y)) b n (fun z => if ρ z = x then y else ρ z) r' ∧ r' + 1 = r := by
  obtain ⟨ls, d, h1, h2, h3, h4⟩ := h
  subst h3
  have hpx : par ls x = x := by have := (h2.top x hx).2; rwa [hxr] at this
  exact ⟨_, ⟨_, _, h1.set x y, h2.link hx hy hxr hyr hne, by simp, rfl⟩, by rw [← h4]; exact roots_link hx hpx hne⟩

theorem LRow.cell {w : World} {b n : Nat} {ρ : Nat → Nat} {r x : Nat} (h : LRow w b n ρ r) (hx : x < n) : ∃ v, w.cell? ⟨b, x, none⟩ = some v ∧ w.frozen? ⟨b, x, none⟩ = false := by
  obtain ⟨ls, d, h1, h2, h3, h4⟩ := h
  exact ⟨_, h1.cell (by omega), h1.frozen x⟩

set_option maxHeartbeats 2000000 in
theorem add_same (b n c x y : Nat) (ρ : Nat → Nat) (r : Nat) (hx : x < n) (hy : y < n) (hn : n ≤ 16000) (hc : n ≤ c) (w : World) (h : LRow w b n ρ r) (he : ρ x = ρ y) :
    Calls Tryz.prog 65 #[.slice (some ⟨b, 0, none⟩) n c, .int .i64 x, .int .i64 y] w fun e w' => e = .returned (.bool false) ∧ LRow w' b n ρ r ∧ Chg b w w' := by
  have H := Lib.hid h
  have HE := Lib.hid he
  have C := fun (m : Nat) (hm : m < n) (w : World) (h : LRow w b n ρ r) => top_ok b n c m ρ r hm hn hc w h
  clear h he
  go_enter Tryz.func65, Tryz.ntmps65
  go_wp2_with fail
  refine (C x hx _ H.out).mono ?_
  rintro e w1 ⟨rfl, h1, k1⟩
  have H1 := Lib.hid h1
  have K1 := Lib.hid k1
  clear h1 k1
  go_wp2_with fail
  refine (C y hy _ H1.out).mono ?_
  rintro e w2 ⟨rfl, h2, k2⟩
  have H2 := Lib.hid h2
  have K2 := Lib.hid k2
  clear h2 k2
  rw [HE.out]
  go_wp2
  go_ret
  exact ⟨rfl, H2.out, K1.out.trans K2.out⟩

set_option maxHeartbeats 2000000 in
theorem add_new (b n c x y : Nat) (ρ : Nat → Nat) (r : Nat) (hx : x < n) (hy : y < n) (hn : n ≤ 16000) (hc : n ≤ c) (w : World) (h : LRow w b n ρ r) (hne : ρ x ≠ ρ y) :
    Calls Tryz.prog 65 #[.slice (some ⟨b, 0, none⟩) n c, .int .i64 x, .int .i64 y] w (AddPost b n ρ r x y w) := by
  have H := Lib.hid h
  have C := fun (m : Nat) (hm : m < n) (w : World) (h : LRow w b n ρ r) => top_ok b n c m ρ r hm hn hc w h
  obtain ⟨hx1, hx2⟩ := h.rho hx
  obtain ⟨hy1, hy2⟩ := h.rho hy
  have HX := Lib.hid hx2
  have HY := Lib.hid hy2
  have hNE : ((ρ x : Int) == (ρ y : Int)) = false := by simp; omega
  have HNE := Lib.hid hne
  have HB := Lib.hid (fun (u v : Nat) (h : (if ρ u = ρ x then ρ y else ρ u) = if ρ v = ρ x then ρ y else ρ v) => link_back h)
  clear h hx2 hy2 hne
  go_enter Tryz.func65, Tryz.ntmps65
  go_wp2_with fail
  refine (C x hx _ H.out).mono ?_
  rintro e w1 ⟨rfl, h1, k1⟩
  have H1 := Lib.hid h1
  have K1 := Lib.hid k1
  clear h1 k1
  go_wp2_with fail
  refine (C y hy _ H1.out).mono ?_
  rintro e w2 ⟨rfl, h2, k2⟩
  obtain ⟨v, hcv, hfv⟩ := h2.cell hx1
  obtain ⟨r', hl, hr'⟩ := h2.link hx1 hy1 HX.out HY.out HNE.out
  have H2 := Lib.hid hl
  have H3 := Lib.hid hr'
  have K2 := Lib.hid k2
  clear h2 k2 hl hr'
  generalize hpx : ρ x = px at *
  generalize hpy : ρ y = py at *
  have HPX := Lib.hid hpx
  have HPY := Lib.hid hpy
  clear hpx hpy
  go_wp2
  go_ret
  exact ⟨_, r', rfl, H2.out, H3.out, fun u v h => by rw [HPX.out, HPY.out]; exact HB.out u v h, (K1.out.trans K2.out).setCell _ _⟩
end Go.Ev
