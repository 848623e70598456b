import Derived.Test.YtbjcopckkgdmgaaGreatDoorOr1
/- Linked numbers: the mathematics. -/
namespace Go.Ev

def par (ls : List Int) (u : Nat) : Nat := (ls.getD u 0).toNat

/-- Each number leads to another one, or to itself; ρ: where it leads to at last. -/
structure LInv (ls : List Int) (ρ d : Nat → Nat) : Prop where
  lt : ∀ u, u < ls.length → 0 ≤ ls.getD u 0 ∧ ls.getD u 0 < ls.length
  up : ∀ u, u < ls.length → ρ (par ls u) = ρ u
  down : ∀ u, u < ls.length → par ls u ≠ u → d (par ls u) < d u
  root : ∀ u, u < ls.length → par ls u = u → ρ u = u
  top : ∀ u, u < ls.length → ρ u < ls.length ∧ par ls (ρ u) = ρ u

def roots (ls : List Int) : Nat := (List.range ls.length).countP fun u => par ls u == u

theorem LInv.par_lt {ls : List Int} {ρ d : Nat → Nat} (h : LInv ls ρ d) {u : Nat} (hu : u < ls.length) : par ls u < ls.length := by
  have := h.lt u hu
  unfold par
  omega
theorem LInv.par_int {ls : List Int} {ρ d : Nat → Nat} (h : LInv ls ρ d) {u : Nat} (hu : u < ls.length) : ls.getD u 0 = (par ls u : Int) := by
  have := h.lt u hu
  unfold par
  omega

theorem start_get (n u : Nat) (h : u < n) : ((List.range n).map fun (i : Nat) => (i : Int)).getD u 0 = u := by
  simp [List.getD, h]
theorem LInv.start (n : Nat) : LInv ((List.range n).map fun (i : Nat) => (i : Int)) id (fun _ => 0) := by
  have hl : ((List.range n).map fun (i : Nat) => (i : Int)).length = n := by simp
  have hp : ∀ u, u < n → par ((List.range n).map fun (i : Nat) => (i : Int)) u = u := fun u hu => by unfold par; rw [start_get n u hu]; rfl
  refine ⟨fun u hu => ?_, fun u hu => ?_, fun u hu hne => ?_, fun _ _ _ => rfl, fun u hu => ⟨hu, ?_⟩⟩
  · rw [hl] at *; rw [start_get n u hu]; omega
  · rw [hl] at hu; rw [hp u hu]
  · rw [hl] at hu; exact absurd (hp u hu) hne
  · rw [hl] at hu; exact hp u hu

theorem par_set {ls : List Int} {n u v : Nat} (hn : n < ls.length) : par (ls.set n (v : Int)) u = if u = n then v else par ls u := by
  unfold par
  by_cases h : u = n
  · subst h; rw [if_pos rfl]; simp [List.getD, hn]
  · rw [if_neg h]; simp [List.getD, List.getElem?_set_ne (Ne.symm h)]

theorem LInv.dle {ls : List Int} {ρ d : Nat → Nat} (h : LInv ls ρ d) {u : Nat} (hu : u < ls.length) : d (par ls u) ≤ d u := by
  by_cases e : par ls u = u
  · rw [e]; exact Nat.le_refl _
  · exact Nat.le_of_lt (h.down u hu e)

theorem getD_of_par {ls : List Int} {ρ d : Nat → Nat} (_h : LInv ls ρ d) (f : Nat → Nat) (hf : ∀ u, u < ls.length → f u < ls.length) {ls' : List Int} (hl : ls'.length = ls.length)
    (hp : ∀ u, u < ls.length → ls'.getD u 0 = (f u : Int)) : ∀ u, u < ls'.length → 0 ≤ ls'.getD u 0 ∧ ls'.getD u 0 < ls'.length := by
  intro u hu
  rw [hl] at hu ⊢
  rw [hp u hu]
  have := hf u hu
  omega

theorem set_getD {ls : List Int} {n u : Nat} {v : Int} (hn : n < ls.length) : (ls.set n v).getD u 0 = if u = n then v else ls.getD u 0 := by
  by_cases h : u = n
  · subst h; rw [if_pos rfl]; simp [List.getD, hn]
  · rw [if_neg h]; simp [List.getD, List.getElem?_set_ne (Ne.symm h)]

/-- A number leads to where that leads to, to which it led. -/
theorem LInv.halve {ls : List Int} {ρ d : Nat → Nat} (h : LInv ls ρ d) {n : Nat} (hn : n < ls.length) (hne : par ls n ≠ n) : LInv (ls.set n (par ls (par ls n) : Int)) ρ d := by
  have hpn := h.par_lt hn
  have hppn := h.par_lt hpn
  have hd : d (par ls (par ls n)) < d n := Nat.lt_of_le_of_lt (h.dle hpn) (h.down n hn hne)
  have hl : (ls.set n (par ls (par ls n) : Int)).length = ls.length := by simp
  refine ⟨fun u hu => ?_, fun u hu => ?_, fun u hu hu' => ?_, fun u hu hu' => ?_, fun u hu => ?_⟩ <;> rw [hl] at hu
  · rw [hl, set_getD hn]
    split
    · omega
    · exact h.lt u hu
  · rw [par_set hn]
    split
    · rename_i e; rw [h.up _ hpn, h.up _ hn, e]
    · exact h.up u hu
  · rw [par_set hn] at hu' ⊢
    split
    · rename_i e; rw [e]; exact hd
    · rename_i e; rw [if_neg e] at hu'; exact h.down u hu hu'
  · rw [par_set hn] at hu'
    split at hu'
    · rename_i e; rw [hu', e] at hd; exact absurd hd (Nat.lt_irrefl _)
    · exact h.root u hu hu'
  · obtain ⟨h1, h2⟩ := h.top u hu
    rw [hl]
    refine ⟨h1, ?_⟩
    rw [par_set hn, if_neg (fun e => hne (by rw [← e]; exact h2))]
    exact h2

theorem roots_halve {ls : List Int} {ρ d : Nat → Nat} (h : LInv ls ρ d) {n : Nat} (hn : n < ls.length) (hne : par ls n ≠ n) : roots (ls.set n (par ls (par ls n) : Int)) = roots ls := by
  have hpn := h.par_lt hn
  have hd : d (par ls (par ls n)) < d n := Nat.lt_of_le_of_lt (h.dle hpn) (h.down n hn hne)
  unfold roots
  rw [show (ls.set n (par ls (par ls n) : Int)).length = ls.length by simp]
  refine List.countP_congr fun u _ => ?_
  rw [par_set hn]
  split
  · rename_i e
    subst e
    have h1 : par ls (par ls u) ≠ u := fun e => by rw [e] at hd; exact absurd hd (Nat.lt_irrefl _)
    simp [h1, hne]
  · rfl

theorem LInv.rho_root {ls : List Int} {ρ d : Nat → Nat} (h : LInv ls ρ d) {u : Nat} (hu : u < ls.length) : ρ (ρ u) = ρ u := h.root _ (h.top u hu).1 (h.top u hu).2

/-- Two sets are made one. -/
theorem LInv.link {ls : List Int} {ρ d : Nat → Nat} (h : LInv ls ρ d) {x y : Nat} (hx : x < ls.length) (hy : y < ls.length) (hxr : ρ x = x) (hyr : ρ y = y) (hne : x ≠ y) :
    LInv (ls.set x (y : Int)) (fun z => if ρ z = x then y else ρ z) (fun z => if ρ z = x then d z + d y + 1 else d z) := by
  have hl : (ls.set x (y : Int)).length = ls.length := by simp
  have hpx : par ls x = x := by have := (h.top x hx).2; rwa [hxr] at this
  have hpy : par ls y = y := by have := (h.top y hy).2; rwa [hyr] at this
  refine ⟨fun u hu => ?_, fun u hu => ?_, fun u hu hu' => ?_, fun u hu hu' => ?_, fun u hu => ?_⟩ <;> rw [hl] at hu
  · rw [hl, set_getD hx]
    split
    · omega
    · exact h.lt u hu
  · rw [par_set hx]
    split
    · rename_i e; subst e; simp only [hyr, hxr, if_pos, if_neg hne.symm]
    · rw [h.up u hu]
  · rw [par_set hx] at hu' ⊢
    by_cases e : u = x
    · subst e
      simp only [if_pos, hyr, hxr, if_neg hne.symm]
      omega
    · simp only [if_neg e] at hu' ⊢
      rw [h.up u hu]
      have := h.down u hu hu'
      split <;> omega
  · rw [par_set hx] at hu'
    by_cases e : u = x
    · rw [if_pos e] at hu'
      exact absurd (hu'.trans e) hne.symm
    · rw [if_neg e] at hu'
      have := h.root u hu hu'
      simp only [this, if_neg e]
  · obtain ⟨h1, h2⟩ := h.top u hu
    rw [hl]
    by_cases e : ρ u = x
    · simp only [if_pos e]
      refine ⟨hy, ?_⟩
      rw [par_set hx, if_neg hne.symm, hpy]
    · simp only [if_neg e]
      exact ⟨h1, by rw [par_set hx, if_neg e]; exact h2⟩

theorem countP_one_less {l : List Nat} {f g : Nat → Bool} {x : Nat} (hd : l.Nodup) (hx : x ∈ l) (hf : f x = true) (hg : g x = false) (h : ∀ u, u ≠ x → g u = f u) : l.countP g + 1 = l.countP f := by
  induction l with
  | nil => cases hx
  | cons a l ih =>
    obtain ⟨h1, h2⟩ := List.nodup_cons.1 hd
    rcases List.mem_cons.1 hx with rfl | hx'
    · rw [List.countP_cons, List.countP_cons, hf, hg]
      have : l.countP g = l.countP f := List.countP_congr fun u hu => by rw [h u (fun e => h1 (e ▸ hu))]
      simp [this]
    · have hax : a ≠ x := fun e => h1 (e ▸ hx')
      rw [List.countP_cons, List.countP_cons, h a hax, ← ih h2 hx']
      omega

theorem roots_link {ls : List Int} {x y : Nat} (hx : x < ls.length) (hpx : par ls x = x) (hne : x ≠ y) : roots (ls.set x (y : Int)) + 1 = roots ls := by
  unfold roots
  rw [show (ls.set x (y : Int)).length = ls.length by simp]
  refine countP_one_less List.nodup_range (List.mem_range.2 hx) (by simp [hpx]) ?_ fun u hu => ?_
  · rw [par_set hx, if_pos rfl]; simp [hne.symm]
  · rw [par_set hx, if_neg hu]

theorem link_back {ρ : Nat → Nat} {x y u v : Nat} (h : (if ρ u = x then y else ρ u) = if ρ v = x then y else ρ v) : ρ u = ρ v ∨ (ρ u = x ∧ ρ v = y) ∨ (ρ u = y ∧ ρ v = x) := by
  by_cases h1 : ρ u = x
  · rw [if_pos h1] at h
    by_cases h2 : ρ v = x
    · exact .inl (h1.trans h2.symm)
    · rw [if_neg h2] at h; exact .inr (.inl ⟨h1, h.symm⟩)
  · rw [if_neg h1] at h
    by_cases h2 : ρ v = x
    · rw [if_pos h2] at h; exact .inr (.inr ⟨h, h2⟩)
    · rw [if_neg h2] at h; exact .inl h
end Go.Ev
