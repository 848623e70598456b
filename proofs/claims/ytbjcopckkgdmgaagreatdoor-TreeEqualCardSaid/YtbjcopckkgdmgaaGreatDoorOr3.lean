import Derived.Test.YtbjcopckkgdmgaaGreatDoorOr1
import Derived.Lib.Bytes
import GoSem.Op.String
/- Comparing faces: the mathematics. -/
namespace Go.Ev

structure Cp {α : Type} (c : α → α → Int) : Prop where
  three : ∀ f g, c f g = -1 ∨ c f g = 0 ∨ c f g = 1
  eq : ∀ f g, c f g = 0 ↔ f = g
  neg : ∀ f g, c g f = - c f g
  trans : ∀ f g h, c f g = -1 → c g h = -1 → c f h = -1

def lexC {α β : Type} (c : α → α → Int) (d : β → β → Int) (f g : α × β) : Int := if c f.1 g.1 = 0 then d f.2 g.2 else c f.1 g.1

theorem Cp.lex {α β : Type} {c : α → α → Int} {d : β → β → Int} (hc : Cp c) (hd : Cp d) : Cp (lexC c d) where
  three f g := by
    unfold lexC
    split
    · exact hd.three _ _
    · exact hc.three _ _
  eq f g := by
    unfold lexC
    constructor
    · intro h
      split at h
      · rename_i h1
        exact Prod.ext ((hc.eq _ _).1 h1) ((hd.eq _ _).1 h)
      · contradiction
    · rintro rfl
      rw [if_pos ((hc.eq _ _).2 rfl)]
      exact (hd.eq _ _).2 rfl
  neg f g := by
    unfold lexC
    rw [hc.neg f.1 g.1]
    by_cases h : c f.1 g.1 = 0
    · rw [if_pos (by omega), if_pos h]; exact hd.neg _ _
    · rw [if_neg (by omega), if_neg h]
  trans f g h h1 h2 := by
    unfold lexC at *
    by_cases e1 : c f.1 g.1 = 0
    · rw [if_pos e1] at h1
      rw [(hc.eq _ _).1 e1]
      by_cases e2 : c g.1 h.1 = 0
      · rw [if_pos e2] at h2 ⊢
        exact hd.trans _ _ _ h1 h2
      · rw [if_neg e2] at h2 ⊢
        exact h2
    · rw [if_neg e1] at h1
      by_cases e2 : c g.1 h.1 = 0
      · rw [← (hc.eq _ _).1 e2]
        rw [if_neg e1]; exact h1
      · rw [if_neg e2] at h2
        have := hc.trans _ _ _ h1 h2
        rw [if_neg (by omega)]
        exact this

def cmpI (x y : Int) : Int := if x < y then -1 else if y < x then 1 else 0
theorem cmpI_cp : Cp cmpI where
  three f g := by unfold cmpI; repeat' split
                  all_goals omega
  eq f g := by
    unfold cmpI
    constructor
    · intro h
      repeat' split at h
      all_goals omega
    · rintro rfl
      simp
  neg f g := by unfold cmpI; repeat' split
                all_goals omega
  trans f g h h1 h2 := by
    have e1 : f < g := by unfold cmpI at h1; repeat' split at h1
                          all_goals omega
    have e2 : g < h := by unfold cmpI at h2; repeat' split at h2
                          all_goals omega
    unfold cmpI
    rw [if_pos (by omega)]

theorem less_irrefl : ∀ x : List UInt8, Op.bytesLess x x = false
  | [] => rfl
  | a :: x => by simp [Op.bytesLess, less_irrefl x]
theorem less_trans : ∀ x y z : List UInt8, Op.bytesLess x y = true → Op.bytesLess y z = true → Op.bytesLess x z = true
  | _, _, [], _, h => by cases ‹List UInt8› <;> simp [Op.bytesLess] at h
  | _, [], _ :: _, h, _ => by cases ‹List UInt8› <;> simp [Op.bytesLess] at h
  | [], _ :: _, _ :: _, _, _ => rfl
  | a :: x, b :: y, c :: z, h, h' => by
    simp only [Op.bytesLess, Bool.or_eq_true, decide_eq_true_eq, Bool.and_eq_true, beq_iff_eq] at h h' ⊢
    rcases h with h | ⟨rfl, h⟩
    · rcases h' with h' | ⟨rfl, h'⟩
      · exact .inl (UInt8.lt_trans h h')
      · exact .inl h
    · rcases h' with h' | ⟨rfl, h'⟩
      · exact .inl h'
      · exact .inr ⟨rfl, less_trans x y z h h'⟩
theorem less_total : ∀ x y : List UInt8, Op.bytesLess x y = false → x ≠ y → Op.bytesLess y x = true
  | [], [], _, h => absurd rfl h
  | [], _ :: _, h, _ => by simp [Op.bytesLess] at h
  | _ :: _, [], _, _ => rfl
  | a :: x, b :: y, h, hne => by
    simp only [Op.bytesLess, Bool.or_eq_false_iff, decide_eq_false_iff_not, Bool.and_eq_false_imp, beq_iff_eq, Bool.or_eq_true, decide_eq_true_eq, Bool.and_eq_true] at h ⊢
    obtain ⟨h1, h2⟩ := h
    by_cases e : a = b
    · subst e
      exact .inr ⟨rfl, less_total x y (h2 rfl) (fun e => hne (by rw [e]))⟩
    · left
      rw [UInt8.lt_iff_toNat_lt] at h1 ⊢
      have : a.toNat ≠ b.toNat := fun h => e (UInt8.toNat_inj.1 h)
      omega

def cmpS (x y : ByteArray) : Int := if Op.bytesLess x.toList y.toList = true then -1 else if x.toList = y.toList then 0 else 1

theorem bytes_inj {x y : ByteArray} (h : x.toList = y.toList) : x = y := by
  rw [Lib.toList_data, Lib.toList_data] at h
  cases x; cases y
  simp only at h
  congr 1
  exact Array.toList_inj.1 h

theorem cmpS_cp : Cp cmpS where
  three f g := by unfold cmpS; repeat' split
                  all_goals omega
  eq f g := by
    unfold cmpS
    constructor
    · intro h
      split at h
      · omega
      · split at h
        · rename_i e; exact bytes_inj e
        · omega
    · rintro rfl
      rw [less_irrefl]
      simp
  neg f g := by
    unfold cmpS
    by_cases h1 : Op.bytesLess f.toList g.toList = true
    · have h2 : ¬ Op.bytesLess g.toList f.toList = true := fun h2 => by
        have := less_trans _ _ _ h1 h2
        rw [less_irrefl] at this; cases this
      have h3 : ¬ g.toList = f.toList := fun e => by rw [e, less_irrefl] at h1; cases h1
      rw [if_pos h1, if_neg h2, if_neg h3]
      rfl
    · by_cases h3 : f.toList = g.toList
      · rw [if_neg h1, if_pos h3, if_neg (by rw [h3, less_irrefl]; simp), if_pos h3.symm]
        rfl
      · rw [if_neg h1, if_neg h3, if_pos (less_total _ _ (by simpa using h1) h3)]
  trans f g h h1 h2 := by
    have e1 : Op.bytesLess f.toList g.toList = true := by
      unfold cmpS at h1
      split at h1
      · assumption
      · split at h1 <;> omega
    have e2 : Op.bytesLess g.toList h.toList = true := by
      unfold cmpS at h2
      split at h2
      · assumption
      · split at h2 <;> omega
    unfold cmpS
    rw [if_pos (less_trans _ _ _ e1 e2)]

theorem cmpN_cp : Cp fun (x y : Nat) => cmpI x y where
  three _f _g := cmpI_cp.three _ _
  eq _f _g := (cmpI_cp.eq _ _).trans Int.ofNat_inj
  neg _f _g := cmpI_cp.neg _ _
  trans _f _g _h := cmpI_cp.trans _ _ _

def fcmp : Face → Face → Int := lexC cmpI (lexC (fun (x y : Nat) => cmpI x y) (lexC cmpS cmpI))
theorem fcmp_cp : Cp fcmp := cmpI_cp.lex (cmpN_cp.lex (cmpS_cp.lex cmpI_cp))
theorem fcmp_order : FaceOrder fcmp := ⟨fcmp_cp.three, fcmp_cp.eq, fcmp_cp.neg, fcmp_cp.trans⟩
end Go.Ev
