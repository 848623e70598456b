/- An abstract evaluator over the model: the operations that look at no memory are right (2). -/
import Derived.Test.YtcjcchidfinohaaGreatEv6
namespace Go.Ev
variable {P : Program} {ρ : Pm} {w : World}

def guardB (P : Program) (t : TypeId) (x y : Operand) (u v : Value) : Bool := match u, v with
  | .nilIface, .nilIface => Bool.or (isConst x) (isConst y)
  | .agg _, .agg _ => !(P.eqGuardType P.depth t)
  | _, _ => true

theorem guardB_ok {op : BinOp} {t : TypeId} {x y : Operand} {u v : Value} (h : guardB P t x y u v = true) : (eqGuard op t x y u v).run P w = .ok () w := by
  unfold guardB at h
  cases op <;> first
    | rfl
    | (unfold eqGuard
       simp only [Bool.not_true, Bool.false_eq_true, if_false]
       split
       · simp only at h
         cases x <;> cases y <;> first | rfl | (simp [isConst] at h)
       · simp only at h
         have h' : P.eqGuardType P.depth t = false := by simpa using h
         simp [h']
       · rfl)

theorem guard_ok {op : BinOp} {t : TypeId} {x y : Operand} {a b : AV} {u v : Value} (h : eqFree P t x y a b = true) (hu : VR ρ a u) (hv : VR ρ b v) :
    (eqGuard op t x y u v).run P w = .ok () w := by
  refine guardB_ok ?_
  cases a with
  | nilIface =>
    obtain rfl := hu
    cases b with
    | nilIface => obtain rfl := hv; exact h
    | agg l => obtain ⟨cs, rfl, _⟩ := hv; rfl
    | tuple l => obtain ⟨cs, rfl, _⟩ := hv; rfl
    | fn f p q => obtain ⟨_, _, rfl, _⟩ := hv; rfl
    | iface t a => obtain ⟨_, rfl, _⟩ := hv; rfl
    | ptr l o => obtain ⟨_, _, rfl⟩ := hv; rfl
    | slice l o n c s e => obtain ⟨_, _, _, _, rfl, _⟩ := hv; rfl
    | map l => obtain ⟨_, _, rfl⟩ := hv; rfl
    | _ => unfold VR at hv; subst hv; rfl
  | agg l =>
    obtain ⟨us, rfl, _⟩ := hu
    cases b with
    | agg l => obtain ⟨cs, rfl, _⟩ := hv; exact h
    | tuple l => obtain ⟨cs, rfl, _⟩ := hv; rfl
    | fn f p q => obtain ⟨_, _, rfl, _⟩ := hv; rfl
    | iface t a => obtain ⟨_, rfl, _⟩ := hv; rfl
    | ptr l o => obtain ⟨_, _, rfl⟩ := hv; rfl
    | slice l o n c s e => obtain ⟨_, _, _, _, rfl, _⟩ := hv; rfl
    | map l => obtain ⟨_, _, rfl⟩ := hv; rfl
    | _ => unfold VR at hv; subst hv; rfl
  | tuple l => obtain ⟨cs, rfl, _⟩ := hu; rfl
  | fn f p q => obtain ⟨_, _, rfl, _⟩ := hu; rfl
  | iface t a => obtain ⟨_, rfl, _⟩ := hu; rfl
  | ptr l o => obtain ⟨_, _, rfl⟩ := hu; rfl
  | slice l o n c s e => obtain ⟨_, _, _, _, rfl, _⟩ := hu; rfl
  | map l => obtain ⟨_, _, rfl⟩ := hu; rfl
  | _ => unfold VR at hu; subst hu; rfl

/-- The operation gives a value, and leaves the world as it was. -/
def NO (P : Program) (w : World) (ρ : Pm) (e : Operand → Value) (o : Oper) (a : AV) : Prop := ∃ v, (execOp e o).run P w = .ok (.value v) w ∧ VR ρ a v

def Lks (ρ : Pm) (lk : Lk) (e : Operand → Value) : Prop := ∀ x a, lk x = some a → VR ρ a (e x)

variable {e : Operand → Value} {lk : Lk} {o : Oper}

theorem boolO_ok {n : Bool} {x : Option Bool} {a : AV} (h : boolO n x = some a) : ∃ b, x = some b ∧ a = .bool (Bool.xor b n) := by
  cases x with
  | none => cases h
  | some b => exact ⟨b, rfl, (Option.some.inj h).symm⟩

theorem binOp_eql {t : TypeId} {u v : Value} (h : ∀ k n, u ≠ .int k n) (h' : ∀ s, u ≠ .string s) (hf : ∀ k n, u ≠ .float k n) (hc : ∀ k n m, u ≠ .complex k n m) : Go.binOp .eql t u v = (do pure (.bool (← Op.equal t u v))) := by
  cases u <;> first | exact absurd rfl (h _ _) | exact absurd rfl (h' _) | exact absurd rfl (hf _ _) | exact absurd rfl (hc _ _ _) | (cases v <;> rfl)
theorem binOp_neq {t : TypeId} {u v : Value} (h : ∀ k n, u ≠ .int k n) (h' : ∀ s, u ≠ .string s) (hf : ∀ k n, u ≠ .float k n) (hc : ∀ k n m, u ≠ .complex k n m) : Go.binOp .neq t u v = (do pure (.bool (!(← Op.equal t u v)))) := by
  cases u <;> first | exact absurd rfl (h _ _) | exact absurd rfl (h' _) | exact absurd rfl (hf _ _) | exact absurd rfl (hc _ _ _) | (cases v <;> rfl)

theorem VR.other {a : AV} {u : Value} (h : VR ρ a u) (h1 : ∀ k n, a ≠ .int k n) (h2 : ∀ s, a ≠ .str s) :
    (∀ k n, u ≠ .int k n) ∧ (∀ s, u ≠ .string s) ∧ (∀ k n, u ≠ .float k n) ∧ (∀ k n m, u ≠ .complex k n m) := by
  cases a with
  | int k n => exact absurd rfl (h1 _ _)
  | str s => exact absurd rfl (h2 _)
  | agg l => obtain ⟨cs, rfl, _⟩ := h; simp
  | tuple l => obtain ⟨cs, rfl, _⟩ := h; simp
  | fn f p q => obtain ⟨_, _, rfl, _⟩ := h; simp
  | iface t a => obtain ⟨_, rfl, _⟩ := h; simp
  | ptr l o => obtain ⟨_, _, rfl⟩ := h; simp
  | slice l o n c s e => obtain ⟨_, _, _, _, rfl, _⟩ := h; simp
  | map l => obtain ⟨_, _, rfl⟩ := h; simp
  | _ => unfold VR at h; subst h; simp

theorem cmp_ok {op : BinOp} {t : TypeId} {x y : Operand} {a b r : AV} {u v : Value} (h : cmpOp P op t x y a b = some r) (hu : VR ρ a u) (hv : VR ρ b v)
    (h1 : ∀ k n, a ≠ .int k n) (h2 : ∀ s, a ≠ .str s) :
    PO P w ρ (do eqGuard op t x y u v; Go.binOp op t u v) r := by
  unfold cmpOp at h
  obtain ⟨i1, i2, i3, i4⟩ := hu.other h1 h2
  split at h
  · rename_i hf
    have hg := guard_ok (w := w) (op := op) hf hu hv
    split at h
    · obtain ⟨q, hq, rfl⟩ := boolO_ok h
      exact ⟨.bool q, by simp [hg, binOp_eql i1 i2 i3 i4, equal_ok hq hu hv], by simp [VR]⟩
    · obtain ⟨q, hq, rfl⟩ := boolO_ok h
      exact ⟨.bool !q, by simp [hg, binOp_neq i1 i2 i3 i4, equal_ok hq hu hv], by simp [VR]⟩
    · cases h
  · cases h

theorem bin_ok {op : BinOp} {t t' : TypeId} {x y : Operand} {r : AV} (ho : o.op = .binOp op t x y t') (hl : Lks ρ lk e) (h : binO P lk op t x y = some r) : NO P w ρ e o r := by
  unfold binO at h
  split at h
  · rename_i a ha
    split at h
    · rename_i b hb
      have hu := hl _ _ ha
      have hv := hl _ _ hb
      have key : PO P w ρ (do eqGuard op t x y (e x) (e y); Go.binOp op t (e x) (e y)) r := by
        unfold binOp at h
        split at h
        · split at h
          · split at h
            · rename_i _ k m _ k' n _ hk
              rw [VR.eq_2] at hu hv
              rw [hu, hv]
              obtain ⟨q, hq, hr⟩ := intOp_ok (P := P) (w := w) (ρ := ρ) (t := t) (k' := k') h (by
                cases hs : isShift op with
                | true => exact .inl rfl
                | false => rw [hs] at hk; exact .inr ((kindEq_iff _ _).1 hk))
              refine ⟨q, ?_, hr⟩
              have : (eqGuard op t x y (.int k m) (.int k' n)).run P w = .ok () w := by
                unfold eqGuard; split <;> rfl
              simp [this, hq]
            · cases h
          · cases h
        · split at h
          · rename_i m _ n
            rw [VR.eq_3] at hu hv
            rw [hu, hv]
            obtain ⟨q, hq, hr⟩ := strOp_ok (P := P) (w := w) (ρ := ρ) (t := t) h
            refine ⟨q, ?_, hr⟩
            have : (eqGuard op t x y (.string ⟨⟨m⟩⟩) (.string ⟨⟨n⟩⟩)).run P w = .ok () w := by
              unfold eqGuard; split <;> rfl
            simp [this, hq]
          · cases h
        · rename_i h1 h2
          exact cmp_ok h hu hv h1 h2
      obtain ⟨q, hq, hr⟩ := key
      refine ⟨q, ?_, hr⟩
      simp only [execOp, ho]
      simp only [Sem.run_bind] at hq ⊢
      rw [hq]
      rfl
    · cases h
  · cases h

theorem no_of {m : Sem Value} {a : AV} (h : PO P w ρ m a) (he : execOp e o = (do pure (.value (← m)))) : NO P w ρ e o a := by
  obtain ⟨v, hv, hr⟩ := h
  refine ⟨v, ?_, hr⟩
  rw [he]
  simp [hv]

theorem un_ok {op : UnOp} {t : TypeId} {x : Operand} {r : AV} (ho : o.op = .unOp op t x) (hl : Lks ρ lk e) (h : unO op (lk x) = some r) : NO P w ρ e o r := by
  unfold unO at h
  split at h
  · rename_i a ha
    have hu := hl _ _ ha
    refine no_of (m := Op.unary op (e x)) ?_ (by simp only [execOp, ho])
    unfold unOp at h
    split at h
    · rename_i k n
      rw [VR.eq_2] at hu
      rw [hu]
      split at h
      · obtain rfl := mkI_ok h
        exact ⟨.int k (k.wrap (0 - n)), by simp [Op.unary, Op.intArith], by rw [wrapF_eq]; rfl⟩
      · obtain rfl := mkI_ok h
        exact ⟨_, by simp only [Op.unary, Op.intBits]; simp, rfl⟩
      · cases h
    · rename_i b
      rw [VR.eq_1] at hu
      rw [hu]
      split at h
      · obtain rfl := Option.some.inj h
        exact ⟨_, by simp [Op.unary]; rfl, by cases b <;> rfl⟩
      · cases h
    · cases h
  · cases h

theorem move_ok {x : Operand} {r : AV} (ho : o.op = .move x ∨ o.op = .assign x) (hl : Lks ρ lk e) (h : lk x = some r) : NO P w ρ e o r := by
  refine ⟨e x, ?_, hl _ _ h⟩
  rcases ho with ho | ho <;> simp [execOp, ho]

theorem pick_ok {c a b : Operand} {r : AV} (ho : o.op = .pick c a b) (hl : Lks ρ lk e) (h : pickO lk a b (lk c) = some r) : NO P w ρ e o r := by
  unfold pickO at h
  split at h
  · rename_i hc
    have := hl _ _ hc
    rw [VR.eq_1] at this
    exact ⟨e a, by simp [execOp, ho, this, asBool], hl _ _ h⟩
  · rename_i hc
    have := hl _ _ hc
    rw [VR.eq_1] at this
    exact ⟨e b, by simp [execOp, ho, this, asBool], hl _ _ h⟩
  · cases h

theorem nil_ok {x : Operand} {r : AV} (ho : o.op = .nilCheck x) (hl : Lks ρ lk e) (h : nilO (lk x) = some r) : NO P w ρ e o r := by
  unfold nilO at h
  split at h
  · rename_i a off ha
    obtain rfl := Option.some.inj h
    have hu := hl _ _ ha
    have hu' := hu
    obtain ⟨p, _, hu'⟩ := hu'
    exact ⟨e x, by simp [execOp, ho, hu'], hu⟩
  · rename_i g a b ha
    obtain rfl := Option.some.inj h
    have hu := hl _ _ ha
    have hu' := hu
    obtain ⟨_, _, hu', _⟩ := hu'
    exact ⟨e x, by simp [execOp, ho, hu'], hu⟩
  · cases h

end Go.Ev
