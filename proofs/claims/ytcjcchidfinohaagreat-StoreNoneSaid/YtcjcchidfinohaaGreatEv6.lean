/- An abstract evaluator over the model: the operations that look at no memory are right. -/
import Derived.Test.YtcjcchidfinohaaGreatEv5
import Derived.Laws.Strings
import Derived.MapKept
namespace Go.Ev
variable {P : Program} {ρ : Pm} {w : World}

/-- The run gives a value, and leaves the world as it was. -/
def PO (P : Program) (w : World) (ρ : Pm) (m : Sem Value) (a : AV) : Prop := ∃ v, m.run P w = .ok v w ∧ VR ρ a v

theorem PO.pure {v : Value} {a : AV} (h : VR ρ a v) : PO P w ρ (pure v) a := ⟨v, rfl, h⟩

theorem run_und {t : TypeId} {d : TypeDesc} (h : und P t = some d) : (underlying t).run P w = .ok d w := by
  simp [underlying, und_ok h]
theorem run_info {t : TypeId} {i : TypeInfo} (h : info P t = some i) : (typeInfo t).run P w = .ok i w := by
  simp [typeInfo, info_ok h]
theorem size_info {t : TypeId} {n : Nat} (h : size P t = some n) : ∃ i, info P t = some i ∧ i.size = n := by
  unfold size at h
  cases hi : info P t with
  | none => rw [hi] at h; cases h
  | some i => rw [hi] at h; exact ⟨i, rfl, Option.some.inj h⟩
theorem run_size {t : TypeId} {n : Nat} (h : size P t = some n) : (sizeOf t).run P w = .ok n w := by
  obtain ⟨i, hi, rfl⟩ := size_info h
  simp [Go.sizeOf, run_info hi]
theorem zero_info {t : TypeId} {z : AV} (h : zero P t = some z) : ∃ i v, info P t = some i ∧ i.zero = some v ∧ ofV 8 v = some z := by
  unfold zero at h
  cases hi : info P t with
  | none => rw [hi] at h; cases h
  | some i =>
    rw [hi] at h
    unfold zeroI at h
    cases hv : i.zero with
    | none => simp only [hv] at h; cases h
    | some v => simp only [hv] at h; exact ⟨i, v, rfl, hv, h⟩
theorem run_zero {t : TypeId} {z : AV} (h : zero P t = some z) : ∃ v, (zeroValue t).run P w = .ok v w ∧ VR ρ z v := by
  obtain ⟨i, v, hi, hv, hz⟩ := zero_info h
  exact ⟨v, by simp [zeroValue, run_info hi, hv], ofV_ok _ _ _ hz⟩

theorem run_isAgg {t : TypeId} {b : Bool} (h : isAgg P t = some b) : (Go.isAgg t).run P w = .ok b w := by
  unfold isAgg at h
  cases hu : und P t with
  | none => rw [hu] at h; cases h
  | some d =>
    rw [hu] at h
    cases d <;> (obtain rfl := Option.some.inj h; simp [Go.isAgg, run_und hu])

theorem aggO_ok {f : List AV → AV} {x : Option (List AV)} {a : AV} (h : aggO f x = some a) : ∃ l, x = some l ∧ a = f l := by
  cases x with
  | none => cases h
  | some l => exact ⟨l, rfl, (Option.some.inj h).symm⟩

theorem part_ok {t : TypeId} {l : List AV} {off : Nat} {a : AV} {cs : Array Value} (h : part P t l off = some a) (hl : VRs ρ l cs.toList) :
    PO P w ρ (Go.part t cs off) a := by
  unfold part at h
  split at h
  · rename_i ha
    split at h
    · rename_i n hn
      obtain ⟨r, hr, rfl⟩ := aggO_ok h
      obtain ⟨h1, h2⟩ := VRs.sub hl hr
      refine ⟨.agg (cs.extract off (off + n)), by simp [Go.part, run_isAgg ha, run_size hn], _, rfl, ?_⟩
      have e : (cs.extract off (off + n)).toList = (cs.toList.drop off).take n := by simp
      rw [e]
      exact h2
    · cases h
  · rename_i ha
    obtain ⟨v, hv, hq⟩ := VRs.nth hl h
    have hv' : cs[off]? = some v := by simpa using hv
    exact ⟨v, by simp [Go.part, run_isAgg ha, hv'], hq⟩
  · cases h

theorem mkI_ok {k : IntKind} {z : Int} {a : AV} (h : mkI k z = some a) : a = .int k z := by
  unfold mkI at h
  rw [fint_eq] at h
  exact (Option.some.inj h).symm

theorem intOp_ok {op : BinOp} {k k' : IntKind} {x y : Int} {a : AV} {t : TypeId} (h : intOp op k x y = some a) (hk : isShift op = true ∨ k = k') :
    PO P w ρ (Go.binOp op t (.int k x) (.int k' y)) a := by
  cases op with
  | shl =>
    simp only [intOp, shlI] at h
    split at h
    · cases h
    · rename_i hy
      rw [ilt_eq] at hy
      have hy : ¬ y < 0 := by simpa using hy
      obtain rfl := mkI_ok h
      exact ⟨_, by simp [Go.binOp, Op.shift, hy], rfl⟩
  | shr =>
    simp only [intOp, shrI] at h
    split at h
    · cases h
    · rename_i hy
      rw [ilt_eq] at hy
      have hy : ¬ y < 0 := by simpa using hy
      obtain rfl := mkI_ok h
      exact ⟨_, by simp [Go.binOp, Op.shift, hy], rfl⟩
  | quo =>
    obtain rfl : k = k' := by rcases hk with h | h; cases h; exact h
    simp only [intOp, quoI] at h
    split at h
    · cases h
    · rename_i hy
      rw [ieq_eq] at hy
      have hy : ¬ y = 0 := by simpa using hy
      obtain rfl := mkI_ok h
      exact ⟨_, by simp [Go.binOp, Op.intDiv, hy]; rfl, by rw [wrapF_eq]; rfl⟩
  | rem =>
    obtain rfl : k = k' := by rcases hk with h | h; cases h; exact h
    simp only [intOp, remI] at h
    split at h
    · cases h
    · rename_i hy
      rw [ieq_eq] at hy
      have hy : ¬ y = 0 := by simpa using hy
      obtain rfl := mkI_ok h
      exact ⟨_, by simp [Go.binOp, Op.intDiv, hy], rfl⟩
  | add | sub | mul =>
    obtain rfl : k = k' := by rcases hk with h | h; cases h; exact h
    obtain rfl := mkI_ok h
    exact ⟨_, by simp [Go.binOp, Op.intArith]; rfl, by rw [wrapF_eq]; rfl⟩
  | and | or | xor | andNot =>
    obtain rfl : k = k' := by rcases hk with h | h; cases h; exact h
    obtain rfl := mkI_ok h
    exact ⟨_, by simp only [Go.binOp, Op.intBits]; simp, rfl⟩
  | eql | neq =>
    obtain rfl : k = k' := by rcases hk with h | h; cases h; exact h
    obtain rfl := Option.some.inj h
    exact ⟨_, by simp [Go.binOp, Op.intCmp]; rfl, by rw [ieq_eq]; rfl⟩
  | lss | gtr =>
    obtain rfl : k = k' := by rcases hk with h | h; cases h; exact h
    obtain rfl := Option.some.inj h
    exact ⟨_, by simp [Go.binOp, Op.intCmp]; rfl, by rw [ilt_eq]; rfl⟩
  | leq | geq =>
    obtain rfl : k = k' := by rcases hk with h | h; cases h; exact h
    obtain rfl := Option.some.inj h
    refine ⟨_, by simp [Go.binOp, Op.intCmp]; rfl, ?_⟩
    rw [ilt_eq]
    simp only [VR]
    congr 1
    rw [Bool.eq_iff_iff]
    simp

theorem size_mk (s : List UInt8) : (⟨⟨s⟩⟩ : ByteArray).size = s.length := rfl
theorem toList_mk (s : List UInt8) : (⟨⟨s⟩⟩ : ByteArray).toList = s := ByteArray.toList_eq _
theorem append_mk (x y : List UInt8) : (⟨⟨x⟩⟩ : ByteArray) ++ ⟨⟨y⟩⟩ = ⟨⟨x ++ y⟩⟩ := by
  apply ByteArray.ext
  simp

theorem strOp_ok {op : BinOp} {x y : List UInt8} {a : AV} {t : TypeId} (h : strOp op x y = some a) :
    PO P w ρ (Go.binOp op t (.string ⟨⟨x⟩⟩) (.string ⟨⟨y⟩⟩)) a := by
  cases op with
  | add =>
    simp only [strOp, catS] at h
    split at h
    · rename_i hl
      obtain rfl := Option.some.inj h
      have hl : x.length + y.length ≤ maxText := Nat.le_of_ble_eq_true hl
      have hn : ¬ (((x.length + y.length : Nat) : Int) > IntKind.i64.max) := by
        have e : IntKind.i64.max = 9223372036854775807 := by decide
        rw [e]
        unfold maxText at hl
        omega
      refine ⟨.string (⟨⟨x⟩⟩ ++ ⟨⟨y⟩⟩), ?_, by rw [append_mk]; rfl⟩
      simp only [Go.binOp, Op.stringOp, size_mk, hn, if_false]
      rfl
    · cases h
  | eql | neq | lss | leq | gtr | geq =>
    obtain rfl := Option.some.inj h
    refine ⟨_, by simp only [Go.binOp, Op.stringOp]; rfl, ?_⟩
    simp only [toList_mk, bytesEq_eq]
    rfl
  | _ => cases h

theorem eqvB_ok {t : TypeId} {d : Nat} {a : Bool} {y : AV} {u : Value} {b : Bool} (h : eqvB (und P t) a y = some b) (hu : VR ρ y u) :
    (Op.equalIn (d + 1) t (.bool a) u).run P w = .ok b w := by
  unfold eqvB at h
  split at h
  · rename_i _ ht
    obtain rfl := Option.some.inj h
    obtain rfl := hu
    simp [Op.equalIn, run_und ht]
  · cases h
theorem eqvI_ok {t : TypeId} {d : Nat} {k : IntKind} {a : Int} {y : AV} {u : Value} {b : Bool} (h : eqvI (und P t) k a y = some b) (hu : VR ρ y u) :
    (Op.equalIn (d + 1) t (.int k a) u).run P w = .ok b w := by
  unfold eqvI at h
  split at h
  · rename_i ht
    split at h
    · rename_i hk
      obtain rfl := (kindEq_iff _ _).1 hk
      obtain rfl := Option.some.inj h
      obtain rfl := hu
      simp [Op.equalIn, run_und ht, ieq_eq]
    · cases h
  · cases h
theorem eqvS_ok {t : TypeId} {d : Nat} {a : List UInt8} {y : AV} {u : Value} {b : Bool} (h : eqvS (und P t) a y = some b) (hu : VR ρ y u) :
    (Op.equalIn (d + 1) t (.string ⟨⟨a⟩⟩) u).run P w = .ok b w := by
  unfold eqvS at h
  split at h
  · rename_i ht
    obtain rfl := Option.some.inj h
    obtain rfl := hu
    simp [Op.equalIn, run_und ht, bytesEq_eq]
    rw [Bool.eq_iff_iff, MapKept.bytes_beq, beq_iff_eq]
    constructor
    · intro e
      have := congrArg (fun s : ByteArray => s.data.toList) e
      simpa using this
    · intro e
      rw [e]
  · cases h
theorem eqvN_ok {t : TypeId} {d : Nat} {x y : AV} {v u : Value} {b : Bool} (h : eqvN (und P t) x y = some b) (hv : VR ρ x v) (hu : VR ρ y u) :
    (Op.equalIn (d + 1) t v u).run P w = .ok b w := by
  unfold eqvN at h
  split at h
  · rename_i ht
    split at h <;> first | cases h | skip
    · obtain rfl := hv; obtain rfl := hu; simp [Op.equalIn, run_und ht]
    · obtain rfl := hv; obtain ⟨p, _, rfl⟩ := hu; simp [Op.equalIn, run_und ht]
    · obtain rfl := hu; obtain ⟨p, _, rfl⟩ := hv; simp [Op.equalIn, run_und ht]
  · rename_i ht
    split at h <;> first | cases h | skip
    · obtain rfl := hv; obtain rfl := hu; simp [Op.equalIn, run_und ht]
    · obtain rfl := hv; obtain ⟨p, rfl, _⟩ := hu; simp [Op.equalIn, run_und ht]
    · obtain rfl := hu; obtain ⟨p, rfl, _⟩ := hv; simp [Op.equalIn, run_und ht]
  · rename_i ht
    split at h <;> first | cases h | skip
    · obtain rfl := hv; obtain rfl := hu; simp [Op.equalIn, run_und ht]
    · obtain rfl := hv; obtain ⟨p, a, c, _, rfl, _⟩ := hu; simp [Op.equalIn, run_und ht]
    · obtain rfl := hu; obtain ⟨p, a, c, _, rfl, _⟩ := hv; simp [Op.equalIn, run_und ht]
  · rename_i ht
    split at h <;> first | cases h | skip
    · obtain rfl := hv; obtain rfl := hu; simp [Op.equalIn, run_und ht]
    · obtain rfl := hv; obtain ⟨p, _, rfl⟩ := hu; simp [Op.equalIn, run_und ht]
    · obtain rfl := hu; obtain ⟨p, _, rfl⟩ := hv; simp [Op.equalIn, run_und ht]
  · rename_i ht
    split at h <;> first | cases h | skip
    · obtain rfl := hv; obtain rfl := hu; simp [Op.equalIn, run_und ht]
    · obtain rfl := hv; obtain ⟨p, a, rfl, _⟩ := hu; simp [Op.equalIn, run_und ht]
    · obtain rfl := hu; obtain ⟨p, a, rfl, _⟩ := hv; simp [Op.equalIn, run_und ht]
  · cases h

theorem fields_ok {q : TypeId → AV → AV → Option Bool} {d : Nat} {xs ys : List AV} {us vs : Array Value} (hx : VRs ρ xs us.toList) (hy : VRs ρ ys vs.toList)
    (hq : ∀ t x y u v b, q t x y = some b → VR ρ x u → VR ρ y v → (Op.equalIn d t u v).run P w = .ok b w) :
    ∀ (l : List Field) (b : Bool), fieldsEq P q xs ys l = some b →
      Sem.run P (forIn l ((none, ()) : Option Bool × Unit) fun f _ => if f.name = "_" then pure (ForInStep.yield (none, ())) else do
        let x ← Go.part f.type us f.offset
        let y ← Go.part f.type vs f.offset
        let e ← Op.equalIn d f.type x y
        if e = false then pure (ForInStep.done (some false, ())) else pure (ForInStep.yield (none, ()))) w = .ok (cond b (none, ()) (some false, ())) w := by
  intro l
  induction l with
  | nil => intro b h; obtain rfl := Option.some.inj h; simp
  | cons f l ih =>
    intro b h
    simp only [fieldsEq] at h
    rw [List.forIn_cons]
    by_cases hn : f.name = "_"
    · have e : (f.name != "_") = false := by simp [hn]
      rw [e] at h
      simp only [hn, if_true]
      simpa using ih b h
    · have e : (f.name != "_") = true := by simp [hn]
      rw [e] at h
      simp only [hn, if_false]
      simp only at h
      split at h
      · rename_i a c ha hc
        obtain ⟨u, hu, hru⟩ := part_ok (w := w) ha hx
        obtain ⟨v, hv, hrv⟩ := part_ok (w := w) hc hy
        split at h
        · rename_i hb
          have := hq _ _ _ _ _ _ hb hru hrv
          simp [hu, hv, this]
          simpa using ih b h
        · rename_i hb
          have := hq _ _ _ _ _ _ hb hru hrv
          obtain rfl := Option.some.inj h
          simp [hu, hv, this]
        · cases h
      · cases h

theorem cells_ok {q : AV → AV → Option Bool} {d n : Nat} {t : TypeId} {xs ys : List AV} {us vs : Array Value} (hx : VRs ρ xs us.toList) (hy : VRs ρ ys vs.toList)
    (hq : ∀ x y u v b, q x y = some b → VR ρ x u → VR ρ y v → (Op.equalIn d t u v).run P w = .ok b w) :
    ∀ (c i : Nat) (b : Bool), cellsEq P q t n xs ys c i = some b →
      Sem.run P (forIn (List.range' i c) ((none, ()) : Option Bool × Unit) fun i _ => do
        let x ← Go.part t us (i * n)
        let y ← Go.part t vs (i * n)
        let e ← Op.equalIn d t x y
        if e = false then pure (ForInStep.done (some false, ())) else pure (ForInStep.yield (none, ()))) w = .ok (cond b (none, ()) (some false, ())) w := by
  intro c
  induction c with
  | zero => intro i b h; obtain rfl := Option.some.inj h; simp
  | succ c ih =>
    intro i b h
    simp only [cellsEq] at h
    rw [List.range'_succ, List.forIn_cons]
    split at h
    · rename_i a c' ha hc
      obtain ⟨u, hu, hru⟩ := part_ok (w := w) (show part P t xs (i * n) = some a from ha) hx
      obtain ⟨v, hv, hrv⟩ := part_ok (w := w) (show part P t ys (i * n) = some c' from hc) hy
      split at h
      · rename_i hb
        have := hq _ _ _ _ _ hb hru hrv
        simp [hu, hv, this]
        simpa using ih _ b h
      · rename_i hb
        have := hq _ _ _ _ _ hb hru hrv
        obtain rfl := Option.some.inj h
        simp [hu, hv, this]
      · cases h
    · cases h

theorem eqvP_ok {t : TypeId} {d : Nat} {l o l' o' : Nat} {v u : Value} {b : Bool} (h : eqvP P (und P t) l o l' o' = some b) (hv : VR ρ (.ptr l o) v) (hu : VR ρ (.ptr l' o') u) :
    (Op.equalIn (d + 1) t v u).run P w = .ok b w := by
  unfold eqvP at h
  split at h
  · rename_i ht
    split at h
    · rename_i n hn
      split at h
      · rename_i hq
        simp only [Bool.and_eq_true, Nat.beq_eq] at hq
        obtain ⟨rfl, rfl⟩ := hq
        obtain ⟨p, hp, rfl⟩ := hv
        obtain ⟨p', hp', rfl⟩ := hu
        obtain rfl : p = p' := Option.some.inj (hp.symm.trans hp')
        obtain rfl := Option.some.inj h
        simp [Op.equalIn, run_und ht, run_size hn, sameAddr]
      · cases h
    · cases h
  · cases h

theorem eqv_ok : ∀ (d : Nat) {t : TypeId} {x y : AV} {u v : Value} {b : Bool} {D : Nat}, eqv P d t x y = some b → VR ρ x u → VR ρ y v → (Op.equalIn (D + d) t u v).run P w = .ok b w := by
  intro d
  induction d with
  | zero => intro t x y u v b D h; cases h
  | succ d ih =>
    intro t x y u v b D h hx hy
    cases x with
    | bool a => obtain rfl := hx; exact eqvB_ok h hy
    | int k a => obtain rfl := hx; exact eqvI_ok h hy
    | str a => obtain rfl := hx; exact eqvS_ok h hy
    | agg xs =>
      obtain ⟨us, rfl, hx⟩ := hx
      simp only [eqv] at h
      unfold eqvA at h
      split at h
      · rename_i fields ys ht
        obtain ⟨vs, rfl, hy⟩ := hy
        split at h
        · rename_i hs
          have := fields_ok (P := P) (w := w) hx hy (fun t x y u v b e => ih (D := D) e) _ _ h
          rw [Array.forIn_toList] at this
          show (Op.equalIn (D + d + 1) t (.agg us) (.agg vs)).run P w = .ok b w
          simp [Op.equalIn, run_und ht, hs, this]
          cases b <;> simp
        · cases h
      · rename_i len elem ys ht
        obtain ⟨vs, rfl, hy⟩ := hy
        split at h
        · rename_i n hn
          have := cells_ok (P := P) (w := w) hx hy (fun x y u v b e => ih (D := D) e) _ _ _ h
          show (Op.equalIn (D + d + 1) t (.agg us) (.agg vs)).run P w = .ok b w
          simp [Op.equalIn, run_und ht, run_size hn, this]
          cases b <;> simp
        · cases h
      · cases h
    | ptr l o =>
      simp only [eqv] at h
      split at h
      · exact eqvP_ok h hx hy
      · exact eqvN_ok h hx hy
    | _ => simp only [eqv] at h; exact eqvN_ok h hx hy

theorem equal_ok {t : TypeId} {x y : AV} {u v : Value} {b : Bool} (h : eqv P 20 t x y = some b) (hx : VR ρ x u) (hy : VR ρ y v) : (Op.equal t u v).run P w = .ok b w :=
  eqv_ok (D := 9980) 20 h hx hy

end Go.Ev
