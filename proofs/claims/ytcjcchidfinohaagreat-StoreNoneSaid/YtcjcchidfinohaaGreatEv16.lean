/- An abstract evaluator over the model: changes of memory (2). -/
import Derived.Test.YtcjcchidfinohaaGreatEv15
namespace Go.Ev
variable {P : Program} {ρ : Pm} {g : Nat} {s : St} {w : World} {e : Operand → Value} {lk : Lk} {o : Oper}

theorem fitI_ok {x : Option TypeInfo} {i : TypeInfo} (h : fitI x = some i) : x = some i ∧ ∃ v, i.zero = some v ∧ v.cells.size = i.size := by
  unfold fitI at h
  split at h
  · split at h
    · rename_i hz
      obtain rfl := Option.some.inj h
      refine ⟨rfl, ?_⟩
      unfold zeroFits at hz
      split at hz
      · rename_i v hv
        exact ⟨v, hv, Nat.eq_of_beq_eq_true hz⟩
      · cases hz
    · cases h
  · cases h

theorem lenAV_ok {y : AV} {v : Value} {n : Nat} (h : lenAV y = some n) (hy : VR ρ y v) : (Builtin.lenOf v).run P w = .ok n w := by
  unfold lenAV at h
  split at h
  · obtain rfl := Option.some.inj h
    obtain ⟨p, a, c, _, rfl, _⟩ := hy
    rfl
  · obtain rfl := Option.some.inj h
    obtain rfl := hy
    rfl
  · obtain rfl := Option.some.inj h
    obtain rfl := hy
    rfl
  · cases h

theorem first_ok {y : AV} {v : Value} {n sz m : Nat} {r : List AV} (hs : Sim ρ g s w.heap) (h : firstCells s sz n y = some r) (hy : VR ρ y v) (hm : lenAV y = some m) (hnm : n ≤ m) :
    ∃ arr, (∀ w' : World, w'.heap = w.heap → (Builtin.firstCells sz n v).run P w' = .ok arr w') ∧ VRs ρ r arr.toList ∧ arr.size = n * sz := by
  unfold firstCells at h
  split at h
  · rename_i l off len cap sz' ex
    split at h
    · rename_i hsz
      obtain rfl := Nat.eq_of_beq_eq_true hsz
      split at h
      · rename_i row hrow
        obtain ⟨p, a, c', hp, rfl, h1, h2, h3, h4⟩ := hy
        obtain ⟨p', c, t', fr, hp', hh, hpn, hc⟩ := row_ok hs hrow
        obtain rfl := Option.some.inj (hp.symm.trans hp')
        have h : sub row off (n * sz) = some r := h
        obtain ⟨h5, h6⟩ := cells_sub hc h
        obtain rfl : len = m := Option.some.inj hm
        rcases Nat.eq_zero_or_pos c' with h0 | h0
        · have : n = 0 := by omega
          subst this
          refine ⟨#[], fun w' _ => by simp [Builtin.firstCells, loadCells, loadCellsFrom], ?_, by simp⟩
          simp only [Nat.zero_mul] at h6
          simpa using h6
        · obtain ⟨rfl, _⟩ := h4 h0
          refine ⟨((c.toList.drop (p.o + off)).take (n * sz)).toArray, fun w' hw => ?_, by simpa using h6, ?_⟩
          · show (loadCells _ _).run P w' = _
            exact loadCells_ok (by rw [hw]; exact hh) h5
          · simp; omega
      · cases h
    · cases h
  · obtain rfl := Option.some.inj h
    obtain rfl := hy
    obtain rfl : 0 = m := Option.some.inj hm
    have : n = 0 := by omega
    subst this
    exact ⟨#[], fun _ _ => rfl, rfl, by simp⟩
  · rename_i b
    split at h
    · rename_i hsz
      obtain rfl := Nat.eq_of_beq_eq_true hsz
      obtain rfl := Option.some.inj h
      obtain rfl := hy
      obtain rfl : b.length = m := Option.some.inj hm
      refine ⟨_, fun _ _ => rfl, ?_, ?_⟩
      · have : (Array.map (fun b => Value.int .u8 ((b : UInt8).toNat : Int)) ((⟨⟨b⟩⟩ : ByteArray).extract 0 n).data).toList = (b.take n).map fun b => Value.int .u8 b.toNat := by
          rw [Array.toList_map, Lib.extract_data]
          simp
        rw [this]
        exact bytesAV_ok _
      · rw [Array.size_map]
        have := congrArg List.length (Lib.extract_data (⟨⟨b⟩⟩ : ByteArray) 0 n)
        simp only [Array.length_toList] at this
        rw [this]
        simp
        omega
    · cases h
  · cases h

theorem grow_le (n : Nat) : ∀ (r c : Nat), c ≤ 2 * n + 768 → Builtin.growBy n r c ≤ 2 * n + 768
  | 0, c, h => h
  | r + 1, c, h => by
    simp only [Builtin.growBy]
    split
    · exact h
    · refine grow_le n r _ ?_
      omega

theorem next_le {need cap : Nat} (h : cap < need) : Builtin.nextslicecap need cap ≤ 4 * need + 4000 := by
  unfold Builtin.nextslicecap
  split
  · omega
  · split
    · omega
    · have := grow_le need 4 cap (by omega)
      omega

theorem notInt_ok {d : TypeDesc} (h : notInt (some d) = true) : (match d with
    | .int _ => true
    | _ => false) = false := by
  cases d <;> first | rfl | cases h

/-- An append where there is room. -/
theorem append_room {ats : Array TypeId} {t elem : TypeId} {ty : TypeId} {i : TypeInfo} {base : Option Addr} {len cap n : Nat} {v : Value} {arr : Array Value} {w' : World} (ht : und P t = some (.slice elem)) (hi : info P elem = some i)
    (h0 : ats[0]? = some t) (h1 : ats[1]? = none ∨ ∃ u d, ats[1]? = some u ∧ und P u = some d ∧ notInt (some d) = true) (hn : (Builtin.lenOf v).run P w = .ok n w) (hf : (Builtin.firstCells i.size n v).run P w = .ok arr w) (hroom : len + n ≤ cap)
    (hst : ∀ a, base = some a → (storeCells (a.add (len * i.size)) arr.toList).run P w = .ok () w') (hnone : base = none → w' = w) :
    (Builtin.append_ ats ty #[.slice base len cap, v]).run P w = .ok (.slice base (len + n) cap) w' := by
  have hsize : (Go.sizeOf elem).run P w = .ok i.size w := by simp [Go.sizeOf, run_info hi]
  unfold Builtin.append_
  simp only [h0, List.getElem?_toArray, List.getElem?_cons_zero, List.getElem?_cons_succ]
  rw [Sem.run_bind, run_und ht]
  simp only [Result.andThen_ok]
  rw [Sem.run_bind, hsize]
  simp only [Result.andThen_ok]
  rcases h1 with h1 | ⟨u, d, h1, hu, hd⟩
  · simp only [h1]
    rw [Sem.run_bind]
    simp only [Sem.run_pure, Result.andThen_ok, Bool.false_eq_true, if_false]
    rw [Sem.run_bind, hn]
    simp only [Result.andThen_ok, Bool.not_false, if_true]
    rw [if_pos hroom, Sem.run_bind, hf]
    cases base with
    | none => obtain rfl := hnone rfl; rfl
    | some a => simp only [Result.andThen_ok]; rw [Sem.run_bind, hst a rfl]; rfl
  · simp only [h1]
    rw [Sem.run_bind, run_und hu]
    simp only [Result.andThen_ok]
    rw [Sem.run_bind]
    refine Eq.trans (congrArg (fun r : Result Bool => Result.andThen r _) (?_ : _ = Result.ok false w)) ?_
    · cases d <;> first | rfl | (cases hd; done)
    · simp only [Result.andThen_ok, Bool.false_eq_true, if_false]
      rw [Sem.run_bind, hn]
      simp only [Result.andThen_ok, Bool.not_false, if_true]
      rw [if_pos hroom, Sem.run_bind, hf]
      cases base with
      | none => obtain rfl := hnone rfl; rfl
      | some a => simp only [Result.andThen_ok]; rw [Sem.run_bind, hst a rfl]; rfl

/-- An append where there is none. -/
theorem append_grow {ats : Array TypeId} {t elem : TypeId} {ty : TypeId} {i : TypeInfo} {base : Option Addr} {len cap n : Nat} {v zv : Value} {arr old : Array Value} (ht : und P t = some (.slice elem)) (hi : info P elem = some i)
    (h0 : ats[0]? = some t) (h1 : ats[1]? = none ∨ ∃ u d, ats[1]? = some u ∧ und P u = some d ∧ notInt (some d) = true) (hn : (Builtin.lenOf v).run P w = .ok n w) (hf : ∀ w' : World, w'.heap = w.heap → (Builtin.firstCells i.size n v).run P w' = .ok arr w') (hroom : ¬ len + n ≤ cap)
    (hbig : roomy (len + n) i.bytes = true) (hz : i.zero = some zv) (hold : ∀ w' : World, w'.heap = w.heap → (Builtin.firstCells i.size len (.slice base len cap)).run P w' = .ok old w') :
    ∃ c, len + n ≤ c ∧ (Builtin.append_ ats ty #[.slice base len cap, v]).run P w = .ok (.slice (some ⟨w.heap.size, 0, none⟩) (len + n) c) (w.drew.alloc (.cells (old ++ arr ++ Builtin.zeroCells zv.cells (c - (len + n))) elem)) := by
  obtain ⟨c, hcut, hcn⟩ : ∃ c, (Question.appendCap (len + n) cap elem).cut (w.tape w.drawn (.appendCap (len + n) cap elem)) = c ∧ len + n ≤ c := ⟨_, rfl, by simp [Question.cut]⟩
  have hforced : Question.forced (.appendCap (len + n) cap elem) = false := rfl
  obtain ⟨hmax, hbig'⟩ : len + n ≤ maxText ∧ (4 * (len + n) + 4000) * i.bytes ≤ 281474976710656 := by simpa [roomy] using hbig
  have hc2 : ¬ Builtin.nextslicecap (len + n) cap * i.bytes > 2 ^ 48 := by
    have := Nat.mul_le_mul_right i.bytes (next_le (need := len + n) (cap := cap) (by omega))
    omega
  have hc1 : ¬ (((len + n : Nat) : Int) > IntKind.i64.max ∧ (False ∨ i.bytes = 0)) := by
    rintro ⟨h, _⟩
    have e : IntKind.i64.max = 9223372036854775807 := by decide
    rw [e] at h
    unfold maxText at hmax
    omega
  have hzr : ∀ w' : World, (zeroValue elem).run P w' = .ok zv w' := fun w' => by simp [zeroValue, run_info hi, hz]
  refine ⟨c, hcn, ?_⟩
  have hsize : (Go.sizeOf elem).run P w = .ok i.size w := by simp [Go.sizeOf, run_info hi]
  unfold Builtin.append_
  simp only [h0, List.getElem?_toArray, List.getElem?_cons_zero, List.getElem?_cons_succ]
  rw [Sem.run_bind, run_und ht]
  simp only [Result.andThen_ok]
  rw [Sem.run_bind, hsize]
  simp only [Result.andThen_ok]
  rcases h1 with h1 | ⟨u, d, h1, hu, hd⟩
  · simp only [h1]
    rw [Sem.run_bind]
    simp only [Sem.run_pure, Result.andThen_ok, Bool.false_eq_true, if_false]
    rw [Sem.run_bind, hn]
    simp only [Result.andThen_ok, Bool.not_false, if_true]
    rw [if_neg hroom, Sem.run_bind, run_info hi]
    simp only [Result.andThen_ok]
    rw [if_neg hc1, Sem.run_bind, run_info hi]
    simp only [Result.andThen_ok]
    rw [if_neg hc2, Sem.run_bind, run_choose]
    simp only [hforced, Bool.false_eq_true, if_false, Result.andThen_ok, hcut]
    rw [Sem.run_bind, run_info hi]
    simp only [Result.andThen_ok]
    rw [Sem.run_bind, run_askRoom]
    simp only [Result.andThen_ok]
    rw [Sem.run_bind, hold { heap := w.heap, tape := w.tape, drawn := w.drawn + 1, os := w.os, output := w.output } rfl]
    simp only [Result.andThen_ok]
    rw [Sem.run_bind, hf { heap := w.heap, tape := w.tape, drawn := w.drawn + 1, os := w.os, output := w.output } rfl]
    simp only [Result.andThen_ok]
    rw [Sem.run_bind, hzr]
    simp only [Result.andThen_ok]
    rfl
  · simp only [h1]
    rw [Sem.run_bind, run_und hu]
    simp only [Result.andThen_ok]
    rw [Sem.run_bind]
    refine Eq.trans (congrArg (fun r : Result Bool => Result.andThen r _) (?_ : _ = Result.ok false w)) ?_
    · cases d <;> first | rfl | (cases hd; done)
    · simp only [Result.andThen_ok, Bool.false_eq_true, if_false]
      rw [Sem.run_bind, hn]
      simp only [Result.andThen_ok, Bool.not_false, if_true]
      rw [if_neg hroom, Sem.run_bind, run_info hi]
      simp only [Result.andThen_ok]
      rw [if_neg hc1, Sem.run_bind, run_info hi]
      simp only [Result.andThen_ok]
      rw [if_neg hc2, Sem.run_bind, run_choose]
      simp only [hforced, Bool.false_eq_true, if_false, Result.andThen_ok, hcut]
      rw [Sem.run_bind, run_info hi]
      simp only [Result.andThen_ok]
      rw [Sem.run_bind, run_askRoom]
      simp only [Result.andThen_ok]
      rw [Sem.run_bind, hold { heap := w.heap, tape := w.tape, drawn := w.drawn + 1, os := w.os, output := w.output } rfl]
      simp only [Result.andThen_ok]
      rw [Sem.run_bind, hf { heap := w.heap, tape := w.tape, drawn := w.drawn + 1, os := w.os, output := w.output } rfl]
      simp only [Result.andThen_ok]
      rw [Sem.run_bind, hzr]
      simp only [Result.andThen_ok]
      rfl

end Go.Ev
