/- An abstract evaluator over the model: the operations that look at memory are right. -/
import Derived.Test.YtcjcchidfinohaaGreatEv10
namespace Go.Ev
variable {P : Program} {ρ : Pm} {g : Nat} {s : St} {w : World} {e : Operand → Value} {lk : Lk} {o : Oper}

theorem row_ok {l : Nat} {r : List AV} (hs : Sim ρ g s w.heap) (h : rowOf s l = some r) :
    ∃ p c t fr, ρ l = some p ∧ w.heap[p.b]? = some (.cells c t fr) ∧ c.size = p.n ∧ CellsR ρ p r c := by
  unfold rowOf rowO at h
  split at h
  · rename_i r' hr
    obtain rfl := Option.some.inj h
    obtain ⟨p, ob, hp, hh, c, t, fr, rfl, h1, _, h2⟩ := hs.obj _ _ hr
    exact ⟨p, c, t, fr, hp, hh, h1, h2⟩
  · rename_i r' hr
    obtain rfl := Option.some.inj h
    obtain ⟨p, ob, hp, hh, c, t, fr, rfl, h1, h2⟩ := hs.obj _ _ hr
    exact ⟨p, c, t, fr, hp, hh, h1, h2⟩
  · rename_i r' hr
    obtain rfl := Option.some.inj h
    obtain ⟨p, ob, hp, hh, c, t, fr, rfl, h1, h2⟩ := hs.obj _ _ hr
    exact ⟨p, c, t, fr, hp, hh, h1, h2⟩
  · cases h

theorem sub_nth : ∀ {l : List AV} {o n : Nat} {r : List AV}, sub l o n = some r → r.length = n ∧ ∀ j, j < n → nth r j = nth l (o + j)
  | l, 0, 0, r, h => by
    have : r = [] := by cases l <;> exact (Option.some.inj h).symm
    subst this
    exact ⟨rfl, fun j hj => absurd hj (Nat.not_lt_zero _)⟩
  | [], 0, n + 1, r, h => by cases h
  | [], o + 1, n, r, h => by cases h
  | a :: l, 0, n + 1, r, h => by
    simp only [sub] at h
    cases hs : sub l 0 n with
    | none => rw [hs] at h; cases h
    | some r' =>
      rw [hs] at h
      obtain rfl := Option.some.inj h
      obtain ⟨h1, h2⟩ := sub_nth hs
      refine ⟨by simp [h1], fun j hj => ?_⟩
      cases j with
      | zero => rfl
      | succ j =>
        have := h2 j (by omega)
        simp only [Nat.zero_add] at this ⊢
        simpa [nth] using this
  | a :: l, o + 1, n, r, h => by
    have h' : sub l o n = some r := by cases n <;> exact h
    obtain ⟨h1, h2⟩ := sub_nth h'
    refine ⟨h1, fun j hj => ?_⟩
    rw [h2 j hj]
    have : o + 1 + j = (o + j) + 1 := by omega
    rw [this]
    rfl

theorem cells_sub {p : Pl} {r l : List AV} {c : Array Value} {off n : Nat} (hc : CellsR ρ p r c) (h : sub r off n = some l) :
    (n = 0 ∨ p.o + off + n ≤ c.size) ∧ VRs ρ l ((c.toList.drop (p.o + off)).take n) := by
  obtain ⟨h1, h2⟩ := sub_nth h
  have hb : n = 0 ∨ p.o + off + n ≤ c.size := by
    cases n with
    | zero => exact .inl rfl
    | succ n =>
      right
      have := h2 n (Nat.lt_succ_self _)
      have hlt : n < l.length := by omega
      have hn : nth l n = some l[n] := by rw [nth_eq]; exact List.getElem?_eq_getElem hlt
      rw [hn] at this
      obtain ⟨v, hv, _⟩ := hc _ _ this.symm
      have := (Array.getElem?_eq_some_iff.1 hv).1
      omega
  refine ⟨hb, VRs.of_nth ?_ (fun i a e => ?_)⟩
  · rw [List.length_take, List.length_drop, h1, Array.length_toList]
    omega
  · have hi : i < n := by
      rw [nth_eq] at e
      have := (List.getElem?_eq_some_iff.1 e).1
      omega
    rw [h2 i hi] at e
    obtain ⟨v, hv, hr⟩ := hc _ _ e
    refine ⟨v, ?_, hr⟩
    rw [List.getElem?_take_of_lt hi, List.getElem?_drop, Array.getElem?_toList, Nat.add_assoc]
    exact hv

theorem cell_of {b o : Nat} {c : Array Value} {t : TypeId} {fr : Nat × Nat} (h : w.heap[b]? = some (.cells c t fr)) : w.cell? ⟨b, o, none⟩ = c[o]? := by
  simp [World.cell?, h]

theorem loadFrom_ok {b o : Nat} {c : Array Value} {t : TypeId} {fr : Nat × Nat} (h : w.heap[b]? = some (.cells c t fr)) : ∀ (n i : Nat) (acc : Array Value), (n = 0 ∨ o + i + n ≤ c.size) →
    (loadCellsFrom ⟨b, o, none⟩ i n acc).run P w = .ok (acc ++ ((c.toList.drop (o + i)).take n).toArray) w
  | 0, i, acc, _ => by simp [loadCellsFrom]
  | n + 1, i, acc, hn => by
    have hlt : o + i < c.size := by omega
    have hc : w.cell? ((⟨b, o, none⟩ : Addr).add i) = some c[o + i] := by
      rw [addr_add, cell_of h]
      exact Array.getElem?_eq_getElem hlt
    have ih : (loadCellsFrom ⟨b, o, none⟩ (i + 1) n (acc.push c[o + i])).run P w = .ok (acc.push c[o + i] ++ ((c.toList.drop (o + (i + 1))).take n).toArray) w := loadFrom_ok h n (i + 1) _ (by omega)
    simp only [loadCellsFrom, Sem.run_bind, run_load, hc, Result.andThen_ok, ih]
    congr 1
    have e : c.toList.drop (o + i) = c[o + i] :: c.toList.drop (o + (i + 1)) := by
      rw [List.drop_eq_getElem_cons (by simpa using hlt)]
      rfl
    rw [e, List.take_succ_cons]
    apply Array.ext'
    simp

theorem loadCells_ok {b o n : Nat} {c : Array Value} {t : TypeId} {fr : Nat × Nat} (h : w.heap[b]? = some (.cells c t fr)) (hn : n = 0 ∨ o + n ≤ c.size) :
    (loadCells ⟨b, o, none⟩ n).run P w = .ok ((c.toList.drop o).take n).toArray w := by
  have := loadFrom_ok (P := P) h n 0 #[] (by omega)
  simpa [loadCells] using this

theorem loadVar_ok {t : TypeId} {p : Pl} {r : List AV} {off : Nat} {c : Array Value} {t' : TypeId} {fr : Nat × Nat} {a : AV} (hh : w.heap[p.b]? = some (.cells c t' fr)) (hc : CellsR ρ p r c)
    (h : part P t r off = some a) : PO P w ρ (loadVar t ⟨p.b, p.o + off, none⟩) a := by
  unfold part at h
  split at h
  · rename_i ha
    split at h
    · rename_i n hn
      obtain ⟨l, hl, rfl⟩ := aggO_ok h
      obtain ⟨h1, h2⟩ := cells_sub hc hl
      refine ⟨.agg ((c.toList.drop (p.o + off)).take n).toArray, ?_, _, rfl, by simpa using h2⟩
      simp [loadVar, run_isAgg ha, run_size hn, loadCells_ok hh h1]
    · cases h
  · rename_i ha
    obtain ⟨v, hv, hr⟩ := hc _ _ h
    refine ⟨v, ?_, hr⟩
    have : w.cell? ⟨p.b, p.o + off, none⟩ = some v := by rw [cell_of hh]; exact hv
    simp [loadVar, run_isAgg ha, this]
  · cases h

theorem load_ok {t : TypeId} {x : Operand} {r : AV} (hs : Sim ρ g s w.heap) (ho : o.op = .load t x) (hl : Lks ρ lk e) (h : loadR P t s (lk x) = some r) : NO P w ρ e o r := by
  unfold loadR at h
  split at h
  · rename_i l off hx
    obtain ⟨p, hp, hv⟩ := (hl _ _ hx).ptr_inv
    split at h
    · rename_i row hr
      obtain ⟨p', c, t', fr, hp', hh, hsz, hc⟩ := row_ok hs hr
      obtain rfl := Option.some.inj (hp.symm.trans hp')
      refine no_of (m := Instr.loadAt t (e x)) ?_ (by simp only [execOp, ho])
      rw [hv]
      obtain ⟨v, hv', hr'⟩ := loadVar_ok (P := P) (w := w) hh hc h
      exact ⟨v, by simp [Instr.loadAt, Instr.sureAddr, hv'], hr'⟩
    · cases h
  · cases h

theorem chkA_ok {c : AV → Bool} {elem : TypeId} {n d : Nat} {cs : List AV} {us : Array Value} {em : Bool} (hcs : VRs ρ cs us.toList)
    (hn : size P elem = some n) (hc : ∀ v u, c v = true → VR ρ v u → (Instr.checkKey em d elem u).run P w = .ok () w) : ∀ (k i : Nat), chkA P c elem n cs k i = true →
    Sem.run P (forIn (List.range' i k) PUnit.unit fun i _ => do
      let m ← Go.sizeOf elem
      let x ← Go.part elem us (i * m)
      (fun _ => ForInStep.yield PUnit.unit) <$> Instr.checkKey em d elem x) w = .ok PUnit.unit w
  | 0, i, _ => by simp
  | k + 1, i, h => by
    simp only [chkA] at h
    split at h
    · rename_i v hv
      have h1 : c v = true := by cases hcv : c v <;> simp_all
      have h2 : chkA P c elem n cs k (i + 1) = true := by cases hcv : chkA P c elem n cs k (i + 1) <;> simp_all
      obtain ⟨u, hu, hr⟩ := part_ok (w := w) (show part P elem cs (i * n) = some v from hv) hcs
      rw [List.range'_succ, List.forIn_cons]
      simp [run_size hn, hu, hc v u h1 hr]
      simpa using chkA_ok hcs hn hc k (i + 1) h2
    · cases h

theorem chkF_ok {c : TypeId → AV → Bool} {d : Nat} {cs : List AV} {us : Array Value} {em : Bool} (hcs : VRs ρ cs us.toList)
    (hc : ∀ t v u, c t v = true → VR ρ v u → (Instr.checkKey em d t u).run P w = .ok () w) : ∀ (l : List Field), chkF P c cs l = true →
    Sem.run P (forIn l PUnit.unit fun f _ => if f.name = "_" then pure (ForInStep.yield PUnit.unit) else do
      let x ← Go.part f.type us f.offset
      (fun _ => ForInStep.yield PUnit.unit) <$> Instr.checkKey em d f.type x) w = .ok PUnit.unit w
  | [], _ => by simp
  | f :: l, h => by
    simp only [chkF] at h
    rw [List.forIn_cons]
    by_cases hn : f.name = "_"
    · have e : (f.name != "_") = false := by simp [hn]
      rw [e] at h
      simp only [hn, if_true]
      simpa using chkF_ok hcs hc l h
    · have e : (f.name != "_") = true := by simp [hn]
      rw [e] at h
      simp only [hn, if_false]
      simp only at h
      split at h
      · rename_i v hv
        have h1 : c f.type v = true := by cases hcv : c f.type v <;> simp_all
        have h2 : chkF P c cs l = true := by cases hcv : chkF P c cs l <;> simp_all
        obtain ⟨u, hu, hr⟩ := part_ok (w := w) hv hcs
        simp [hu, hc _ v u h1 hr]
        simpa using chkF_ok hcs hc l h2
      · cases h

theorem chk_ok {em : Bool} {D : Nat} : ∀ (d : Nat) {t : TypeId} {v : AV} {u : Value}, chk P d t v = true → VR ρ v u → (Instr.checkKey em (D + d) t u).run P w = .ok () w := by
  intro d
  induction d with
  | zero => intro t v u h; cases h
  | succ d ih =>
    intro t v u h hv
    simp only [chk] at h
    unfold chkC at h
    show (Instr.checkKey em (D + d + 1) t u).run P w = .ok () w
    split at h
    · rename_i len elem ht
      split at h
      · rename_i cs
        obtain ⟨us, rfl, hcs⟩ := hv
        split at h
        · rename_i n hn
          have := chkA_ok (P := P) (w := w) (em := em) (d := D + d) hcs hn (fun v u a b => ih a b) _ _ h
          simp [Instr.checkKey, run_und ht]
          exact this
        · cases h
      · cases h
    · rename_i fields ht
      split at h
      · rename_i cs
        obtain ⟨us, rfl, hcs⟩ := hv
        have := chkF_ok (P := P) (w := w) (em := em) (d := D + d) hcs (fun t v u a b => ih a b) _ h
        rw [Array.forIn_toList] at this
        simp [Instr.checkKey, run_und ht]
        exact this
      · cases h
    all_goals first
      | (rename_i ht; simp only [Instr.checkKey, Sem.run_bind, run_und ht, Result.andThen_ok]; cases u <;> rfl)
      | cases h

end Go.Ev
