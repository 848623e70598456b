/- An abstract evaluator over the model: the operations that look at memory are right (2). -/
import Derived.Test.YtcjcchidfinohaaGreatEv11
namespace Go.Ev
variable {P : Program} {ρ : Pm} {g : Nat} {s : St} {w : World} {e : Operand → Value} {lk : Lk} {o : Oper}

/-- What a search in the abstract list says of the model's list. -/
def FoundR (ρ : Pm) (es : List AE) (es' : List MapEntry) (i : Nat) (r : Option (Nat × AE)) (x : Option (Nat × Value)) : Prop := match r with
  | none => x = none
  | some (j, a) => ∃ b, x = some (j, b.val) ∧ i ≤ j ∧ es[j - i]? = some a ∧ es'[j - i]? = some b ∧ VR ρ a.key b.key ∧ VR ρ a.val b.val ∧ b.born = a.born

theorem FoundR.step {a : AE} {b : MapEntry} {es : List AE} {es' : List MapEntry} {i : Nat} {r : Option (Nat × AE)} {x : Option (Nat × Value)} (h : FoundR ρ es es' (i + 1) r x) : FoundR ρ (a :: es) (b :: es') i r x := by
  cases r with
  | none => exact h
  | some q =>
    obtain ⟨j, q⟩ := q
    obtain ⟨b', h1, h2, h3, h4, h5⟩ := h
    have e : j - i = (j - (i + 1)) + 1 := by omega
    exact ⟨b', h1, by omega, by rw [e]; simpa using h3, by rw [e]; simpa using h4, h5⟩

theorem sameNow_ok {t : TypeId} {d : TypeDesc} {x y : AV} {u v : Value} {b : Bool} (ht : und P t = some d) (h : eqv P 20 t x y = some b) (hu : VR ρ x u) (hv : VR ρ y v) :
    Instr.sameNow d u v = some b ∨ Instr.sameNow d u v = none := by
  cases x with
  | bool a =>
    simp only [eqv, eqvB, ht] at h
    split at h
    · rename_i _ _ hd
      obtain rfl := Option.some.inj hd
      obtain rfl := Option.some.inj h
      obtain rfl := hu
      obtain rfl := hv
      exact .inl rfl
    · cases h
  | int k a =>
    simp only [eqv, eqvI, ht] at h
    split at h
    · rename_i hd
      obtain rfl := Option.some.inj hd
      split at h
      · rename_i hk
        obtain rfl := (kindEq_iff _ _).1 hk
        obtain rfl := Option.some.inj h
        obtain rfl := hu
        obtain rfl := hv
        exact .inl (by simp [Instr.sameNow, ieq_eq])
      · cases h
    · cases h
  | str a =>
    simp only [eqv, eqvS, ht] at h
    split at h
    · rename_i hd
      obtain rfl := Option.some.inj hd
      obtain rfl := Option.some.inj h
      obtain rfl := hu
      obtain rfl := hv
      refine .inl ?_
      simp only [Instr.sameNow, bytesEq_eq]
      congr 1
      rw [Bool.eq_iff_iff, MapKept.bytes_beq, beq_iff_eq]
      constructor
      · intro e
        have := congrArg (fun s : ByteArray => s.data.toList) e
        simpa using this
      · intro e
        rw [e]
    · cases h
  | agg l => obtain ⟨us, rfl, _⟩ := hu; exact .inr (by cases d <;> rfl)
  | tuple l => obtain ⟨us, rfl, _⟩ := hu; exact .inr (by cases d <;> rfl)
  | fn f p q => obtain ⟨_, _, rfl, _⟩ := hu; exact .inr (by cases d <;> rfl)
  | iface t a => obtain ⟨_, rfl, _⟩ := hu; exact .inr (by cases d <;> rfl)
  | ptr l o => obtain ⟨_, _, rfl⟩ := hu; exact .inr (by cases d <;> rfl)
  | slice l o n c s e => obtain ⟨_, _, _, _, rfl, _⟩ := hu; exact .inr (by cases d <;> rfl)
  | map l => obtain ⟨_, _, rfl⟩ := hu; exact .inr (by cases d <;> rfl)
  | _ => unfold VR at hu; subst hu; exact .inr (by cases d <;> rfl)

theorem findNow_ok {t : TypeId} {d : TypeDesc} {k : AV} {u : Value} (ht : und P t = some d) (hu : VR ρ k u) : ∀ {es : List AE} {es' : List MapEntry} {i : Nat} {r : Option (Nat × AE)}, ERs ρ es es' →
    find (eqv P 20 t k) es i = some r → Instr.findNow d u es' i = none ∨ ∃ x, Instr.findNow d u es' i = some x ∧ FoundR ρ es es' i r x
  | [], es', i, r, he, h => by
    obtain rfl := Option.some.inj h
    obtain rfl : es' = [] := he
    exact .inr ⟨none, rfl, rfl⟩
  | a :: es, es', i, r, he, h => by
    obtain ⟨b, q, rfl, ⟨hk, hv, hb⟩, he⟩ := he
    simp only [find] at h
    simp only [Instr.findNow]
    split at h
    · rename_i heq
      obtain rfl := Option.some.inj h
      rcases sameNow_ok ht heq hu hk with hn | hn
      · rw [hn]
        exact .inr ⟨_, rfl, b, rfl, Nat.le_refl _, by simp, by simp, hk, hv, hb⟩
      · rw [hn]
        exact .inl rfl
    · rename_i heq
      rcases sameNow_ok ht heq hu hk with hn | hn
      · rw [hn]
        rcases findNow_ok ht hu he h with h' | ⟨x, h1, h2⟩
        · exact .inl h'
        · exact .inr ⟨x, h1, h2.step⟩
      · rw [hn]
        exact .inl rfl
    · cases h

theorem findAsking_ok {t : TypeId} {k : AV} {u : Value} (hu : VR ρ k u) : ∀ {es : List AE} {es' : List MapEntry} {i : Nat} {r : Option (Nat × AE)}, ERs ρ es es' →
    find (eqv P 20 t k) es i = some r → ∃ x, (Instr.findAsking t u es' i).run P w = .ok x w ∧ FoundR ρ es es' i r x
  | [], es', i, r, he, h => by
    obtain rfl := Option.some.inj h
    obtain rfl : es' = [] := he
    exact ⟨none, rfl, rfl⟩
  | a :: es, es', i, r, he, h => by
    obtain ⟨b, q, rfl, ⟨hk, hv, hb⟩, he⟩ := he
    simp only [find] at h
    split at h
    · rename_i heq
      obtain rfl := Option.some.inj h
      have := equal_ok (w := w) heq hu hk
      exact ⟨some (i, b.val), by simp [Instr.findAsking, this], b, rfl, Nat.le_refl _, by simp, by simp, hk, hv, hb⟩
    · rename_i heq
      have := equal_ok (w := w) heq hu hk
      obtain ⟨x, h1, h2⟩ := findAsking_ok hu he h
      exact ⟨x, by simp [Instr.findAsking, this, h1], h2.step⟩
    · cases h

theorem findKey_ok {t : TypeId} {d : TypeDesc} {k : AV} {u : Value} {es : List AE} {es' : List MapEntry} {r : Option (Nat × AE)} (ht : und P t = some d) (hu : VR ρ k u) (he : ERs ρ es es')
    (h : find (eqv P 20 t k) es 0 = some r) : ∃ x, (Instr.findKey t u es').run P w = .ok x w ∧ FoundR ρ es es' 0 r x := by
  rcases findNow_ok ht hu he h with h' | ⟨x, h1, h2⟩
  · obtain ⟨x, h1, h2⟩ := findAsking_ok (P := P) (w := w) hu he h
    exact ⟨x, by simp [Instr.findKey, run_und ht, h', h1], h2⟩
  · exact ⟨x, by simp [Instr.findKey, run_und ht, h1], h2⟩

theorem chk_und {d : Nat} {t : TypeId} {v : AV} (h : chk P d t v = true) : ∃ x, und P t = some x := by
  cases d with
  | zero => cases h
  | succ d =>
    simp only [chk] at h
    cases ht : und P t with
    | none => rw [ht] at h; cases h
    | some x => exact ⟨x, rfl⟩

/-- A map's entries as the model has them. -/
theorem map_ok {x : AV} {v : Value} {es : List AE} (hs : Sim ρ g s w.heap) (hx : VR ρ x v) (h : mapOf s x = some es) :
    (v = .map none ∧ es = []) ∨ ∃ l p k es', x = .map l ∧ ρ l = some p ∧ s.look l = some (.map es k) ∧ v = .map (some p.b) ∧ w.heap[p.b]? = some (.map es' k) ∧ ERs ρ es es'.toList := by
  unfold mapOf at h
  split at h
  · rename_i l
    obtain ⟨p, hp, hv⟩ := hx
    unfold mapO' at h
    split at h
    · rename_i es0 k hl
      obtain rfl := Option.some.inj h
      obtain ⟨p', ob, hp', hh, es', rfl, he⟩ := hs.obj _ _ hl
      obtain rfl := Option.some.inj (hp.symm.trans hp')
      exact .inr ⟨l, p, k, es', rfl, hp, hl, hv, hh, he⟩
    · cases h
  · obtain rfl := Option.some.inj h
    exact .inl ⟨hx, rfl⟩
  · cases h

theorem ERs.length {es : List AE} : ∀ {es' : List MapEntry}, ERs ρ es es' → es'.length = es.length := by
  induction es with
  | nil => intro es' h; obtain rfl : es' = [] := h; rfl
  | cons a es ih => intro es' h; obtain ⟨b, q, rfl, _, h⟩ := h; simp [ih h]

theorem lookup_ok {t : TypeId} {m k : Operand} {ok : Bool} {r : AV} (hs : Sim ρ g s w.heap) (ho : o.op = .lookup t m k ok) (hl : Lks ρ lk e) (h : lookR P t ok s (lk m) (lk k) = some r) :
    NO P w ρ e o r := by
  unfold lookR at h
  split at h
  · rename_i kt et ht
    split at h
    · rename_i ma hm
      split at h
      · rename_i ka hk
        split at h
        · rename_i es hes
          split at h
          · rename_i hc
            have hu := hl _ _ hk
            obtain ⟨d, hd⟩ := chk_und hc
            refine no_of (m := Instr.lookup t (e m) (e k) ok) ?_ (by simp only [execOp, ho])
            have fin : ∀ (es' : Array MapEntry), ERs ρ es es'.toList → ∃ v q, ((do
                let (v, ok') ← match ← Instr.findKey kt (e k) es'.toList with
                  | some (_, v) => pure (v, true)
                  | none => pure (← zeroValue et, false)
                pure (if ok = true then Value.tuple #[v, .bool ok'] else v)) : Sem Value).run P w = .ok v w ∧ q = r ∧ VR ρ q v := by
              intro es' he
              unfold found at h
              split at h
              · rename_i j a hf
                obtain ⟨x, hx, b, rfl, _, _, _, _, hval, _⟩ := findKey_ok (P := P) (w := w) hd hu he hf
                split at h
                · obtain rfl := Option.some.inj h
                  exact ⟨.tuple #[b.val, .bool true], _, by simp [hx], rfl, _, rfl, b.val, [.bool true], rfl, hval, .bool true, [], rfl, rfl, rfl⟩
                · obtain rfl := Option.some.inj h
                  exact ⟨b.val, _, by simp [hx], rfl, hval⟩
              · rename_i hf
                obtain ⟨x, hx, hn⟩ := findKey_ok (P := P) (w := w) hd hu he hf
                obtain rfl : x = none := hn
                split at h
                · rename_i z hz
                  obtain ⟨zv, hzr, hzv⟩ := run_zero (P := P) (w := w) (ρ := ρ) hz
                  split at h
                  · obtain rfl := Option.some.inj h
                    exact ⟨.tuple #[zv, .bool false], _, by simp [hx, hzr], rfl, _, rfl, zv, [.bool false], rfl, hzv, .bool false, [], rfl, rfl, rfl⟩
                  · obtain rfl := Option.some.inj h
                    exact ⟨zv, _, by simp [hx, hzr], rfl, hzv⟩
                · cases h
              · cases h
            rcases map_ok hs (hl _ _ hm) hes with ⟨hv, rfl⟩ | ⟨l, p, kk, es', _, hp, _, hv, hh, he⟩
            · obtain ⟨v, q, h1, rfl, h2⟩ := fin #[] rfl
              refine ⟨v, ?_, h2⟩
              rw [← h1, hv]
              have hck := chk_ok (P := P) (w := w) (em := true) (D := 9980) 20 hc hu
              simp [Instr.lookup, run_und ht, hck]
              rfl
            · obtain ⟨v, q, h1, rfl, h2⟩ := fin es' he
              refine ⟨v, ?_, h2⟩
              rw [← h1, hv]
              have hck := chk_ok (P := P) (w := w) (em := es'.isEmpty) (D := 9980) 20 hc hu
              simp [Instr.lookup, run_und ht, getObj, Sem.run, hh, hck]
              rfl
          · cases h
        · cases h
      · cases h
    · cases h
  · cases h

end Go.Ev
