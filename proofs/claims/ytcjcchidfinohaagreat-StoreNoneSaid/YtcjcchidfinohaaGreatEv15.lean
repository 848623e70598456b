/- An abstract evaluator over the model: changes of memory. -/
import Derived.Test.YtcjcchidfinohaaGreatEv14
namespace Go.Ev
variable {P : Program} {ρ : Pm} {g : Nat} {s : St} {w : World} {e : Operand → Value} {lk : Lk} {o : Oper}

theorem look_put (s : St) (l l' : Nat) (ob : AObj) : (s.put l ob).look l' = if l' = l then some ob else s.look l' := by
  unfold St.look St.put
  by_cases h : l' = l
  · subst h; rw [if_pos rfl, T.get_set_same]
  · rw [if_neg h, T.get_set_ne _ (key_ne (fun e => h e.symm))]
theorem look_add (s : St) (l' : Nat) (ob : AObj) : (s.add ob).look l' = if l' = s.nx then some ob else s.look l' := by
  unfold St.look St.add
  by_cases h : l' = s.nx
  · subst h; rw [if_pos rfl, T.get_set_same]
  · rw [if_neg h, T.get_set_ne _ (key_ne (fun e => h e.symm))]
theorem look_kill (s : St) (l l' : Nat) : (s.kill l).look l' = if l' = l then none else s.look l' := by
  unfold St.look St.kill
  by_cases h : l' = l
  · subst h; rw [if_pos rfl, T.get_set_same]
  · rw [if_neg h, T.get_set_ne _ (key_ne (fun e => h e.symm))]

/-- One place more. -/
def Pm.upd (ρ : Pm) (l : Nat) (p : Pl) : Pm := fun k => if k = l then some p else ρ k
theorem Pm.upd_same (ρ : Pm) (l : Nat) (p : Pl) : ρ.upd l p l = some p := if_pos rfl
theorem Pm.upd_ne {ρ : Pm} {l k : Nat} {p : Pl} (h : k ≠ l) : ρ.upd l p k = ρ k := if_neg h
theorem Pm.le_upd {ρ : Pm} {l : Nat} {p : Pl} (h : ρ l = none) : ρ.le (ρ.upd l p) := fun k q e => by
  rw [Pm.upd_ne]; exact e
  intro hk; rw [hk, h] at e; cases e

theorem Sim.lt {h : Array Obj} (hs : Sim ρ g s h) {l : Nat} {ob : AObj} {p : Pl} (hl : s.look l = some ob) (hp : ρ l = some p) : p.b < h.size := by
  obtain ⟨p', o, hp', hh, _⟩ := hs.obj l ob hl
  obtain rfl := Option.some.inj (hp.symm.trans hp')
  exact (Array.getElem?_eq_some_iff.1 hh).1

theorem Sim.lt_nx {h : Array Obj} (hs : Sim ρ g s h) {l : Nat} {p : Pl} (hp : ρ l = some p) : l < s.nx := by
  rcases Nat.lt_or_ge l s.nx with h | h
  · exact h
  · rw [hs.fresh l h] at hp; cases hp

theorem Sim.glob_lt {h : Array Obj} (hs : Sim ρ g s h) {i : Nat} (hi : i < g) : i < s.nx := by
  obtain ⟨n, hn⟩ := hs.glob i hi
  exact hs.lt_nx hn

/-- A block turns, and nothing else. -/
theorem sim_put {h h' : Array Obj} {l : Nat} {ob ob' : AObj} {p : Pl} {x : Obj} (hs : Sim ρ g s h) (hl : s.look l = some ob) (hown : ob.owned = true) (hown' : ob'.owned = true) (hp : ρ l = some p)
    (hsz : h'.size = h.size) (hb : h'[p.b]? = some x) (hx : ObjR ρ p ob' x) (hother : ∀ b : Nat, b ≠ p.b → h'[b]? = h[b]?) :
    Sim ρ g (s.put l ob') h' ∧ Ste ρ s h ρ (s.put l ob') h' := by
  refine ⟨⟨fun l' ob1 h1 => ?_, fun l1 l2 ob1 ob2 p1 p2 h1 h2 h3 h4 h5 h6 => ?_, hs.fresh, hs.glob⟩, ⟨Nat.le_refl _, fun _ _ => rfl, by omega, fun b hb' hf => ?_, fun l1 ob1 p1 h1 h3 => ?_⟩⟩
  · rw [look_put] at h1
    by_cases e1 : l' = l
    · subst e1
      rw [if_pos rfl] at h1
      obtain rfl := Option.some.inj h1
      exact ⟨p, x, hp, hb, hx⟩
    · rw [if_neg e1] at h1
      obtain ⟨p1, o1, hp1, hh1, hr1⟩ := hs.obj _ _ h1
      refine ⟨p1, o1, hp1, ?_, hr1⟩
      rw [hother _ (fun e => hs.sep l l' ob ob1 p p1 hl h1 hown (fun e => e1 e.symm) hp hp1 e.symm)]
      exact hh1
  · rw [look_put] at h1 h2
    by_cases e1 : l1 = l
    · rw [if_pos e1] at h1
      subst e1
      rw [if_neg (fun e => h4 e.symm)] at h2
      exact hs.sep l1 l2 ob ob2 p1 p2 hl h2 hown h4 h5 h6
    · rw [if_neg e1] at h1
      by_cases e2 : l2 = l
      · subst e2
        exact hs.sep l1 l2 ob1 ob p1 p2 h1 hl h3 h4 h5 h6
      · rw [if_neg e2] at h2
        exact hs.sep l1 l2 ob1 ob2 p1 p2 h1 h2 h3 h4 h5 h6
  · exact hother b (fun e => hf l ob p hl hown hp e.symm)
  · rw [look_put] at h1
    by_cases e1 : l1 = l
    · subst e1
      obtain rfl := Option.some.inj (hp.symm.trans h3)
      exact .inr ⟨l1, ob, p, hl, fun _ => hown, hp, rfl⟩
    · rw [if_neg e1] at h1
      exact .inr ⟨l1, ob1, p1, h1, id, h3, rfl⟩

/-- A block more. -/
theorem sim_add {h : Array Obj} {ob : AObj} {x : Obj} {n : Nat} (hs : Sim ρ g s h) (hx : ObjR (ρ.upd s.nx ⟨h.size, 0, n⟩) ⟨h.size, 0, n⟩ ob x) :
    Sim (ρ.upd s.nx ⟨h.size, 0, n⟩) g (s.add ob) (h.push x) ∧ Ste ρ s h (ρ.upd s.nx ⟨h.size, 0, n⟩) (s.add ob) (h.push x) := by
  have hle : ρ.le (ρ.upd s.nx ⟨h.size, 0, n⟩) := Pm.le_upd (hs.fresh _ (Nat.le_refl _))
  have hne : ∀ {l p}, ρ l = some p → l ≠ s.nx := fun hp e => by have := hs.lt_nx hp; omega
  have hold : ∀ l, (ρ.upd s.nx ⟨h.size, 0, n⟩) l = ρ l ∨ l = s.nx := fun l => by
    by_cases e : l = s.nx
    · exact .inr e
    · exact .inl (Pm.upd_ne e)
  have hpush : ∀ b : Nat, b < h.size → (h.push x)[b]? = h[b]? := fun b hb => by rw [Array.getElem?_push, if_neg (by omega)]
  refine ⟨⟨fun l ob1 h1 => ?_, fun l1 l2 ob1 ob2 p1 p2 h1 h2 h3 h4 h5 h6 => ?_, fun l hl => ?_, fun i hi => ?_⟩, ⟨Nat.le_succ _, fun l hl => Pm.upd_ne (by omega), by simp, fun b hb _ => hpush b hb, fun l ob1 p1 h1 h3 => ?_⟩⟩
  · rw [look_add] at h1
    by_cases e1 : l = s.nx
    · rw [if_pos e1] at h1
      obtain rfl := Option.some.inj h1
      subst e1
      exact ⟨_, x, Pm.upd_same _ _ _, by simp, hx⟩
    · rw [if_neg e1] at h1
      obtain ⟨p1, o1, hp1, hh1, hr1⟩ := hs.obj _ _ h1
      exact ⟨p1, o1, hle _ _ hp1, by rw [hpush _ (hs.lt h1 hp1)]; exact hh1, hr1.mono hle⟩
  · rw [look_add] at h1 h2
    by_cases e1 : l1 = s.nx
    · subst e1
      rw [Pm.upd_same] at h5
      obtain rfl := Option.some.inj h5
      rw [if_neg (fun e => h4 e.symm)] at h2
      rw [Pm.upd_ne (fun e => h4 e.symm)] at h6
      have := hs.lt h2 h6
      simp only
      omega
    · rw [if_neg e1] at h1
      rw [Pm.upd_ne e1] at h5
      by_cases e2 : l2 = s.nx
      · subst e2
        rw [Pm.upd_same] at h6
        obtain rfl := Option.some.inj h6
        have := hs.lt h1 h5
        simp only
        omega
      · rw [if_neg e2] at h2
        rw [Pm.upd_ne e2] at h6
        exact hs.sep l1 l2 ob1 ob2 p1 p2 h1 h2 h3 h4 h5 h6
  · have hl : s.nx + 1 ≤ l := hl
    rw [Pm.upd_ne (by omega)]
    exact hs.fresh l (by omega)
  · obtain ⟨m, hm⟩ := hs.glob i hi
    exact ⟨m, hle _ _ hm⟩
  · rw [look_add] at h1
    by_cases e1 : l = s.nx
    · subst e1
      rw [Pm.upd_same] at h3
      obtain rfl := Option.some.inj h3
      exact .inl (Nat.le_refl _)
    · rw [if_neg e1] at h1
      rw [Pm.upd_ne e1] at h3
      exact .inr ⟨l, ob1, p1, h1, id, h3, rfl⟩

/-- A block under another name. -/
theorem sim_move {h h' : Array Obj} {l : Nat} {ob ob' : AObj} {p q : Pl} {x : Obj} (hs : Sim ρ g s h) (hl : s.look l = some ob) (hown : ob.owned = true) (hp : ρ l = some p) (hq : q.b = p.b)
    (hsz : h'.size = h.size) (hb : h'[p.b]? = some x) (hx : ObjR (ρ.upd s.nx q) q ob' x) (hother : ∀ b : Nat, b ≠ p.b → h'[b]? = h[b]?) :
    Sim (ρ.upd s.nx q) g ((s.kill l).add ob') h' ∧ Ste ρ s h (ρ.upd s.nx q) ((s.kill l).add ob') h' := by
  have hle : ρ.le (ρ.upd s.nx q) := Pm.le_upd (hs.fresh _ (Nat.le_refl _))
  have hnx : (s.kill l).nx = s.nx := rfl
  have look : ∀ l', ((s.kill l).add ob').look l' = if l' = s.nx then some ob' else if l' = l then none else s.look l' := fun l' => by
    rw [look_add, look_kill, hnx]
  refine ⟨⟨fun l' ob1 h1 => ?_, fun l1 l2 ob1 ob2 p1 p2 h1 h2 h3 h4 h5 h6 => ?_, fun l' hl' => ?_, fun i hi => ?_⟩, ⟨Nat.le_succ _, fun l' hl' => Pm.upd_ne (by omega), by omega, fun b hb' hf => ?_, fun l1 ob1 p1 h1 h3 => ?_⟩⟩
  · rw [look] at h1
    by_cases e1 : l' = s.nx
    · rw [if_pos e1] at h1
      obtain rfl := Option.some.inj h1
      subst e1
      exact ⟨q, x, Pm.upd_same _ _ _, by rw [hq]; exact hb, hx⟩
    · rw [if_neg e1] at h1
      by_cases e2 : l' = l
      · rw [if_pos e2] at h1; cases h1
      · rw [if_neg e2] at h1
        obtain ⟨p1, o1, hp1, hh1, hr1⟩ := hs.obj _ _ h1
        refine ⟨p1, o1, hle _ _ hp1, ?_, hr1.mono hle⟩
        rw [hother _ (fun e => hs.sep l l' ob ob1 p p1 hl h1 hown (fun e => e2 e.symm) hp hp1 e.symm)]
        exact hh1
  · rw [look] at h1 h2
    by_cases e1 : l1 = s.nx
    · subst e1
      rw [Pm.upd_same] at h5
      obtain rfl := Option.some.inj h5
      rw [if_neg (fun e => h4 e.symm)] at h2
      rw [Pm.upd_ne (fun e => h4 e.symm)] at h6
      by_cases e2 : l2 = l
      · rw [if_pos e2] at h2; cases h2
      · rw [if_neg e2] at h2
        rw [hq]
        exact hs.sep l l2 ob ob2 p p2 hl h2 hown (fun e => e2 e.symm) hp h6
    · rw [if_neg e1] at h1
      rw [Pm.upd_ne e1] at h5
      by_cases e3 : l1 = l
      · rw [if_pos e3] at h1; cases h1
      · rw [if_neg e3] at h1
        by_cases e2 : l2 = s.nx
        · subst e2
          rw [Pm.upd_same] at h6
          obtain rfl := Option.some.inj h6
          rw [hq]
          exact hs.sep l1 l ob1 ob p1 p h1 hl h3 e3 h5 hp
        · rw [if_neg e2] at h2
          rw [Pm.upd_ne e2] at h6
          by_cases e4 : l2 = l
          · rw [if_pos e4] at h2; cases h2
          · rw [if_neg e4] at h2
            exact hs.sep l1 l2 ob1 ob2 p1 p2 h1 h2 h3 h4 h5 h6
  · have hl' : s.nx + 1 ≤ l' := hl'
    rw [Pm.upd_ne (by omega)]
    exact hs.fresh l' (by omega)
  · obtain ⟨m, hm⟩ := hs.glob i hi
    exact ⟨m, hle _ _ hm⟩
  · exact hother b (fun e => hf l ob p hl hown hp e.symm)
  · rw [look] at h1
    by_cases e1 : l1 = s.nx
    · subst e1
      rw [Pm.upd_same] at h3
      obtain rfl := Option.some.inj h3
      exact .inr ⟨l, ob, p, hl, fun _ => hown, hp, hq.symm⟩
    · rw [if_neg e1] at h1
      rw [Pm.upd_ne e1] at h3
      by_cases e2 : l1 = l
      · rw [if_pos e2] at h1; cases h1
      · rw [if_neg e2] at h1
        exact .inr ⟨l1, ob1, p1, h1, id, h3, rfl⟩

/-- A name is forgotten. -/
theorem sim_kill {h : Array Obj} {l : Nat} (hs : Sim ρ g s h) : Sim ρ g (s.kill l) h := by
  refine ⟨fun l' ob1 h1 => ?_, fun l1 l2 ob1 ob2 p1 p2 h1 h2 h3 h4 h5 h6 => ?_, hs.fresh, hs.glob⟩
  · rw [look_kill] at h1
    by_cases e : l' = l
    · rw [if_pos e] at h1; cases h1
    · rw [if_neg e] at h1; exact hs.obj _ _ h1
  · rw [look_kill] at h1 h2
    by_cases e : l1 = l
    · rw [if_pos e] at h1; cases h1
    · rw [if_neg e] at h1
      by_cases e' : l2 = l
      · rw [if_pos e'] at h2; cases h2
      · rw [if_neg e'] at h2; exact hs.sep l1 l2 ob1 ob2 p1 p2 h1 h2 h3 h4 h5 h6

theorem ste_kill {h : Array Obj} {l : Nat} : Ste ρ s h ρ (s.kill l) h :=
  ⟨Nat.le_refl _, fun _ _ => rfl, Nat.le_refl _, fun _ _ _ => rfl, fun l1 ob1 p1 h1 h3 => by
    rw [look_kill] at h1
    by_cases e : l1 = l
    · rw [if_pos e] at h1; cases h1
    · rw [if_neg e] at h1; exact .inr ⟨l1, ob1, p1, h1, id, h3, rfl⟩⟩

theorem storeCells_ok {b ofs : Nat} {t : TypeId} {fr : Nat × Nat} : ∀ (vs : List Value) (i : Nat) (c : Array Value) (w : World), w.heap[b]? = some (.cells c t fr) → (∀ v ∈ vs, v.oneCell' = true) →
    (vs = [] ∨ ofs + i + vs.length ≤ c.size) → (∀ j, j < c.size → ¬ (fr.1 ≤ j ∧ j < fr.2)) →
    ∃ w', (storeCells ⟨b, ofs, none⟩ vs i).run P w = .ok () w' ∧ w'.heap.size = w.heap.size ∧ w'.heap[b]? = some (.cells (sets c (ofs + i) vs) t fr) ∧ (∀ k : Nat, k ≠ b → w'.heap[k]? = w.heap[k]?) ∧ Out w w'
  | [], i, c, w, h, _, _, _ => ⟨w, by simp [storeCells], rfl, h, fun _ _ => rfl, Out.refl w⟩
  | v :: vs, i, c, w, h, h1, h2, h3 => by
    have h2 : ofs + i + (vs.length + 1) ≤ c.size := by simpa using h2
    have hlt : ofs + i < c.size := by omega
    have hadd : (⟨b, ofs, none⟩ : Addr).add i = ⟨b, ofs + i, none⟩ := addr_add _ _ _
    have hcell : w.cell? ⟨b, ofs + i, none⟩ = some c[ofs + i] := by rw [cell_of h]; exact Array.getElem?_eq_getElem hlt
    have hfr : w.frozen? ⟨b, ofs + i, none⟩ = false := by
      simp only [World.frozen?, h]
      have := h3 _ hlt
      cases hh : (decide (fr.1 ≤ ofs + i) && decide (ofs + i < fr.2)) with
      | false => rfl
      | true => simp at hh; exact absurd hh this
    have hset : (w.setCell ⟨b, ofs + i, none⟩ v).heap[b]? = some (.cells (c.setIfInBounds (ofs + i) v) t fr) := by
      simp [World.setCell, Array.getElem?_modify, h]
    have hroom : vs = [] ∨ ofs + (i + 1) + vs.length ≤ (c.setIfInBounds (ofs + i) v).size := by right; simp; omega
    obtain ⟨w', r1, r2, r3, r4, r5⟩ := storeCells_ok vs (i + 1) (c.setIfInBounds (ofs + i) v) _ hset (fun u hu => h1 u (List.mem_cons_of_mem _ hu)) hroom (by simpa using h3)
    refine ⟨w', ?_, ?_, r3, fun k hk => ?_, ?_⟩
    · simp only [storeCells, Sem.run_bind, hadd, run_store P w _ v _ (h1 v (List.mem_cons_self ..)), hcell, hfr, Bool.false_eq_true, if_false, Result.andThen_ok]
      exact r1
    · rw [r2]; simp [World.setCell]
    · rw [r4 k hk]
      simp [World.setCell, Array.getElem?_modify, Ne.symm hk]
    · exact Out.trans ⟨rfl, rfl⟩ r5

theorem CellsR.sets {p : Pl} {r r' vs : List AV} {us : List Value} {c : Array Value} {off : Nat} (hc : CellsR ρ p r c) (h : setAt r off vs = some r') (hv : VRs ρ vs us) :
    (us = [] ∨ p.o + off + us.length ≤ c.size) ∧ CellsR ρ p r' (Ev.sets c (p.o + off) us) := by
  obtain ⟨h1, h2, h3⟩ := setAt_ok h
  have hlen := hv.length
  have hb : us = [] ∨ p.o + off + us.length ≤ c.size := by
    rcases h1 with h1 | h1
    · subst h1; exact .inl hv
    · cases us with
      | nil => exact .inl rfl
      | cons u us =>
        right
        have hlt : off + vs.length - 1 < r.length := by simp at hlen; omega
        have hn : nth r (off + vs.length - 1) = some r[off + vs.length - 1] := by rw [nth_eq]; exact List.getElem?_eq_getElem hlt
        obtain ⟨v, hv, _⟩ := hc _ _ hn
        have := (Array.getElem?_eq_some_iff.1 hv).1
        simp at hlen ⊢
        omega
  refine ⟨hb, fun i a ha => ?_⟩
  rw [h3] at ha
  rcases hb with hb | hb
  · subst hb
    have hvs : vs = [] := List.eq_nil_of_length_eq_zero (by simpa using hlen.symm)
    subst hvs
    rw [if_neg (by simp only [List.length_nil]; omega)] at ha
    exact hc _ _ ha
  · have hget := sets_get us c (p.o + off) hb (p.o + i)
    split at ha
    · rename_i hi
      obtain ⟨v, hv', hr⟩ := VRs.nth hv ha
      refine ⟨v, ?_, hr⟩
      rw [hget, if_pos (by omega)]
      have : p.o + i - (p.o + off) = i - off := by omega
      rw [this]
      exact hv'
    · rename_i hi
      obtain ⟨v, hv', hr⟩ := hc _ _ ha
      refine ⟨v, ?_, hr⟩
      rw [hget, if_neg (by omega)]
      exact hv'

/-- The operation changes memory, and gives a value. -/
def LO (P : Program) (g : Nat) (ρ : Pm) (s : St) (w : World) (e : Operand → Value) (o : Oper) (a : AV) (s' : St) : Prop :=
  ∃ u w' ρ', ((execOp e o).run P w = .ok (.value u) w' ∨ ((execOp e o).run P w = .ok .skip w' ∧ u = undef)) ∧ VR ρ' a u ∧ Sim ρ' g s' w'.heap ∧ Ste ρ s w.heap ρ' s' w'.heap ∧ Out w w'

/-- Cells of a row are written. -/
theorem write_ok {l : Nat} {r r' vs : List AV} {us : List Value} {p : Pl} {off : Nat} (hs : Sim ρ g s w.heap) (hl : s.look l = some (.cells r)) (hp : ρ l = some p) (h : setAt r off vs = some r') (hv : VRs ρ vs us)
    (h1 : ∀ v ∈ us, v.oneCell' = true) :
    ∃ w', (storeCells ⟨p.b, p.o + off, none⟩ us).run P w = .ok () w' ∧ Sim ρ g (s.put l (.cells r')) w'.heap ∧ Ste ρ s w.heap ρ (s.put l (.cells r')) w'.heap ∧ Out w w' := by
  obtain ⟨p', ob, hp', hh, c, t, fr, rfl, hsz, hfr, hc⟩ := hs.obj _ _ hl
  obtain rfl := Option.some.inj (hp.symm.trans hp')
  obtain ⟨hb, hc'⟩ := hc.sets h hv
  obtain ⟨w', r1, r2, r3, r4, r5⟩ := storeCells_ok (P := P) us 0 c w hh h1 (by simpa using hb) (fun j _ => hfr j)
  obtain ⟨q1, q2⟩ := sim_put (ob' := .cells r') hs hl rfl rfl hp r2 r3 ⟨_, t, fr, rfl, by rw [sets_size]; exact hsz, hfr, hc'⟩ r4
  exact ⟨w', r1, q1, q2, r5⟩

theorem flat_all : ∀ {l : List AV} {us : List Value}, VRs ρ l us → flats l = true → ∀ v ∈ us, v.oneCell' = true
  | [], _, h, _ => by obtain rfl := h; simp
  | a :: l, _, ⟨v, r, rfl, h, h'⟩, hf => by
    simp [flats] at hf
    intro u hu
    cases hu with
    | head => exact h.one hf.1
    | tail _ hu => exact flat_all h' hf.2 u hu

theorem putO_ok {s : St} {l : Nat} {v : AV} {r : Option (List AV)} {a : AV} {s' : St} (h : putO s l v r = some (a, s')) : ∃ r', r = some r' ∧ a = v ∧ s' = s.put l (.cells r') := by
  cases r with
  | none => cases h
  | some r' =>
    obtain ⟨rfl, rfl⟩ := Prod.mk.inj (Option.some.inj h)
    exact ⟨r', rfl, rfl, rfl⟩

theorem store_ok {t : TypeId} {x y : Operand} {a : AV} {s' : St} (hs : Sim ρ g s w.heap) (ho : o.op = .store t x y) (hl : Lks ρ lk e) (h : storeL s (lk x) (lk y) (size P t) = some (a, s')) :
    LO P g ρ s w e o a s' := by
  unfold storeL at h
  split at h
  · rename_i l off hx
    split at h
    · rename_i v hy
      split at h
      · rename_i n hn
        split at h
        · rename_i hc
          obtain ⟨hc1, hc2⟩ : v.cells.length = n ∧ flats v.cells = true := by
            cases h1 : Nat.beq v.cells.length n <;> cases h2 : flats v.cells <;> simp [h1, h2] at hc
            exact ⟨Nat.eq_of_beq_eq_true h1, rfl⟩
          split at h
          · rename_i r hr
            obtain ⟨r', hset, rfl, rfl⟩ := putO_ok h
            obtain ⟨p, hp, hxv⟩ := (hl _ _ hx).ptr_inv
            have hv := hl _ _ hy
            obtain ⟨w', q1, q2, q3, q4⟩ := write_ok (P := P) hs hr hp hset hv.cells (flat_all hv.cells hc2)
            refine ⟨undef, w', ρ, .inr ⟨?_, rfl⟩, ⟨#[], rfl, rfl⟩, q2, q3, q4⟩
            simp only [execOp, ho, Instr.storeAt, Instr.sureAddr, hxv]
            have hsz : (e y).cells.size = n := by rw [hv.cells_size, hc1]
            simp [storeVar, run_size hn, hsz, q1]
          · cases h
        · cases h
      · cases h
    · cases h
  · cases h

end Go.Ev
