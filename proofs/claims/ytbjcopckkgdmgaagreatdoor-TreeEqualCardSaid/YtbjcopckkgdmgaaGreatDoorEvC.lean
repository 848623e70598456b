import Derived.Test.YtbjcopckkgdmgaaGreatDoorEvB
import Derived.Orders
import Derived.LoopN
import Derived.Tactics
/- An abstract evaluator over the model: changes of memory (3). -/
namespace Go.Ev
variable {P : Program} {ρ : Pm} {g : Nat} {s : St} {w : World} {e : Operand → Value} {lk : Lk} {o : Oper}

/-- A run that changes memory, and gives a value. -/
def MO (P : Program) (g : Nat) (ρ : Pm) (s : St) (w : World) (m : Sem Value) (a : AV) (s' : St) : Prop :=
  ∃ u w' ρ', m.run P w = .ok u w' ∧ VR ρ' a u ∧ Sim ρ' g s' w'.heap ∧ Ste ρ s w.heap ρ' s' w'.heap ∧ Out w w'

theorem MO.same {m : Sem Value} {a : AV} {u : Value} (hs : Sim ρ g s w.heap) (h : m.run P w = .ok u w) (hr : VR ρ a u) : MO P g ρ s w m a s :=
  ⟨u, w, ρ, h, hr, hs, Ste.refl _ _ _, Out.refl _⟩

theorem putF_ok {s : St} {l : Nat} {v : AV} {new : List AV} {r : Option (List AV)} {a : AV} {s' : St} (h : putF s l v new r = some (a, s')) : ∃ r', r = some r' ∧ a = v ∧ s' = s.put l (.cells r') ∧ flats new = true := by
  unfold putF at h
  split at h
  · rename_i hf
    obtain ⟨r', h1, h2, h3⟩ := putO_ok h
    exact ⟨r', h1, h2, h3, hf⟩
  · cases h

theorem growO_ok {s : St} {len sz : Nat} {new : List AV} {r : Option (List AV)} {a : AV} {s' : St} (h : growO s len sz new r = some (a, s')) :
    ∃ old, r = some old ∧ a = .slice s.nx 0 len len sz false ∧ s' = s.add (.cells (old ++ new)) := by
  cases r with
  | none => cases h
  | some old =>
    simp only [growO, fnat_eq] at h
    obtain ⟨rfl, rfl⟩ := Prod.mk.inj (Option.some.inj h)
    exact ⟨old, rfl, rfl, rfl⟩

theorem CellsR.of_VRs {p : Pl} {r : List AV} {c : Array Value} {us : List Value} (h : VRs ρ r us) (hc : ∀ i : Nat, i < us.length → c[p.o + i]? = us[i]?) : CellsR ρ p r c := fun i a ha => by
  obtain ⟨v, hv, hr⟩ := VRs.nth h ha
  refine ⟨v, ?_, hr⟩
  rw [hc i (List.getElem?_eq_some_iff.1 hv).1]
  exact hv

/-- The cells after a growth: what was there, what came, and zeros. -/
theorem grown_ok {elem : TypeId} {need c sz : Nat} {old new : List AV} {oldv newv : Array Value} {zv : Value} {w1 : World} (hs : Sim ρ g s w.heap) (ho : VRs ρ old oldv.toList) (hn : VRs ρ new newv.toList)
    (hz : zv.cells.size = sz) (hlen : oldv.size + newv.size = need * sz) (hc : need ≤ c) (hw : w1 = w.drew.alloc (.cells (oldv ++ newv ++ Builtin.zeroCells zv.cells (c - need)) elem)) :
    ∃ ρ', VR ρ' (.slice s.nx 0 need need sz false) (.slice (some ⟨w.heap.size, 0, none⟩) need c) ∧ Sim ρ' g (s.add (.cells (old ++ new))) w1.heap ∧ Ste ρ s w.heap ρ' (s.add (.cells (old ++ new))) w1.heap ∧ Out w w1 := by
  subst hw
  have hsz : (oldv ++ newv ++ Builtin.zeroCells zv.cells (c - need)).size = c * sz := by
    have e1 : (Builtin.zeroCells zv.cells (c - need)).size = (c - need) * sz := by simp [Builtin.zeroCells, hz]
    rw [Array.size_append, Array.size_append, e1, hlen, ← Nat.add_mul]
    congr 1
    omega
  have hle : ρ.le (ρ.upd s.nx ⟨w.heap.size, 0, c * sz⟩) := Pm.le_upd (hs.fresh _ (Nat.le_refl _))
  have hob : ObjR (ρ.upd s.nx ⟨w.heap.size, 0, c * sz⟩) ⟨w.heap.size, 0, c * sz⟩ (.cells (old ++ new)) (.cells (oldv ++ newv ++ Builtin.zeroCells zv.cells (c - need)) elem) := by
    refine ⟨_, elem, (0, 0), rfl, hsz, fun i => by simp, ?_⟩
    refine CellsR.of_VRs ((VRs.append ho hn).mono hle) (fun i hi => ?_)
    have hi' : i < (oldv ++ newv).size := by simpa using hi
    simp only [Nat.zero_add]
    rw [Array.getElem?_append_left hi']
    rw [← Array.getElem?_toList, Array.toList_append]
  obtain ⟨q1, q2⟩ := sim_add hs hob
  exact ⟨_, ⟨_, _, c, Pm.upd_same _ _ _, rfl, Nat.le_refl _, hc, (fun e => by cases e), fun _ => ⟨rfl, by simp⟩⟩, q1, q2, ⟨rfl, rfl⟩⟩

theorem append_ok {ats : Array TypeId} {t ty : TypeId} {x y a : AV} {u v : Value} {s' : St} (hs : Sim ρ g s w.heap) (hx : VR ρ x u) (hy : VR ρ y v) (h0 : ats[0]? = some t)
    (h1 : ats[1]? = none ∨ ∃ u d, ats[1]? = some u ∧ und P u = some d ∧ notInt (some d) = true) (h : append P s t x y = some (a, s')) : MO P g ρ s w (Builtin.append_ ats ty #[u, v]) a s' := by
  unfold append at h
  split at h
  · rename_i elem hel
    have ht := elemD_ok hel
    split at h
    · rename_i i hfi
      obtain ⟨hi, zv, hz, hzs⟩ := fitI_ok hfi
      split at h
      · rename_i n hn
        have hlen := fun w' => lenAV_ok (P := P) (w := w') hn hy
        split at h
        · rename_i new hnew
          obtain ⟨arr, hfw, hfr, hfs⟩ := first_ok (P := P) hs hnew hy hn (Nat.le_refl _)
          have hf := hfw w rfl
          split at h
          · -- nil
            obtain rfl := hx
            split at h
            · obtain ⟨rfl, rfl⟩ := Prod.mk.inj (Option.some.inj h)
              refine MO.same hs ?_ rfl
              exact append_room (base := none) (len := 0) (cap := 0) ht hi h0 h1 (hlen w) hf (Nat.le_refl _) (fun a e => by cases e) (fun _ => rfl)
            · rename_i m
              split at h
              · rename_i hbig
                obtain ⟨old, hold, rfl, rfl⟩ := growO_ok h
                obtain rfl := Option.some.inj hold
                obtain ⟨c, hc, hrun⟩ := append_grow (base := none) (len := 0) (cap := 0) (ty := ty) (old := #[]) ht hi h0 h1 (hlen w) hfw (by omega) (by rw [Nat.zero_add]; exact hbig) hz (fun w' _ => rfl)
                rw [Nat.zero_add] at hc hrun
                obtain ⟨ρ', q1, q2, q3, q4⟩ := grown_ok (elem := elem) (old := []) (oldv := #[]) (zv := zv) (c := c) hs rfl hfr hzs (by simp [hfs]) hc rfl
                exact ⟨_, _, ρ', hrun, q1, q2, q3, q4⟩
              · cases h
          · rename_i l off len cap sz ex
            split at h
            · rename_i hsz
              obtain rfl : sz = i.size := Nat.eq_of_beq_eq_true hsz
              have hx0 := hx
              obtain ⟨p, ad, c', hp, rfl, h3, h4, h5, h6⟩ := hx
              split at h
              · -- nothing comes
                obtain ⟨rfl, rfl⟩ := Prod.mk.inj (Option.some.inj h)
                have harr : arr.toList = [] := by
                  have : arr.size = 0 := by rw [hfs]; simp
                  apply List.eq_nil_of_length_eq_zero
                  simpa using this
                refine MO.same (u := .slice (some ad) len c') hs ?_ hx0
                have := append_room (P := P) (ty := ty) (base := some ad) (len := len) (cap := c') (w' := w) ht hi h0 h1 (hlen w) hf (by omega) (fun a _ => by rw [harr]; simp [storeCells]) (fun _ => rfl)
                simpa using this
              · rename_i m
                unfold appendS at h
                split at h
                · -- there is room
                  rename_i hr
                  have hr : len + (m + 1) ≤ cap := Nat.le_of_ble_eq_true hr
                  split at h
                  · rename_i r hrow
                    simp only [fnat_eq] at h
                    obtain ⟨r', hset, rfl, rfl, hflat⟩ := putF_ok h
                    obtain ⟨rfl, h7⟩ := h6 (by omega)
                    obtain ⟨w', q1, q2, q3, q4⟩ := write_ok (P := P) hs hrow hp hset hfr (flat_all hfr hflat)
                    refine ⟨.slice (some ⟨p.b, p.o + off, none⟩) (len + (m + 1)) c', w', ρ, ?_, ⟨p, _, c', hp, rfl, hr, h4, h5, fun _ => ⟨rfl, h7⟩⟩, q2, q3, q4⟩
                    refine append_room (P := P) (ty := ty) ht hi h0 h1 (hlen w) hf (by omega) (fun a ha => ?_) (fun e => by cases e)
                    obtain rfl := Option.some.inj ha
                    rw [addr_add, Nat.add_assoc]
                    exact q1
                  · cases h
                · rename_i hr
                  have hr : ¬ len + (m + 1) ≤ cap := fun hh => by
                    have : Nat.ble (Nat.add len (Nat.succ m)) cap = true := Nat.ble_eq_true_of_le hh
                    rw [this] at hr
                    cases hr
                  split at h
                  · rename_i hbig
                    have grow : ∀ (row old : List AV) (s2 : St), Sim ρ g s2 w.heap → Ste ρ s w.heap ρ s2 w.heap → rowOf s l = some row → sub row off (len * i.size) = some old → c' < len + (m + 1) →
                        MO P g ρ s w (Builtin.append_ ats ty #[.slice (some ad) len c', v]) (.slice s2.nx 0 (len + (m + 1)) (len + (m + 1)) i.size false) (s2.add (.cells (old ++ new))) := by
                      intro row old s2 hs2 hst hrow hsub hlt
                      obtain ⟨oldv, ho1, ho2, ho3⟩ := first_ok (P := P) (n := len) (sz := i.size) (r := old) hs (by simp only [firstCells, Nat.beq_refl, hrow]; exact hsub) hx0 rfl (Nat.le_refl _)
                      obtain ⟨c, hc, hrun⟩ := append_grow (base := some ad) (len := len) (cap := c') (ty := ty) (old := oldv) ht hi h0 h1 (hlen w) hfw (by omega) hbig hz ho1
                      obtain ⟨ρ', q1, q2, q3, q4⟩ := grown_ok (elem := elem) (zv := zv) (c := c) hs2 ho2 hfr hzs (by rw [ho3, hfs, ← Nat.add_mul]) hc rfl
                      exact ⟨_, _, ρ', hrun, q1, q2, hst.trans q3, q4⟩
                    split at h
                    · rename_i r hrow
                      have hrow' : rowOf s l = some r := by unfold rowOf; rw [hrow]; rfl
                      split at h
                      · obtain ⟨old, hsub, rfl, rfl⟩ := growO_ok h
                        exact grow r old s hs (Ste.refl _ _ _) hrow' hsub (by rw [h5 rfl]; omega)
                      · unfold growF at h
                        split at h
                        · rename_i hflat
                          obtain ⟨old, hsub, rfl, rfl⟩ := growO_ok h
                          by_cases hin : len + (m + 1) ≤ c'
                          · -- the row has room after all
                            obtain ⟨rfl, h7⟩ := h6 (by omega)
                            obtain ⟨p', ob, hp', hh, c, t', fr, rfl, hcs, hfrz, hcc⟩ := hs.obj _ _ hrow
                            obtain rfl := Option.some.inj (hp.symm.trans hp')
                            obtain ⟨e1, e2⟩ := cells_sub hcc (show sub r off (len * i.size) = some old from hsub)
                            have hmul : (len + (m + 1)) * i.size ≤ c' * i.size := Nat.mul_le_mul_right _ hin
                            rw [Nat.add_mul] at hmul
                            have hroom : p.o + off + len * i.size + arr.toList.length ≤ c.size := by
                              have hfs' : arr.size = (m + 1) * i.size := hfs
                              rw [Array.length_toList, hfs', hcs]
                              omega
                            obtain ⟨w', r1, r2, r3, r4, r5⟩ := storeCells_ok (P := P) (ofs := p.o + off + len * i.size) arr.toList 0 c w hh (flat_all hfr hflat) (.inr (by simpa using hroom)) (fun j _ => hfrz j)
                            have hq : ObjR (ρ.upd s.nx ⟨p.b, p.o + off, p.n⟩) ⟨p.b, p.o + off, p.n⟩ (.cells (old ++ new)) (.cells (sets c (p.o + off + len * i.size + 0) arr.toList) t' fr) := by
                              refine ⟨_, t', fr, rfl, by rw [sets_size]; exact hcs, hfrz, ?_⟩
                              refine CellsR.of_VRs ((VRs.append e2 hfr).mono (Pm.le_upd (hs.fresh _ (Nat.le_refl _)))) (fun j hj => ?_)
                              have hol : ((c.toList.drop (p.o + off)).take (len * i.size)).length = len * i.size := by
                                rw [List.length_take, List.length_drop, Array.length_toList]
                                omega
                              simp only [Nat.add_zero]
                              rw [sets_get _ _ _ hroom]
                              rw [List.length_append, hol] at hj
                              by_cases hj' : j < len * i.size
                              · rw [if_neg (by omega), List.getElem?_append_left (by omega), List.getElem?_take_of_lt hj', List.getElem?_drop, Array.getElem?_toList]
                              · rw [if_pos (by omega), List.getElem?_append_right (by omega), hol]
                                congr 1
                                omega
                            obtain ⟨q1, q2⟩ := sim_move (q := ⟨p.b, p.o + off, p.n⟩) hs hrow rfl hp rfl r2 r3 hq r4
                            refine ⟨.slice (some ⟨p.b, p.o + off, none⟩) (len + (m + 1)) c', w', _, ?_, ⟨_, _, c', Pm.upd_same _ _ _, rfl, Nat.le_refl _, hin, (fun e => by cases e), fun _ => ⟨rfl, by simpa using h7⟩⟩, q1, q2, r5⟩
                            refine append_room (P := P) (ty := ty) ht hi h0 h1 (hlen w) hf hin (fun a ha => ?_) (fun e => by cases e)
                            obtain rfl := Option.some.inj ha
                            rw [addr_add]
                            exact r1
                          · exact grow r old (s.kill l) (sim_kill hs) ste_kill hrow' hsub (by omega)
                        · cases h
                    · rename_i r hrow
                      have hrow' : rowOf s l = some r := by unfold rowOf; rw [hrow]; rfl
                      split at h
                      · obtain ⟨old, hsub, rfl, rfl⟩ := growO_ok h
                        exact grow r old s hs (Ste.refl _ _ _) hrow' hsub (by rw [h5 rfl]; omega)
                      · cases h
                    · cases h
                  · cases h
            · cases h
          · cases h
        · cases h
      · cases h
    · cases h
  · cases h

end Go.Ev

/- An abstract evaluator over the model: changes of memory (4). -/
namespace Go.Ev
variable {P : Program} {ρ : Pm} {g : Nat} {s : St} {w : World} {e : Operand → Value} {lk : Lk} {o : Oper}

theorem sames_ok {D : Nat} {q : AV → AV → Bool} (hq : ∀ a b u v, q a b = true → VR ρ a u → VR ρ b v → Instr.sameBits D u v = true) : ∀ {l r : List AV} {us vs : List Value}, sames q l r = true → VRs ρ l us → VRs ρ r vs →
    us.length = vs.length ∧ (us.zip vs).all (fun p => Instr.sameBits D p.1 p.2) = true
  | [], [], us, vs, _, hu, hv => by obtain rfl := hu; obtain rfl := hv; exact ⟨rfl, rfl⟩
  | [], _ :: _, _, _, h, _, _ => by cases h
  | _ :: _, [], _, _, h, _, _ => by cases h
  | a :: l, b :: r, us, vs, h, hu, hv => by
    obtain ⟨u, us, rfl, h1, hu⟩ := hu
    obtain ⟨v, vs, rfl, h2, hv⟩ := hv
    simp [sames] at h
    obtain ⟨i1, i2⟩ := sames_ok hq h.2 hu hv
    exact ⟨by simp [i1], by simp [hq _ _ _ _ h.1 h1 h2]; simpa using i2⟩

theorem sameB_ok : ∀ (n : Nat) {a b : AV} {u v : Value} {D : Nat}, sameB n a b = true → VR ρ a u → VR ρ b v → Instr.sameBits (D + n) u v = true
  | 0, _, _, _, _, _, h, _, _ => by cases h
  | n + 1, a, b, u, v, D, h, hu, hv => by
    simp only [sameB] at h
    split at h
    · rw [VR.eq_1] at hu hv; subst hu hv; simpa [Instr.sameBits] using h
    · rename_i k x k' y
      rw [VR.eq_2] at hu hv; subst hu hv
      have : k = k' ∧ x = y := by
        cases h1 : kindEq k k' <;> cases h2 : ieq x y <;> simp [h1, h2] at h
        exact ⟨(kindEq_iff _ _).1 h1, by rw [ieq_eq] at h2; simpa using h2⟩
      obtain ⟨rfl, rfl⟩ := this
      simp [Instr.sameBits]
    · rw [VR.eq_3] at hu hv; subst hu hv
      rw [bytesEq_eq] at h
      have := eq_of_beq h
      subst this
      simp [Instr.sameBits]
      exact (MapKept.bytes_beq _ _).2 rfl
    · obtain ⟨us, rfl, hu⟩ := hu
      obtain ⟨vs, rfl, hv⟩ := hv
      obtain ⟨i1, i2⟩ := sames_ok (D := D + n) (fun a b u v h1 h2 h3 => sameB_ok n h1 h2 h3) h hu hv
      have i1' : us.size = vs.size := by simpa using i1
      show Instr.sameBits (D + n + 1) (.agg us) (.agg vs) = true
      simp [Instr.sameBits, i1']
      simpa using i2
    · cases h

theorem modE_ok {f : AE → AE} {f' : MapEntry → MapEntry} : ∀ {es : List AE} {es' : List MapEntry} {i : Nat}, ERs ρ es es' →
    (∀ a b, es[i]? = some a → es'[i]? = some b → VR ρ (f a).key (f' b).key ∧ VR ρ (f a).val (f' b).val ∧ (f' b).born = (f a).born) → ERs ρ (modE f es i) (es'.modify i f')
  | [], es', i, h, _ => by obtain rfl := h; cases i <;> rfl
  | a :: es, es', i, h, hf => by
    obtain ⟨b, q, rfl, h1, h⟩ := h
    cases i with
    | zero => exact ⟨f' b, q, rfl, hf a b rfl rfl, h⟩
    | succ i => exact ⟨b, q.modify i f', rfl, h1, modE_ok h (fun a b h1 h2 => hf a b h1 h2)⟩

theorem eraseE_ok : ∀ {es : List AE} {es' : List MapEntry} {i : Nat}, ERs ρ es es' → ERs ρ (eraseE es i) (es'.eraseIdx i)
  | [], es', i, h => by obtain rfl := h; cases i <;> rfl
  | a :: es, es', i, h => by
    obtain ⟨b, q, rfl, h1, h⟩ := h
    cases i with
    | zero => exact h
    | succ i => exact ⟨b, q.eraseIdx i, rfl, h1, eraseE_ok h⟩

theorem ERs.append : ∀ {l l' : List AE} {es es' : List MapEntry}, ERs ρ l es → ERs ρ l' es' → ERs ρ (l ++ l') (es ++ es')
  | [], _, _, _, h, h' => by obtain rfl := h; exact h'
  | a :: l, _, _, _, h, h' => by obtain ⟨b, q, rfl, h1, h⟩ := h; exact ⟨b, _, rfl, h1, ERs.append h h'⟩

/-- The object of a name turns. -/
theorem setObj_ok {l : Nat} {ob ob' : AObj} {p : Pl} {x y : Obj} (hs : Sim ρ g s w.heap) (hl : s.look l = some ob) (hown : ob.owned = true) (hown' : ob'.owned = true) (hp : ρ l = some p) (hx : w.heap[p.b]? = some x)
    (hnc : ∀ c t fr, x ≠ .cells c t fr) (hy : ObjR ρ p ob' y) :
    ∃ w', (setObj p.b y).run P w = .ok () w' ∧ Sim ρ g (s.put l ob') w'.heap ∧ Ste ρ s w.heap ρ (s.put l ob') w'.heap ∧ Out w w' := by
  have hlt : p.b < w.heap.size := (Array.getElem?_eq_some_iff.1 hx).1
  have hr : (setObj p.b y).run P w = .ok () { w with heap := w.heap.setIfInBounds p.b y } := by
    simp only [setObj, Sem.run, hx]
  obtain ⟨q1, q2⟩ := sim_put (h' := w.heap.setIfInBounds p.b y) hs hl hown hown' hp (by simp) (by simp [hlt]) hy (fun b hb => by rw [Array.getElem?_setIfInBounds_ne (Ne.symm hb)])
  exact ⟨_, hr, q1, q2, ⟨rfl, rfl⟩⟩

theorem mo_unit {m : Sem Unit} {a : AV} {s' : St} {w' : World} (he : execOp e o = (do m; pure .skip)) (hr : m.run P w = .ok () w') (ha : a = .undef) (h2 : Sim ρ g s' w'.heap) (h3 : Ste ρ s w.heap ρ s' w'.heap) (h4 : Out w w') : LO P g ρ s w e o a s' := by
  subst ha
  exact ⟨undef, w', ρ, .inr ⟨by rw [he]; simp [hr], rfl⟩, ⟨#[], rfl, rfl⟩, h2, h3, h4⟩

theorem lo_of {m : Sem Value} {a : AV} {s' : St} (he : execOp e o = (do pure (.value (← m)))) (h : MO P g ρ s w m a s') : LO P g ρ s w e o a s' := by
  obtain ⟨u, w', ρ', h1, h2⟩ := h
  exact ⟨u, w', ρ', .inl (by rw [he]; simp [h1]), h2⟩

theorem update_ok {t : TypeId} {m k v : Operand} {a : AV} {s' : St} (hs : Sim ρ g s w.heap) (he : execOp e o = (do Instr.mapUpdate t (e m) (e k) (e v); pure .skip)) (hl : Lks ρ lk e)
    (h : updateL P s t (lk m) (lk k) (lk v) = some (a, s')) : LO P g ρ s w e o a s' := by
  unfold updateL at h
  split at h
  · rename_i kt et ht
    split at h
    · rename_i l hm
      split at h
      · rename_i ka hk
        split at h
        · rename_i va hv
          split at h
          · rename_i es c hlook
            split at h
            · rename_i hc
              obtain ⟨p, hp, hmv⟩ := hl _ _ hm
              have hku := hl _ _ hk
              have hvu := hl _ _ hv
              obtain ⟨p', ob, hp', hh, es', rfl, hes⟩ := hs.obj _ _ hlook
              obtain rfl := Option.some.inj (hp.symm.trans hp')
              obtain ⟨d, hd⟩ := chk_und hc
              have hck := chk_ok (P := P) (w := w) (em := false) (D := 9980) 20 hc hku
              have hget : (getObj p.b).run P w = .ok (.map es' c) w := by simp [getObj, Sem.run, hh]
              unfold updateE at h
              split at h
              · rename_i i en hf
                split at h
                · rename_i hsame
                  obtain ⟨rfl, rfl⟩ := Prod.mk.inj (Option.some.inj h)
                  obtain ⟨x, hx, b, rfl, _, h5, h6, h7, h8, h9⟩ := findKey_ok (P := P) (w := w) hd hku hes hf
                  simp only [Nat.sub_zero] at h5 h6
                  have h6' : es'[i]? = some b := by simpa using h6
                  have hbits := sameB_ok (D := 9980) 20 hsame h7 hku
                  have hy : ObjR ρ p (.map (modE (fun e => ⟨ka, va, e.born⟩) es i) c) (.map (es'.modify i fun e' => { e' with key := e k, val := e v }) c) := by
                    refine ⟨_, rfl, ?_⟩
                    rw [Array.toList_modify]
                    refine modE_ok hes (fun a b' h10 h11 => ⟨hku, hvu, ?_⟩)
                    rw [h5] at h10
                    rw [h6] at h11
                    obtain rfl := Option.some.inj h10
                    obtain rfl := Option.some.inj h11
                    exact h9
                  obtain ⟨w', q1, q2, q3, q4⟩ := setObj_ok (P := P) hs hlook rfl rfl hp hh (fun _ _ _ e => by cases e) hy
                  refine mo_unit he ?_ rfl q2 q3 q4
                  have hk' : (Instr.keyThatStays b.key (e k)).run P w = .ok (e k) w := by
                    unfold Instr.keyThatStays
                    rw [if_pos hbits]
                    rfl
                  simp [Instr.mapUpdate, run_und ht, hmv, hget, hck, hx, h6', hk', q1]
                · cases h
              · rename_i hf
                obtain ⟨rfl, rfl⟩ := Prod.mk.inj (Option.some.inj h)
                obtain ⟨x, hx, hn⟩ := findKey_ok (P := P) (w := w) hd hku hes hf
                obtain rfl : x = none := hn
                have hy : ObjR ρ p (.map (es ++ [⟨ka, va, c⟩]) (c + 1)) (.map (es'.push { key := e k, val := e v, born := c }) (c + 1)) := by
                  refine ⟨_, rfl, ?_⟩
                  rw [Array.toList_push]
                  exact ERs.append hes ⟨_, [], rfl, ⟨hku, hvu, rfl⟩, rfl⟩
                obtain ⟨w', q1, q2, q3, q4⟩ := setObj_ok (P := P) hs hlook rfl rfl hp hh (fun _ _ _ e => by cases e) hy
                refine mo_unit he ?_ rfl q2 q3 q4
                simp [Instr.mapUpdate, run_und ht, hmv, hget, hck, hx, q1]
              · cases h
            · cases h
          · cases h
        · cases h
      · cases h
    · cases h
  · cases h

theorem delete_ok {ats : Array TypeId} {t ty : TypeId} {m k : Operand} {a : AV} {s' : St} (hs : Sim ρ g s w.heap) (h0 : ats[0]? = some t) (hl : Lks ρ lk e)
    (h : deleteL P s t (lk m) (lk k) = some (a, s')) : MO P g ρ s w (Builtin.delete_ ats ty #[e m, e k]) a s' := by
  unfold deleteL at h
  split at h
  · rename_i kt et ht
    split at h
    · rename_i l hm
      split at h
      · rename_i ka hk
        split at h
        · rename_i es c hlook
          split at h
          · rename_i hc
            obtain ⟨p, hp, hmv⟩ := hl _ _ hm
            have hku := hl _ _ hk
            obtain ⟨p', ob, hp', hh, es', rfl, hes⟩ := hs.obj _ _ hlook
            obtain rfl := Option.some.inj (hp.symm.trans hp')
            obtain ⟨d, hd⟩ := chk_und hc
            have hck := chk_ok (P := P) (w := w) (em := es'.isEmpty) (D := 9980) 20 hc hku
            have hget : (getObj p.b).run P w = .ok (.map es' c) w := by simp [getObj, Sem.run, hh]
            unfold deleteE at h
            split at h
            · rename_i i en hf
              obtain ⟨rfl, rfl⟩ := Prod.mk.inj (Option.some.inj h)
              obtain ⟨x, hx, b, rfl, _, h5, h6, h7, h8, h9⟩ := findKey_ok (P := P) (w := w) hd hku hes hf
              simp only [Nat.sub_zero] at h5 h6
              have hlt : i < es'.size := by simpa using (List.getElem?_eq_some_iff.1 h6).1
              have hy : ObjR ρ p (.map (eraseE es i) c) (.map (es'.eraseIdxIfInBounds i) c) := by
                refine ⟨_, rfl, ?_⟩
                have : (es'.eraseIdxIfInBounds i).toList = es'.toList.eraseIdx i := by
                  simp [Array.eraseIdxIfInBounds, hlt]
                rw [this]
                exact eraseE_ok hes
              obtain ⟨w', q1, q2, q3, q4⟩ := setObj_ok (P := P) hs hlook rfl rfl hp hh (fun _ _ _ e => by cases e) hy
              refine ⟨.tuple #[], w', ρ, ?_, ⟨#[], rfl, rfl⟩, q2, q3, q4⟩
              simp [Builtin.delete_, h0, run_und ht, hmv, hget, hck, hx, q1]
            · rename_i hf
              obtain ⟨rfl, rfl⟩ := Prod.mk.inj (Option.some.inj h)
              obtain ⟨x, hx, hn⟩ := findKey_ok (P := P) (w := w) hd hku hes hf
              obtain rfl : x = none := hn
              obtain ⟨w', q1, q2, q3, q4⟩ := setObj_ok (P := P) hs hlook rfl rfl hp hh (fun _ _ _ e => by cases e) (show ObjR ρ p (.map es c) (.map es' c) from ⟨_, rfl, hes⟩)
              refine ⟨.tuple #[], w', ρ, ?_, ⟨#[], rfl, rfl⟩, q2, q3, q4⟩
              simp [Builtin.delete_, h0, run_und ht, hmv, hget, hck, hx, q1]
            · cases h
          · cases h
        · cases h
      · cases h
    · cases h
  · cases h

theorem next_ok {it : Operand} {str : Bool} {ty : TypeId} {a : AV} {s' : St} (hs : Sim ρ g s w.heap) (hl : Lks ρ lk e) (h : nextL s str (lk it) = some (a, s')) : MO P g ρ s w (Instr.next (e it) str ty) a s' := by
  unfold nextL at h
  split at h
  · rename_i l hit
    split at h
    · split at h
      · rename_i b p hlook
        obtain ⟨q, hq, hv⟩ := hl _ _ hit
        obtain ⟨q', ob, hq', hh, rfl, hq0⟩ := hs.obj _ _ hlook
        obtain rfl := Option.some.inj (hq.symm.trans hq')
        rw [hq0] at hv
        have hget : (getObj q.b).run P w = .ok (.stringIter ⟨⟨b⟩⟩ p) w := by simp [getObj, Sem.run, hh]
        have hsz : (⟨⟨b⟩⟩ : ByteArray).size = b.length := rfl
        split at h
        · rename_i hp
          have hp : p < b.length := by simpa [Nat.blt_eq] using hp
          split at h
          rename_i c wd hd
          simp only [fnat_eq] at h
          obtain ⟨rfl, rfl⟩ := Prod.mk.inj (Option.some.inj h)
          obtain ⟨w', q1, q2, q3, q4⟩ := setObj_ok (P := P) (ob' := .iter b (p + wd)) (y := .stringIter ⟨⟨b⟩⟩ (p + wd)) hs hlook rfl rfl hq hh (fun _ _ _ e => by cases e) ⟨rfl, hq0⟩
          refine ⟨.tuple #[.bool true, goInt p, .int .i32 c], w', ρ, ?_, ⟨_, rfl, _, _, rfl, rfl, _, _, rfl, rfl, _, _, rfl, rfl, rfl⟩, q2, q3, q4⟩
          have hd' : Utf8.decode ⟨⟨b⟩⟩ p = (c, wd) := hd
          simp [Instr.next, hv, hget, hsz, hp, hd', q1]
        · rename_i hp
          have hp : ¬ p < b.length := by
            intro hh
            have : Nat.blt p b.length = true := by simpa [Nat.blt_eq] using hh
            rw [this] at hp
            cases hp
          obtain ⟨rfl, rfl⟩ := Prod.mk.inj (Option.some.inj h)
          refine MO.same (u := .tuple #[.bool false]) hs ?_ ⟨_, rfl, _, _, rfl, rfl, rfl⟩
          simp [Instr.next, hv, hget, hsz, hp]
      · cases h
    · cases h
  · cases h

theorem first0_ok {y : AV} {v : Value} {m sz : Nat} (h : lenAV y = some m) (hy : VR ρ y v) : ∃ arr, (Builtin.firstCells sz 0 v).run P w = .ok arr w := by
  unfold lenAV at h
  split at h
  · obtain ⟨p, a, c, _, rfl, _⟩ := hy
    exact ⟨#[], by simp [Builtin.firstCells, loadCells, loadCellsFrom]⟩
  · obtain rfl := hy
    exact ⟨#[], rfl⟩
  · obtain rfl := hy
    exact ⟨_, rfl⟩
  · cases h

theorem copy_ok {ats : Array TypeId} {t elem ty : TypeId} {x y a : AV} {u v : Value} {sz n : Nat} {s' : St} (hs : Sim ρ g s w.heap) (h0 : ats[0]? = some t) (ht : und P t = some (.slice elem)) (hsz : size P elem = some sz) (hn : lenAV y = some n)
    (hx : VR ρ x u) (hy : VR ρ y v) (h : copyS s sz x y n = some (a, s')) : MO P g ρ s w (Builtin.copy_ ats ty #[u, v]) a s' := by
  have hlen := lenAV_ok (P := P) (w := w) hn hy
  unfold copyS at h
  split at h
  · obtain ⟨rfl, rfl⟩ := Prod.mk.inj (Option.some.inj h)
    obtain rfl := hx
    obtain ⟨arr, harr⟩ := first0_ok (P := P) (w := w) (sz := sz) hn hy
    refine MO.same (u := goInt 0) hs ?_ rfl
    simp [Builtin.copy_, h0, run_und ht, hlen, run_size hsz, harr]
  · rename_i l off len cap sz' ex
    split at h
    · rename_i hse
      obtain rfl : sz = sz' := Nat.eq_of_beq_eq_true hse
      split at h
      · rename_i new hnew
        split at h
        · rename_i r hrow
          simp only [fnat_eq] at h
          obtain ⟨r', hset, rfl, rfl, hflat⟩ := putF_ok h
          obtain ⟨arr, hf, hfr, hfs⟩ := first_ok (P := P) hs hnew hy hn (Nat.min_le_left _ _)
          obtain ⟨p, ad, c', hp, rfl, h3, h4, h5, h6⟩ := hx
          have hstore : ∃ w', (storeCells ad arr.toList).run P w = .ok () w' ∧ Sim ρ g (s.put l (.cells r')) w'.heap ∧ Ste ρ s w.heap ρ (s.put l (.cells r')) w'.heap ∧ Out w w' := by
            rcases Nat.eq_zero_or_pos c' with hc | hc
            · have h7 : Nat.min n len = 0 := by
                have := Nat.min_le_right n len
                have e : Nat.min n len = min n len := rfl
                omega
              have harr : arr.toList = [] := by
                apply List.eq_nil_of_length_eq_zero
                rw [Array.length_toList, hfs, h7]
                simp
              rw [harr] at hfr ⊢
              obtain ⟨w', q1, q2⟩ := write_ok (P := P) hs hrow hp hset hfr (by simp)
              have : w' = w := by
                have : (Result.ok () w : Result Unit) = .ok () w' := q1
                cases this
                rfl
              subst this
              exact ⟨w', rfl, q2⟩
            · obtain ⟨rfl, _⟩ := h6 hc
              exact write_ok (P := P) hs hrow hp hset hfr (flat_all hfr hflat)
          obtain ⟨w', q1, q2, q3, q4⟩ := hstore
          refine ⟨goInt (Nat.min n len), w', ρ, ?_, rfl, q2, q3, q4⟩
          simp [Builtin.copy_, h0, run_und ht, hlen, run_size hsz, hf w rfl, q1]
        · cases h
      · cases h
    · cases h
  · cases h

theorem zeroCells_ok {z : AV} {zv : Value} (hz : VR ρ z zv) (n : Nat) : VRs ρ (copies z.cells n) (Builtin.zeroCells zv.cells n).toList :=
  zeros_ok hz.cells n rfl

theorem clear_ok {c : Call} {ty : TypeId} {a : AV} {s' : St} (hs : Sim ρ g s w.heap) (hl : Lks ρ lk e) (h : clearL P lk s c.args.toList c.argTypes.toList = some (a, s')) :
    MO P g ρ s w (Builtin.clear_ c.argTypes ty (c.args.map e)) a s' := by
  unfold clearL at h
  split at h
  · rename_i x t ts hx hts
    have hargs : c.args = #[x] := Array.ext' hx
    have h0 : c.argTypes[0]? = some t := by rw [← Array.getElem?_toList, hts]; rfl
    have h0' : (c.args.map e)[0]? = some (e x) := by rw [hargs]; simp
    split at h
    · rename_i l off len cap sz ex hv
      split at h
      · rename_i elem hel
        have ht := elemD_ok hel
        split at h
        · rename_i z hz
          split at h
          · rename_i r hrow
            split at h
            · rename_i hzs
              have hzs : z.cells.length = sz := Nat.eq_of_beq_eq_true hzs
              obtain ⟨r', hset, rfl, rfl, hflat⟩ := putF_ok h
              obtain ⟨p, ad, c', hp, hxv, h3, h4, h5, h6⟩ := hl _ _ hv
              obtain ⟨rfl, _⟩ := h6 (by omega)
              obtain ⟨zv, hzr, hzv⟩ := run_zero (P := P) (w := w) (ρ := ρ) hz
              have hzc := zeroCells_ok hzv (len + 1)
              obtain ⟨w', q1, q2, q3, q4⟩ := write_ok (P := P) hs hrow hp hset hzc (flat_all hzc hflat)
              refine ⟨.tuple #[], w', ρ, ?_, ⟨#[], rfl, rfl⟩, q2, q3, q4⟩
              simp [Builtin.clear_, h0, h0', run_und ht, hxv, hzr, q1]
            · cases h
          · cases h
        · cases h
      · cases h
    · rename_i l off cap sz ex hv
      split at h
      · rename_i d ht
        obtain ⟨rfl, rfl⟩ := Prod.mk.inj (Option.some.inj h)
        obtain ⟨p, ad, c', hp, hxv, _⟩ := hl _ _ hv
        refine MO.same (u := .tuple #[]) hs ?_ ⟨#[], rfl, rfl⟩
        simp [Builtin.clear_, h0, h0', run_und ht, hxv]
      · cases h
    · rename_i hv
      split at h
      · rename_i d ht
        obtain ⟨rfl, rfl⟩ := Prod.mk.inj (Option.some.inj h)
        have hxv := hl _ _ hv
        rw [VR.eq_5] at hxv
        refine MO.same (u := .tuple #[]) hs ?_ ⟨#[], rfl, rfl⟩
        simp [Builtin.clear_, h0, h0', run_und ht, hxv]
      · cases h
    · cases h
  · cases h

theorem minMax_ok {lss : Bool} {k : IntKind} : ∀ {l : List AV} {x : Int} {us : List Value} {a : AV}, minMax lss k x l = some a → VRs ρ l us →
    ∃ u, (us.foldlM (if lss then Builtin.min2 else Builtin.max2) (.int k x)).run P w = .ok u w ∧ VR ρ a u
  | [], x, us, a, h, hu => by
    obtain rfl := hu
    obtain rfl := mkI_ok h
    exact ⟨_, rfl, rfl⟩
  | b :: l, x, us, a, h, hu => by
    obtain ⟨v, us, rfl, hv, hu⟩ := hu
    cases b with
    | int k' y =>
      simp only [minMax] at h
      split at h
      · rename_i hk
        obtain rfl := (kindEq_iff _ _).1 hk
        rw [VR.eq_2] at hv
        subst hv
        obtain ⟨u, h1, h2⟩ := minMax_ok h hu
        refine ⟨u, ?_, h2⟩
        rw [List.foldlM_cons]
        have : ((if lss then Builtin.min2 else Builtin.max2) (.int k x) (.int k y)).run P w = .ok (.int k (pickI lss x y)) w := by
          cases lss
          · simp only [Bool.false_eq_true, if_false, Builtin.max2, pickI, ilt_eq]
            by_cases hc : x < y <;> simp [hc]
          · simp only [if_true, Builtin.min2, pickI, ilt_eq]
            by_cases hc : y < x <;> simp [hc]
        rw [Sem.run_bind, this]
        exact h1
      · cases h
    | _ => cases h

theorem minMaxL_ok {lss : Bool} {c : Call} {ty : TypeId} {a : AV} {s' : St} (hs : Sim ρ g s w.heap) (hl : Lks ρ lk e) (h : minMaxL lss s (mapO lk c.args.toList) = some (a, s')) :
    MO P g ρ s w (if lss then Builtin.min_ c.argTypes ty (c.args.map e) else Builtin.max_ c.argTypes ty (c.args.map e)) a s' := by
  unfold minMaxL at h
  split at h
  · rename_i k x r hm
    have hvs := lks_list hl hm
    obtain ⟨v, us, hus, hv, hr⟩ := hvs
    rw [VR.eq_2] at hv
    subst hv
    split at h
    · rename_i q hq
      obtain ⟨rfl, rfl⟩ := Prod.mk.inj (Option.some.inj h)
      obtain ⟨u, h1, h2⟩ := minMax_ok (P := P) (w := w) hq hr
      refine MO.same (u := u) hs ?_ h2
      have hargs : (c.args.map e).toList = .int k x :: us := by simpa using hus
      cases lss
      · simp only [Bool.false_eq_true, if_false, Builtin.max_, hargs] at h1 ⊢
        exact h1
      · simp only [if_true, Builtin.min_, hargs] at h1 ⊢
        exact h1
    · cases h
  · cases h

theorem callL_ok {c : Call} {a : AV} {s' : St} (hs : Sim ρ g s w.heap) (ho : o.op = .call c) (hl : Lks ρ lk e) (h : callL P lk s c = some (a, s')) : LO P g ρ s w e o a s' := by
  unfold callL at h
  split at h <;> rename_i hc
  · refine lo_of (m := Builtin.append_ c.argTypes o.type (c.args.map e)) (by rw [call_builtin ho hc]; rfl) ?_
    unfold appendL at h
    split at h
    · rename_i x y t ts hx hts
      have hargs : c.args.map e = #[e x, e y] := by rw [show c.args = #[x, y] from Array.ext' hx]; simp
      have h0 : c.argTypes[0]? = some t := by rw [← Array.getElem?_toList, hts]; rfl
      split at h
      · rename_i hp
        split at h
        · rename_i xa hxa
          split at h
          · rename_i ya hya
            rw [hargs]
            refine append_ok hs (hl _ _ hxa) (hl _ _ hya) h0 ?_ h
            cases ts with
            | nil => left; rw [← Array.getElem?_toList, hts]; rfl
            | cons u r =>
              right
              simp only [plainAppend] at hp
              cases hu : und P u with
              | none => rw [hu] at hp; cases hp
              | some d => exact ⟨u, d, by rw [← Array.getElem?_toList, hts]; rfl, hu, by rw [hu] at hp; exact hp⟩
          · cases h
        · cases h
      · cases h
    · cases h
  · refine lo_of (m := Builtin.copy_ c.argTypes o.type (c.args.map e)) (by rw [call_builtin ho hc]; rfl) ?_
    unfold copyL at h
    split at h
    · rename_i x y t ts hx hts
      have hargs : c.args.map e = #[e x, e y] := by rw [show c.args = #[x, y] from Array.ext' hx]; simp
      have h0 : c.argTypes[0]? = some t := by rw [← Array.getElem?_toList, hts]; rfl
      split at h
      · rename_i xa hxa
        split at h
        · rename_i ya hya
          split at h
          · rename_i elem hel
            split at h
            · rename_i sz hsz
              split at h
              · rename_i n hn
                rw [hargs]
                exact copy_ok hs h0 (elemD_ok hel) hsz hn (hl _ _ hxa) (hl _ _ hya) h
              · cases h
            · cases h
          · cases h
        · cases h
      · cases h
    · cases h
  · exact lo_of (m := Builtin.clear_ c.argTypes o.type (c.args.map e)) (by rw [call_builtin ho hc]; rfl) (clear_ok hs hl h)
  · refine lo_of (m := Builtin.delete_ c.argTypes o.type (c.args.map e)) (by rw [call_builtin ho hc]; rfl) ?_
    split at h
    · rename_i m k t ts hx hts
      have hargs : c.args.map e = #[e m, e k] := by rw [show c.args = #[m, k] from Array.ext' hx]; simp
      have h0 : c.argTypes[0]? = some t := by rw [← Array.getElem?_toList, hts]; rfl
      rw [hargs]
      exact delete_ok hs h0 hl h
    · cases h
  · exact lo_of (m := Builtin.min_ c.argTypes o.type (c.args.map e)) (by rw [call_builtin ho hc]; rfl) (minMaxL_ok (lss := true) (ty := o.type) hs hl h)
  · exact lo_of (m := Builtin.max_ c.argTypes o.type (c.args.map e)) (by rw [call_builtin ho hc]; rfl) (minMaxL_ok (lss := false) (ty := o.type) hs hl h)
  · cases h

theorem loud1_ok {a : AV} {s' : St} (hs : Sim ρ g s w.heap) (hl : Lks ρ lk e) (h : loud1 P lk o.op s = some (a, s')) : LO P g ρ s w e o a s' := by
  unfold loud1 at h
  split at h <;> rename_i ho
  · exact store_ok hs ho hl h
  · exact update_ok hs (by simp only [execOp, ho]) hl h
  · exact update_ok hs (by simp only [execOp, ho]) hl h
  · exact lo_of (m := Instr.next _ _ o.type) (by simp only [execOp, ho]) (next_ok hs hl h)
  · exact callL_ok hs ho hl h
  · cases h

end Go.Ev

/- An abstract evaluator over the model: one operation, and a row of them, in the order of the text. -/
namespace Go.Ev
variable {P : Program} {ρ : Pm} {g : Nat} {s : St} {w : World}

/-- The frames agree. -/
structure FR (ρ : Pm) (f : AF) (a : Act) : Prop where
  size : a.tmps.size = f.n
  defers : a.defers = []
  val : ∀ t : Nat, VR ρ (f.look t) (a.tmps.getD t undef)

theorem FR.mono {ρ' : Pm} {f : AF} {a : Act} (h : FR ρ f a) (hle : ρ.le ρ') : FR ρ' f a := ⟨h.size, h.defers, fun t => (h.val t).mono hle⟩

theorem look_def (f : AF) (t : Nat) : undefO (f.t.get (key t)) = some (f.look t) := by
  unfold AF.look
  cases f.t.get (key t) <;> rfl

theorem look_putF (f : AF) (d t : Nat) (v : AV) : (f.put (some d) v).look t = if t = d then v else f.look t := by
  unfold AF.look AF.put
  by_cases h : t = d
  · subst h; simp [T.get_set_same]
  · rw [if_neg h]; simp only; rw [T.get_set_ne _ (key_ne (fun e => h e.symm))]

theorem FR.put {f : AF} {a : Act} (h : FR ρ f a) {d : Option Nat} (hd : f.fits d = true) {v : AV} {u : Value} (hv : VR ρ v u) : FR ρ (f.put d v) (a.put d u) := by
  cases d with
  | none => exact h
  | some d =>
    have hlt : d < f.n := by simpa [AF.fits, Nat.blt_eq] using hd
    refine ⟨?_, h.defers, fun t => ?_⟩
    · show (a.tmps.setIfInBounds d u).size = f.n
      rw [Array.size_setIfInBounds]; exact h.size
    · rw [look_putF]
      show VR ρ _ ((a.tmps.setIfInBounds d u).getD t undef)
      by_cases e : t = d
      · subst e
        rw [if_pos rfl]
        have : (a.tmps.setIfInBounds t u).getD t undef = u := by
          rw [Array.getD_eq_getD_getElem?]
          simp [h.size, hlt]
        rw [this]
        exact hv
      · rw [if_neg e]
        have : (a.tmps.setIfInBounds d u).getD t undef = a.tmps.getD t undef := by
          rw [Array.getD_eq_getD_getElem?, Array.getD_eq_getD_getElem?, Array.getElem?_setIfInBounds_ne (fun x => e x.symm)]
        rw [this]
        exact h.val t

theorem FR.lk {f : AF} {a : Act} (h : FR ρ f a) (hg : ∀ i, i < g → ∃ n, ρ i = some ⟨i, 0, n⟩) : Lks ρ (f.lk g) a.eval := by
  intro x v hx
  cases x with
  | tmp t =>
    have hx : undefO (f.t.get (key t)) = some v := hx
    rw [look_def] at hx
    obtain rfl := Option.some.inj hx
    exact h.val t
  | const c => exact ofV_ok _ _ _ hx
  | global i =>
    have hx : globO i g = some v := hx
    unfold globO at hx
    split at hx
    · rename_i hi
      obtain rfl := Option.some.inj hx
      obtain ⟨n, hn⟩ := hg i (by simpa [Nat.blt_eq] using hi)
      exact ⟨_, hn, rfl⟩
    · cases hx
  | func i =>
    obtain rfl := Option.some.inj hx
    exact ⟨_, _, rfl, rfl, rfl⟩

theorem VR.bool_inv {a : AV} {b : Bool} (h : VR ρ a (.bool b)) : a = .bool b := by
  cases a with
  | bool c => rw [VR.eq_1] at h; cases h; rfl
  | agg l => obtain ⟨cs, h, _⟩ := h; cases h
  | tuple l => obtain ⟨cs, h, _⟩ := h; cases h
  | fn f p q => obtain ⟨_, _, h, _⟩ := h; cases h
  | iface t a => obtain ⟨_, h, _⟩ := h; cases h
  | ptr l o => obtain ⟨_, _, h⟩ := h; cases h
  | slice l o n c s e => obtain ⟨_, _, _, _, h, _⟩ := h; cases h
  | map l => obtain ⟨_, _, h⟩ := h; cases h
  | _ => unfold VR at h; cases h

theorem wanted_ok {f : AF} {a : Act} (h : FR ρ f a) (ops : Array Oper) (o : Oper) : Region.wanted o (yielded ops a.tmps) = wanted ops f o := by
  unfold Region.wanted wanted
  cases hg : o.guard with
  | none => rfl
  | some q =>
    obtain ⟨j, want⟩ := q
    simp only
    unfold yielded dstO wantD
    cases hj : ops[j]? with
    | none => rfl
    | some p =>
      simp only [Option.bind_some]
      cases hd : p.dst with
      | none => rfl
      | some d =>
        simp only [Option.bind_some]
        have hv := h.val d
        rw [Array.getD_eq_getD_getElem?] at hv
        cases ht : a.tmps[d]? with
        | none =>
          rw [ht] at hv
          have hne : ∀ b, f.look d ≠ .bool b := fun b e => by rw [e] at hv; cases hv
          simp only
          unfold isB
          split
          · rename_i b hb; exact absurd hb (hne b)
          · rfl
        | some x =>
          rw [ht] at hv
          simp only [Option.getD_some] at hv
          cases x with
          | bool b =>
            rw [hv.bool_inv]
            cases b <;> cases want <;> rfl
          | _ =>
            have hne : ∀ b, f.look d ≠ .bool b := fun b e => by rw [e] at hv; cases hv
            simp only
            unfold isB
            split
            · rename_i b hb; exact absurd hb (hne b)
            · rfl

variable {e : Operand → Value} {lk : Lk} {o : Oper}

theorem lo_pure {a : AV} (hs : Sim ρ g s w.heap) (h : NO P w ρ e o a) : LO P g ρ s w e o a s := by
  obtain ⟨v, h1, h2⟩ := h
  exact ⟨v, w, ρ, .inl h1, h2, hs, Ste.refl _ _ _, Out.refl _⟩

theorem lo_alloc {ob : AObj} {mk : Nat → AV} (hs : Sim ρ g s w.heap) (h : AO P w ρ e o ob mk) : LO P g ρ s w e o (mk s.nx) (s.add ob) := by
  obtain ⟨v, w', ob', n, h1, h2, h3, _, h4⟩ := h
  have hle : ρ.le (ρ.upd s.nx ⟨w.heap.size, 0, n⟩) := Pm.le_upd (hs.fresh _ (Nat.le_refl _))
  obtain ⟨q1, q2⟩ := h4 _ s.nx hle (Pm.upd_same _ _ _)
  obtain ⟨r1, r2⟩ := sim_add hs q2
  exact ⟨v, w', _, .inl h1, q1, by rw [h2]; exact r1, by rw [h2]; exact r2, h3⟩

variable {E : Env Prop}

theorem plain_ok {a : AV} {s' : St} (hP : E.P = P) (hs : Sim ρ g s w.heap) (hl : Lks ρ lk e) (h : plainOp E lk o.op s = some (a, s')) : LO P g ρ s w e o a s' := by
  subst hP
  unfold plainOp at h
  split at h
  · unfold withS at h
    split at h
    · rename_i v hv
      obtain ⟨rfl, rfl⟩ := Prod.mk.inj (Option.some.inj h)
      exact lo_pure hs (pure1_ok hl hv)
    · cases h
  · unfold withS at h
    split at h
    · rename_i v hv
      obtain ⟨rfl, rfl⟩ := Prod.mk.inj (Option.some.inj h)
      exact lo_pure hs (read1_ok hs hl hv)
    · cases h
  · unfold layS at h
    split at h
    · rename_i ob mk hv
      obtain ⟨rfl, rfl⟩ := Prod.mk.inj (Option.some.inj h)
      exact lo_alloc hs (alloc1_ok hl hv)
    · cases h
  · exact loud1_ok hs hl h

/-- What is asked of the program: no function has the name of one that the model takes for itself. -/
def Named (P : Program) : Prop := ∀ (i : Nat) (fn : Func), P.funcs[i]? = some fn → (fn.name == "runtime.NumGoroutine") = false

/-- What is asked of the abstract call. -/
def CallOk (P : Program) (g : Nat) (call : CallR Prop) : Prop :=
  ∀ (i : FuncId) (l : List AV) (K : AV → St → Prop) (s : St) (w : World) (ρ : Pm) (us : List Value) (R : Ending → World → Prop), call i l K s → Sim ρ g s w.heap → VRs ρ l us →
    (∀ v s' w' ρ' u, K v s' → VR ρ' v u → Sim ρ' g s' w'.heap → Ste ρ s w.heap ρ' s' w'.heap → Out w w' → R (.returned u) w') →
    (∃ fn, P.funcs[i]? = some fn ∧ fn.body.isSome = true) ∧ Calls P i us.toArray w R

theorem callee_ok {i : FuncId} {l : List AV} (hl : Lks ρ lk e) (h : callee lk o.op = some (some (i, l))) (hnm : Named P) :
    ∃ us, VRs ρ l us ∧ ((∃ fn, P.funcs[i]? = some fn ∧ fn.body.isSome = true) → ∀ w, (execOp e o).run P w = .ok (.enter i us.toArray) w) := by
  unfold callee at h
  split at h
  · rename_i c ho
    split at h
    · rename_i x hx
      unfold calleeO at h
      split at h
      · rename_i gi first captured hf
        split at h
        · rename_i as has
          obtain ⟨rfl, rfl⟩ := Prod.mk.inj (Option.some.inj (Option.some.inj h))
          obtain ⟨x', y', hv, h1, h2⟩ := hl _ _ hf
          have h3 := lks_list hl has
          refine ⟨x'.toList ++ (c.args.toList.map e ++ y'.toList), VRs.append h1 (VRs.append h3 h2), ?_⟩
          rintro ⟨fn, hfn, hb⟩ w
          have hnone : ¬ fn.body = none := by intro hbb; rw [hbb] at hb; cases hb
          have hn : ¬ fn.name = "runtime.NumGoroutine" := by simpa using hnm _ _ hfn
          simp only [execOp, ho, resolve, hx, hv, Deferred.ofValue, invoke, callFunc]
          simp [hfn]
          rw [if_neg hn, if_neg hnone]
          congr 2
          apply Array.ext'
          simp
        · cases h
      · cases h
    · cases h
    · cases h
  · cases h

theorem step_ok {call : CallR Prop} {a : Act} {K : AV → St → Prop} {next : Act → World → Prop} {Q : Exit → Act → World → Prop} (hP : E.P = P) (hno : ∀ n, ¬ E.no n) (hnm : Named P) (hc : CallOk P g call)
    (hl : Lks ρ lk a.eval) (hs : Sim ρ g s w.heap) (h : stepOp E call lk o.op s K)
    (hK : ∀ v s' w' ρ' u, K v s' → VR ρ' v u → Sim ρ' g s' w'.heap → Ste ρ s w.heap ρ' s' w'.heap → Out w w' → next (a.put o.dst u) w') : o.wp P a w next Q := by
  unfold stepOp at h
  unfold Oper.wp
  split at h
  · exact absurd h (hno _)
  · rename_i i l hcal
    obtain ⟨us, hus, hrun⟩ := callee_ok (P := P) hl hcal hnm
    obtain ⟨hfn, hcalls⟩ := hc i l K s w ρ us (fun
        | .returned v, w'' => next (a.put o.dst v) w''
        | .panicked chain, w'' => Q (.panic chain) a w''
        | .outgrown, _ => LetsOut Q) h hs hus (fun v s' w' ρ' u h1 h2 h3 h4 h5 => hK v s' w' ρ' u h1 h2 h3 h4 h5)
    rw [hrun hfn w]
    exact hcalls
  · unfold resK at h
    split at h
    · rename_i v s' hv
      obtain ⟨u, w', ρ', hr, h1, h2, h3, h4⟩ := plain_ok hP hs hl hv
      rcases hr with hr | ⟨hr, rfl⟩
      · rw [hr]; exact hK v s' w' ρ' u h h1 h2 h3 h4
      · rw [hr]; exact hK v s' w' ρ' undef h h1 h2 h3 h4
    · exact absurd h (hno _)

/-- A row of operations, in the order of the text. -/
theorem seq_ok {call : CallR Prop} {ops : Array Oper} {K : AF → St → Prop} {Q : Exit → Act → World → Prop} (hP : E.P = P) (hg : E.g = g) (hno : ∀ n, ¬ E.no n) (hnm : Named P) (hc : CallOk P g call) :
    ∀ (l pre : List Oper) (f : AF) (s : St) (a : Act) (w : World) (ρ : Pm), ops.toList = pre ++ l → FR ρ f a → Sim ρ g s w.heap → seqOps E call ops K l f s →
    (∀ f' s' a' w' ρ', K f' s' → FR ρ' f' a' → Sim ρ' g s' w'.heap → Ste ρ s w.heap ρ' s' w'.heap → Out w w' → Q .normal a' w') →
    wpOps P ops Q (List.range' pre.length l.length) a w
  | [], pre, f, s, a, w, ρ, _, hf, hs, h, hQ => hQ f s a w ρ h hf hs (Ste.refl _ _ _) (Out.refl _)
  | o :: l, pre, f, s, a, w, ρ, hops, hf, hs, h, hQ => by
    have hget : ops[pre.length]? = some o := by
      rw [← Array.getElem?_toList, hops]
      simp
    have hrest : ops.toList = (pre ++ [o]) ++ l := by rw [hops]; simp
    have hlen : (pre ++ [o]).length = pre.length + 1 := by simp
    simp only [List.length_cons, List.range'_succ]
    rw [wpOps_cons]
    unfold wpOp
    rw [hget]
    simp only [wanted_ok hf]
    simp only [seqOps] at h
    unfold seq1 at h
    split at h
    · rename_i hfit
      split at h
      · rename_i hw
        rw [if_pos hw]
        left
        refine step_ok hP hno hnm hc (hg ▸ hf.lk hs.glob) hs h (fun v s' w' ρ' u h1 h2 h3 h4 h5 => ?_)
        have hf' := (hf.mono (hs.le h4.agree)).put hfit h2
        have := seq_ok hP hg hno hnm hc l (pre ++ [o]) _ _ (a.put o.dst u) w' ρ' hrest hf' h3 h1 (fun f' s'' a' w'' ρ'' k1 k2 k3 k4 k5 => hQ f' s'' a' w'' ρ'' k1 k2 k3 (h4.trans k4) (h5.trans k5))
        rwa [hlen] at this
      · rename_i hw
        have hw' : ¬ wanted ops f o = true := by rw [hw]; simp
        rw [if_neg hw']
        have hf' := hf.put hfit (v := .undef) (u := undef) ⟨#[], rfl, rfl⟩
        have := seq_ok hP hg hno hnm hc l (pre ++ [o]) _ _ (a.put o.dst undef) w ρ hrest hf' hs h hQ
        rwa [hlen] at this
    · exact absurd h (hno _)

end Go.Ev

/- An abstract evaluator over the model: what is known of the order of a region's operations. -/
namespace Go.Ev

theorem bit_zero (i : Nat) : bit 0 i = false := Nat.zero_testBit i
theorem bit_lor (a b i : Nat) : bit (Nat.lor a b) i = (bit a i || bit b i) := Nat.testBit_or a b i
theorem bit_pow (i j : Nat) : bit (2 ^ i) j = decide (i = j) := Nat.testBit_two_pow
theorem bit_full (n i : Nat) : bit (2 ^ n - 1) i = decide (i < n) := Nat.testBit_two_pow_sub_one n i
theorem bit_add {d l x : Nat} : bit (Nat.lor d (2 ^ l)) x = true ↔ bit d x = true ∨ x = l := by
  rw [bit_lor, bit_pow]
  by_cases h : l = x
  · subst h; simp
  · have : ¬ x = l := fun e => h e.symm
    simp [h, this]
theorem within_ok {b d i : Nat} (h : within b d = true) (hi : bit b i = true) : bit d i = true := by
  have h : Nat.land b d = b := Nat.eq_of_beq_eq_true h
  have := Nat.testBit_and b d i
  have e : (b &&& d) = b := h
  rw [e] at this
  unfold bit at *
  rw [hi] at this
  simpa using this.symm

theorem memN_iff {t : Nat} : ∀ {l : List Nat}, memN t l = true ↔ t ∈ l
  | [] => by simp [memN]
  | a :: l => by
    unfold memN
    split
    · rename_i h
      simp [Nat.eq_of_beq_eq_true h]
    · rename_i h
      have hne : ¬ t = a := fun e => by subst e; simp at h
      simp [memN_iff, hne]

/-- The operation reads a slot, or writes it. -/
def Touches (ops : Array Oper) (o : Oper) (t : Nat) : Prop := t ∈ readsOf ops o ∨ o.dst = some t

theorem clash_of {ops : Array Oper} {o : Oper} {t : Nat} (h : Touches ops o t) : clashes (some t) o.dst (readsOf ops o) = true := by
  unfold clashes
  simp only
  rcases h with h | h
  · simp [memN_iff.2 h]
  · simp [h]

structure Ord (ops : Array Oper) (bef : Array Nat) : Prop where
  edge : ∀ i o, ops[i]? = some o → ∀ e ∈ o.after, Region.binds .any e = true → e.on < i
  back : ∀ i o j, ops[i]? = some o → bit (bef.getD i 0) j = true → ∃ e ∈ o.after, Region.binds .any e = true ∧ (e.on = j ∨ bit (bef.getD e.on 0) j = true)
  apart : ∀ i j a b t, i ≠ j → ops[i]? = some a → ops[j]? = some b → a.dst = some t → Touches ops b t → bit (bef.getD j 0) i = true ∨ bit (bef.getD i 0) j = true

theorem cover_ok {bef : Array Nat} {j : Nat} : ∀ {es : List Edge} {c : Nat}, bit (cover bef es c) j = true → bit c j = true ∨ ∃ e ∈ es, Region.binds .any e = true ∧ (e.on = j ∨ bit (bef.getD e.on 0) j = true)
  | [], _, h => .inl h
  | e :: es, c, h => by
    unfold cover at h
    split at h
    · rename_i hb
      rcases cover_ok h with h | ⟨e', h1, h2⟩
      · rw [bit_lor, bit_lor, bit_pow] at h
        simp only [Bool.or_eq_true, decide_eq_true_eq] at h
        rcases h with h | h | h
        · exact .inl h
        · exact .inr ⟨e, List.mem_cons_self .., hb, .inl h⟩
        · exact .inr ⟨e, List.mem_cons_self .., hb, .inr h⟩
      · exact .inr ⟨e', List.mem_cons_of_mem _ h1, h2⟩
    · rcases cover_ok h with h | ⟨e', h1, h2⟩
      · exact .inl h
      · exact .inr ⟨e', List.mem_cons_of_mem _ h1, h2⟩

theorem apartAll_ok {ops : Array Oper} {bef : Array Nat} : ∀ {l : List Nat}, apartAll ops bef l = true → ∀ j ∈ l, ∀ i, i < j → apart ops bef i j = true
  | [], _, j, hj => by cases hj
  | k :: l, h, j, hj => by
    unfold apartAll at h
    simp only [Bool.and_eq_true] at h
    intro i hi
    cases hj with
    | head => exact List.all_eq_true.1 h.1 i (List.mem_range.2 hi)
    | tail _ hj => exact apartAll_ok h.2 j hj i hi

theorem ord_of {R : Type} {E : Env R} {ops : Array Oper} {bef : Array Nat} {ph : List (List Nat × Nat)} {last : List Nat} (h : drawOk E ops bef ph last = true) : Ord ops bef ∧ phasesOk E ops bef last ph none 0 = true := by
  unfold drawOk at h
  simp only [Bool.and_eq_true] at h
  obtain ⟨h1, h2, h3⟩ := h
  have hlt : ∀ {i o}, ops[i]? = some o → i < ops.size := fun ho => (Array.getElem?_eq_some_iff.1 ho).1
  have hedge : ∀ i o, ops[i]? = some o → (∀ e ∈ o.after, Region.binds .any e = true → e.on < i) ∧ bef.getD i 0 = cover bef o.after.toList 0 := fun i o ho => by
    have := List.all_eq_true.1 h1 i (List.mem_range.2 (hlt ho))
    rw [ho] at this
    unfold edgesOk at this
    simp only [Bool.and_eq_true] at this
    refine ⟨fun e he hb => ?_, Nat.eq_of_beq_eq_true this.2⟩
    have := List.all_eq_true.1 this.1 e (by simpa using he)
    simp only [Bool.or_eq_true, Bool.not_eq_true'] at this
    rcases this with h | h
    · rw [hb] at h; cases h
    · simpa [Nat.blt_eq] using h
  refine ⟨⟨fun i o ho => (hedge i o ho).1, fun i o j ho hb => ?_, fun i j a b t hne ha hb hd ht => ?_⟩, h3⟩
  · rw [(hedge i o ho).2] at hb
    rcases cover_ok hb with h | ⟨e, he, h⟩
    · rw [bit_zero] at h; cases h
    · exact ⟨e, by simpa using he, h⟩
  · have hc : clashes a.dst b.dst (readsOf ops b) = true := by rw [hd]; exact clash_of ht
    rcases Nat.lt_or_ge i j with hij | hij
    · have := apartAll_ok h2 j (List.mem_range.2 (hlt hb)) i hij
      unfold apart at this
      rw [ha, hb] at this
      simp only [hc, Bool.true_or, Bool.not_true, Bool.or_false] at this
      exact .inl this
    · have := apartAll_ok h2 i (List.mem_range.2 (hlt ha)) j (by omega)
      unfold apart at this
      rw [ha, hb] at this
      simp only [hc, Bool.or_true, Bool.not_true, Bool.or_false] at this
      exact .inr this

/-- With an operation all are listed that stand before it. -/
def Closed (ops : Array Oper) (S : Nat → Bool) : Prop := ∀ i o, S i = true → ops[i]? = some o → ∀ e ∈ o.after, Region.binds .any e = true → S e.on = true

theorem Ord.before {ops : Array Oper} {bef : Array Nat} (ho : Ord ops bef) {S : Nat → Bool} (hc : Closed ops S) :
    ∀ (i : Nat) (o : Oper), ops[i]? = some o → (∀ e ∈ o.after, Region.binds .any e = true → S e.on = true) → ∀ j, bit (bef.getD i 0) j = true → S j = true := by
  intro i
  induction i using Nat.strongRecOn with
  | _ i ih =>
    intro o hi hS j hj
    obtain ⟨e, he, hb, h⟩ := ho.back i o j hi hj
    rcases h with rfl | h
    · exact hS e he hb
    · have hlt := ho.edge i o hi e he hb
      have hsz : e.on < ops.size := Nat.lt_trans hlt (Array.getElem?_eq_some_iff.1 hi).1
      exact ih e.on hlt ops[e.on] (Array.getElem?_eq_getElem hsz) (hc e.on _ (hS e he hb) (Array.getElem?_eq_getElem hsz)) j h

/-- What an operation gave, in the order of the plan, the newest first. -/
structure Ent where
  i : Nat
  d : Option Nat
  v : AV

/-- The frame after those operations that are listed. -/
noncomputable def virt (S : Nat → Bool) (f0 : AF) : List Ent → AF
  | [] => f0
  | e :: r => match S e.i with
    | true => (virt S f0 r).put e.d e.v
    | false => virt S f0 r

theorem virt_cons (S : Nat → Bool) (f0 : AF) (e : Ent) (r : List Ent) : virt S f0 (e :: r) = match S e.i with
    | true => (virt S f0 r).put e.d e.v
    | false => virt S f0 r := rfl

def allB : Nat → Bool := fun _ => true

theorem put_n (f : AF) (d : Option Nat) (v : AV) : (f.put d v).n = f.n := by cases d <;> rfl
theorem look_putO (f : AF) (d : Option Nat) (v : AV) (t : Nat) : (f.put d v).look t = if d = some t then v else f.look t := by
  cases d with
  | none => rfl
  | some d =>
    rw [look_putF]
    by_cases h : t = d
    · subst h; simp
    · have : ¬ some d = some t := fun e => h (Option.some.inj e).symm
      rw [if_neg h, if_neg this]

theorem virt_n (S : Nat → Bool) (f0 : AF) : ∀ l, (virt S f0 l).n = f0.n
  | [] => rfl
  | e :: l => by
    unfold virt
    split
    · rw [put_n]; exact virt_n S f0 l
    · exact virt_n S f0 l

theorem virt_skip {S : Nat → Bool} {f0 : AF} {t : Nat} {R : List Ent} : ∀ {L : List Ent}, (∀ e ∈ L, S e.i = true → e.d ≠ some t) → (virt S f0 (L ++ R)).look t = (virt S f0 R).look t
  | [], _ => rfl
  | e :: L, h => by
    have ih := virt_skip (R := R) (f0 := f0) (fun x hx => h x (List.mem_cons_of_mem _ hx))
    rw [List.cons_append, virt_cons]
    split
    · rename_i hs
      rw [look_putO, if_neg (h e (List.mem_cons_self ..) hs)]
      exact ih
    · exact ih

theorem virt_congr {S S' : Nat → Bool} {f0 : AF} {t : Nat} : ∀ {R : List Ent}, (∀ e ∈ R, e.d = some t → S e.i = S' e.i) → (virt S f0 R).look t = (virt S' f0 R).look t
  | [], _ => rfl
  | e :: R, h => by
    have ih := virt_congr (f0 := f0) (fun x hx => h x (List.mem_cons_of_mem _ hx))
    unfold virt
    by_cases hd : e.d = some t
    · rw [h e (List.mem_cons_self ..) hd]
      split
      · rw [look_putO, look_putO, if_pos hd, if_pos hd]
      · exact ih
    · have h1 : ∀ b : Bool, (match b with | true => (virt S f0 R).put e.d e.v | false => virt S f0 R).look t = (virt S f0 R).look t := fun b => by
        cases b
        · rfl
        · simp only; rw [look_putO, if_neg hd]
      have h2 : ∀ b : Bool, (match b with | true => (virt S' f0 R).put e.d e.v | false => virt S' f0 R).look t = (virt S' f0 R).look t := fun b => by
        cases b
        · rfl
        · simp only; rw [look_putO, if_neg hd]
      rw [h1, h2]
      exact ih

/-- The log keeps the order. -/
def Sorted (ops : Array Oper) (bef : Array Nat) : List Ent → Prop
  | [] => True
  | e :: r => (∀ x, bit (bef.getD e.i 0) x = true → ∃ e' ∈ r, e'.i = x) ∧ (∀ e' ∈ r, e'.i ≠ e.i) ∧ (∃ o, ops[e.i]? = some o ∧ o.dst = e.d) ∧ Sorted ops bef r

theorem Sorted.op {ops : Array Oper} {bef : Array Nat} : ∀ {l : List Ent}, Sorted ops bef l → ∀ e ∈ l, ∃ o, ops[e.i]? = some o ∧ o.dst = e.d
  | [], _, e, he => by cases he
  | x :: l, h, e, he => by
    cases he with
    | head => exact h.2.2.1
    | tail _ he => exact Sorted.op h.2.2.2 e he

theorem Sorted.right {ops : Array Oper} {bef : Array Nat} : ∀ {L R : List Ent}, Sorted ops bef (L ++ R) → Sorted ops bef R
  | [], _, h => h
  | _ :: L, _, h => Sorted.right (L := L) h.2.2.2

theorem Sorted.mem {ops : Array Oper} {bef : Array Nat} : ∀ {l : List Ent}, Sorted ops bef l → ∀ e ∈ l, ∀ x, bit (bef.getD e.i 0) x = true → ∃ e' ∈ l, e'.i = x
  | [], _, e, he => by cases he
  | y :: l, h, e, he => by
    intro x hx
    cases he with
    | head => obtain ⟨e', h1, h2⟩ := h.1 x hx; exact ⟨e', List.mem_cons_of_mem _ h1, h2⟩
    | tail _ he => obtain ⟨e', h1, h2⟩ := Sorted.mem h.2.2.2 e he x hx; exact ⟨e', List.mem_cons_of_mem _ h1, h2⟩

theorem Sorted.left_ne {ops : Array Oper} {bef : Array Nat} : ∀ {L R : List Ent}, Sorted ops bef (L ++ R) → ∀ x ∈ L, ∀ y ∈ R, x.i ≠ y.i
  | [], _, _, x, hx => by cases hx
  | z :: L, R, h, x, hx => by
    intro y hy
    cases hx with
    | head => exact fun e => h.2.1 y (List.mem_append_right _ hy) e.symm
    | tail _ hx => exact Sorted.left_ne (L := L) h.2.2.2 x hx y hy

section
variable {ops : Array Oper} {bef : Array Nat} {S : Nat → Bool} {f0 : AF}

/-- What an operation that is still to come finds in its slots: what those before it left there. -/
theorem slot_new (ho : Ord ops bef) {R : List Ent} (hs : Sorted ops bef R) {i : Nat} {o : Oper} (hi : ops[i]? = some o) (hout : ∀ e ∈ R, e.i ≠ i) (hb : ∀ j, bit (bef.getD i 0) j = true → S j = true) {t : Nat} (ht : Touches ops o t) :
    (virt S f0 R).look t = (virt allB f0 R).look t := by
  refine virt_congr fun x hx hd => ?_
  obtain ⟨ox, hox, hdx⟩ := hs.op x hx
  rcases ho.apart x.i i ox o t (hout x hx) hox hi (hdx.trans hd) ht with h | h
  · exact hb _ h
  · obtain ⟨e', he', h'⟩ := hs.mem x hx i h
    exact absurd h' (hout e' he')

theorem newer_ne (ho : Ord ops bef) (hc : Closed ops S) {L R : List Ent} {e : Ent} (hs : Sorted ops bef (L ++ e :: R)) {o : Oper} (hi : ops[e.i]? = some o) (hS : S e.i = false) {t : Nat} (ht : Touches ops o t) :
    ∀ x ∈ L, S x.i = true → x.d ≠ some t := by
  intro x hx hSx hd
  obtain ⟨ox, hox, hdx⟩ := hs.op x (List.mem_append_left _ hx)
  have hne : x.i ≠ e.i := hs.left_ne x hx e (List.mem_cons_self ..)
  rcases ho.apart x.i e.i ox o t hne hox hi (hdx.trans hd) ht with h | h
  · obtain ⟨e', he', h'⟩ := hs.right.1 x.i h
    exact hs.left_ne x hx e' (List.mem_cons_of_mem _ he') h'.symm
  · have := ho.before hc x.i ox hox (hc x.i ox hSx hox) e.i h
    rw [hS] at this; cases this

/-- What an operation finds in its slots that the plan has done before. -/
theorem slot_old (ho : Ord ops bef) (hc : Closed ops S) {L R : List Ent} {e : Ent} (hs : Sorted ops bef (L ++ e :: R)) {o : Oper} (hi : ops[e.i]? = some o) (hS : S e.i = false) (hb : ∀ j, bit (bef.getD e.i 0) j = true → S j = true) {t : Nat} (ht : Touches ops o t) :
    (virt S f0 (L ++ e :: R)).look t = (virt allB f0 R).look t := by
  rw [virt_skip (newer_ne ho hc hs hi hS ht)]
  have h1 : (virt S f0 (e :: R)) = virt S f0 R := by simp only [virt, hS]
  rw [h1]
  exact slot_new ho hs.right.2.2.2 hi hs.right.2.1 hb ht

/-- One operation more. -/
def more (S : Nat → Bool) (i : Nat) : Nat → Bool := fun x => S x || x == i

theorem more_ne {i x : Nat} (h : x ≠ i) : more S i x = S x := by simp [more, h]
theorem more_same {i : Nat} : more S i i = true := by simp [more]

theorem virt_more (ho : Ord ops bef) (hc : Closed ops S) {L R : List Ent} {e : Ent} (hs : Sorted ops bef (L ++ e :: R)) (hS : S e.i = false) (t : Nat) :
    (virt (more S e.i) f0 (L ++ e :: R)).look t = if e.d = some t then e.v else (virt S f0 (L ++ e :: R)).look t := by
  obtain ⟨o, hi, hdo⟩ := hs.op e (by simp)
  by_cases hd : e.d = some t
  · rw [if_pos hd]
    have ht : Touches ops o t := .inr (hdo.trans hd)
    have hne := newer_ne ho hc hs hi hS ht
    rw [virt_skip (fun x hx hSx => hne x hx (by rw [more_ne (hs.left_ne x hx e (List.mem_cons_self ..))] at hSx; exact hSx))]
    simp only [virt, more_same]
    rw [look_putO, if_pos hd]
  · rw [if_neg hd]
    refine virt_congr fun x hx hdx => more_ne fun hxe => ?_
    obtain ⟨ox, hox, hdox⟩ := hs.op x hx
    rw [hxe, hi] at hox
    obtain rfl := Option.some.inj hox
    exact hd (hdo.symm.trans (hdox.trans hdx))

theorem virt_cons_out {S : Nat → Bool} {e : Ent} {R : List Ent} (h : S e.i = false) : virt S f0 (e :: R) = virt S f0 R := by simp only [virt, h]

theorem virt_more_out {i : Nat} {R : List Ent} (h : ∀ e ∈ R, e.i ≠ i) : virt (more S i) f0 R = virt S f0 R := by
  induction R with
  | nil => rfl
  | cons e R ih =>
    simp only [virt]
    rw [more_ne (h e (List.mem_cons_self ..)), ih (fun x hx => h x (List.mem_cons_of_mem _ hx))]

theorem Closed.more (hc : Closed ops S) {i : Nat} {o : Oper} (hi : ops[i]? = some o) (h : ∀ e ∈ o.after, Region.binds .any e = true → S e.on = true) : Closed ops (more S i) := by
  intro j oj hj hoj e he hb
  by_cases hji : j = i
  · subst hji
    rw [hi] at hoj
    obtain rfl := Option.some.inj hoj
    simp [Ev.more, h e he hb]
  · rw [more_ne hji] at hj
    simp [Ev.more, hc j oj hj hoj e he hb]
end

end Go.Ev

/- An abstract evaluator over the model: blocks that are laid later than the plan says. -/
namespace Go.Ev

mutual
theorem AV.beq_ok : ∀ (a b : AV), AV.beq a b = true → a = b
  | .bool a, b, h => by cases b <;> simp [AV.beq] at h; rw [h]
  | .int k a, b, h => by
    cases b <;> simp [AV.beq, kindEq_iff, ieq_eq] at h
    rw [h.1, h.2]
  | .str a, b, h => by cases b <;> simp [AV.beq, bytesEq_eq] at h; rw [h]
  | .nilPtr, b, h => by cases b <;> simp [AV.beq] at h; rfl
  | .nilSlice, b, h => by cases b <;> simp [AV.beq] at h; rfl
  | .nilMap, b, h => by cases b <;> simp [AV.beq] at h; rfl
  | .nilFunc, b, h => by cases b <;> simp [AV.beq] at h; rfl
  | .nilIface, b, h => by cases b <;> simp [AV.beq] at h; rfl
  | .ptr a o, b, h => by cases b <;> simp [AV.beq] at h; rw [h.1, h.2]
  | .slice a o c d e f, b, h => by cases b <;> simp [AV.beq] at h; obtain ⟨h1, h2, h3, h4, h5, h6⟩ := h; rw [h1, h2, h3, h4, h5, h6]
  | .map a, b, h => by cases b <;> simp [AV.beq] at h; rw [h]
  | .fn f a c, b, h => by
    cases b <;> simp [AV.beq] at h
    rw [h.1, beqs_ok _ _ h.2.1, beqs_ok _ _ h.2.2]
  | .iface t a, b, h => by
    cases b <;> simp [AV.beq] at h
    rw [h.1, AV.beq_ok _ _ h.2]
  | .agg a, b, h => by cases b <;> simp [AV.beq] at h; rw [beqs_ok _ _ h]
  | .tuple a, b, h => by cases b <;> simp [AV.beq] at h; rw [beqs_ok _ _ h]
theorem beqs_ok : ∀ (a b : List AV), beqs a b = true → a = b
  | [], b, h => by cases b <;> simp [beqs] at h; rfl
  | a :: l, b, h => by
    cases b with
    | nil => simp [beqs] at h
    | cons b r =>
      simp [beqs] at h
      rw [AV.beq_ok _ _ h.1, beqs_ok _ _ h.2]
end

theorem read1_nx {P : Program} {lk : Lk} {o : Op} {s : St} (n : Nat) : read1 P lk o ⟨s.h, n⟩ = read1 P lk o s := by
  cases o <;> rfl

section
variable {D S : Nat → Bool} {s : St}

def PDist (ps : List Pend) : Prop := ps.Pairwise fun p q => p.l ≠ q.l ∧ p.i ≠ q.i

theorem layP_cons (D : Nat → Bool) (p : Pend) (ps : List Pend) (s : St) : layP D (p :: ps) s = match D p.i with
    | true => (layP D ps s).put p.l p.o
    | false => layP D ps s := rfl

theorem lay_nx : ∀ (ps : List Pend), (layP D ps s).nx = s.nx
  | [] => rfl
  | p :: ps => by
    rw [layP_cons]
    split
    · exact lay_nx ps
    · exact lay_nx ps

theorem lay_inv : ∀ {ps : List Pend} {l : Nat} {ob : AObj}, (layP D ps s).look l = some ob → (∃ p ∈ ps, D p.i = true ∧ p.l = l ∧ p.o = ob) ∨ s.look l = some ob
  | [], _, _, h => .inr h
  | p :: ps, l, ob, h => by
    rw [layP_cons] at h
    split at h
    · rename_i hd
      rw [look_put] at h
      by_cases hl : l = p.l
      · rw [if_pos hl] at h
        exact .inl ⟨p, List.mem_cons_self .., hd, hl.symm, Option.some.inj h⟩
      · rw [if_neg hl] at h
        rcases lay_inv h with ⟨q, h1, h2⟩ | h
        · exact .inl ⟨q, List.mem_cons_of_mem _ h1, h2⟩
        · exact .inr h
    · rcases lay_inv h with ⟨q, h1, h2⟩ | h
      · exact .inl ⟨q, List.mem_cons_of_mem _ h1, h2⟩
      · exact .inr h

theorem lay_out {l : Nat} : ∀ {ps : List Pend}, (∀ p ∈ ps, D p.i = true → p.l ≠ l) → (layP D ps s).look l = s.look l
  | [], _ => rfl
  | p :: ps, h => by
    rw [layP_cons]
    have ih := lay_out (fun q hq => h q (List.mem_cons_of_mem _ hq))
    split
    · rename_i hd
      rw [look_put, if_neg (fun e => h p (List.mem_cons_self ..) hd e.symm)]
      exact ih
    · exact ih

theorem lay_some : ∀ {ps : List Pend}, PDist ps → ∀ p ∈ ps, D p.i = true → (layP D ps s).look p.l = some p.o
  | [], _, p, hp, _ => by cases hp
  | q :: ps, h, p, hp, hd => by
    obtain ⟨h1, h2⟩ := List.pairwise_cons.1 h
    rw [layP_cons]
    cases hp with
    | head => rw [hd]; simp only; rw [look_put, if_pos rfl]
    | tail _ hp =>
      have ih := lay_some h2 p hp hd
      split
      · rw [look_put, if_neg (fun e => (h1 p hp).1 e.symm)]; exact ih
      · exact ih

theorem lay_same {D' : Nat → Bool} : ∀ {ps : List Pend}, (∀ p ∈ ps, D p.i = D' p.i) → layP D ps s = layP D' ps s
  | [], _ => rfl
  | p :: ps, h => by
    rw [layP_cons, layP_cons, h p (List.mem_cons_self ..), lay_same (fun q hq => h q (List.mem_cons_of_mem _ hq))]

theorem lay_h (n : Nat) : ∀ (ps : List Pend), (layP D ps ⟨s.h, n⟩).h = (layP D ps s).h
  | [] => rfl
  | p :: ps => by
    rw [layP_cons, layP_cons]
    split
    · show T.set _ _ _ = T.set _ _ _; rw [lay_h n ps]
    · exact lay_h n ps

theorem rest_mem {p : Pend} : ∀ {ps : List Pend}, p ∈ rest D ps ↔ p ∈ ps ∧ D p.i = false
  | [] => by simp [rest]
  | q :: ps => by
    unfold rest
    split
    · rename_i hd
      rw [rest_mem]
      constructor
      · exact fun ⟨h1, h2⟩ => ⟨List.mem_cons_of_mem _ h1, h2⟩
      · rintro ⟨h1, h2⟩
        cases h1 with
        | head => rw [hd] at h2; cases h2
        | tail _ h1 => exact ⟨h1, h2⟩
    · rename_i hd
      rw [List.mem_cons, rest_mem, List.mem_cons]
      constructor
      · rintro (rfl | ⟨h1, h2⟩)
        · exact ⟨.inl rfl, hd⟩
        · exact ⟨.inr h1, h2⟩
      · rintro ⟨rfl | h1, h2⟩
        · exact .inl rfl
        · exact .inr ⟨h1, h2⟩

theorem rest_dist : ∀ {ps : List Pend}, PDist ps → PDist (rest D ps)
  | [], h => h
  | p :: ps, h => by
    obtain ⟨h1, h2⟩ := List.pairwise_cons.1 h
    unfold rest
    split
    · exact rest_dist h2
    · exact List.pairwise_cons.2 ⟨fun q hq => h1 q (rest_mem.1 hq).1, rest_dist h2⟩

theorem still_ok {R : Type} {E : Env R} : ∀ {rs : List Rec}, still E D s rs = true → ∀ c ∈ rs, D c.i = false → read1 E.P (c.f.lkO E.g c.o) c.o s = some c.v
  | [], _, c, hc, _ => by cases hc
  | q :: rs, h, c, hc, hd => by
    unfold still at h
    split at h
    · rename_i hq
      cases hc with
      | head => rw [hq] at hd; cases hd
      | tail _ hc => exact still_ok h c hc hd
    · split at h
      · rename_i v hv
        simp only [Bool.and_eq_true] at h
        cases hc with
        | head => rw [hv, AV.beq_ok _ _ h.1]
        | tail _ hc => exact still_ok h.2 c hc hd
      · cases h
end

section
variable {ρ : Pm} {g : Nat}

theorem Sim.sub {s s1 : St} {h : Array Obj} (hs : Sim ρ g s h) (hnx : s1.nx = s.nx) (hsub : ∀ l ob, s1.look l = some ob → s.look l = some ob) : Sim ρ g s1 h :=
  ⟨fun l ob h1 => hs.obj l ob (hsub _ _ h1), fun l l' ob ob' p p' h1 h2 => hs.sep l l' ob ob' p p' (hsub _ _ h1) (hsub _ _ h2), fun l hl => hs.fresh l (by omega), hs.glob⟩

theorem sim_lay {s s' : St} {h : Array Obj} {l : Nat} {ob : AObj} {x : Obj} {n : Nat} (hs : Sim ρ g s h) (hl : l < s.nx) (hn : ρ l = none)
    (hx : ObjR (ρ.upd l ⟨h.size, 0, n⟩) ⟨h.size, 0, n⟩ ob x) (hnx : s'.nx = s.nx) (hlook : ∀ k, s'.look k = if k = l then some ob else s.look k) :
    Sim (ρ.upd l ⟨h.size, 0, n⟩) g s' (h.push x) := by
  have hle : ρ.le (ρ.upd l ⟨h.size, 0, n⟩) := Pm.le_upd hn
  have hpush : ∀ b : Nat, b < h.size → (h.push x)[b]? = h[b]? := fun b hb => by rw [Array.getElem?_push, if_neg (by omega)]
  refine ⟨fun k ob1 h1 => ?_, fun l1 l2 ob1 ob2 p1 p2 h1 h2 h3 h4 h5 h6 => ?_, fun k hk => ?_, fun i hi => ?_⟩
  · rw [hlook] at h1
    by_cases e1 : k = l
    · rw [if_pos e1] at h1
      obtain rfl := Option.some.inj h1
      subst e1
      exact ⟨_, x, Pm.upd_same _ _ _, by simp, hx⟩
    · rw [if_neg e1] at h1
      obtain ⟨p1, o1, hp1, hh1, hr1⟩ := hs.obj _ _ h1
      exact ⟨p1, o1, hle _ _ hp1, by rw [hpush _ (hs.lt h1 hp1)]; exact hh1, hr1.mono hle⟩
  · rw [hlook] at h1 h2
    by_cases e1 : l1 = l
    · subst e1
      rw [Pm.upd_same] at h5
      obtain rfl := Option.some.inj h5
      rw [if_neg (fun e => h4 e.symm)] at h2
      rw [Pm.upd_ne (fun e => h4 e.symm)] at h6
      have := hs.lt h2 h6
      simp only
      omega
    · rw [if_neg e1] at h1
      rw [Pm.upd_ne e1] at h5
      by_cases e2 : l2 = l
      · subst e2
        rw [Pm.upd_same] at h6
        obtain rfl := Option.some.inj h6
        have := hs.lt h1 h5
        simp only
        omega
      · rw [if_neg e2] at h2
        rw [Pm.upd_ne e2] at h6
        exact hs.sep l1 l2 ob1 ob2 p1 p2 h1 h2 h3 h4 h5 h6
  · rw [Pm.upd_ne (by omega)]
    exact hs.fresh k (by omega)
  · obtain ⟨m, hm⟩ := hs.glob i hi
    exact ⟨m, hle _ _ hm⟩

theorem ste_lay {ρ0 : Pm} {s0 s s' : St} {h0 h : Array Obj} {l : Nat} {ob : AObj} {x : Obj} {n : Nat} (ht : Ste ρ0 s0 h0 ρ s h) (hl : s0.nx ≤ l)
    (hnx : s'.nx = s.nx) (hlook : ∀ k, s'.look k = if k = l then some ob else s.look k) :
    Ste ρ0 s0 h0 (ρ.upd l ⟨h.size, 0, n⟩) s' (h.push x) := by
  refine ⟨by rw [hnx]; exact ht.nx, fun k hk => by rw [Pm.upd_ne (by omega)]; exact ht.agree k hk, by have := ht.size; simp; omega, fun b hb hf => ?_, fun k ob1 p1 h1 h3 => ?_⟩
  · have := ht.size
    rw [Array.getElem?_push, if_neg (by omega)]
    exact ht.frame b hb hf
  · rw [hlook] at h1
    by_cases e1 : k = l
    · subst e1
      rw [Pm.upd_same] at h3
      obtain rfl := Option.some.inj h3
      exact .inl ht.size
    · rw [if_neg e1] at h1
      rw [Pm.upd_ne e1] at h3
      exact ht.own k ob1 p1 h1 h3

/-- What an operation did that saw a part of memory, seen with all of it. -/
theorem merge_ok {ρ' : Pm} {b b' s1 s' : St} {h h' : Array Obj} (hs : Sim ρ g b h) (hnx1 : s1.nx = b.nx) (hsub : ∀ l ob, s1.look l = some ob → b.look l = some ob)
    (hs' : Sim ρ' g s' h') (ht : Ste ρ s1 h ρ' s' h') (hnx : b'.nx = s'.nx)
    (hlook : ∀ l ob, b'.look l = some ob → s'.look l = some ob ∨ (b.look l = some ob ∧ s1.look l = none ∧ ob.owned = true)) :
    Sim ρ' g b' h' ∧ Ste ρ b h ρ' b' h' := by
  have hle : ρ.le ρ' := hs.le (fun l hl => ht.agree l (by omega))
  have far : ∀ l ob p, b.look l = some ob → s1.look l = none → ob.owned = true → ρ l = some p → ∀ l2 ob2 p2, s'.look l2 = some ob2 → ρ' l2 = some p2 → p2.b ≠ p.b := by
    intro l ob p h1 h2 h3 h4 l2 ob2 p2 h5 h6 h7
    have hlt := hs.lt h1 h4
    rcases ht.own l2 ob2 p2 h5 h6 with h8 | ⟨l0, ob0, p0, h8, _, h9, h10⟩
    · omega
    · have hne : l ≠ l0 := fun e => by subst e; rw [h2] at h8; cases h8
      exact hs.sep l l0 ob ob0 p p0 h1 (hsub _ _ h8) h3 hne h4 h9 (by omega)
  have pend : ∀ l ob, b.look l = some ob → ∃ p, ρ l = some p ∧ ∀ q, ρ' l = some q → p = q := fun l ob h1 => by
    obtain ⟨p, o, hp, _⟩ := hs.obj l ob h1
    refine ⟨p, hp, fun q hq => ?_⟩
    rw [hle _ _ hp] at hq
    exact Option.some.inj hq
  refine ⟨⟨fun l ob h1 => ?_, fun l1 l2 ob1 ob2 p1 p2 h1 h2 h3 h4 h5 h6 => ?_, fun l hl => hs'.fresh l (by omega), hs'.glob⟩,
    ⟨by have := ht.nx; omega, fun l hl => ht.agree l (by omega), ht.size, fun k hk hf => ht.frame k hk (fun l ob p h1 => hf l ob p (hsub _ _ h1)), fun l ob p h1 h2 => ?_⟩⟩
  · rcases hlook _ _ h1 with h1 | ⟨h1, h2, h3⟩
    · exact hs'.obj _ _ h1
    · obtain ⟨p, o, hp, hh, hr⟩ := hs.obj _ _ h1
      refine ⟨p, o, hle _ _ hp, ?_, hr.mono hle⟩
      rw [ht.frame p.b (hs.lt h1 hp) (fun l2 ob2 p2 k1 k2 k3 => ?_)]
      · exact hh
      · exact hs.sep l2 l ob2 ob p2 p (hsub _ _ k1) h1 k2 (fun e => by subst e; rw [h2] at k1; cases k1) k3 hp
  · rcases hlook _ _ h1 with k1 | ⟨k1, k2, k3⟩ <;> rcases hlook _ _ h2 with m1 | ⟨m1, m2, m3⟩
    · exact hs'.sep l1 l2 ob1 ob2 p1 p2 k1 m1 h3 h4 h5 h6
    · obtain ⟨p, hp, hq⟩ := pend _ _ m1
      obtain rfl := hq _ h6
      exact far l2 ob2 p m1 m2 m3 hp l1 ob1 p1 k1 h5
    · obtain ⟨p, hp, hq⟩ := pend _ _ k1
      obtain rfl := hq _ h5
      exact fun e => far l1 ob1 p k1 k2 k3 hp l2 ob2 p2 m1 h6 e.symm
    · obtain ⟨p, hp, hq⟩ := pend _ _ k1
      obtain rfl := hq _ h5
      obtain ⟨p', hp', hq'⟩ := pend _ _ m1
      obtain rfl := hq' _ h6
      exact hs.sep l1 l2 ob1 ob2 p p' k1 m1 h3 h4 hp hp'
  · rcases hlook _ _ h1 with k1 | ⟨k1, k2, k3⟩
    · rcases ht.own l ob p k1 h2 with h | ⟨l0, ob0, p0, h, h'⟩
      · exact .inl h
      · exact .inr ⟨l0, ob0, p0, hsub _ _ h, h'⟩
    · obtain ⟨q, hq, hq'⟩ := pend _ _ k1
      obtain rfl := hq' _ h2
      exact .inr ⟨l, ob, q, k1, id, hq, rfl⟩

/-- A block that an operation didn't see is not named by what it left. -/
theorem merge_none {ρ' : Pm} {b s1 s' : St} {h h' : Array Obj} (hs : Sim ρ g b h) (hnx1 : s1.nx = b.nx) (hsub : ∀ l ob, s1.look l = some ob → b.look l = some ob)
    (_hs' : Sim ρ' g s' h') (ht : Ste ρ s1 h ρ' s' h') {l : Nat} {ob : AObj} (h1 : b.look l = some ob) (h2 : s1.look l = none) (h3 : ob.owned = true) : s'.look l = none := by
  cases h4 : s'.look l with
  | none => rfl
  | some ob' =>
    obtain ⟨p, o, hp, _⟩ := hs.obj _ _ h1
    have hle : ρ.le ρ' := hs.le (fun l hl => ht.agree l (by omega))
    have hlt := hs.lt h1 hp
    rcases ht.own l ob' p h4 (hle _ _ hp) with h8 | ⟨l0, ob0, p0, h8, _, h9, h10⟩
    · omega
    · have hne : l ≠ l0 := fun e => by subst e; rw [h2] at h8; cases h8
      exact absurd (by omega) (hs.sep l l0 ob ob0 p p0 h1 (hsub _ _ h8) h3 hne hp h9)

theorem merge_none' {ρ' : Pm} {s1 s' : St} {h h' : Array Obj} (hs' : Sim ρ' g s' h') (ht : Ste ρ s1 h ρ' s' h') {l : Nat} (hl : l < s1.nx) (h1 : ρ l = none) : s'.look l = none := by
  cases h4 : s'.look l with
  | none => rfl
  | some ob' =>
    obtain ⟨p, o, hp, _⟩ := hs'.obj _ _ h4
    rw [ht.agree l hl, h1] at hp
    cases hp
end

end Go.Ev

/- An abstract evaluator over the model: what holds while a region's operations are listed, in whatever order. -/
namespace Go.Ev

theorem alloc1_owned {P : Program} {lk : Lk} {o : Op} {ob : AObj} {mk : Nat → AV} (h : alloc1 P lk o = some (ob, mk)) : ob.owned = true := by
  unfold alloc1 allocA buildSliceA makeMapA makeSliceA convA rangeA at h
  simp only [fnat_eq] at h
  repeat' (split at h)
  all_goals first
    | (obtain ⟨rfl, _⟩ := Prod.mk.inj (Option.some.inj h); rfl)
    | cases h

/-- How an operation came by its value, in the plan. -/
def Fact (E : Env Prop) (ops : Array Oper) (s : St) (rs : List Rec) (ps : List Pend) (e : Ent) (fin : AF) : Prop :=
  ∃ o, ops[e.i]? = some o ∧ fin.fits o.dst = true ∧
    (((∀ p ∈ ps, p.i ≠ e.i) ∧ wanted ops fin o = false ∧ e.v = .undef) ∨
     (wanted ops fin o = true ∧
      (((∀ p ∈ ps, p.i ≠ e.i) ∧ pure1 E.P (fin.lkO E.g o.op) o.op = some e.v) ∨
       ((∀ p ∈ ps, p.i ≠ e.i) ∧ (⟨e.i, o.op, fin, e.v⟩ : Rec) ∈ rs ∧ read1 E.P (fin.lkO E.g o.op) o.op s = some e.v) ∨
       ∃ p mk, p ∈ ps ∧ p.i = e.i ∧ alloc1 E.P (fin.lkO E.g o.op) o.op = some (p.o, mk) ∧ e.v = mk p.l)))

def Facts (E : Env Prop) (ops : Array Oper) (f0 : AF) (S : Nat → Bool) (s : St) (rs : List Rec) (ps : List Pend) : List Ent → Prop
  | [] => True
  | e :: r => (S e.i = false → Fact E ops s rs ps e (virt allB f0 r)) ∧ Facts E ops f0 S s rs ps r

variable {E : Env Prop} {ops : Array Oper} {bef : Array Nat} {f0 : AF} {ρ0 : Pm} {s0 : St} {w0 : World}

theorem Facts.imp {S S' : Nat → Bool} {s s' : St} {rs rs' : List Rec} {ps ps' : List Pend} : ∀ {log : List Ent},
    (∀ e ∈ log, S' e.i = false → S e.i = false ∧ ∀ fin, Fact E ops s rs ps e fin → Fact E ops s' rs' ps' e fin) → Facts E ops f0 S s rs ps log → Facts E ops f0 S' s' rs' ps' log
  | [], _, _ => trivial
  | e :: _log, h, ⟨h1, h2⟩ => ⟨fun hS => (h e (List.mem_cons_self ..) hS).2 _ (h1 (h e (List.mem_cons_self ..) hS).1), Facts.imp (fun x hx => h x (List.mem_cons_of_mem _ hx)) h2⟩

theorem Facts.get {S : Nat → Bool} {s : St} {rs : List Rec} {ps : List Pend} {e : Ent} {R : List Ent} : ∀ {L : List Ent}, Facts E ops f0 S s rs ps (L ++ e :: R) → S e.i = false → Fact E ops s rs ps e (virt allB f0 R)
  | [], h, hS => h.1 hS
  | _ :: L, h, hS => Facts.get (L := L) h.2 hS

structure Inv (E : Env Prop) (ops : Array Oper) (bef : Array Nat) (f0 : AF) (ρ0 : Pm) (s0 : St) (w0 : World) (S : Nat → Bool) (log : List Ent) (s : St) (rs : List Rec) (ps : List Pend) (a : Act) (w : World) (ρ : Pm) : Prop where
  frame : FR ρ (virt S f0 log) a
  sim : Sim ρ E.g (layP S ps s) w.heap
  ste : Ste ρ0 s0 w0.heap ρ (layP S ps s) w.heap
  out : Out w0 w
  closed : Closed ops S
  sub : ∀ i, S i = true → ∃ e ∈ log, e.i = i
  sorted : Sorted ops bef log
  facts : Facts E ops f0 S s rs ps log
  pend : ∀ p ∈ ps, s0.nx ≤ p.l ∧ p.l < s.nx ∧ p.o.owned = true ∧ s.look p.l = none ∧ (S p.i = false → ρ p.l = none) ∧ ∃ e ∈ log, e.i = p.i
  dist : PDist ps

def DoneRel (done : Nat) (log : List Ent) : Prop := ∀ x, bit done x = true ↔ ∃ e ∈ log, e.i = x

theorem DoneRel.add {done : Nat} {log : List Ent} (h : DoneRel done log) (e : Ent) : DoneRel (Nat.lor done (2 ^ e.i)) (e :: log) := by
  intro x
  rw [bit_add, h x]
  constructor
  · rintro (⟨e', h1, h2⟩ | rfl)
    · exact ⟨e', List.mem_cons_of_mem _ h1, h2⟩
    · exact ⟨e, List.mem_cons_self .., rfl⟩
  · rintro ⟨e', h1, h2⟩
    cases h1 with
    | head => exact .inr h2.symm
    | tail _ h1 => exact .inl ⟨e', h1, h2⟩

section
variable {S : Nat → Bool} {log : List Ent} {s : St} {rs : List Rec} {ps : List Pend} {a : Act} {w : World} {ρ : Pm}

theorem Inv.out_of (h : Inv E ops bef f0 ρ0 s0 w0 S log s rs ps a w ρ) {i : Nat} (hi : ∀ e ∈ log, e.i ≠ i) : S i = false := by
  cases hS : S i with
  | false => rfl
  | true => obtain ⟨e, h1, h2⟩ := h.sub i hS; exact absurd h2 (hi e h1)

theorem Inv.nx (h : Inv E ops bef f0 ρ0 s0 w0 S log s rs ps a w ρ) : s0.nx ≤ s.nx := by
  have := h.ste.nx
  rwa [lay_nx] at this

/-- An operation that looks at memory, or at none, is done in the plan. -/
theorem Inv.note (h : Inv E ops bef f0 ρ0 s0 w0 S log s rs ps a w ρ) {e : Ent} {o : Oper} {rs' : List Rec} (ho : ops[e.i]? = some o) (hd : o.dst = e.d) (hnew : ∀ x ∈ log, x.i ≠ e.i)
    (hbef : ∀ x, bit (bef.getD e.i 0) x = true → ∃ e' ∈ log, e'.i = x) (hrs : ∀ r ∈ rs, r ∈ rs') (hf : (∀ p ∈ ps, p.i ≠ e.i) → Fact E ops s rs' ps e (virt allB f0 log)) :
    Inv E ops bef f0 ρ0 s0 w0 S (e :: log) s rs' ps a w ρ := by
  have hS := h.out_of hnew
  have hps : ∀ p ∈ ps, p.i ≠ e.i := fun p hp he => by
    obtain ⟨_, _, _, _, _, x, h1, h2⟩ := h.pend p hp
    exact hnew x h1 (h2.trans he)
  refine ⟨by rw [virt_cons_out hS]; exact h.frame, h.sim, h.ste, h.out, h.closed, fun i hi => ?_, ⟨hbef, hnew, ⟨o, ho, hd⟩, h.sorted⟩, ⟨fun _ => hf hps, ?_⟩, fun p hp => ?_, h.dist⟩
  · obtain ⟨x, h1, h2⟩ := h.sub i hi
    exact ⟨x, List.mem_cons_of_mem _ h1, h2⟩
  · refine h.facts.imp fun x hx hSx => ⟨hSx, fun fin hfin => ?_⟩
    obtain ⟨ox, h1, h2, h3⟩ := hfin
    refine ⟨ox, h1, h2, ?_⟩
    rcases h3 with h3 | ⟨h4, h3 | ⟨h5, h6, h7⟩ | h3⟩
    · exact .inl h3
    · exact .inr ⟨h4, .inl h3⟩
    · exact .inr ⟨h4, .inr (.inl ⟨h5, hrs _ h6, h7⟩)⟩
    · exact .inr ⟨h4, .inr (.inr h3)⟩
  · obtain ⟨h1, h2, h3, h4, h5, x, h6, h7⟩ := h.pend p hp
    exact ⟨h1, h2, h3, h4, h5, x, List.mem_cons_of_mem _ h6, h7⟩

theorem lay_look_nx (n : Nat) (D : Nat → Bool) (ps : List Pend) (l : Nat) : (layP D ps ⟨s.h, n⟩).look l = (layP D ps s).look l := by
  unfold St.look
  rw [lay_h]

/-- A block is planned. -/
theorem Inv.plan (h : Inv E ops bef f0 ρ0 s0 w0 S log s rs ps a w ρ) {e : Ent} {o : Oper} {ob : AObj} (ho : ops[e.i]? = some o) (hd : o.dst = e.d) (hnew : ∀ x ∈ log, x.i ≠ e.i)
    (hbef : ∀ x, bit (bef.getD e.i 0) x = true → ∃ e' ∈ log, e'.i = x) (hob : ob.owned = true)
    (hf : Fact E ops ⟨s.h, Nat.succ s.nx⟩ rs (⟨e.i, s.nx, ob⟩ :: ps) e (virt allB f0 log)) :
    Inv E ops bef f0 ρ0 s0 w0 S (e :: log) ⟨s.h, Nat.succ s.nx⟩ rs (⟨e.i, s.nx, ob⟩ :: ps) a w ρ := by
  have hS := h.out_of hnew
  have hps : ∀ p ∈ ps, p.i ≠ e.i := fun p hp he => by
    obtain ⟨_, _, _, _, _, x, h1, h2⟩ := h.pend p hp
    exact hnew x h1 (h2.trans he)
  have hlay : layP S (⟨e.i, s.nx, ob⟩ :: ps) ⟨s.h, Nat.succ s.nx⟩ = layP S ps ⟨s.h, Nat.succ s.nx⟩ := by rw [layP_cons]; simp only [hS]
  have hlook := fun l => lay_look_nx (s := s) (Nat.succ s.nx) S ps l
  have hnx1 : (layP S ps ⟨s.h, Nat.succ s.nx⟩).nx = Nat.succ s.nx := lay_nx _
  have hnx0 : (layP S ps s).nx = s.nx := lay_nx _
  have hnone : ρ s.nx = none := h.sim.fresh _ (by rw [hnx0]; exact Nat.le_refl _)
  refine ⟨by rw [virt_cons_out hS]; exact h.frame, ?_, ?_, h.out, h.closed, fun i hi => ?_, ⟨hbef, hnew, ⟨o, ho, hd⟩, h.sorted⟩, ⟨fun _ => hf, ?_⟩, fun p hp => ?_, ?_⟩
  · rw [hlay]
    exact ⟨fun l ob h1 => h.sim.obj l ob (by rwa [← hlook]), fun l l' ob ob' p p' h1 h2 => h.sim.sep l l' ob ob' p p' (by rwa [← hlook]) (by rwa [← hlook]),
      fun l hl => h.sim.fresh l (by rw [hnx1] at hl; rw [hnx0]; omega), h.sim.glob⟩
  · rw [hlay]
    exact ⟨by rw [hnx1]; have := h.nx; omega, h.ste.agree, h.ste.size, h.ste.frame, fun l ob p h1 h2 => h.ste.own l ob p (by rwa [← hlook]) h2⟩
  · obtain ⟨x, h1, h2⟩ := h.sub i hi
    exact ⟨x, List.mem_cons_of_mem _ h1, h2⟩
  · refine h.facts.imp fun x hx hSx => ⟨hSx, fun fin hfin => ?_⟩
    obtain ⟨ox, h1, h2, h3⟩ := hfin
    have hne : ∀ p ∈ ((⟨e.i, s.nx, ob⟩ : Pend) :: ps), (∀ p ∈ ps, p.i ≠ x.i) → p.i ≠ x.i := fun p hp hall => by
      cases hp with
      | head => exact fun he => hnew x hx he.symm
      | tail _ hp => exact hall p hp
    refine ⟨ox, h1, h2, ?_⟩
    rcases h3 with ⟨h3, h4⟩ | ⟨h4, ⟨h3, h5⟩ | ⟨h5, h6, h7⟩ | ⟨p, mk, h3, h5⟩⟩
    · exact .inl ⟨fun p hp => hne p hp h3, h4⟩
    · exact .inr ⟨h4, .inl ⟨fun p hp => hne p hp h3, h5⟩⟩
    · exact .inr ⟨h4, .inr (.inl ⟨fun p hp => hne p hp h5, h6, by rw [read1_nx]; exact h7⟩)⟩
    · exact .inr ⟨h4, .inr (.inr ⟨p, mk, List.mem_cons_of_mem _ h3, h5⟩)⟩
  · cases hp with
    | head =>
      refine ⟨h.nx, Nat.lt_succ_self _, hob, ?_, fun _ => hnone, e, List.mem_cons_self .., rfl⟩
      show s.look s.nx = none
      cases hl : s.look s.nx with
      | none => rfl
      | some ob' =>
        exfalso
        have h1 : (layP S ps s).look s.nx = some ob' := by
          rw [lay_out (fun p hp _ he => by have := (h.pend p hp).2.1; omega)]
          exact hl
        obtain ⟨p, _, hp, _⟩ := h.sim.obj _ _ h1
        rw [hnone] at hp
        cases hp
    | tail _ hp =>
      obtain ⟨h1, h2, h3, h4, h5, x, h6, h7⟩ := h.pend p hp
      exact ⟨h1, Nat.lt_succ_of_lt h2, h3, h4, h5, x, List.mem_cons_of_mem _ h6, h7⟩
  · refine List.pairwise_cons.2 ⟨fun q hq => ⟨?_, fun he => hps q hq he.symm⟩, h.dist⟩
    have := (h.pend q hq).2.1
    show s.nx ≠ q.l
    omega

variable {K : QK Prop}

/-- One step of the plan. -/
theorem quiet_one (hno : ∀ n, ¬ E.no n) (h : Inv E ops bef f0 ρ0 s0 w0 S log s rs ps a w ρ) {i : Nat} (hnew : ∀ x ∈ log, x.i ≠ i) (hbef : ∀ x, bit (bef.getD i 0) x = true → ∃ e' ∈ log, e'.i = x)
    (hk : quiet1 E ops i K (virt allB f0 log) s rs ps ops[i]?) :
    ∃ e s' rs' ps', e.i = i ∧ K (virt allB f0 (e :: log)) s' rs' ps' ∧ Inv E ops bef f0 ρ0 s0 w0 S (e :: log) s' rs' ps' a w ρ := by
  cases ho : ops[i]? with
  | none => rw [ho] at hk; exact absurd hk (hno _)
  | some o =>
    rw [ho] at hk
    unfold quiet1 at hk
    simp only at hk
    split at hk
    · rename_i hfit
      have hcons : ∀ v, virt allB f0 ((⟨i, o.dst, v⟩ : Ent) :: log) = (virt allB f0 log).put o.dst v := fun v => rfl
      split at hk
      · rename_i hw
        unfold quietC at hk
        split at hk
        · split at hk
          · rename_i v hv
            exact ⟨⟨i, o.dst, v⟩, s, rs, ps, rfl, by rw [hcons]; exact hk, h.note ho rfl hnew hbef (fun _ hr => hr) fun hps => ⟨o, ho, hfit, .inr ⟨hw, .inl ⟨hps, hv⟩⟩⟩⟩
          · exact absurd hk (hno _)
        · split at hk
          · rename_i v hv
            exact ⟨⟨i, o.dst, v⟩, s, _, ps, rfl, by rw [hcons]; exact hk, h.note ho rfl hnew hbef (fun _ hr => List.mem_cons_of_mem _ hr) fun hps => ⟨o, ho, hfit, .inr ⟨hw, .inr (.inl ⟨hps, List.mem_cons_self .., hv⟩)⟩⟩⟩
          · exact absurd hk (hno _)
        · split at hk
          · rename_i ob mk hv
            have hown : ob.owned = true := alloc1_owned hv
            exact ⟨⟨i, o.dst, mk s.nx⟩, _, rs, _, rfl, by rw [hcons]; exact hk, h.plan ho rfl hnew hbef hown ⟨o, ho, hfit, .inr ⟨hw, .inr (.inr ⟨⟨i, s.nx, ob⟩, mk, List.mem_cons_self .., rfl, hv, rfl⟩)⟩⟩⟩
          · exact absurd hk (hno _)
        · exact absurd hk (hno _)
      · rename_i hw
        exact ⟨⟨i, o.dst, .undef⟩, s, rs, ps, rfl, by rw [hcons]; exact hk, h.note ho rfl hnew hbef (fun _ hr => hr) fun hps => ⟨o, ho, hfit, .inl ⟨hps, hw, rfl⟩⟩⟩
    · exact absurd hk (hno _)

/-- A row of the plan. -/
theorem quiet_run (hno : ∀ n, ¬ E.no n) {prev : Option Nat} : ∀ {ns : List Nat} {done done' : Nat} {log : List Ent} {s : St} {rs : List Rec} {ps : List Pend}, Inv E ops bef f0 ρ0 s0 w0 S log s rs ps a w ρ → DoneRel done log →
    quietsOk E ops bef prev ns done = some done' → quietOps E ops K ns (virt allB f0 log) s rs ps →
    ∃ log' s' rs' ps', K (virt allB f0 log') s' rs' ps' ∧ Inv E ops bef f0 ρ0 s0 w0 S log' s' rs' ps' a w ρ ∧ DoneRel done' log'
  | [], done, done', log, s, rs, ps, h, hd, hq, hk => by
    obtain rfl := Option.some.inj hq
    exact ⟨log, s, rs, ps, hk, h, hd⟩
  | i :: ns, done, done', log, s, rs, ps, h, hd, hq, hk => by
    unfold quietsOk at hq
    split at hq
    · rename_i hc
      simp only [Bool.and_eq_true, Bool.not_eq_true'] at hc
      obtain ⟨h1, h2, _, _⟩ := hc
      have hnew : ∀ x ∈ log, x.i ≠ i := fun x hx he => by
        have := (hd i).2 ⟨x, hx, he⟩
        rw [h1] at this
        cases this
      obtain ⟨e, s', rs', ps', rfl, hk', h'⟩ := quiet_one hno h hnew (fun x hx => (hd x).1 (within_ok h2 hx)) hk
      exact quiet_run hno h' (hd.add e) hq hk'
    · cases hq
end

end Go.Ev

/- An abstract evaluator over the model: a region's operations in whatever order. -/
namespace Go.Ev

variable {E : Env Prop} {ops : Array Oper} {bef : Array Nat} {f0 : AF} {ρ0 : Pm} {s0 : St} {w0 : World}
variable {S : Nat → Bool} {log : List Ent} {s : St} {rs : List Rec} {ps : List Pend} {a : Act} {w : World} {ρ : Pm}

theorem fits_congr {f f' : AF} (h : f.n = f'.n) (d : Option Nat) : f.fits d = f'.fits d := by
  cases d with
  | none => rfl
  | some d => unfold AF.fits; simp only [h]

theorem FR.congr {f f' : AF} (h : FR ρ f a) (hn : f.n = f'.n) (hl : ∀ t, f.look t = f'.look t) : FR ρ f' a :=
  ⟨h.size.trans hn, h.defers, fun t => hl t ▸ h.val t⟩

theorem lkO_ok {f fin : AF} {g : Nat} {o : Oper} (hf : FR ρ f a) (hg : ∀ i, i < g → ∃ n, ρ i = some ⟨i, 0, n⟩) (h : ∀ t, t ∈ opdTmps o.op.operands.toList → f.look t = fin.look t) : Lks ρ (fin.lkO g o.op) a.eval := by
  intro x v hx
  cases x with
  | tmp t =>
    have hx : (match memN t (opdTmps o.op.operands.toList) with | true => undefO (fin.t.get (key t)) | false => none) = some v := hx
    split at hx
    · rename_i hm
      rw [look_def] at hx
      obtain rfl := Option.some.inj hx
      rw [← h t (memN_iff.1 hm)]
      exact hf.val t
    · cases hx
  | const c => exact hf.lk hg (.const c) v hx
  | global i => exact hf.lk hg (.global i) v hx
  | func i => exact hf.lk hg (.func i) v hx

theorem wanted_slots {f fin : AF} {o : Oper} (h : ∀ t, t ∈ guardTmp ops o.guard → f.look t = fin.look t) : wanted ops f o = wanted ops fin o := by
  unfold wanted
  unfold guardTmp at h
  cases hg : o.guard with
  | none => rfl
  | some q =>
    obtain ⟨j, want⟩ := q
    rw [hg] at h
    simp only at h ⊢
    cases hd : dstO ops[j]? with
    | none => rfl
    | some d =>
      cases d with
      | none => rfl
      | some d =>
        rw [hd] at h
        unfold wantD
        simp only
        rw [h d (by simp)]

theorem split_mem {α : Type} {x : α} : ∀ {l : List α}, x ∈ l → ∃ L R, l = L ++ x :: R
  | [], h => by cases h
  | y :: l, h => by
    cases h with
    | head => exact ⟨[], l, rfl⟩
    | tail _ h =>
      obtain ⟨L, R, rfl⟩ := split_mem h
      exact ⟨y :: L, R, rfl⟩

/-- An operation that the plan has done is listed. -/
theorem Inv.list (ho : Ord ops bef) (h : Inv E ops bef f0 ρ0 s0 w0 S log s rs ps a w ρ) {e : Ent} {o : Oper} (he : e ∈ log) (hi : ops[e.i]? = some o) (hS : S e.i = false) (hb : ∀ d ∈ o.after, Region.binds .any d = true → S d.on = true)
    (hfit : f0.fits o.dst = true) {u : Value} {w' : World} {ρ' : Pm} (hle : ρ.le ρ') (hu : VR ρ' e.v u) (hsim : Sim ρ' E.g (layP (more S e.i) ps s) w'.heap) (hste : Ste ρ0 s0 w0.heap ρ' (layP (more S e.i) ps s) w'.heap)
    (hout : Out w w') (hp : ∀ p ∈ ps, p.i ≠ e.i → ρ' p.l = ρ p.l) : Inv E ops bef f0 ρ0 s0 w0 (more S e.i) log s rs ps (a.put o.dst u) w' ρ' := by
  obtain ⟨L, R, rfl⟩ := split_mem he
  obtain ⟨o', ho', hd⟩ := h.sorted.op e he
  rw [hi] at ho'
  obtain rfl := Option.some.inj ho'
  have hsub : ∀ i, more S e.i i = false → S i = false ∧ i ≠ e.i := fun i hi => by
    unfold more at hi
    simp only [Bool.or_eq_false_iff] at hi
    exact ⟨hi.1, by simpa using hi.2⟩
  refine ⟨?_, hsim, hste, h.out.trans hout, h.closed.more hi hb, fun i hi => ?_, h.sorted, ?_, fun p hp' => ?_, h.dist⟩
  · have hf := (h.frame.mono hle).put (d := o.dst) (by rw [fits_congr (virt_n S f0 _)]; exact hfit) hu
    refine hf.congr (by rw [put_n, virt_n, virt_n]) fun t => ?_
    rw [virt_more ho h.closed h.sorted hS t, look_putO, hd]
  · by_cases hie : i = e.i
    · exact ⟨e, he, hie.symm⟩
    · rw [more_ne hie] at hi
      exact h.sub i hi
  · exact h.facts.imp fun x hx hSx => ⟨(hsub _ hSx).1, fun _ hf => hf⟩
  · obtain ⟨h1, h2, h3, h4, h5, h6⟩ := h.pend p hp'
    refine ⟨h1, h2, h3, h4, fun hSp => ?_, h6⟩
    obtain ⟨h7, h8⟩ := hsub _ hSp
    rw [hp p hp' h8]
    exact h5 h7

theorem Inv.weak (h : Inv E ops bef f0 ρ0 s0 w0 S log s rs ps a w ρ) (D : Nat → Bool) (hD : ∀ i, D i = true → S i = true) :
    (layP D ps s).nx = (layP S ps s).nx ∧ ∀ l ob, (layP D ps s).look l = some ob → (layP S ps s).look l = some ob := by
  refine ⟨by rw [lay_nx, lay_nx], fun l ob h1 => ?_⟩
  rcases lay_inv h1 with ⟨p, hp, hd, rfl, rfl⟩ | h1
  · exact lay_some h.dist p hp (hD _ hd)
  · rw [lay_out (fun p hp _ he => ?_)]
    · exact h1
    · have := (h.pend p hp).2.2.2.1
      rw [he, h1] at this
      cases this

theorem lay_none : ∀ (ps : List Pend), layP (fun _ => false) ps s = s
  | [] => rfl
  | p :: ps => by rw [layP_cons]; exact lay_none ps

theorem lay_more {e : Ent} (h : ∀ p ∈ ps, p.i ≠ e.i) : layP (more S e.i) ps s = layP S ps s := lay_same fun p hp => more_ne (h p hp)

/-- What the plan has done, is done. -/
theorem quiet_exec {P : Program} {Q : Exit → Act → World → Prop} {K : Act → World → Prop} (hP : E.P = P) (ho : Ord ops bef) (h : Inv E ops bef f0 ρ0 s0 w0 S log s rs ps a w ρ) {e : Ent} {o : Oper} (he : e ∈ log) (hi : ops[e.i]? = some o) (hS : S e.i = false)
    (hb : ∀ d ∈ o.after, Region.binds .any d = true → S d.on = true)
    (hK : ∀ a' w' ρ', Inv E ops bef f0 ρ0 s0 w0 (more S e.i) log s rs ps a' w' ρ' → K a' w') : wpOp P ops Q e.i K a w := by
  obtain ⟨L, R, rfl⟩ := split_mem he
  have hbef := ho.before h.closed e.i o hi hb
  have hslot : ∀ t, t ∈ readsOf ops o → (virt S f0 (L ++ e :: R)).look t = (virt allB f0 R).look t := fun t ht => slot_old ho h.closed h.sorted hi hS hbef (.inl ht)
  obtain ⟨o', ho', hfit, hfact⟩ := h.facts.get hS
  rw [hi] at ho'
  obtain rfl := Option.some.inj ho'
  have hfit0 : f0.fits o.dst = true := by rw [← hfit]; exact fits_congr (virt_n _ _ _).symm _
  have hw : Region.wanted o (yielded ops a.tmps) = wanted ops (virt allB f0 R) o := by
    rw [wanted_ok h.frame]
    exact wanted_slots fun t ht => hslot t (List.mem_append_left _ ht)
  have hl : Lks ρ ((virt allB f0 R).lkO E.g o.op) a.eval := lkO_ok h.frame h.sim.glob fun t ht => hslot t (List.mem_append_right _ ht)
  have hweak := h.weak (fun _ => false) (fun _ hf => by cases hf)
  rw [lay_none] at hweak
  have hsim : Sim ρ E.g s w.heap := h.sim.sub hweak.1 hweak.2
  have quiet : ∀ {u : Value}, (∀ p ∈ ps, p.i ≠ e.i) → VR ρ e.v u → K (a.put o.dst u) w := fun {u} hps hu => by
    refine hK _ _ ρ (h.list ho he hi hS hb hfit0 (Pm.le_refl ρ) hu ?_ ?_ (Out.refl w) fun p hp _ => rfl)
    · rw [lay_more hps]; exact h.sim
    · rw [lay_more hps]; exact h.ste
  unfold wpOp
  simp only [hi, hw]
  rcases hfact with ⟨hps, hwf, hv⟩ | ⟨hwt, hfact⟩
  · rw [hwf]
    simp only [Bool.false_eq_true, if_false]
    exact quiet hps (by rw [hv]; exact ⟨#[], rfl, rfl⟩)
  · rw [if_pos hwt]
    left
    unfold Oper.wp
    subst hP
    rcases hfact with ⟨hps, hpure⟩ | ⟨hps, _, hread⟩ | ⟨p, mk, hp, hpi, halloc, hv⟩
    · obtain ⟨u, hrun, hu⟩ := pure1_ok (w := w) hl hpure
      rw [hrun]
      exact quiet hps hu
    · obtain ⟨u, hrun, hu⟩ := read1_ok hsim hl hread
      rw [hrun]
      exact quiet hps hu
    · obtain ⟨u, w', ob', n, hrun, hheap, hout, hown, hnew⟩ := alloc1_ok (w := w) hl halloc
      rw [hrun]
      obtain ⟨q1, q2, q3, q4, q5, q6⟩ := h.pend p hp
      have hnone : ρ p.l = none := q5 (by rw [hpi]; exact hS)
      have hle : ρ.le (ρ.upd p.l ⟨w.heap.size, 0, n⟩) := Pm.le_upd hnone
      obtain ⟨r1, r2⟩ := hnew _ p.l hle (Pm.upd_same _ _ _)
      have hnx : (layP (more S e.i) ps s).nx = (layP S ps s).nx := by rw [lay_nx, lay_nx]
      have huniq : ∀ q ∈ ps, q.i = e.i → q = p := fun q hq hqi => by
        obtain ⟨L', R', hps⟩ := split_mem hp
        have hd := h.dist
        rw [hps] at hq hd
        obtain ⟨_, hd2, hd3⟩ := List.pairwise_append.1 hd
        rcases List.mem_append.1 hq with hq | hq
        · exact absurd (hqi.trans hpi.symm) (hd3 q hq p (List.mem_cons_self ..)).2
        · cases hq with
          | head => rfl
          | tail _ hq => exact absurd (hpi.trans hqi.symm) ((List.pairwise_cons.1 hd2).1 q hq).2
      have hdl : ∀ q ∈ ps, q.i ≠ e.i → q.l ≠ p.l := fun q hq hqi => by
        obtain ⟨L', R', hps⟩ := split_mem hp
        have hd := h.dist
        rw [hps] at hq hd
        obtain ⟨_, hd2, hd3⟩ := List.pairwise_append.1 hd
        rcases List.mem_append.1 hq with hq | hq
        · exact (hd3 q hq p (List.mem_cons_self ..)).1
        · cases hq with
          | head => exact absurd hpi hqi
          | tail _ hq => exact fun e => ((List.pairwise_cons.1 hd2).1 q hq).1 e.symm
      have hlook : ∀ k, (layP (more S e.i) ps s).look k = if k = p.l then some p.o else (layP S ps s).look k := fun k => by
        by_cases hk : k = p.l
        · rw [if_pos hk, hk]
          exact lay_some h.dist p hp (by rw [hpi]; exact more_same)
        · rw [if_neg hk]
          cases h1 : (layP (more S e.i) ps s).look k with
          | some ob =>
            rcases lay_inv h1 with ⟨q, hq, hd, rfl, rfl⟩ | h1
            · have hqi : q.i ≠ e.i := fun hqi => hk (by rw [huniq q hq hqi])
              rw [more_ne hqi] at hd
              exact (lay_some h.dist q hq hd).symm
            · exact (hweak.2 _ _ h1).symm
          | none =>
            cases h2 : (layP S ps s).look k with
            | none => rfl
            | some ob =>
              have : (layP (more S e.i) ps s).look k = some ob := by
                rcases lay_inv h2 with ⟨q, hq, hd, rfl, rfl⟩ | h2
                · exact lay_some h.dist q hq (by simp [more, hd])
                · rw [lay_out (fun q hq _ he => ?_)]
                  · exact h2
                  · have := (h.pend q hq).2.2.2.1
                    rw [he, h2] at this
                    cases this
              rw [this] at h1
              cases h1
      refine hK _ _ (ρ.upd p.l ⟨w.heap.size, 0, n⟩) (h.list ho he hi hS hb hfit0 hle (by rw [hv]; exact r1) ?_ ?_ hout fun q hq hqi => Pm.upd_ne (hdl q hq hqi))
      · rw [hheap]
        exact sim_lay h.sim (by rw [lay_nx]; exact q2) hnone r2 hnx hlook
      · rw [hheap]
        exact ste_lay h.ste q1 hnx hlook

end Go.Ev

/- An abstract evaluator over the model: a region that draws its order. -/
namespace Go.Ev

variable {E : Env Prop} {ops : Array Oper} {bef : Array Nat} {f0 : AF} {ρ0 : Pm} {s0 : St} {w0 : World}
variable {S : Nat → Bool} {log : List Ent} {s : St} {rs : List Rec} {ps : List Pend} {a : Act} {w : World} {ρ : Pm}

/-- An operation that calls or changes memory is listed, and done in the plan. -/
theorem Inv.loud (h : Inv E ops bef f0 ρ0 s0 w0 S log s rs ps a w ρ) {e : Ent} {o : Oper} (hi : ops[e.i]? = some o) (hd : o.dst = e.d) (hnew : ∀ x ∈ log, x.i ≠ e.i)
    (hbef : ∀ x, bit (bef.getD e.i 0) x = true → ∃ e' ∈ log, e'.i = x) (hb : ∀ d ∈ o.after, Region.binds .any d = true → S d.on = true) (hfit : f0.fits e.d = true)
    {u : Value} {s' : St} {ps' : List Pend} {w' : World} {ρ' : Pm} (hle : ρ.le ρ') (hu : VR ρ' e.v u) (hsim : Sim ρ' E.g (layP (more S e.i) ps' s') w'.heap) (hste : Ste ρ0 s0 w0.heap ρ' (layP (more S e.i) ps' s') w'.heap)
    (hout : Out w w') (hfacts : ∀ x ∈ log, S x.i = false → ∀ fin, Fact E ops s rs ps x fin → Fact E ops s' rs ps' x fin)
    (hpend : ∀ p ∈ ps', s0.nx ≤ p.l ∧ p.l < s'.nx ∧ p.o.owned = true ∧ s'.look p.l = none ∧ (S p.i = false → ρ' p.l = none) ∧ ∃ e ∈ log, e.i = p.i) (hdist : PDist ps') :
    Inv E ops bef f0 ρ0 s0 w0 (more S e.i) (e :: log) s' rs ps' (a.put e.d u) w' ρ' := by
  refine ⟨?_, hsim, hste, h.out.trans hout, h.closed.more hi hb, fun i hi' => ?_, ⟨hbef, hnew, ⟨o, hi, hd⟩, h.sorted⟩, ⟨fun hf => (by rw [more_same] at hf; cases hf), ?_⟩, fun p hp => ?_, hdist⟩
  · rw [virt_cons]
    simp only [more_same]
    rw [virt_more_out hnew]
    exact (h.frame.mono hle).put (by rw [fits_congr (virt_n S f0 _)]; exact hfit) hu
  · by_cases hie : i = e.i
    · exact ⟨e, List.mem_cons_self .., hie.symm⟩
    · rw [more_ne hie] at hi'
      obtain ⟨x, h1, h2⟩ := h.sub i hi'
      exact ⟨x, List.mem_cons_of_mem _ h1, h2⟩
  · refine h.facts.imp fun x hx hSx => ?_
    rw [more_ne (hnew x hx)] at hSx
    exact ⟨hSx, hfacts x hx hSx⟩
  · obtain ⟨h1, h2, h3, h4, h5, x, h6, h7⟩ := hpend p hp
    refine ⟨h1, h2, h3, h4, fun hS => h5 ?_, x, List.mem_cons_of_mem _ h6, h7⟩
    rwa [more_ne (h7 ▸ hnew x h6)] at hS

/-- An operation that calls or changes memory. -/
theorem loud_exec {P : Program} {Q : Exit → Act → World → Prop} {K : Act → World → Prop} {K' : QK Prop} {call : CallR Prop} (hP : E.P = P) (hno : ∀ n, ¬ E.no n) (hnm : Named P) (hc : CallOk P E.g call) (ho : Ord ops bef)
    (h : Inv E ops bef f0 ρ0 s0 w0 S log s rs ps a w ρ) {l : Nat} {o : Oper} (hi : ops[l]? = some o) (hnew : ∀ x ∈ log, x.i ≠ l)
    (hbef : ∀ x, bit (bef.getD l 0) x = true → ∃ e' ∈ log, e'.i = x) (hb : ∀ d ∈ o.after, Region.binds .any d = true → S d.on = true)
    (hk : draw1 E call ops (bef.getD l 0) K' (some o) (virt allB f0 log) s rs ps)
    (hK : ∀ e s' ps' a' w' ρ', e.i = l → K' (virt allB f0 (e :: log)) s' rs ps' → Inv E ops bef f0 ρ0 s0 w0 (more S l) (e :: log) s' rs ps' a' w' ρ' → K a' w') : wpOp P ops Q l K a w := by
  have hD := ho.before h.closed l o hi hb
  have hslot : ∀ t, t ∈ readsOf ops o → (virt S f0 log).look t = (virt allB f0 log).look t := fun t ht => slot_new ho h.sorted hi hnew hD (.inl ht)
  have hw : Region.wanted o (yielded ops a.tmps) = wanted ops (virt allB f0 log) o := by
    rw [wanted_ok h.frame]
    exact wanted_slots fun t ht => hslot t (List.mem_append_left _ ht)
  have hl : Lks ρ ((virt allB f0 log).lkO E.g o.op) a.eval := lkO_ok h.frame h.sim.glob fun t ht => hslot t (List.mem_append_right _ ht)
  have hpi : ∀ p ∈ ps, p.i ≠ l := fun p hp => by
    obtain ⟨_, _, _, _, _, x, h6, h7⟩ := h.pend p hp
    exact h7 ▸ hnew x h6
  unfold draw1 at hk
  simp only at hk
  split at hk
  · rename_i hfit
    have hfit0 : f0.fits o.dst = true := by rw [← hfit]; exact fits_congr (virt_n _ _ _).symm _
    unfold wpOp
    simp only [hi, hw]
    split at hk
    · rename_i hwt
      rw [if_pos hwt]
      left
      have hweak := h.weak (bit (bef.getD l 0)) hD
      refine step_ok hP hno hnm hc hl (h.sim.sub hweak.1 hweak.2) hk fun v s' w' ρ' u hv hu hsim hste hout => ?_
      split at hv
      · rename_i hst
        have hnx1 : (layP (bit (bef.getD l 0)) ps s).nx = s.nx := lay_nx _
        have hle : ρ.le ρ' := h.sim.le (fun k hk' => hste.agree k (by rw [hnx1]; rw [lay_nx] at hk'; exact hk'))
        have hrest : layP (more S l) (rest (bit (bef.getD l 0)) ps) s' = layP S (rest (bit (bef.getD l 0)) ps) s' := lay_same fun p hp => more_ne (hpi p (rest_mem.1 hp).1)
        have hs1 : ∀ p ∈ ps, bit (bef.getD l 0) p.i = false → (layP (bit (bef.getD l 0)) ps s).look p.l = none := fun p hp hpD => by
          rw [lay_out (fun q hq hqD he => ?_)]
          · exact (h.pend p hp).2.2.2.1
          · obtain ⟨L', R', hps⟩ := split_mem hp
            have hd := h.dist
            rw [hps] at hq hd
            obtain ⟨_, hd2, hd3⟩ := List.pairwise_append.1 hd
            rcases List.mem_append.1 hq with hq | hq
            · exact (hd3 q hq p (List.mem_cons_self ..)).1 he
            · cases hq with
              | head => rw [hpD] at hqD; cases hqD
              | tail _ hq => exact ((List.pairwise_cons.1 hd2).1 q hq).1 he.symm
        obtain ⟨m1, m2⟩ := merge_ok (b' := layP S (rest (bit (bef.getD l 0)) ps) s') h.sim hweak.1 hweak.2 hsim hste (lay_nx _) (fun k ob hk' => by
          rcases lay_inv hk' with ⟨p, hp, hd, rfl, rfl⟩ | hk'
          · obtain ⟨hp1, hp2⟩ := rest_mem.1 hp
            exact .inr ⟨lay_some h.dist p hp1 hd, hs1 p hp1 hp2, (h.pend p hp1).2.2.1⟩
          · exact .inl hk')
        have hinv := h.loud (e := ⟨l, o.dst, v⟩) hi rfl hnew hbef hb hfit0 hle hu (s' := s') (ps' := rest (bit (bef.getD l 0)) ps) (by rw [hrest]; exact m1) (by rw [hrest]; exact h.ste.trans m2) hout
          (fun x hx hSx fin hfin => by
            have hxD : bit (bef.getD l 0) x.i = false := by
              cases hxb : bit (bef.getD l 0) x.i with
              | false => rfl
              | true => rw [hD _ hxb] at hSx; cases hSx
            obtain ⟨ox, h1, h2, h3⟩ := hfin
            refine ⟨ox, h1, h2, ?_⟩
            rcases h3 with ⟨h3, h4⟩ | ⟨h4, ⟨h3, h5⟩ | ⟨h5, h6, h7⟩ | ⟨p, mk, h3, h5, h6⟩⟩
            · exact .inl ⟨fun p hp => h3 p (rest_mem.1 hp).1, h4⟩
            · exact .inr ⟨h4, .inl ⟨fun p hp => h3 p (rest_mem.1 hp).1, h5⟩⟩
            · exact .inr ⟨h4, .inr (.inl ⟨fun p hp => h5 p (rest_mem.1 hp).1, h6, still_ok hst _ h6 hxD⟩)⟩
            · exact .inr ⟨h4, .inr (.inr ⟨p, mk, rest_mem.2 ⟨h3, by rw [h5]; exact hxD⟩, h5, h6⟩)⟩)
          (fun p hp => by
            obtain ⟨hp1, hp2⟩ := rest_mem.1 hp
            obtain ⟨q1, q2, q3, q4, q5, q6⟩ := h.pend p hp1
            refine ⟨q1, Nat.lt_of_lt_of_le q2 (by rw [← hnx1]; exact hste.nx), q3, ?_, fun hS => ?_, q6⟩
            · cases hS : S p.i with
              | true => exact merge_none h.sim hweak.1 hweak.2 hsim hste (lay_some h.dist p hp1 hS) (hs1 p hp1 hp2) q3
              | false => exact merge_none' hsim hste (by rw [hnx1]; exact q2) (q5 hS)
            · rw [hste.agree p.l (by rw [hnx1]; exact q2)]
              exact q5 hS)
          (rest_dist h.dist)
        exact hK ⟨l, o.dst, v⟩ s' _ _ w' ρ' rfl hv hinv
      · exact absurd hv (hno _)
    · rename_i hwf
      have hwf' : ¬ wanted ops (virt allB f0 log) o = true := by rw [hwf]; simp
      rw [if_neg hwf']
      have hlay : layP (more S l) ps s = layP S ps s := lay_same fun p hp => more_ne (hpi p hp)
      have hinv := h.loud (e := ⟨l, o.dst, .undef⟩) (u := undef) hi rfl hnew hbef hb hfit0 (Pm.le_refl ρ) ⟨#[], rfl, rfl⟩ (s' := s) (ps' := ps) (by rw [hlay]; exact h.sim) (by rw [hlay]; exact h.ste) (Out.refl w)
        (fun _ _ _ _ hf => hf) h.pend h.dist
      exact hK ⟨l, o.dst, .undef⟩ s ps _ w ρ rfl hk hinv
  · exact absurd hk (hno _)

theorem quietsOk_mem {prev : Option Nat} : ∀ {ns : List Nat} {done done' : Nat}, quietsOk E ops bef prev ns done = some done' →
    (∀ x, bit done' x = true ↔ bit done x = true ∨ x ∈ ns) ∧ ∀ i ∈ ns, prevOk (bef.getD i 0) prev = true
  | [], done, done', h => by
    obtain rfl := Option.some.inj h
    simp
  | i :: ns, done, done', h => by
    unfold quietsOk at h
    split at h
    · rename_i hc
      simp only [Bool.and_eq_true] at hc
      obtain ⟨h1, h2⟩ := quietsOk_mem h
      refine ⟨fun x => ?_, fun j hj => ?_⟩
      · rw [h1 x, bit_add, List.mem_cons, or_assoc]
      · cases hj with
        | head => exact hc.2.2.1
        | tail _ hj => exact h2 j hj
    · cases h

theorem later_ok {last : List Nat} : ∀ {r : List (List Nat × Nat)} {l done : Nat}, phasesOk E ops bef last r (some l) done = true → ∀ i, i < ops.size → bit done i = false →
    ∃ x, bit (bef.getD i 0) x = true ∧ (x = l ∨ bit done x = false)
  | [], l, done, h, i, hi, hd => by
    unfold phasesOk at h
    split at h
    · rename_i done' hq
      obtain ⟨h1, h2⟩ := quietsOk_mem hq
      have h := Nat.eq_of_beq_eq_true h
      have hb : bit done' i = true := by rw [h, bit_full]; simpa using hi
      rcases (h1 i).1 hb with hb | hb
      · rw [hd] at hb; cases hb
      · exact ⟨l, h2 i hb, .inl rfl⟩
    · cases h
  | (ns, l2) :: r, l, done, h, i, hi, hd => by
    unfold phasesOk at h
    split at h
    · rename_i done' hq
      obtain ⟨h1, h2⟩ := quietsOk_mem hq
      split at h
      · rename_i hc
        simp only [Bool.and_eq_true, Bool.not_eq_true'] at hc
        by_cases hi2 : i = l2
        · subst hi2
          exact ⟨l, hc.2.2.1, .inl rfl⟩
        · by_cases hm : i ∈ ns
          · exact ⟨l, h2 i hm, .inl rfl⟩
          · have hnot : bit (Nat.lor done' (2 ^ l2)) i = false := by
              rw [Bool.eq_false_iff]
              intro hb
              rcases bit_add.1 hb with hb | hb
              · rcases (h1 i).1 hb with hb | hb
                · rw [hd] at hb; cases hb
                · exact hm hb
              · exact hi2 hb
            obtain ⟨x, hx, hx'⟩ := later_ok h i hi hnot
            refine ⟨x, hx, .inr ?_⟩
            rw [Bool.eq_false_iff]
            intro hb
            have hb' : bit done' x = true := (h1 x).2 (.inl hb)
            rcases hx' with rfl | hx'
            · rw [hc.1] at hb'; cases hb'
            · rw [Bool.eq_false_iff] at hx'
              exact hx' (bit_add.2 (.inl hb'))
      · cases h
    · cases h

/-- Where the plan waits. -/
def Wait (E : Env Prop) (call : CallR Prop) (ops : Array Oper) (bef : Array Nat) (last : List Nat) (K : AF → St → Prop) (ph : List (List Nat × Nat)) (done : Nat) (f : AF) (s : St) (rs : List Rec) (ps : List Pend) : Prop := match ph with
  | [] => done = 2 ^ ops.size - 1 ∧ K f (layP (fun _ => true) ps s)
  | (_, l) :: r => bit done l = false ∧ within (bef.getD l 0) done = true ∧ draw1 E call ops (bef.getD l 0) (fun f s rs ps => drawOps E call ops bef last K r f s rs ps) ops[l]? f s rs ps ∧
      phasesOk E ops bef last r (some l) (Nat.lor done (2 ^ l)) = true

theorem wait_of {call : CallR Prop} {last : List Nat} {K : AF → St → Prop} (hno : ∀ n, ¬ E.no n) {ph : List (List Nat × Nat)} {prev : Option Nat} {done : Nat} (h : Inv E ops bef f0 ρ0 s0 w0 S log s rs ps a w ρ) (hd : DoneRel done log)
    (hp : phasesOk E ops bef last ph prev done = true) (hk : drawOps E call ops bef last K ph (virt allB f0 log) s rs ps) :
    ∃ done' log' s' rs' ps', Wait E call ops bef last K ph done' (virt allB f0 log') s' rs' ps' ∧ Inv E ops bef f0 ρ0 s0 w0 S log' s' rs' ps' a w ρ ∧ DoneRel done' log' := by
  cases ph with
  | nil =>
    unfold phasesOk at hp
    split at hp
    · rename_i done' hq
      obtain ⟨log', s', rs', ps', h1, h2, h3⟩ := quiet_run hno h hd hq hk
      exact ⟨done', log', s', rs', ps', ⟨Nat.eq_of_beq_eq_true hp, h1⟩, h2, h3⟩
    · cases hp
  | cons q r =>
    obtain ⟨ns, l⟩ := q
    unfold phasesOk at hp
    split at hp
    · rename_i done' hq
      obtain ⟨log', s', rs', ps', h1, h2, h3⟩ := quiet_run hno h hd hq hk
      split at hp
      · rename_i hc
        simp only [Bool.and_eq_true, Bool.not_eq_true'] at hc
        exact ⟨done', log', s', rs', ps', ⟨hc.1, hc.2.1, h1, hp⟩, h2, h3⟩
      · cases hp
    · cases hp

/-- How many operations are not listed. -/
def left (n : Nat) (listed : Array Bool) : Nat := ((List.range n).filter fun i => !listed.getD i false).length

theorem filter_lt {α : Type} {p q : α → Bool} (hpq : ∀ x, q x = true → p x = true) : ∀ {l : List α} {x : α}, x ∈ l → p x = true → q x = false → (l.filter q).length < (l.filter p).length := by
  have hle : ∀ l : List α, (l.filter q).length ≤ (l.filter p).length := fun l => by
    induction l with
    | nil => simp
    | cons y l ih =>
      simp only [List.filter_cons]
      cases hq : q y with
      | true => rw [hpq y hq]; simpa using ih
      | false =>
        cases hp : p y with
        | true => simp; omega
        | false => simpa using ih
  intro l
  induction l with
  | nil => intro x hx; cases hx
  | cons y l ih =>
    intro x hx hp hq
    simp only [List.filter_cons]
    cases hx with
    | head => rw [hp, hq]; have := hle l; simp; omega
    | tail _ hx =>
      have := ih hx hp hq
      cases hq' : q y with
      | true => rw [hpq y hq']; simpa using this
      | false =>
        cases hp' : p y with
        | true => simp; omega
        | false => simpa using this

theorem set_get {listed : Array Bool} {i : Nat} (hi : i < listed.size) : (fun j => (listed.setIfInBounds i true).getD j false) = more (fun j => listed.getD j false) i := by
  funext j
  by_cases h : j = i
  · subst h
    rw [more_same, Array.getD_eq_getD_getElem?]
    simp [hi]
  · rw [more_ne h]
    exact getD_set_ne false (fun e => h e.symm)

theorem left_set {n : Nat} {listed : Array Bool} {i : Nat} (hi : i < listed.size) (hn : i < n) (h : listed.getD i false = false) : left n (listed.setIfInBounds i true) < left n listed := by
  have hset := set_get hi
  unfold left
  have hg : ∀ j, (listed.setIfInBounds i true).getD j false = more (fun j => listed.getD j false) i j := fun j => congrFun hset j
  refine filter_lt (fun x hx => ?_) (List.mem_range.2 hn) (by simpa using h) (by rw [hg, more_same]; rfl)
  rw [hg] at hx
  simp only [more, Bool.not_eq_true', Bool.or_eq_false_iff] at hx
  simpa using hx.1

theorem draw_main {P : Program} {Q : Exit → Act → World → Prop} {call : CallR Prop} {last : List Nat} {K : AF → St → Prop} (hP : E.P = P) (hno : ∀ n, ¬ E.no n) (hnm : Named P) (hc : CallOk P E.g call) (ho : Ord ops bef)
    (hQ : ∀ f' s' a' w' ρ', K f' s' → FR ρ' f' a' → Sim ρ' E.g s' w'.heap → Ste ρ0 s0 w0.heap ρ' s' w'.heap → Out w0 w' → Q .normal a' w') :
    ∀ (fuel : Nat) (listed : Array Bool) (ph : List (List Nat × Nat)) (done : Nat) (log : List Ent) (s : St) (rs : List Rec) (ps : List Pend) (a : Act) (w : World) (ρ : Pm), listed.size = ops.size →
      Inv E ops bef f0 ρ0 s0 w0 (fun i => listed.getD i false) log s rs ps a w ρ → DoneRel done log → Wait E call ops bef last K ph done (virt allB f0 log) s rs ps → left ops.size listed ≤ fuel →
      wpAny P .any ops Q fuel listed a w := by
  have fin : ∀ (listed : Array Bool) (ph : List (List Nat × Nat)) (done : Nat) (log : List Ent) (s : St) (rs : List Rec) (ps : List Pend) (a : Act) (w : World) (ρ : Pm), (∀ i, i < ops.size → listed.getD i false = true) →
      Inv E ops bef f0 ρ0 s0 w0 (fun i => listed.getD i false) log s rs ps a w ρ → DoneRel done log → Wait E call ops bef last K ph done (virt allB f0 log) s rs ps → Q .normal a w := by
    intro listed ph done log s rs ps a w ρ hall h hd hwt
    have hlog : ∀ e ∈ log, listed.getD e.i false = true := fun e he => by
      obtain ⟨o, hi, _⟩ := h.sorted.op e he
      exact hall _ (Array.getElem?_eq_some_iff.1 hi).1
    cases ph with
    | nil =>
      obtain ⟨_, hk⟩ := hwt
      have hlay : layP (fun i => listed.getD i false) ps s = layP (fun _ => true) ps s := lay_same fun p hp => by
        obtain ⟨_, _, _, _, _, x, h6, h7⟩ := h.pend p hp
        show listed.getD p.i false = true
        rw [← h7]; exact hlog x h6
      refine hQ _ _ a w ρ hk (h.frame.congr (by rw [virt_n, virt_n]) fun t => virt_congr fun e he _ => hlog e he) ?_ ?_ h.out
      · rw [← hlay]; exact h.sim
      · rw [← hlay]; exact h.ste
    | cons q r =>
      obtain ⟨ns, l⟩ := q
      obtain ⟨h1, _, h3, _⟩ := hwt
      exfalso
      cases ho' : ops[l]? with
      | none => rw [ho'] at h3; exact hno _ h3
      | some o =>
        obtain ⟨e, he, hel⟩ := h.sub l (hall l (Array.getElem?_eq_some_iff.1 ho').1)
        have := (hd l).2 ⟨e, he, hel⟩
        rw [h1] at this; cases this
  have empty : ∀ (listed : Array Bool), listed.size = ops.size → (∀ i o, ops[i]? = some o → ∀ e ∈ o.after, Region.binds .any e = true → e.on < i) → Region.ready .any ops listed = [] → ∀ i, i < ops.size → listed.getD i false = true := by
    intro listed hsz hedge hr i
    induction i using Nat.strongRecOn with
    | _ i ih =>
      intro hi
      cases hl : listed.getD i false with
      | true => rfl
      | false =>
        exfalso
        have hm : i ∈ Region.ready .any ops listed := by
          rw [mem_ready]
          refine ⟨?_, ops[i], Array.getElem?_eq_getElem hi, fun e he hb => ?_⟩
          · rw [Array.getD_eq_getD_getElem?] at hl ⊢
            rw [Array.getElem?_eq_getElem (by omega)] at hl ⊢
            simpa using hl
          · have := hedge i _ (Array.getElem?_eq_getElem hi) e he hb
            exact ih e.on this (by omega)
        rw [hr] at hm
        cases hm
  intro fuel
  induction fuel with
  | zero =>
    intro listed ph done log s rs ps a w ρ hsz h hd hwt hleft
    have hall : ∀ i, i < ops.size → listed.getD i false = true := fun i hi => by
      cases hl : listed.getD i false with
      | true => rfl
      | false =>
        have hz : (List.range ops.size).filter (fun i => !listed.getD i false) = [] := List.eq_nil_of_length_eq_zero (by unfold left at hleft; omega)
        have : i ∈ (List.range ops.size).filter (fun i => !listed.getD i false) := List.mem_filter.2 ⟨List.mem_range.2 hi, by rw [hl]; rfl⟩
        rw [hz] at this
        cases this
    refine ⟨?_, fin listed ph done log s rs ps a w ρ hall h hd hwt⟩
    rw [List.eq_nil_iff_forall_not_mem]
    intro i hi
    obtain ⟨h1, o, h2, _⟩ := mem_ready.1 hi
    have hlt := (Array.getElem?_eq_some_iff.1 h2).1
    have := hall i hlt
    rw [Array.getD_eq_getD_getElem?] at h1 this
    rw [Array.getElem?_eq_getElem (by omega)] at h1 this
    simp only [Option.getD_some] at h1 this
    rw [h1] at this
    cases this
  | succ fuel ih =>
    intro listed ph done log s rs ps a w ρ hsz h hd hwt hleft
    refine ⟨fun hr => fin listed ph done log s rs ps a w ρ (empty listed hsz ho.edge hr) h hd hwt, fun i hi => ?_⟩
    obtain ⟨h1, o, h2, h3⟩ := mem_ready.1 hi
    have hlt := (Array.getElem?_eq_some_iff.1 h2).1
    have hS : listed.getD i false = false := by
      rw [Array.getD_eq_getD_getElem?] at h1 ⊢
      rw [Array.getElem?_eq_getElem (by omega)] at h1 ⊢
      simpa using h1
    have hset := set_get (listed := listed) (i := i) (by omega)
    have hless := left_set (n := ops.size) (listed := listed) (i := i) (by omega) hlt hS
    have hsz' : (listed.setIfInBounds i true).size = ops.size := by simpa using hsz
    by_cases hin : ∃ e ∈ log, e.i = i
    · obtain ⟨e, he, rfl⟩ := hin
      exact quiet_exec hP ho h he h2 hS h3 fun a' w' ρ' h' => ih _ ph done log s rs ps a' w' ρ' hsz' (by rw [hset]; exact h') hd hwt (by omega)
    · have hnew : ∀ x ∈ log, x.i ≠ i := fun x hx hxi => hin ⟨x, hx, hxi⟩
      cases ph with
      | nil =>
        exfalso
        have hb : bit done i = true := by rw [hwt.1, bit_full]; simpa using hlt
        exact hin ((hd i).1 hb)
      | cons q r =>
        obtain ⟨ns, l⟩ := q
        obtain ⟨q1, q2, q3, q4⟩ := hwt
        by_cases hil : i = l
        · subst hil
          rw [h2] at q3
          refine loud_exec hP hno hnm hc ho h h2 hnew (fun x hx => (hd x).1 (within_ok q2 hx)) h3 q3 fun e s' ps' a' w' ρ' hei hk' h' => ?_
          have hd' : DoneRel (Nat.lor done (2 ^ i)) (e :: log) := hei ▸ hd.add e
          obtain ⟨done', log', s'', rs'', ps'', r1, r2, r3⟩ := wait_of hno h' hd' q4 hk'
          exact ih _ r done' log' s'' rs'' ps'' a' w' ρ' hsz' (by rw [hset]; exact r2) r3 r1 (by omega)
        · exfalso
          have hnot : bit (Nat.lor done (2 ^ l)) i = false := by
            rw [Bool.eq_false_iff]
            intro hb
            rcases bit_add.1 hb with hb | hb
            · exact hin ((hd i).1 hb)
            · exact hil hb
          obtain ⟨x, hx, hx'⟩ := later_ok q4 i hlt hnot
          have hSx := ho.before h.closed i o h2 h3 x hx
          obtain ⟨e, he, hex⟩ := h.sub x hSx
          have hdx := (hd x).2 ⟨e, he, hex⟩
          rcases hx' with rfl | hx'
          · rw [q1] at hdx; cases hdx
          · rw [Bool.eq_false_iff] at hx'
            exact hx' (bit_add.2 (.inl hdx))

/-- A region. -/
theorem region_ok {P : Program} {Q : Exit → Act → World → Prop} {call : CallR Prop} {K : AF → St → Prop} {id : Nat} {draw : Bool} {f : AF} (hP : E.P = P) (hm : P.follows .mixedOrders = true) (hno : ∀ n, ¬ E.no n) (hnm : Named P) (hc : CallOk P E.g call)
    (hf : FR ρ f a) (hs : Sim ρ E.g s w.heap) (h : region E call ops draw K f s)
    (hQ : ∀ f' s' a' w' ρ', K f' s' → FR ρ' f' a' → Sim ρ' E.g s' w'.heap → Ste ρ s w.heap ρ' s' w'.heap → Out w w' → Q .normal a' w') :
    (Code.region id ops draw).wp P Q a w := by
  unfold region at h
  cases draw with
  | false =>
    simp only at h
    refine wp_region ?_
    have := seq_ok hP rfl hno hnm hc ops.toList [] f s a w ρ rfl hf hs h hQ
    simpa [List.range_eq_range'] using this
  | true =>
    simp only at h
    refine wp_region_any hm ?_
    unfold drawPlan plan at h
    split at h
    · rename_i bef ph last hp
      unfold planned at hp
      generalize plan0 E ops = p0 at hp
      obtain ⟨bef', ph', last'⟩ := p0
      simp only at hp
      split at hp
      · rename_i hdraw
        obtain ⟨rfl, h1⟩ := Prod.mk.inj (Option.some.inj hp)
        obtain ⟨rfl, rfl⟩ := Prod.mk.inj h1
        obtain ⟨hord, hph⟩ := ord_of hdraw
        have hrep : ∀ i, (Array.replicate ops.size false).getD i false = false := fun i => by
          rw [Array.getD_eq_getD_getElem?, Array.getElem?_replicate]
          split <;> rfl
        have hinv : Inv E ops bef' f ρ s { w with drawn := w.drawn + 1 } (fun i => (Array.replicate ops.size false).getD i false) [] s [] [] a { w with drawn := w.drawn + 1 } ρ :=
          ⟨hf, hs, Ste.refl _ _ _, Out.refl _, fun i o hi => (by rw [hrep] at hi; cases hi), fun i hi => (by rw [hrep] at hi; cases hi), trivial, trivial, fun p hp => (by cases hp), List.Pairwise.nil⟩
        have hd0 : DoneRel 0 ([] : List Ent) := fun x => by rw [bit_zero]; simp
        obtain ⟨done', log', s', rs', ps', r1, r2, r3⟩ := wait_of hno hinv hd0 hph h
        refine draw_main (w0 := { w with drawn := w.drawn + 1 }) hP hno hnm hc hord (fun f' s' a' w' ρ' h1 h2 h3 h4 h5 => hQ f' s' a' w' ρ' h1 h2 h3 h4 ⟨h5.1, h5.2⟩) ops.size _ ph' done' log' s' rs' ps' a _ ρ (by simp) r2 r3 r1 ?_
        unfold left
        exact Nat.le_trans (List.length_filter_le _ _) (by simp)
      · cases hp
    · exact absurd h (hno _)

end Go.Ev

/- An abstract evaluator over the model: code, calls, and that all of it is right. -/
namespace Go.Ev

variable {E : Env Prop} {P : Program} {ρ : Pm} {s : St} {a : Act} {w : World} {f : AF} {Q : Exit → Act → World → Prop}

def exOf : Ex → Exit
  | .normal => .normal
  | .exit id => .exit id
  | .ret => .ret

/-- What holds behind a piece of code. -/
def Post (E : Env Prop) (Q : Exit → Act → World → Prop) (K : CK Prop) (ρ : Pm) (s : St) (w : World) : Prop :=
  ∀ e f' s' a' w' ρ', K e f' s' → FR ρ' f' a' → Sim ρ' E.g s' w'.heap → Ste ρ s w.heap ρ' s' w'.heap → Out w w' → Q (exOf e) a' w'

theorem Post.later {K : CK Prop} (h : Post E Q K ρ s w) {ρ' : Pm} {s' : St} {w' : World} (ht : Ste ρ s w.heap ρ' s' w'.heap) (ho : Out w w') : Post E Q K ρ' s' w' :=
  fun e f'' s'' a'' w'' ρ'' h1 h2 h3 h4 h5 => h e f'' s'' a'' w'' ρ'' h1 h2 h3 (ht.trans h4) (ho.trans h5)

/-- What is asked of the rounds of a loop that are still to come. -/
def LoopOk (E : Env Prop) (P : Program) (loop : Code → CK Prop → AF → St → Prop) (n : Nat) : Prop :=
  ∀ (c : Code) (K : CK Prop) (f : AF) (s : St) (a : Act) (w : World) (ρ : Pm) (Q : Exit → Act → World → Prop), loop (.loop c) K f s → FR ρ f a → Sim ρ E.g s w.heap → Post E Q K ρ s w → Code.rounds P c Q n a w

structure Good (E : Env Prop) (P : Program) : Prop where
  prog : E.P = P
  mixed : P.follows .mixedOrders = true
  no : ∀ n, ¬ E.no n
  named : Named P

theorem code_ok (hE : Good E P) {call : CallR Prop} {loop : Code → CK Prop → AF → St → Prop} {n : Nat} (hc : CallOk P E.g call) (hl : LoopOk E P loop n) :
    ∀ (c : Code) (K : CK Prop) (f : AF) (s : St) (a : Act) (w : World) (ρ : Pm) (Q : Exit → Act → World → Prop), codeR E call loop c K f s → FR ρ f a → Sim ρ E.g s w.heap → Post E Q K ρ s w → c.wp P Q a w := by
  intro c
  induction c with
  | skip => intro K f s a w ρ Q h hf hs hQ; exact wp_skip (hQ .normal f s a w ρ h hf hs (Ste.refl _ _ _) (Out.refl _))
  | label l => intro K f s a w ρ Q h hf hs hQ; exact wp_label (hQ .normal f s a w ρ h hf hs (Ste.refl _ _ _) (Out.refl _))
  | ret => intro K f s a w ρ Q h hf hs hQ; exact wp_ret (hQ .ret f s a w ρ h hf hs (Ste.refl _ _ _) (Out.refl _))
  | exit id => intro K f s a w ρ Q h hf hs hQ; exact wp_exit (hQ (.exit id) f s a w ρ h hf hs (Ste.refl _ _ _) (Out.refl _))
  | seq x y ihx ihy =>
    intro K f s a w ρ Q h hf hs hQ
    refine wp_seq (ihx _ f s a w ρ _ h hf hs fun e f' s' a' w' ρ' h1 h2 h3 h4 h5 => ?_)
    cases e with
    | normal => exact ihy K f' s' a' w' ρ' Q h1 h2 h3 (hQ.later h4 h5)
    | exit id => exact hQ (.exit id) f' s' a' w' ρ' h1 h2 h3 h4 h5
    | ret => exact hQ .ret f' s' a' w' ρ' h1 h2 h3 h4 h5
  | cond c x y ihx ihy =>
    intro K f s a w ρ Q h hf hs hQ
    have h : condK (E.no 14) (fun f s => codeR E call loop x K f s) (fun f s => codeR E call loop y K f s) f s (f.lk E.g c) := h
    unfold condK at h
    split at h
    · rename_i hv
      exact wp_cond_true (hf.lk hs.glob _ _ hv) (ihx K f s a w ρ Q h hf hs hQ)
    · rename_i hv
      exact wp_cond_false (hf.lk hs.glob _ _ hv) (ihy K f s a w ρ Q h hf hs hQ)
    · exact absurd h (hE.no _)
  | block id x ihx =>
    intro K f s a w ρ Q h hf hs hQ
    refine wp_block (ihx _ f s a w ρ _ h hf hs fun e f' s' a' w' ρ' h1 h2 h3 h4 h5 => ?_)
    cases e with
    | normal => exact hQ .normal f' s' a' w' ρ' h1 h2 h3 h4 h5
    | ret => exact hQ .ret f' s' a' w' ρ' h1 h2 h3 h4 h5
    | exit j =>
      have h1 : (match Nat.beq j id with | true => K .normal f' s' | false => K (.exit j) f' s') := h1
      show (if j = id then Q .normal a' w' else Q (.exit j) a' w')
      split at h1
      · rename_i hj
        rw [if_pos (Nat.eq_of_beq_eq_true hj)]
        exact hQ .normal f' s' a' w' ρ' h1 h2 h3 h4 h5
      · rename_i hj
        rw [if_neg (fun e => by subst e; simp at hj)]
        exact hQ (.exit j) f' s' a' w' ρ' h1 h2 h3 h4 h5
  | loop x ihx =>
    intro K f s a w ρ Q h hf hs hQ
    refine wp_loop_rounds (n + 1) ?_
    rw [rounds_succ]
    refine ihx _ f s a w ρ _ h hf hs fun e f' s' a' w' ρ' h1 h2 h3 h4 h5 => ?_
    cases e with
    | normal => exact hl x K f' s' a' w' ρ' Q h1 h2 h3 (hQ.later h4 h5)
    | exit id => exact hQ (.exit id) f' s' a' w' ρ' h1 h2 h3 h4 h5
    | ret => exact hQ .ret f' s' a' w' ρ' h1 h2 h3 h4 h5
  | region id ops draw =>
    intro K f s a w ρ Q h hf hs hQ
    exact region_ok hE.prog hE.mixed hE.no hE.named hc hf hs h fun f' s' a' w' ρ' h1 h2 h3 h4 h5 => hQ .normal f' s' a' w' ρ' h1 h2 h3 h4 h5
  | _ => intro K f s a w ρ Q h; exact absurd h (hE.no _)

theorem round_ok (hE : Good E P) {call : CallR Prop} {loop : Code → CK Prop → AF → St → Prop} {n : Nat} (hc : CallOk P E.g call) (hl : LoopOk E P loop n) : LoopOk E P (codeR E call loop) (n + 1) := by
  intro x K f s a w ρ Q h hf hs hQ
  rw [rounds_succ]
  refine code_ok hE hc hl x _ f s a w ρ _ h hf hs fun e f' s' a' w' ρ' h1 h2 h3 h4 h5 => ?_
  cases e with
  | normal => exact hl x K f' s' a' w' ρ' Q h1 h2 h3 (hQ.later h4 h5)
  | exit id => exact hQ (.exit id) f' s' a' w' ρ' h1 h2 h3 h4 h5
  | ret => exact hQ .ret f' s' a' w' ρ' h1 h2 h3 h4 h5

def resOne (tmps : Array Value) : ResultVar → Sem Value
  | .tmp t => pure (tmps.getD t undef)
  | .cell p t => do loadVar t (← asAddr (tmps.getD p undef))

theorem results_eq (fn : Func) (tmps : Array Value) : results fn tmps = (do
    let vs ← fn.results.mapM (resOne tmps)
    pure (if h : vs.size = 1 then vs[0] else .tuple vs)) := rfl

theorem res_list (hP : E.P = P) (hf : FR ρ f a) (hs : Sim ρ E.g s w.heap) : ∀ (l : List ResultVar) (r : List AV), mapO (resultAV E f s) l = some r →
    ∃ vs, (l.mapM (resOne a.tmps)).run P w = .ok vs w ∧ VRs ρ r vs
  | [], r, h => by
    obtain rfl := Option.some.inj h
    exact ⟨[], by simp, rfl⟩
  | x :: l, r, h => by
    simp only [mapO] at h
    cases hx : resultAV E f s x with
    | none => rw [hx] at h; cases h
    | some v =>
      rw [hx] at h
      cases hr : mapO (resultAV E f s) l with
      | none => rw [hr] at h; cases h
      | some r' =>
        rw [hr] at h
        obtain rfl := Option.some.inj h
        obtain ⟨vs, h1, h2⟩ := res_list hP hf hs l r' hr
        have hlk := hf.lk (g := 0) (fun i hi => absurd hi (Nat.not_lt_zero i))
        have head : ∃ u, (resOne a.tmps x).run P w = .ok u w ∧ VR ρ v u := by
          cases x with
          | tmp t => exact ⟨_, rfl, hlk (.tmp t) v hx⟩
          | cell p t =>
            have hx : cellO E s t (f.lk 0 (.tmp p)) = some v := hx
            unfold cellO at hx
            split at hx
            · rename_i k off hp
              split at hx
              · rename_i row hrow
                obtain ⟨q, hq, hv⟩ := (hlk (.tmp p) _ hp).ptr_inv
                obtain ⟨q', c, t', fr, hq', hh, hsz, hc⟩ := row_ok hs hrow
                obtain rfl := Option.some.inj (hq.symm.trans hq')
                rw [hP] at hx
                obtain ⟨u, hu, hr'⟩ := loadVar_ok (P := P) (w := w) hh hc hx
                have hv : a.tmps.getD p undef = .pointer (some ⟨q.b, q.o + off, none⟩) := hv
                exact ⟨u, by
                  show Sem.run P (do loadVar t (← asAddr (a.tmps.getD p undef))) w = _
                  rw [hv]
                  simp [asAddr, hu], hr'⟩
              · cases hx
            · cases hx
        obtain ⟨u, hu, hv⟩ := head
        refine ⟨u :: vs, ?_, u, vs, rfl, hv, h2⟩
        rw [List.mapM_cons]
        simp [Sem.run_bind, hu, h1]

theorem results_ok (hP : E.P = P) (hf : FR ρ f a) (hs : Sim ρ E.g s w.heap) {fn : Func} {r : List AV} (h : mapO (resultAV E f s) fn.results.toList = some r) :
    ∃ v, (results fn a.tmps).run P w = .ok v w ∧ VR ρ (oneOf r) v := by
  obtain ⟨vs, h1, h2⟩ := res_list hP hf hs _ r h
  have hlen := h2.length
  have hrun : (results fn a.tmps).run P w = .ok (if h : vs.toArray.size = 1 then vs.toArray[0] else .tuple vs.toArray) w := by
    rw [results_eq, Array.mapM_eq_mapM_toList]
    simp [h1]
  refine ⟨_, hrun, ?_⟩
  match r, h2, hlen with
  | [], h2, hlen => obtain rfl := h2; exact ⟨#[], rfl, rfl⟩
  | [x], h2, hlen =>
    obtain ⟨v, r, rfl, h3, rfl⟩ := h2
    exact h3
  | x :: y :: r, h2, hlen =>
    have : ¬ vs.toArray.size = 1 := by simp at hlen ⊢; omega
    rw [dif_neg this]
    exact ⟨vs.toArray, rfl, by simpa using h2⟩

theorem frame_look (n : Nat) : ∀ (l : List AV) (i : Nat) (t : T AV) (k : Nat), (frame n l i t).look k = if i ≤ k ∧ k < i + l.length then (l[k - i]?).getD .undef else (⟨n, t⟩ : AF).look k
  | [], i, t, k => by
    have : ¬ (i ≤ k ∧ k < i + 0) := by omega
    rw [List.length_nil, if_neg this]; rfl
  | x :: l, i, t, k => by
    show (frame n l (Nat.succ i) (t.set (key i) (some x))).look k = _
    rw [frame_look n l (Nat.succ i) _ k]
    by_cases hk : k = i
    · subst hk
      rw [if_neg (by omega), if_pos (by simp)]
      have := (look_putF ⟨n, t⟩ k k x).trans (if_pos rfl)
      have this : (⟨n, t.set (key k) (some x)⟩ : AF).look k = x := this
      rw [this]
      simp
    · by_cases h1 : Nat.succ i ≤ k ∧ k < Nat.succ i + l.length
      · have e : k - i = (k - Nat.succ i) + 1 := by omega
        rw [if_pos h1, if_pos (by simp; omega), e, List.getElem?_cons_succ]
      · rw [if_neg h1, if_neg (by simp; omega)]
        have := look_putF ⟨n, t⟩ i k x
        rw [if_neg hk] at this
        exact this

theorem frame_n (n : Nat) : ∀ (l : List AV) (i : Nat) (t : T AV), (frame n l i t).n = n
  | [], _, _ => rfl
  | _ :: l, _, _ => frame_n n l _ _

theorem frame_ok {l : List AV} {us : List Value} {n : Nat} (h : VRs ρ l us) (hn : l.length ≤ n) : FR ρ (frame n l 0 .e) { tmps := us.toArray ++ Array.replicate (n - us.toArray.size) undef, defers := [] } := by
  have hlen := h.length
  refine ⟨?_, rfl, fun t => ?_⟩
  · rw [frame_n]; simp; omega
  · rw [frame_look, Array.getD_eq_getD_getElem?]
    by_cases ht : t < l.length
    · have h1 : t < us.length := by omega
      obtain ⟨v, hv, hr⟩ := h.nth (i := t) (a := l[t]) (by rw [nth_eq]; exact List.getElem?_eq_getElem ht)
      rw [if_pos (by omega), Nat.sub_zero, List.getElem?_eq_getElem ht]
      have e : (us.toArray ++ Array.replicate (n - us.toArray.size) undef)[t]? = some v := by
        rw [Array.getElem?_append_left (by simpa using h1)]
        simpa using hv
      rw [e]
      exact hr
    · rw [if_neg (by omega)]
      have e : ((us.toArray ++ Array.replicate (n - us.toArray.size) undef)[t]?).getD undef = undef := by
        rw [Array.getElem?_append_right (by simp; omega), Array.getElem?_replicate]
        split <;> rfl
      rw [e]
      exact ⟨#[], rfl, rfl⟩

mutual
theorem codeN_ok (hE : Good E P) (hS : ∀ g q, E.spec g = some q → CallOk P E.g (fun i l K s => i = g ∧ q l K s)) : ∀ n, LoopOk E P (codeN E n) n ∧ (∀ (c : Code) (K : CK Prop) (f : AF) (s : St) (a : Act) (w : World) (ρ : Pm) (Q : Exit → Act → World → Prop), codeN E n c K f s → FR ρ f a → Sim ρ E.g s w.heap → Post E Q K ρ s w → c.wp P Q a w)
  | 0 => ⟨fun _c _K _f _s _a _w _ρ _Q h => absurd h (hE.no _), fun _c _K _f _s _a _w _ρ _Q h => absurd h (hE.no _)⟩
  | n + 1 => ⟨round_ok hE (callN_ok hE hS n) (codeN_ok hE hS n).1, code_ok hE (callN_ok hE hS n) (codeN_ok hE hS n).1⟩
theorem callN_ok (hE : Good E P) (hS : ∀ g q, E.spec g = some q → CallOk P E.g (fun i l K s => i = g ∧ q l K s)) : ∀ n, CallOk P E.g (callN E n)
  | 0 => fun i l K s w ρ us R h => absurd h (hE.no _)
  | n + 1 => fun i l K s w ρ us R h hs hl hR => by
    have h : callS E (codeN E n) i l K s (E.spec i) := h
    unfold callS at h
    split at h
    · rename_i q hq
      exact hS i q hq i l K s w ρ us R ⟨rfl, h⟩ hs hl hR
    · unfold call1 at h
      split at h
      · exact absurd h (hE.no _)
      · rename_i fn hfn
        have hfn := fn_ok hfn
        rw [hE.prog] at hfn
        unfold enter at h
        split at h
        · exact absurd h (hE.no _)
        · rename_i c hb
          split at h
          · rename_i hlen
            refine ⟨⟨fn, hfn, by rw [hb]; rfl⟩, calls_of_wp hfn hb ?_⟩
            refine (codeN_ok hE hS n).2 c _ _ s _ w ρ _ h (frame_ok hl (Nat.le_of_ble_eq_true hlen)) hs fun e f' s' a' w' ρ' h1 h2 h3 h4 h5 => ?_
            have fin : retK E K s' (mapO (resultAV E f' s') fn.results.toList) → a'.defers = [] ∧ ∃ v, (results fn a'.tmps).run P w' = .ok v w' ∧ R (.returned v) w' := fun h => by
              unfold retK at h
              split at h
              · rename_i r hr
                obtain ⟨v, hv1, hv2⟩ := results_ok hE.prog h2 h3 hr
                exact ⟨h2.defers, v, hv1, hR _ _ _ _ _ h hv2 h3 h4 h5⟩
              · exact absurd h (hE.no _)
            cases e with
            | normal => exact fin h1
            | ret => exact fin h1
            | exit id => exact absurd h1 (hE.no _)
          · exact absurd h (hE.no _)
end

end Go.Ev
