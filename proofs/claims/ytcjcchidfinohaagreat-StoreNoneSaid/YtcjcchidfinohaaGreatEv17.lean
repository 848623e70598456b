/- An abstract evaluator over the model: changes of memory (3). -/
import Derived.Test.YtcjcchidfinohaaGreatEv16
namespace Go.Ev
variable {P : Program} {ρ : Pm} {g : Nat} {s : St} {w : World} {e : Operand → Value} {lk : Lk} {o : Oper}

/-- A run that changes memory, and gives a value. -/
def MO (P : Program) (g : Nat) (ρ : Pm) (s : St) (w : World) (m : Sem Value) (a : AV) (s' : St) : Prop :=
  ∃ u w' ρ', m.run P w = .ok u w' ∧ VR ρ' a u ∧ Sim ρ' g s' w'.heap ∧ Ste ρ s w.heap ρ' s' w'.heap ∧ Out w w'

theorem MO.same {m : Sem Value} {a : AV} {u : Value} (hs : Sim ρ g s w.heap) (h : m.run P w = .ok u w) (hr : VR ρ a u) : MO P g ρ s w m a s :=
  ⟨u, w, ρ, h, hr, hs, Ste.refl _ _ _, Out.refl _⟩

theorem putF_ok {s : St} {l : Nat} {v : AV} {new : List AV} {r : Option (List AV)} {a : AV} {s' : St} (h : putF s l v new r = some (a, s')) : ∃ r', r = some r' ∧ a = v ∧ s' = s.put l (.cells r') ∧ flats new = true := by
  unfold putF at h
  split at h
  · rename_i hf
    obtain ⟨r', h1, h2, h3⟩ := putO_ok h
    exact ⟨r', h1, h2, h3, hf⟩
  · cases h

theorem growO_ok {s : St} {len sz : Nat} {new : List AV} {r : Option (List AV)} {a : AV} {s' : St} (h : growO s len sz new r = some (a, s')) :
    ∃ old, r = some old ∧ a = .slice s.nx 0 len len sz false ∧ s' = s.add (.cells (old ++ new)) := by
  cases r with
  | none => cases h
  | some old =>
    simp only [growO, fnat_eq] at h
    obtain ⟨rfl, rfl⟩ := Prod.mk.inj (Option.some.inj h)
    exact ⟨old, rfl, rfl, rfl⟩

theorem CellsR.of_VRs {p : Pl} {r : List AV} {c : Array Value} {us : List Value} (h : VRs ρ r us) (hc : ∀ i : Nat, i < us.length → c[p.o + i]? = us[i]?) : CellsR ρ p r c := fun i a ha => by
  obtain ⟨v, hv, hr⟩ := VRs.nth h ha
  refine ⟨v, ?_, hr⟩
  rw [hc i (List.getElem?_eq_some_iff.1 hv).1]
  exact hv

/-- The cells after a growth: what was there, what came, and zeros. -/
theorem grown_ok {elem : TypeId} {need c sz : Nat} {old new : List AV} {oldv newv : Array Value} {zv : Value} {w1 : World} (hs : Sim ρ g s w.heap) (ho : VRs ρ old oldv.toList) (hn : VRs ρ new newv.toList)
    (hz : zv.cells.size = sz) (hlen : oldv.size + newv.size = need * sz) (hc : need ≤ c) (hw : w1 = w.drew.alloc (.cells (oldv ++ newv ++ Builtin.zeroCells zv.cells (c - need)) elem)) :
    ∃ ρ', VR ρ' (.slice s.nx 0 need need sz false) (.slice (some ⟨w.heap.size, 0, none⟩) need c) ∧ Sim ρ' g (s.add (.cells (old ++ new))) w1.heap ∧ Ste ρ s w.heap ρ' (s.add (.cells (old ++ new))) w1.heap ∧ Out w w1 := by
  subst hw
  have hsz : (oldv ++ newv ++ Builtin.zeroCells zv.cells (c - need)).size = c * sz := by
    have e1 : (Builtin.zeroCells zv.cells (c - need)).size = (c - need) * sz := by simp [Builtin.zeroCells, hz]
    rw [Array.size_append, Array.size_append, e1, hlen, ← Nat.add_mul]
    congr 1
    omega
  have hle : ρ.le (ρ.upd s.nx ⟨w.heap.size, 0, c * sz⟩) := Pm.le_upd (hs.fresh _ (Nat.le_refl _))
  have hob : ObjR (ρ.upd s.nx ⟨w.heap.size, 0, c * sz⟩) ⟨w.heap.size, 0, c * sz⟩ (.cells (old ++ new)) (.cells (oldv ++ newv ++ Builtin.zeroCells zv.cells (c - need)) elem) := by
    refine ⟨_, elem, (0, 0), rfl, hsz, fun i => by simp, ?_⟩
    refine CellsR.of_VRs ((VRs.append ho hn).mono hle) (fun i hi => ?_)
    have hi' : i < (oldv ++ newv).size := by simpa using hi
    simp only [Nat.zero_add]
    rw [Array.getElem?_append_left hi']
    rw [← Array.getElem?_toList, Array.toList_append]
  obtain ⟨q1, q2⟩ := sim_add hs hob
  exact ⟨_, ⟨_, _, c, Pm.upd_same _ _ _, rfl, Nat.le_refl _, hc, (fun e => by cases e), fun _ => ⟨rfl, by simp⟩⟩, q1, q2, ⟨rfl, rfl⟩⟩

theorem append_ok {ats : Array TypeId} {t ty : TypeId} {x y a : AV} {u v : Value} {s' : St} (hs : Sim ρ g s w.heap) (hx : VR ρ x u) (hy : VR ρ y v) (h0 : ats[0]? = some t)
    (h1 : ats[1]? = none ∨ ∃ u d, ats[1]? = some u ∧ und P u = some d ∧ notInt (some d) = true) (h : append P s t x y = some (a, s')) : MO P g ρ s w (Builtin.append_ ats ty #[u, v]) a s' := by
  unfold append at h
  split at h
  · rename_i elem hel
    have ht := elemD_ok hel
    split at h
    · rename_i i hfi
      obtain ⟨hi, zv, hz, hzs⟩ := fitI_ok hfi
      split at h
      · rename_i n hn
        have hlen := fun w' => lenAV_ok (P := P) (w := w') hn hy
        split at h
        · rename_i new hnew
          obtain ⟨arr, hfw, hfr, hfs⟩ := first_ok (P := P) hs hnew hy hn (Nat.le_refl _)
          have hf := hfw w rfl
          split at h
          · -- nil
            obtain rfl := hx
            split at h
            · obtain ⟨rfl, rfl⟩ := Prod.mk.inj (Option.some.inj h)
              refine MO.same hs ?_ rfl
              exact append_room (base := none) (len := 0) (cap := 0) ht hi h0 h1 (hlen w) hf (Nat.le_refl _) (fun a e => by cases e) (fun _ => rfl)
            · rename_i m
              split at h
              · rename_i hbig
                obtain ⟨old, hold, rfl, rfl⟩ := growO_ok h
                obtain rfl := Option.some.inj hold
                obtain ⟨c, hc, hrun⟩ := append_grow (base := none) (len := 0) (cap := 0) (ty := ty) (old := #[]) ht hi h0 h1 (hlen w) hfw (by omega) (by rw [Nat.zero_add]; exact hbig) hz (fun w' _ => rfl)
                rw [Nat.zero_add] at hc hrun
                obtain ⟨ρ', q1, q2, q3, q4⟩ := grown_ok (elem := elem) (old := []) (oldv := #[]) (zv := zv) (c := c) hs rfl hfr hzs (by simp [hfs]) hc rfl
                exact ⟨_, _, ρ', hrun, q1, q2, q3, q4⟩
              · cases h
          · rename_i l off len cap sz ex
            split at h
            · rename_i hsz
              obtain rfl : sz = i.size := Nat.eq_of_beq_eq_true hsz
              have hx0 := hx
              obtain ⟨p, ad, c', hp, rfl, h3, h4, h5, h6⟩ := hx
              split at h
              · -- nothing comes
                obtain ⟨rfl, rfl⟩ := Prod.mk.inj (Option.some.inj h)
                have harr : arr.toList = [] := by
                  have : arr.size = 0 := by rw [hfs]; simp
                  apply List.eq_nil_of_length_eq_zero
                  simpa using this
                refine MO.same (u := .slice (some ad) len c') hs ?_ hx0
                have := append_room (P := P) (ty := ty) (base := some ad) (len := len) (cap := c') (w' := w) ht hi h0 h1 (hlen w) hf (by omega) (fun a _ => by rw [harr]; simp [storeCells]) (fun _ => rfl)
                simpa using this
              · rename_i m
                unfold appendS at h
                split at h
                · -- there is room
                  rename_i hr
                  have hr : len + (m + 1) ≤ cap := Nat.le_of_ble_eq_true hr
                  split at h
                  · rename_i r hrow
                    simp only [fnat_eq] at h
                    obtain ⟨r', hset, rfl, rfl, hflat⟩ := putF_ok h
                    obtain ⟨rfl, h7⟩ := h6 (by omega)
                    obtain ⟨w', q1, q2, q3, q4⟩ := write_ok (P := P) hs hrow hp hset hfr (flat_all hfr hflat)
                    refine ⟨.slice (some ⟨p.b, p.o + off, none⟩) (len + (m + 1)) c', w', ρ, ?_, ⟨p, _, c', hp, rfl, hr, h4, h5, fun _ => ⟨rfl, h7⟩⟩, q2, q3, q4⟩
                    refine append_room (P := P) (ty := ty) ht hi h0 h1 (hlen w) hf (by omega) (fun a ha => ?_) (fun e => by cases e)
                    obtain rfl := Option.some.inj ha
                    rw [addr_add, Nat.add_assoc]
                    exact q1
                  · cases h
                · rename_i hr
                  have hr : ¬ len + (m + 1) ≤ cap := fun hh => by
                    have : Nat.ble (Nat.add len (Nat.succ m)) cap = true := Nat.ble_eq_true_of_le hh
                    rw [this] at hr
                    cases hr
                  split at h
                  · rename_i hbig
                    have grow : ∀ (row old : List AV) (s2 : St), Sim ρ g s2 w.heap → Ste ρ s w.heap ρ s2 w.heap → rowOf s l = some row → sub row off (len * i.size) = some old → c' < len + (m + 1) →
                        MO P g ρ s w (Builtin.append_ ats ty #[.slice (some ad) len c', v]) (.slice s2.nx 0 (len + (m + 1)) (len + (m + 1)) i.size false) (s2.add (.cells (old ++ new))) := by
                      intro row old s2 hs2 hst hrow hsub hlt
                      obtain ⟨oldv, ho1, ho2, ho3⟩ := first_ok (P := P) (n := len) (sz := i.size) (r := old) hs (by simp only [firstCells, Nat.beq_refl, hrow]; exact hsub) hx0 rfl (Nat.le_refl _)
                      obtain ⟨c, hc, hrun⟩ := append_grow (base := some ad) (len := len) (cap := c') (ty := ty) (old := oldv) ht hi h0 h1 (hlen w) hfw (by omega) hbig hz ho1
                      obtain ⟨ρ', q1, q2, q3, q4⟩ := grown_ok (elem := elem) (zv := zv) (c := c) hs2 ho2 hfr hzs (by rw [ho3, hfs, ← Nat.add_mul]) hc rfl
                      exact ⟨_, _, ρ', hrun, q1, q2, hst.trans q3, q4⟩
                    split at h
                    · rename_i r hrow
                      have hrow' : rowOf s l = some r := by unfold rowOf; rw [hrow]; rfl
                      split at h
                      · obtain ⟨old, hsub, rfl, rfl⟩ := growO_ok h
                        exact grow r old s hs (Ste.refl _ _ _) hrow' hsub (by rw [h5 rfl]; omega)
                      · unfold growF at h
                        split at h
                        · rename_i hflat
                          obtain ⟨old, hsub, rfl, rfl⟩ := growO_ok h
                          by_cases hin : len + (m + 1) ≤ c'
                          · -- the row has room after all
                            obtain ⟨rfl, h7⟩ := h6 (by omega)
                            obtain ⟨p', ob, hp', hh, c, t', fr, rfl, hcs, hfrz, hcc⟩ := hs.obj _ _ hrow
                            obtain rfl := Option.some.inj (hp.symm.trans hp')
                            obtain ⟨e1, e2⟩ := cells_sub hcc (show sub r off (len * i.size) = some old from hsub)
                            have hmul : (len + (m + 1)) * i.size ≤ c' * i.size := Nat.mul_le_mul_right _ hin
                            rw [Nat.add_mul] at hmul
                            have hroom : p.o + off + len * i.size + arr.toList.length ≤ c.size := by
                              have hfs' : arr.size = (m + 1) * i.size := hfs
                              rw [Array.length_toList, hfs', hcs]
                              omega
                            obtain ⟨w', r1, r2, r3, r4, r5⟩ := storeCells_ok (P := P) (ofs := p.o + off + len * i.size) arr.toList 0 c w hh (flat_all hfr hflat) (.inr (by simpa using hroom)) (fun j _ => hfrz j)
                            have hq : ObjR (ρ.upd s.nx ⟨p.b, p.o + off, p.n⟩) ⟨p.b, p.o + off, p.n⟩ (.cells (old ++ new)) (.cells (sets c (p.o + off + len * i.size + 0) arr.toList) t' fr) := by
                              refine ⟨_, t', fr, rfl, by rw [sets_size]; exact hcs, hfrz, ?_⟩
                              refine CellsR.of_VRs ((VRs.append e2 hfr).mono (Pm.le_upd (hs.fresh _ (Nat.le_refl _)))) (fun j hj => ?_)
                              have hol : ((c.toList.drop (p.o + off)).take (len * i.size)).length = len * i.size := by
                                rw [List.length_take, List.length_drop, Array.length_toList]
                                omega
                              simp only [Nat.add_zero]
                              rw [sets_get _ _ _ hroom]
                              rw [List.length_append, hol] at hj
                              by_cases hj' : j < len * i.size
                              · rw [if_neg (by omega), List.getElem?_append_left (by omega), List.getElem?_take_of_lt hj', List.getElem?_drop, Array.getElem?_toList]
                              · rw [if_pos (by omega), List.getElem?_append_right (by omega), hol]
                                congr 1
                                omega
                            obtain ⟨q1, q2⟩ := sim_move (q := ⟨p.b, p.o + off, p.n⟩) hs hrow rfl hp rfl r2 r3 hq r4
                            refine ⟨.slice (some ⟨p.b, p.o + off, none⟩) (len + (m + 1)) c', w', _, ?_, ⟨_, _, c', Pm.upd_same _ _ _, rfl, Nat.le_refl _, hin, (fun e => by cases e), fun _ => ⟨rfl, by simpa using h7⟩⟩, q1, q2, r5⟩
                            refine append_room (P := P) (ty := ty) ht hi h0 h1 (hlen w) hf hin (fun a ha => ?_) (fun e => by cases e)
                            obtain rfl := Option.some.inj ha
                            rw [addr_add]
                            exact r1
                          · exact grow r old (s.kill l) (sim_kill hs) ste_kill hrow' hsub (by omega)
                        · cases h
                    · rename_i r hrow
                      have hrow' : rowOf s l = some r := by unfold rowOf; rw [hrow]; rfl
                      split at h
                      · obtain ⟨old, hsub, rfl, rfl⟩ := growO_ok h
                        exact grow r old s hs (Ste.refl _ _ _) hrow' hsub (by rw [h5 rfl]; omega)
                      · cases h
                    · cases h
                  · cases h
            · cases h
          · cases h
        · cases h
      · cases h
    · cases h
  · cases h

end Go.Ev
