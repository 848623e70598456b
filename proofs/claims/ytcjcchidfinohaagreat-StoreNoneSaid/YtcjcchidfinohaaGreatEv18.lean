/- An abstract evaluator over the model: changes of memory (4). -/
import Derived.Test.YtcjcchidfinohaaGreatEv17
namespace Go.Ev
variable {P : Program} {ρ : Pm} {g : Nat} {s : St} {w : World} {e : Operand → Value} {lk : Lk} {o : Oper}

theorem sames_ok {D : Nat} {q : AV → AV → Bool} (hq : ∀ a b u v, q a b = true → VR ρ a u → VR ρ b v → Instr.sameBits D u v = true) : ∀ {l r : List AV} {us vs : List Value}, sames q l r = true → VRs ρ l us → VRs ρ r vs →
    us.length = vs.length ∧ (us.zip vs).all (fun p => Instr.sameBits D p.1 p.2) = true
  | [], [], us, vs, _, hu, hv => by obtain rfl := hu; obtain rfl := hv; exact ⟨rfl, rfl⟩
  | [], _ :: _, _, _, h, _, _ => by cases h
  | _ :: _, [], _, _, h, _, _ => by cases h
  | a :: l, b :: r, us, vs, h, hu, hv => by
    obtain ⟨u, us, rfl, h1, hu⟩ := hu
    obtain ⟨v, vs, rfl, h2, hv⟩ := hv
    simp [sames] at h
    obtain ⟨i1, i2⟩ := sames_ok hq h.2 hu hv
    exact ⟨by simp [i1], by simp [hq _ _ _ _ h.1 h1 h2]; simpa using i2⟩

theorem sameB_ok : ∀ (n : Nat) {a b : AV} {u v : Value} {D : Nat}, sameB n a b = true → VR ρ a u → VR ρ b v → Instr.sameBits (D + n) u v = true
  | 0, _, _, _, _, _, h, _, _ => by cases h
  | n + 1, a, b, u, v, D, h, hu, hv => by
    simp only [sameB] at h
    split at h
    · rw [VR.eq_1] at hu hv; subst hu hv; simpa [Instr.sameBits] using h
    · rename_i k x k' y
      rw [VR.eq_2] at hu hv; subst hu hv
      have : k = k' ∧ x = y := by
        cases h1 : kindEq k k' <;> cases h2 : ieq x y <;> simp [h1, h2] at h
        exact ⟨(kindEq_iff _ _).1 h1, by rw [ieq_eq] at h2; simpa using h2⟩
      obtain ⟨rfl, rfl⟩ := this
      simp [Instr.sameBits]
    · rw [VR.eq_3] at hu hv; subst hu hv
      rw [bytesEq_eq] at h
      have := eq_of_beq h
      subst this
      simp [Instr.sameBits]
      exact (MapKept.bytes_beq _ _).2 rfl
    · obtain ⟨us, rfl, hu⟩ := hu
      obtain ⟨vs, rfl, hv⟩ := hv
      obtain ⟨i1, i2⟩ := sames_ok (D := D + n) (fun a b u v h1 h2 h3 => sameB_ok n h1 h2 h3) h hu hv
      have i1' : us.size = vs.size := by simpa using i1
      show Instr.sameBits (D + n + 1) (.agg us) (.agg vs) = true
      simp [Instr.sameBits, i1']
      simpa using i2
    · cases h

theorem modE_ok {f : AE → AE} {f' : MapEntry → MapEntry} : ∀ {es : List AE} {es' : List MapEntry} {i : Nat}, ERs ρ es es' →
    (∀ a b, es[i]? = some a → es'[i]? = some b → VR ρ (f a).key (f' b).key ∧ VR ρ (f a).val (f' b).val ∧ (f' b).born = (f a).born) → ERs ρ (modE f es i) (es'.modify i f')
  | [], es', i, h, _ => by obtain rfl := h; cases i <;> rfl
  | a :: es, es', i, h, hf => by
    obtain ⟨b, q, rfl, h1, h⟩ := h
    cases i with
    | zero => exact ⟨f' b, q, rfl, hf a b rfl rfl, h⟩
    | succ i => exact ⟨b, q.modify i f', rfl, h1, modE_ok h (fun a b h1 h2 => hf a b h1 h2)⟩

theorem eraseE_ok : ∀ {es : List AE} {es' : List MapEntry} {i : Nat}, ERs ρ es es' → ERs ρ (eraseE es i) (es'.eraseIdx i)
  | [], es', i, h => by obtain rfl := h; cases i <;> rfl
  | a :: es, es', i, h => by
    obtain ⟨b, q, rfl, h1, h⟩ := h
    cases i with
    | zero => exact h
    | succ i => exact ⟨b, q.eraseIdx i, rfl, h1, eraseE_ok h⟩

theorem ERs.append : ∀ {l l' : List AE} {es es' : List MapEntry}, ERs ρ l es → ERs ρ l' es' → ERs ρ (l ++ l') (es ++ es')
  | [], _, _, _, h, h' => by obtain rfl := h; exact h'
  | a :: l, _, _, _, h, h' => by obtain ⟨b, q, rfl, h1, h⟩ := h; exact ⟨b, _, rfl, h1, ERs.append h h'⟩

/-- The object of a name turns. -/
theorem setObj_ok {l : Nat} {ob ob' : AObj} {p : Pl} {x y : Obj} (hs : Sim ρ g s w.heap) (hl : s.look l = some ob) (hown : ob.owned = true) (hown' : ob'.owned = true) (hp : ρ l = some p) (hx : w.heap[p.b]? = some x)
    (hnc : ∀ c t fr, x ≠ .cells c t fr) (hy : ObjR ρ p ob' y) :
    ∃ w', (setObj p.b y).run P w = .ok () w' ∧ Sim ρ g (s.put l ob') w'.heap ∧ Ste ρ s w.heap ρ (s.put l ob') w'.heap ∧ Out w w' := by
  have hlt : p.b < w.heap.size := (Array.getElem?_eq_some_iff.1 hx).1
  have hr : (setObj p.b y).run P w = .ok () { w with heap := w.heap.setIfInBounds p.b y } := by
    simp only [setObj, Sem.run, hx]
  obtain ⟨q1, q2⟩ := sim_put (h' := w.heap.setIfInBounds p.b y) hs hl hown hown' hp (by simp) (by simp [hlt]) hy (fun b hb => by rw [Array.getElem?_setIfInBounds_ne (Ne.symm hb)])
  exact ⟨_, hr, q1, q2, ⟨rfl, rfl⟩⟩

theorem mo_unit {m : Sem Unit} {a : AV} {s' : St} {w' : World} (he : execOp e o = (do m; pure .skip)) (hr : m.run P w = .ok () w') (ha : a = .undef) (h2 : Sim ρ g s' w'.heap) (h3 : Ste ρ s w.heap ρ s' w'.heap) (h4 : Out w w') : LO P g ρ s w e o a s' := by
  subst ha
  exact ⟨undef, w', ρ, .inr ⟨by rw [he]; simp [hr], rfl⟩, ⟨#[], rfl, rfl⟩, h2, h3, h4⟩

theorem lo_of {m : Sem Value} {a : AV} {s' : St} (he : execOp e o = (do pure (.value (← m)))) (h : MO P g ρ s w m a s') : LO P g ρ s w e o a s' := by
  obtain ⟨u, w', ρ', h1, h2⟩ := h
  exact ⟨u, w', ρ', .inl (by rw [he]; simp [h1]), h2⟩

theorem update_ok {t : TypeId} {m k v : Operand} {a : AV} {s' : St} (hs : Sim ρ g s w.heap) (he : execOp e o = (do Instr.mapUpdate t (e m) (e k) (e v); pure .skip)) (hl : Lks ρ lk e)
    (h : updateL P s t (lk m) (lk k) (lk v) = some (a, s')) : LO P g ρ s w e o a s' := by
  unfold updateL at h
  split at h
  · rename_i kt et ht
    split at h
    · rename_i l hm
      split at h
      · rename_i ka hk
        split at h
        · rename_i va hv
          split at h
          · rename_i es c hlook
            split at h
            · rename_i hc
              obtain ⟨p, hp, hmv⟩ := hl _ _ hm
              have hku := hl _ _ hk
              have hvu := hl _ _ hv
              obtain ⟨p', ob, hp', hh, es', rfl, hes⟩ := hs.obj _ _ hlook
              obtain rfl := Option.some.inj (hp.symm.trans hp')
              obtain ⟨d, hd⟩ := chk_und hc
              have hck := chk_ok (P := P) (w := w) (em := false) (D := 9980) 20 hc hku
              have hget : (getObj p.b).run P w = .ok (.map es' c) w := by simp [getObj, Sem.run, hh]
              unfold updateE at h
              split at h
              · rename_i i en hf
                split at h
                · rename_i hsame
                  obtain ⟨rfl, rfl⟩ := Prod.mk.inj (Option.some.inj h)
                  obtain ⟨x, hx, b, rfl, _, h5, h6, h7, h8, h9⟩ := findKey_ok (P := P) (w := w) hd hku hes hf
                  simp only [Nat.sub_zero] at h5 h6
                  have h6' : es'[i]? = some b := by simpa using h6
                  have hbits := sameB_ok (D := 9980) 20 hsame h7 hku
                  have hy : ObjR ρ p (.map (modE (fun e => ⟨ka, va, e.born⟩) es i) c) (.map (es'.modify i fun e' => { e' with key := e k, val := e v }) c) := by
                    refine ⟨_, rfl, ?_⟩
                    rw [Array.toList_modify]
                    refine modE_ok hes (fun a b' h10 h11 => ⟨hku, hvu, ?_⟩)
                    rw [h5] at h10
                    rw [h6] at h11
                    obtain rfl := Option.some.inj h10
                    obtain rfl := Option.some.inj h11
                    exact h9
                  obtain ⟨w', q1, q2, q3, q4⟩ := setObj_ok (P := P) hs hlook rfl rfl hp hh (fun _ _ _ e => by cases e) hy
                  refine mo_unit he ?_ rfl q2 q3 q4
                  have hk' : (Instr.keyThatStays b.key (e k)).run P w = .ok (e k) w := by
                    unfold Instr.keyThatStays
                    rw [if_pos hbits]
                    rfl
                  simp [Instr.mapUpdate, run_und ht, hmv, hget, hck, hx, h6', hk', q1]
                · cases h
              · rename_i hf
                obtain ⟨rfl, rfl⟩ := Prod.mk.inj (Option.some.inj h)
                obtain ⟨x, hx, hn⟩ := findKey_ok (P := P) (w := w) hd hku hes hf
                obtain rfl : x = none := hn
                have hy : ObjR ρ p (.map (es ++ [⟨ka, va, c⟩]) (c + 1)) (.map (es'.push { key := e k, val := e v, born := c }) (c + 1)) := by
                  refine ⟨_, rfl, ?_⟩
                  rw [Array.toList_push]
                  exact ERs.append hes ⟨_, [], rfl, ⟨hku, hvu, rfl⟩, rfl⟩
                obtain ⟨w', q1, q2, q3, q4⟩ := setObj_ok (P := P) hs hlook rfl rfl hp hh (fun _ _ _ e => by cases e) hy
                refine mo_unit he ?_ rfl q2 q3 q4
                simp [Instr.mapUpdate, run_und ht, hmv, hget, hck, hx, q1]
              · cases h
            · cases h
          · cases h
        · cases h
      · cases h
    · cases h
  · cases h

theorem delete_ok {ats : Array TypeId} {t ty : TypeId} {m k : Operand} {a : AV} {s' : St} (hs : Sim ρ g s w.heap) (h0 : ats[0]? = some t) (hl : Lks ρ lk e)
    (h : deleteL P s t (lk m) (lk k) = some (a, s')) : MO P g ρ s w (Builtin.delete_ ats ty #[e m, e k]) a s' := by
  unfold deleteL at h
  split at h
  · rename_i kt et ht
    split at h
    · rename_i l hm
      split at h
      · rename_i ka hk
        split at h
        · rename_i es c hlook
          split at h
          · rename_i hc
            obtain ⟨p, hp, hmv⟩ := hl _ _ hm
            have hku := hl _ _ hk
            obtain ⟨p', ob, hp', hh, es', rfl, hes⟩ := hs.obj _ _ hlook
            obtain rfl := Option.some.inj (hp.symm.trans hp')
            obtain ⟨d, hd⟩ := chk_und hc
            have hck := chk_ok (P := P) (w := w) (em := es'.isEmpty) (D := 9980) 20 hc hku
            have hget : (getObj p.b).run P w = .ok (.map es' c) w := by simp [getObj, Sem.run, hh]
            unfold deleteE at h
            split at h
            · rename_i i en hf
              obtain ⟨rfl, rfl⟩ := Prod.mk.inj (Option.some.inj h)
              obtain ⟨x, hx, b, rfl, _, h5, h6, h7, h8, h9⟩ := findKey_ok (P := P) (w := w) hd hku hes hf
              simp only [Nat.sub_zero] at h5 h6
              have hlt : i < es'.size := by simpa using (List.getElem?_eq_some_iff.1 h6).1
              have hy : ObjR ρ p (.map (eraseE es i) c) (.map (es'.eraseIdxIfInBounds i) c) := by
                refine ⟨_, rfl, ?_⟩
                have : (es'.eraseIdxIfInBounds i).toList = es'.toList.eraseIdx i := by
                  simp [Array.eraseIdxIfInBounds, hlt]
                rw [this]
                exact eraseE_ok hes
              obtain ⟨w', q1, q2, q3, q4⟩ := setObj_ok (P := P) hs hlook rfl rfl hp hh (fun _ _ _ e => by cases e) hy
              refine ⟨.tuple #[], w', ρ, ?_, ⟨#[], rfl, rfl⟩, q2, q3, q4⟩
              simp [Builtin.delete_, h0, run_und ht, hmv, hget, hck, hx, q1]
            · rename_i hf
              obtain ⟨rfl, rfl⟩ := Prod.mk.inj (Option.some.inj h)
              obtain ⟨x, hx, hn⟩ := findKey_ok (P := P) (w := w) hd hku hes hf
              obtain rfl : x = none := hn
              obtain ⟨w', q1, q2, q3, q4⟩ := setObj_ok (P := P) hs hlook rfl rfl hp hh (fun _ _ _ e => by cases e) (show ObjR ρ p (.map es c) (.map es' c) from ⟨_, rfl, hes⟩)
              refine ⟨.tuple #[], w', ρ, ?_, ⟨#[], rfl, rfl⟩, q2, q3, q4⟩
              simp [Builtin.delete_, h0, run_und ht, hmv, hget, hck, hx, q1]
            · cases h
          · cases h
        · cases h
      · cases h
    · cases h
  · cases h

theorem next_ok {it : Operand} {str : Bool} {ty : TypeId} {a : AV} {s' : St} (hs : Sim ρ g s w.heap) (hl : Lks ρ lk e) (h : nextL s str (lk it) = some (a, s')) : MO P g ρ s w (Instr.next (e it) str ty) a s' := by
  unfold nextL at h
  split at h
  · rename_i l hit
    split at h
    · split at h
      · rename_i b p hlook
        obtain ⟨q, hq, hv⟩ := hl _ _ hit
        obtain ⟨q', ob, hq', hh, rfl, hq0⟩ := hs.obj _ _ hlook
        obtain rfl := Option.some.inj (hq.symm.trans hq')
        rw [hq0] at hv
        have hget : (getObj q.b).run P w = .ok (.stringIter ⟨⟨b⟩⟩ p) w := by simp [getObj, Sem.run, hh]
        have hsz : (⟨⟨b⟩⟩ : ByteArray).size = b.length := rfl
        split at h
        · rename_i hp
          have hp : p < b.length := by simpa [Nat.blt_eq] using hp
          split at h
          rename_i c wd hd
          simp only [fnat_eq] at h
          obtain ⟨rfl, rfl⟩ := Prod.mk.inj (Option.some.inj h)
          obtain ⟨w', q1, q2, q3, q4⟩ := setObj_ok (P := P) (ob' := .iter b (p + wd)) (y := .stringIter ⟨⟨b⟩⟩ (p + wd)) hs hlook rfl rfl hq hh (fun _ _ _ e => by cases e) ⟨rfl, hq0⟩
          refine ⟨.tuple #[.bool true, goInt p, .int .i32 c], w', ρ, ?_, ⟨_, rfl, _, _, rfl, rfl, _, _, rfl, rfl, _, _, rfl, rfl, rfl⟩, q2, q3, q4⟩
          have hd' : Utf8.decode ⟨⟨b⟩⟩ p = (c, wd) := hd
          simp [Instr.next, hv, hget, hsz, hp, hd', q1]
        · rename_i hp
          have hp : ¬ p < b.length := by
            intro hh
            have : Nat.blt p b.length = true := by simpa [Nat.blt_eq] using hh
            rw [this] at hp
            cases hp
          obtain ⟨rfl, rfl⟩ := Prod.mk.inj (Option.some.inj h)
          refine MO.same (u := .tuple #[.bool false]) hs ?_ ⟨_, rfl, _, _, rfl, rfl, rfl⟩
          simp [Instr.next, hv, hget, hsz, hp]
      · cases h
    · cases h
  · cases h

theorem first0_ok {y : AV} {v : Value} {m sz : Nat} (h : lenAV y = some m) (hy : VR ρ y v) : ∃ arr, (Builtin.firstCells sz 0 v).run P w = .ok arr w := by
  unfold lenAV at h
  split at h
  · obtain ⟨p, a, c, _, rfl, _⟩ := hy
    exact ⟨#[], by simp [Builtin.firstCells, loadCells, loadCellsFrom]⟩
  · obtain rfl := hy
    exact ⟨#[], rfl⟩
  · obtain rfl := hy
    exact ⟨_, rfl⟩
  · cases h

theorem copy_ok {ats : Array TypeId} {t elem ty : TypeId} {x y a : AV} {u v : Value} {sz n : Nat} {s' : St} (hs : Sim ρ g s w.heap) (h0 : ats[0]? = some t) (ht : und P t = some (.slice elem)) (hsz : size P elem = some sz) (hn : lenAV y = some n)
    (hx : VR ρ x u) (hy : VR ρ y v) (h : copyS s sz x y n = some (a, s')) : MO P g ρ s w (Builtin.copy_ ats ty #[u, v]) a s' := by
  have hlen := lenAV_ok (P := P) (w := w) hn hy
  unfold copyS at h
  split at h
  · obtain ⟨rfl, rfl⟩ := Prod.mk.inj (Option.some.inj h)
    obtain rfl := hx
    obtain ⟨arr, harr⟩ := first0_ok (P := P) (w := w) (sz := sz) hn hy
    refine MO.same (u := goInt 0) hs ?_ rfl
    simp [Builtin.copy_, h0, run_und ht, hlen, run_size hsz, harr]
  · rename_i l off len cap sz' ex
    split at h
    · rename_i hse
      obtain rfl : sz = sz' := Nat.eq_of_beq_eq_true hse
      split at h
      · rename_i new hnew
        split at h
        · rename_i r hrow
          simp only [fnat_eq] at h
          obtain ⟨r', hset, rfl, rfl, hflat⟩ := putF_ok h
          obtain ⟨arr, hf, hfr, hfs⟩ := first_ok (P := P) hs hnew hy hn (Nat.min_le_left _ _)
          obtain ⟨p, ad, c', hp, rfl, h3, h4, h5, h6⟩ := hx
          have hstore : ∃ w', (storeCells ad arr.toList).run P w = .ok () w' ∧ Sim ρ g (s.put l (.cells r')) w'.heap ∧ Ste ρ s w.heap ρ (s.put l (.cells r')) w'.heap ∧ Out w w' := by
            rcases Nat.eq_zero_or_pos c' with hc | hc
            · have h7 : Nat.min n len = 0 := by
                have := Nat.min_le_right n len
                have e : Nat.min n len = min n len := rfl
                omega
              have harr : arr.toList = [] := by
                apply List.eq_nil_of_length_eq_zero
                rw [Array.length_toList, hfs, h7]
                simp
              rw [harr] at hfr ⊢
              obtain ⟨w', q1, q2⟩ := write_ok (P := P) hs hrow hp hset hfr (by simp)
              have : w' = w := by
                have : (Result.ok () w : Result Unit) = .ok () w' := q1
                cases this
                rfl
              subst this
              exact ⟨w', rfl, q2⟩
            · obtain ⟨rfl, _⟩ := h6 hc
              exact write_ok (P := P) hs hrow hp hset hfr (flat_all hfr hflat)
          obtain ⟨w', q1, q2, q3, q4⟩ := hstore
          refine ⟨goInt (Nat.min n len), w', ρ, ?_, rfl, q2, q3, q4⟩
          simp [Builtin.copy_, h0, run_und ht, hlen, run_size hsz, hf w rfl, q1]
        · cases h
      · cases h
    · cases h
  · cases h

theorem zeroCells_ok {z : AV} {zv : Value} (hz : VR ρ z zv) (n : Nat) : VRs ρ (copies z.cells n) (Builtin.zeroCells zv.cells n).toList :=
  zeros_ok hz.cells n rfl

theorem clear_ok {c : Call} {ty : TypeId} {a : AV} {s' : St} (hs : Sim ρ g s w.heap) (hl : Lks ρ lk e) (h : clearL P lk s c.args.toList c.argTypes.toList = some (a, s')) :
    MO P g ρ s w (Builtin.clear_ c.argTypes ty (c.args.map e)) a s' := by
  unfold clearL at h
  split at h
  · rename_i x t ts hx hts
    have hargs : c.args = #[x] := Array.ext' hx
    have h0 : c.argTypes[0]? = some t := by rw [← Array.getElem?_toList, hts]; rfl
    have h0' : (c.args.map e)[0]? = some (e x) := by rw [hargs]; simp
    split at h
    · rename_i l off len cap sz ex hv
      split at h
      · rename_i elem hel
        have ht := elemD_ok hel
        split at h
        · rename_i z hz
          split at h
          · rename_i r hrow
            split at h
            · rename_i hzs
              have hzs : z.cells.length = sz := Nat.eq_of_beq_eq_true hzs
              obtain ⟨r', hset, rfl, rfl, hflat⟩ := putF_ok h
              obtain ⟨p, ad, c', hp, hxv, h3, h4, h5, h6⟩ := hl _ _ hv
              obtain ⟨rfl, _⟩ := h6 (by omega)
              obtain ⟨zv, hzr, hzv⟩ := run_zero (P := P) (w := w) (ρ := ρ) hz
              have hzc := zeroCells_ok hzv (len + 1)
              obtain ⟨w', q1, q2, q3, q4⟩ := write_ok (P := P) hs hrow hp hset hzc (flat_all hzc hflat)
              refine ⟨.tuple #[], w', ρ, ?_, ⟨#[], rfl, rfl⟩, q2, q3, q4⟩
              simp [Builtin.clear_, h0, h0', run_und ht, hxv, hzr, q1]
            · cases h
          · cases h
        · cases h
      · cases h
    · rename_i l off cap sz ex hv
      split at h
      · rename_i d ht
        obtain ⟨rfl, rfl⟩ := Prod.mk.inj (Option.some.inj h)
        obtain ⟨p, ad, c', hp, hxv, _⟩ := hl _ _ hv
        refine MO.same (u := .tuple #[]) hs ?_ ⟨#[], rfl, rfl⟩
        simp [Builtin.clear_, h0, h0', run_und ht, hxv]
      · cases h
    · rename_i hv
      split at h
      · rename_i d ht
        obtain ⟨rfl, rfl⟩ := Prod.mk.inj (Option.some.inj h)
        have hxv := hl _ _ hv
        rw [VR.eq_5] at hxv
        refine MO.same (u := .tuple #[]) hs ?_ ⟨#[], rfl, rfl⟩
        simp [Builtin.clear_, h0, h0', run_und ht, hxv]
      · cases h
    · cases h
  · cases h

theorem minMax_ok {lss : Bool} {k : IntKind} : ∀ {l : List AV} {x : Int} {us : List Value} {a : AV}, minMax lss k x l = some a → VRs ρ l us →
    ∃ u, (us.foldlM (if lss then Builtin.min2 else Builtin.max2) (.int k x)).run P w = .ok u w ∧ VR ρ a u
  | [], x, us, a, h, hu => by
    obtain rfl := hu
    obtain rfl := mkI_ok h
    exact ⟨_, rfl, rfl⟩
  | b :: l, x, us, a, h, hu => by
    obtain ⟨v, us, rfl, hv, hu⟩ := hu
    cases b with
    | int k' y =>
      simp only [minMax] at h
      split at h
      · rename_i hk
        obtain rfl := (kindEq_iff _ _).1 hk
        rw [VR.eq_2] at hv
        subst hv
        obtain ⟨u, h1, h2⟩ := minMax_ok h hu
        refine ⟨u, ?_, h2⟩
        rw [List.foldlM_cons]
        have : ((if lss then Builtin.min2 else Builtin.max2) (.int k x) (.int k y)).run P w = .ok (.int k (pickI lss x y)) w := by
          cases lss
          · simp only [Bool.false_eq_true, if_false, Builtin.max2, pickI, ilt_eq]
            by_cases hc : x < y <;> simp [hc]
          · simp only [if_true, Builtin.min2, pickI, ilt_eq]
            by_cases hc : y < x <;> simp [hc]
        rw [Sem.run_bind, this]
        exact h1
      · cases h
    | _ => cases h

theorem minMaxL_ok {lss : Bool} {c : Call} {ty : TypeId} {a : AV} {s' : St} (hs : Sim ρ g s w.heap) (hl : Lks ρ lk e) (h : minMaxL lss s (mapO lk c.args.toList) = some (a, s')) :
    MO P g ρ s w (if lss then Builtin.min_ c.argTypes ty (c.args.map e) else Builtin.max_ c.argTypes ty (c.args.map e)) a s' := by
  unfold minMaxL at h
  split at h
  · rename_i k x r hm
    have hvs := lks_list hl hm
    obtain ⟨v, us, hus, hv, hr⟩ := hvs
    rw [VR.eq_2] at hv
    subst hv
    split at h
    · rename_i q hq
      obtain ⟨rfl, rfl⟩ := Prod.mk.inj (Option.some.inj h)
      obtain ⟨u, h1, h2⟩ := minMax_ok (P := P) (w := w) hq hr
      refine MO.same (u := u) hs ?_ h2
      have hargs : (c.args.map e).toList = .int k x :: us := by simpa using hus
      cases lss
      · simp only [Bool.false_eq_true, if_false, Builtin.max_, hargs] at h1 ⊢
        exact h1
      · simp only [if_true, Builtin.min_, hargs] at h1 ⊢
        exact h1
    · cases h
  · cases h

theorem callL_ok {c : Call} {a : AV} {s' : St} (hs : Sim ρ g s w.heap) (ho : o.op = .call c) (hl : Lks ρ lk e) (h : callL P lk s c = some (a, s')) : LO P g ρ s w e o a s' := by
  unfold callL at h
  split at h <;> rename_i hc
  · refine lo_of (m := Builtin.append_ c.argTypes o.type (c.args.map e)) (by rw [call_builtin ho hc]; rfl) ?_
    unfold appendL at h
    split at h
    · rename_i x y t ts hx hts
      have hargs : c.args.map e = #[e x, e y] := by rw [show c.args = #[x, y] from Array.ext' hx]; simp
      have h0 : c.argTypes[0]? = some t := by rw [← Array.getElem?_toList, hts]; rfl
      split at h
      · rename_i hp
        split at h
        · rename_i xa hxa
          split at h
          · rename_i ya hya
            rw [hargs]
            refine append_ok hs (hl _ _ hxa) (hl _ _ hya) h0 ?_ h
            cases ts with
            | nil => left; rw [← Array.getElem?_toList, hts]; rfl
            | cons u r =>
              right
              simp only [plainAppend] at hp
              cases hu : und P u with
              | none => rw [hu] at hp; cases hp
              | some d => exact ⟨u, d, by rw [← Array.getElem?_toList, hts]; rfl, hu, by rw [hu] at hp; exact hp⟩
          · cases h
        · cases h
      · cases h
    · cases h
  · refine lo_of (m := Builtin.copy_ c.argTypes o.type (c.args.map e)) (by rw [call_builtin ho hc]; rfl) ?_
    unfold copyL at h
    split at h
    · rename_i x y t ts hx hts
      have hargs : c.args.map e = #[e x, e y] := by rw [show c.args = #[x, y] from Array.ext' hx]; simp
      have h0 : c.argTypes[0]? = some t := by rw [← Array.getElem?_toList, hts]; rfl
      split at h
      · rename_i xa hxa
        split at h
        · rename_i ya hya
          split at h
          · rename_i elem hel
            split at h
            · rename_i sz hsz
              split at h
              · rename_i n hn
                rw [hargs]
                exact copy_ok hs h0 (elemD_ok hel) hsz hn (hl _ _ hxa) (hl _ _ hya) h
              · cases h
            · cases h
          · cases h
        · cases h
      · cases h
    · cases h
  · exact lo_of (m := Builtin.clear_ c.argTypes o.type (c.args.map e)) (by rw [call_builtin ho hc]; rfl) (clear_ok hs hl h)
  · refine lo_of (m := Builtin.delete_ c.argTypes o.type (c.args.map e)) (by rw [call_builtin ho hc]; rfl) ?_
    split at h
    · rename_i m k t ts hx hts
      have hargs : c.args.map e = #[e m, e k] := by rw [show c.args = #[m, k] from Array.ext' hx]; simp
      have h0 : c.argTypes[0]? = some t := by rw [← Array.getElem?_toList, hts]; rfl
      rw [hargs]
      exact delete_ok hs h0 hl h
    · cases h
  · exact lo_of (m := Builtin.min_ c.argTypes o.type (c.args.map e)) (by rw [call_builtin ho hc]; rfl) (minMaxL_ok (lss := true) (ty := o.type) hs hl h)
  · exact lo_of (m := Builtin.max_ c.argTypes o.type (c.args.map e)) (by rw [call_builtin ho hc]; rfl) (minMaxL_ok (lss := false) (ty := o.type) hs hl h)
  · cases h

theorem loud1_ok {a : AV} {s' : St} (hs : Sim ρ g s w.heap) (hl : Lks ρ lk e) (h : loud1 P lk o.op s = some (a, s')) : LO P g ρ s w e o a s' := by
  unfold loud1 at h
  split at h <;> rename_i ho
  · exact store_ok hs ho hl h
  · exact update_ok hs (by simp only [execOp, ho]) hl h
  · exact update_ok hs (by simp only [execOp, ho]) hl h
  · exact lo_of (m := Instr.next _ _ o.type) (by simp only [execOp, ho]) (next_ok hs hl h)
  · exact callL_ok hs ho hl h
  · cases h

end Go.Ev
