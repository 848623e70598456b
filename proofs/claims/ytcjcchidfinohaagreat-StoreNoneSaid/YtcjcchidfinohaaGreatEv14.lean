/- An abstract evaluator over the model: the operations that lay a block are right. -/
import Derived.Test.YtcjcchidfinohaaGreatEv13
namespace Go.Ev
variable {P : Program} {ρ : Pm} {g : Nat} {s : St} {w : World} {e : Operand → Value} {lk : Lk} {o : Oper}

/-- The operation lays one block, and gives a value. -/
def AO (P : Program) (w : World) (ρ : Pm) (e : Operand → Value) (o : Oper) (ob : AObj) (mk : Nat → AV) : Prop :=
  ∃ v w' ob' n, (execOp e o).run P w = .ok (.value v) w' ∧ w'.heap = w.heap.push ob' ∧ Out w w' ∧ ob.owned = true ∧
    ∀ (ρ' : Pm) (l : Nat), ρ.le ρ' → ρ' l = some ⟨w.heap.size, 0, n⟩ → VR ρ' (mk l) v ∧ ObjR ρ' ⟨w.heap.size, 0, n⟩ ob ob'

theorem cells_new {ρ' : Pm} (h : ρ.le ρ') {b : Nat} {l : List AV} {c : Array Value} {t : TypeId} (hl : VRs ρ l c.toList) : ObjR ρ' ⟨b, 0, c.size⟩ (.cells l) (.cells c t) := by
  refine ⟨c, t, (0, 0), rfl, rfl, fun i => by simp, fun i a ha => ?_⟩
  obtain ⟨v, hv, hr⟩ := VRs.nth (hl.mono h) ha
  exact ⟨v, by simpa using hv, hr⟩

theorem ao_of {m : Sem Value} {ob : AObj} {mk : Nat → AV} (he : execOp e o = (do pure (.value (← m))))
    (h : ∃ v w' ob' n, m.run P w = .ok v w' ∧ w'.heap = w.heap.push ob' ∧ Out w w' ∧ ob.owned = true ∧
      ∀ (ρ' : Pm) (l : Nat), ρ.le ρ' → ρ' l = some ⟨w.heap.size, 0, n⟩ → VR ρ' (mk l) v ∧ ObjR ρ' ⟨w.heap.size, 0, n⟩ ob ob') : AO P w ρ e o ob mk := by
  obtain ⟨v, w', ob', n, h1, h2⟩ := h
  exact ⟨v, w', ob', n, by rw [he]; simp [h1], h2⟩

theorem alloc_ok {t : TypeId} {ob : AObj} {mk : Nat → AV} (ho : o.op = .alloc t) (h : allocA (zero P t) = some (ob, mk)) : AO P w ρ e o ob mk := by
  unfold allocA at h
  split at h
  · rename_i z hz
    obtain ⟨rfl, rfl⟩ := Prod.mk.inj (Option.some.inj h)
    obtain ⟨zv, hzr, hzv⟩ := run_zero (P := P) (w := w) (ρ := ρ) hz
    refine ao_of (m := Instr.alloc t true (.tuple #[])) (by simp only [execOp, ho]) ⟨.pointer (some ⟨w.heap.size, 0, none⟩), w.alloc (.cells zv.cells t), .cells zv.cells t, zv.cells.size, ?_, rfl, ⟨rfl, rfl⟩, rfl, fun ρ' l hle hp => ⟨⟨_, hp, rfl⟩, cells_new hle hzv.cells⟩⟩
    simp [Instr.alloc, hzr, newVar, newRow]
  · cases h

theorem box_ok {t : TypeId} {x : Operand} {ob : AObj} {mk : Nat → AV} (ho : o.op = .box t x) (hl : Lks ρ lk e) (h : allocA (lk x) = some (ob, mk)) : AO P w ρ e o ob mk := by
  unfold allocA at h
  split at h
  · rename_i z hz
    obtain ⟨rfl, rfl⟩ := Prod.mk.inj (Option.some.inj h)
    have hu := hl _ _ hz
    refine ao_of (m := Instr.box t (e x)) (by simp only [execOp, ho]) ⟨.pointer (some ⟨w.heap.size, 0, none⟩), w.alloc (.cells (e x).cells t), .cells (e x).cells t, (e x).cells.size, ?_, rfl, ⟨rfl, rfl⟩, rfl, fun ρ' l hle hp => ⟨⟨_, hp, rfl⟩, cells_new hle hu.cells⟩⟩
    simp [Instr.box, newVar, newRow]
  · cases h

theorem copies_length (z : List AV) : ∀ n, (copies z n).length = n * z.length
  | 0 => by simp [copies]
  | n + 1 => by rw [copies, List.length_append, copies_length z n, Nat.add_mul]; omega

theorem copies_nth (z : List AV) : ∀ (n i : Nat), i < n * z.length → nth (copies z n) i = nth z (i % z.length)
  | 0, i, h => by simp at h
  | n + 1, i, h => by
    rw [copies, nth_eq]
    rcases Nat.lt_or_ge i z.length with hi | hi
    · rw [List.getElem?_append_left hi, Nat.mod_eq_of_lt hi, nth_eq]
    · rw [List.getElem?_append_right hi, ← nth_eq, copies_nth z n _ (by rw [Nat.add_mul] at h; omega)]
      congr 1
      rw [← Nat.mod_eq_sub_mod hi]

theorem zeros_ok {z : List AV} {zs : Array Value} (hz : VRs ρ z zs.toList) (n : Nat) {m : Nat} (hm : m = n * zs.size) : VRs ρ (copies z n) ((Array.range m).map (zs[· % zs.size]!)).toList := by
  subst hm
  have hlen : zs.size = z.length := by simpa using hz.length
  refine VRs.of_nth (by simp [copies_length, hlen]) (fun i a ha => ?_)
  have hi : i < n * z.length := by
    rw [nth_eq] at ha
    have := (List.getElem?_eq_some_iff.1 ha).1
    rwa [copies_length] at this
  rw [copies_nth z n i hi] at ha
  obtain ⟨v, hv, hr⟩ := VRs.nth hz ha
  refine ⟨v, ?_, hr⟩
  have hpos : 0 < z.length := by
    rcases Nat.eq_zero_or_pos z.length with h | h
    · rw [h] at hi; omega
    · exact h
  have hm : i % zs.size < zs.size := Nat.mod_lt _ (by omega)
  have hv' : zs[i % zs.size]? = some v := by rw [hlen]; simpa using hv
  have e1 : zs[i % zs.size]! = v := by
    rw [getElem!_def, hv']
  have hi' : i < n * zs.size := by rw [hlen]; exact hi
  simp [hi', e1]

theorem zeros_nil {n : Nat} (z : List AV) (h : n * z.length = 0) : copies z n = [] := by
  apply List.eq_nil_of_length_eq_zero
  rw [copies_length]
  exact h

theorem buildSlice_ok {t : TypeId} {len : Nat} {ps : Array (Nat × Operand)} {ob : AObj} {mk : Nat → AV} (ho : o.op = .buildSlice t len ps) (hl : Lks ρ lk e)
    (h : buildSliceA P t len (parts lk ps.toList) = some (ob, mk)) : AO P w ρ e o ob mk := by
  unfold buildSliceA at h
  split at h
  · rename_i elem hel
    have ht := elemD_ok hel
    split at h
    · rename_i l hp
      have hps := parts_ok hl hp
      split at h
      · rename_i n hn
        split at h
        · rename_i z hz
          split at h
          · rename_i hc
            obtain ⟨hc1, hc2⟩ : len * n ≤ 16777216 ∧ z.cells.length = n := by simpa using hc
            split at h
            · rename_i r hr
              obtain ⟨rfl, rfl⟩ := Prod.mk.inj (Option.some.inj h)
              obtain ⟨zv, hzr, hzv⟩ := run_zero (P := P) (w := w) (ρ := ρ) hz
              have hzc := hzv.cells
              have hzs : zv.cells.size = n := by rw [hzv.cells_size, hc2]
              have hfill : ∃ zs : Array Value, (len * n = 0 → zs = #[]) ∧ (len * n ≠ 0 → zs = zv.cells) ∧
                  VRs ρ (copies z.cells len) ((Array.range (len * n)).map (zs[· % zs.size]!)).toList := by
                by_cases h0 : len * n = 0
                · refine ⟨#[], fun _ => rfl, fun h => absurd h0 h, ?_⟩
                  rw [h0, zeros_nil _ (by rw [hc2]; exact h0)]
                  simp [VRs]
                · exact ⟨zv.cells, fun h => absurd h h0, fun _ => rfl, zeros_ok hzc len (by rw [hzs])⟩
              obtain ⟨zs, hz0, hz1, hz2⟩ := hfill
              obtain ⟨c', hc', hr'⟩ := fillA_ok hr hps hz2
              have he : (ps.map fun (x : Nat × Operand) => (x.1, e x.2)).toList = ps.toList.map fun (i, x) => (i, e x) := by simp
              have hlen : c'.size = len * n := by
                have h1 := hr'.length
                have h2 : ∀ {n : Nat} {ps : List (Nat × AV)} {cs r : List AV}, fillA n ps cs = some r → r.length = cs.length := by
                  intro n ps
                  induction ps with
                  | nil => intro cs r h; obtain rfl := Option.some.inj h; rfl
                  | cons p ps ih =>
                    intro cs r h
                    obtain ⟨i, a⟩ := p
                    simp only [fillA] at h
                    split at h
                    · split at h
                      · rename_i cs' hs
                        rw [ih h, (setAt_ok hs).2.1]
                      · cases h
                    · cases h
                rw [h2 hr, copies_length, hc2] at h1
                simpa using h1
              refine ao_of (m := Instr.buildSlice t len (ps.map fun (i, x) => (i, e x))) (by simp only [execOp, ho])
                ⟨.slice (some ⟨w.heap.size, 0, none⟩) len len, w.alloc (.cells c' elem), .cells c' elem, c'.size, ?_, rfl, ⟨rfl, rfl⟩, rfl, fun ρ' l hle hp => ⟨⟨_, _, len, hp, rfl, Nat.le_refl _, Nat.le_refl _, fun _ => rfl, fun _ => ⟨rfl, by simp [hlen]⟩⟩, cells_new hle hr'⟩⟩
              have hc1' : ¬ (len * n > 2 ^ 24) := by omega
              unfold Instr.buildSlice
              simp only [Sem.run_bind, run_und ht, Result.andThen_ok, run_size hn]
              rw [if_neg hc1']
              by_cases h0 : len * n = 0
              · obtain rfl := hz0 h0
                rw [if_pos h0]
                simp only [Sem.run_bind, Sem.run_pure, Result.andThen_ok, he, hc', newRow, run_newObj]
                rfl
              · obtain rfl := hz1 h0
                rw [if_neg h0]
                simp only [Sem.run_bind, Sem.run_pure, Result.andThen_ok, hzr, he, hc', newRow, run_newObj]
                rfl
            · cases h
          · cases h
        · cases h
      · cases h
    · cases h
  · cases h

theorem makeMap_ok {t : TypeId} {x : Option Operand} {ob : AObj} {mk : Nat → AV} (ho : o.op = .makeMap t x) (hl : Lks ρ lk e) (h : makeMapA lk (und P t) x = some (ob, mk)) : AO P w ρ e o ob mk := by
  have fin : ∀ {ob : AObj} {mk : Nat → AV}, ob = .map [] 0 → mk = (fun l => .map l) → (Instr.makeMap t (x.map e)).run P w = .ok (.map (some w.heap.size)) (w.alloc (.map #[] 0)) → AO P w ρ e o ob mk := by
    rintro ob mk rfl rfl hr
    exact ao_of (m := Instr.makeMap t (x.map e)) (by simp only [execOp, ho]) ⟨.map (some w.heap.size), w.alloc (.map #[] 0), .map #[] 0, 0, hr, rfl, ⟨rfl, rfl⟩, rfl, fun ρ' l hle hp => ⟨⟨_, hp, rfl⟩, #[], rfl, rfl⟩⟩
  cases x with
  | none =>
    obtain ⟨rfl, rfl⟩ := Prod.mk.inj (Option.some.inj h)
    exact fin rfl rfl rfl
  | some x =>
    simp only [makeMapA] at h
    split at h
    · rename_i kt et ht
      split at h
      · rename_i k n hx
        obtain ⟨rfl, rfl⟩ := Prod.mk.inj (Option.some.inj h)
        have hu := hl _ _ hx
        rw [VR.eq_2] at hu
        refine fin rfl rfl ?_
        simp [Instr.makeMap, run_und ht, hu, asInt, asIntOf]
      · cases h
    · cases h

theorem makeSlice_ok {t : TypeId} {x y : Operand} {ob : AObj} {mk : Nat → AV} (ho : o.op = .makeSlice t x y) (hl : Lks ρ lk e) (h : makeSliceA P t (lk x) (lk y) = some (ob, mk)) : AO P w ρ e o ob mk := by
  unfold makeSliceA at h
  split at h
  · rename_i elem hel
    have ht := elemD_ok hel
    split at h
    · rename_i k l hx
      split at h
      · rename_i k' c hy
        split at h
        · rename_i i hi
          split at h
          · rename_i z hz
            split at h
            · rename_i hc
              obtain ⟨h1, h2, h3, h4⟩ : l ≤ c ∧ c ≤ maxText ∧ i.bytes * c ≤ 281474976710656 ∧ z.cells.length = i.size := by simpa using hc
              simp only [fnat_eq] at h
              obtain ⟨rfl, rfl⟩ := Prod.mk.inj (Option.some.inj h)
              have hux := hl _ _ hx
              have huy := hl _ _ hy
              rw [VR.eq_2] at hux huy
              obtain ⟨zv, hzr, hzv⟩ := run_zero (P := P) (w := w) (ρ := ρ) hz
              have hzs : zv.cells.size = i.size := by rw [hzv.cells_size, h4]
              have hsize : (Go.sizeOf elem).run P w = .ok i.size w := by simp [Go.sizeOf, run_info hi]
              have hfill : ∃ zs : Array Value, (c * i.size = 0 → zs = #[]) ∧ (c * i.size ≠ 0 → zs = zv.cells) ∧
                  VRs ρ (copies z.cells c) ((Array.range (c * i.size)).map (zs[· % zs.size]!)).toList := by
                by_cases h0 : c * i.size = 0
                · refine ⟨#[], fun _ => rfl, fun h => absurd h0 h, ?_⟩
                  rw [h0, zeros_nil _ (by rw [h4]; exact h0)]
                  simp [VRs]
                · exact ⟨zv.cells, fun h => absurd h h0, fun _ => rfl, zeros_ok hzv.cells c (by rw [hzs])⟩
              obtain ⟨zs, hz0, hz1, hz2⟩ := hfill
              have hn : ((Array.range (c * i.size)).map (zs[· % zs.size]!)).size = c * i.size := by simp
              have hwl : IntKind.i64.wrap (Int.ofNat l) = (l : Int) := by
                unfold maxText at h2
                exact wrap_of _ (by simp) (by simp; omega)
              have hwc : IntKind.i64.wrap (Int.ofNat c) = (c : Int) := by
                unfold maxText at h2
                exact wrap_of _ (by simp) (by simp; omega)
              refine ao_of (m := Instr.makeSlice t (e x) (e y)) (by simp only [execOp, ho])
                ⟨.slice (some ⟨w.heap.size, 0, none⟩) l c, w.alloc (.cells ((Array.range (c * i.size)).map (zs[· % zs.size]!)) elem), .cells ((Array.range (c * i.size)).map (zs[· % zs.size]!)) elem, c * i.size, ?_, rfl, ⟨rfl, rfl⟩, rfl, fun ρ' l' hle hp => ⟨⟨_, _, c, hp, rfl, h1, Nat.le_refl _, fun _ => rfl, fun _ => ⟨rfl, by simp⟩⟩, ?_⟩⟩
              · unfold Instr.makeSlice
                simp only [Sem.run_bind, run_und ht, Result.andThen_ok, hux, huy, asInt, asIntOf, Sem.run_pure, run_info hi, hwl, hwc]
                have hb : ((fun n : Int => n < 0 || (i.bytes : Int) * n > 2 ^ 48) (c : Int) || decide ((l : Int) < 0) || decide ((l : Int) > (c : Int))) = false := by
                  have h3' : ((i.bytes * c : Nat) : Int) ≤ ((281474976710656 : Nat) : Int) := Int.ofNat_le.2 h3
                  rw [Int.natCast_mul] at h3'
                  simp only [Bool.or_eq_false_iff, decide_eq_false_iff_not]
                  refine ⟨⟨⟨by omega, by omega⟩, by omega⟩, by omega⟩
                simp only [hb, Bool.false_eq_true, if_false]
                simp only [Sem.run_bind, run_askRoom, Result.andThen_ok, hsize, Int.toNat_natCast]
                by_cases h0 : c * i.size = 0
                · obtain rfl := hz0 h0
                  rw [if_pos h0]
                  simp only [Sem.run_bind, Sem.run_pure, Result.andThen_ok, newRow, run_newObj]
                  rfl
                · obtain rfl := hz1 h0
                  rw [if_neg h0]
                  simp only [Sem.run_bind, Sem.run_pure, Result.andThen_ok, hzr, newRow, run_newObj]
                  rfl
              · have := cells_new (t := elem) (b := w.heap.size) hle hz2
                rwa [hn] at this
            · cases h
          · cases h
        · cases h
      · cases h
    · cases h
  · cases h

theorem bytesAV_ok : ∀ (l : List UInt8), VRs ρ (bytesAV l) (l.map fun b => Value.int .u8 b.toNat)
  | [] => rfl
  | b :: r => ⟨_, _, rfl, rfl, bytesAV_ok r⟩

theorem bytesAV_len : ∀ (l : List UInt8), (bytesAV l).length = l.length
  | [] => rfl
  | _ :: r => by simp [bytesAV, bytesAV_len r]

theorem modify_push (h : Array Obj) (x : Obj) (f : Obj → Obj) : (h.push x).modify h.size f = h.push (f x) := by
  apply Array.ext_getElem?
  intro i
  rw [Array.getElem?_modify]
  by_cases hi : h.size = i
  · subst hi; simp
  · rw [if_neg hi, Array.getElem?_push, Array.getElem?_push]
    have : ¬ i = h.size := fun e => hi e.symm
    simp [this]

theorem convA_ok {src dst : TypeId} {x : Operand} {ob : AObj} {mk : Nat → AV} (ho : o.op = .convert src dst x) (hl : Lks ρ lk e) (h : convA P src dst (lk x) = some (ob, mk)) : AO P w ρ e o ob mk := by
  unfold convA at h
  split at h
  · rename_i st hx
    split at h
    · rename_i d hsrc
      split at h
      · rename_i el hel
        have hdst := elemD_ok hel
        split at h
        · rename_i hb
          obtain ⟨hel', _⟩ := isByteSlice_ok hb
          simp only [fnat_eq] at h
          obtain ⟨rfl, rfl⟩ := Prod.mk.inj (Option.some.inj h)
          have hu := hl _ _ hx
          rw [VR.eq_3] at hu
          obtain ⟨c, hcut, hcn⟩ : ∃ c, (Question.appendCap st.length 0 el).cut (w.tape w.drawn (.appendCap st.length 0 el)) = c ∧ st.length ≤ c := ⟨_, rfl, by simp [Question.cut]⟩
          obtain ⟨arr, harr⟩ : ∃ arr : Array Value, arr = (st.map fun b => Value.int .u8 b.toNat).toArray ++ Array.replicate (c - st.length) (.int .u8 0) := ⟨_, rfl⟩
          have hsz : arr.size = c := by rw [harr]; simp; omega
          refine ao_of (m := convert src dst (e x)) (by simp only [execOp, ho])
            ⟨.slice (some ⟨w.heap.size, 0, none⟩) st.length c, { w.drew with heap := w.heap.push (.cells arr el (c, c + 1)) }, .cells arr el (c, c + 1), c, ?_, rfl, ⟨rfl, rfl⟩, rfl, fun ρ' l hle hp => ⟨⟨_, _, c, hp, rfl, Nat.le_refl _, hcn, (fun e => by cases e), fun _ => ⟨rfl, by simp⟩⟩, arr, el, (c, c + 1), rfl, hsz, fun i a ha => ?_⟩⟩
          · rw [hu]
            have e1 : (convert src dst (.string ⟨⟨st⟩⟩)).run P w = (Conv.stringToBytes el ⟨⟨st⟩⟩).run P w := by
              simp only [convert, Sem.run_bind, run_und hsrc, run_und hdst, Result.andThen_ok]
              cases d <;> simp only [Sem.run_bind, run_und hel', Result.andThen_ok]
            rw [e1]
            unfold Conv.stringToBytes
            have e2 : (⟨⟨st⟩⟩ : ByteArray).size = st.length := rfl
            have e3 : Question.forced (.appendCap st.length 0 el) = false := rfl
            simp only [Sem.run_bind, run_choose, e2, e3, Bool.false_eq_true, if_false, Result.andThen_ok, hcut]
            have e4 : ((⟨⟨st⟩⟩ : ByteArray).data.map fun b => Value.int .u8 b.toNat) ++ Array.replicate (c - st.length) (.int .u8 0) = arr := by rw [harr]; simp
            simp only [e4, newRow, Sem.run_bind, run_newObj, Result.andThen_ok, Sem.run_pure, markStringish, run_shape]
            have e5 : ({ w with drawn := w.drawn + 1, heap := w.heap.push (.cells arr el) } : World).shape? w.heap.size = some (el, c) := by
              simp [World.shape?, hsz]
            simp only [e5, run_freeze, Result.andThen_ok, World.freeze]
            simp only [Nat.one_ne_zero, if_false, modify_push]
            rfl
          · obtain ⟨v, hv, hr⟩ := VRs.nth (bytesAV_ok (ρ := ρ') st) ha
            refine ⟨v, ?_, hr⟩
            rw [harr]
            have hi : i < st.length := by
              have := (List.getElem?_eq_some_iff.1 hv).1
              simpa using this
            simp only [Nat.zero_add]
            rw [Array.getElem?_append_left (by simpa using hi)]
            simpa using hv
        · cases h
      · cases h
    · cases h
  · cases h

theorem rangeA_ok {t : TypeId} {x : Operand} {ob : AObj} {mk : Nat → AV} (ho : o.op = .range t x) (hl : Lks ρ lk e) (h : rangeA P t (lk x) = some (ob, mk)) : AO P w ρ e o ob mk := by
  unfold rangeA at h
  split at h
  · rename_i ht
    split at h
    · rename_i st hx
      obtain ⟨rfl, rfl⟩ := Prod.mk.inj (Option.some.inj h)
      have hu := hl _ _ hx
      rw [VR.eq_3] at hu
      refine ao_of (m := Instr.range t (e x)) (by simp only [execOp, ho]) ⟨.pointer (some ⟨w.heap.size, 0, none⟩), w.alloc (.stringIter ⟨⟨st⟩⟩ 0), .stringIter ⟨⟨st⟩⟩ 0, 0, ?_, rfl, ⟨rfl, rfl⟩, rfl, fun ρ' l hle hp => ⟨⟨_, hp, rfl⟩, rfl, rfl⟩⟩
      simp [Instr.range, run_und ht, hu]
    · cases h
  · cases h

theorem alloc1_ok {ob : AObj} {mk : Nat → AV} (hl : Lks ρ lk e) (h : alloc1 P lk o.op = some (ob, mk)) : AO P w ρ e o ob mk := by
  unfold alloc1 at h
  split at h <;> rename_i ho
  · exact alloc_ok ho h
  · exact box_ok ho hl h
  · exact buildSlice_ok ho hl h
  · exact makeMap_ok ho hl h
  · exact makeSlice_ok ho hl h
  · exact convA_ok ho hl h
  · exact rangeA_ok ho hl h
  · cases h

end Go.Ev
