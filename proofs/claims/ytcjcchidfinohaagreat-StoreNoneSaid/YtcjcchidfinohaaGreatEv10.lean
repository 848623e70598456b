/- An abstract evaluator over the model: the operations that look at no memory are right (5). -/
import Derived.Test.YtcjcchidfinohaaGreatEv9
namespace Go.Ev
variable {P : Program} {ρ : Pm} {w : World} {e : Operand → Value} {lk : Lk} {o : Oper}

theorem idx_ok {i : AV} {len n : Nat} {v : Value} (h : idx i len = some n) (hv : VR ρ i v) : ∃ k, v = .int k (n : Int) ∧ n < len := by
  unfold idx at h
  split at h
  · rename_i k m
    cases hm : Nat.blt m len with
    | true => rw [hm] at h; obtain rfl := Option.some.inj h; exact ⟨k, hv, by simpa [Nat.blt_eq] using hm⟩
    | false => rw [hm] at h; cases h
  · cases h

theorem ptrO_ok {a off n : Nat} {sz : Option Nat} {r : AV} (h : ptrO a off n sz = some r) : ∃ s, sz = some s ∧ r = .ptr a (off + n * s) := by
  cases sz with
  | none => cases h
  | some s =>
    simp only [ptrO, fnat_eq] at h
    exact ⟨s, rfl, (Option.some.inj h).symm⟩

theorem addr_add (b o n : Nat) : (⟨b, o, none⟩ : Addr).add n = ⟨b, o + n, none⟩ := by
  unfold Addr.add
  by_cases h : n = 0
  · rw [if_pos h, h]; rfl
  · rw [if_neg h]

theorem indexAddr_ok {t : TypeId} {x i : Operand} {r : AV} (ho : o.op = .indexAddr t x i) (hl : Lks ρ lk e) (h : indexAddrO P t (lk x) (lk i) = some r) : NO P w ρ e o r := by
  unfold indexAddrO at h
  split at h
  · rename_i a b ha hb
    have hu := hl _ _ ha
    have hv := hl _ _ hb
    refine no_of (m := Instr.indexAt t (e x) (e i)) ?_ (by simp only [execOp, ho])
    unfold indexAddr at h
    split at h
    · rename_i len elem ht
      split at h
      · rename_i l off
        split at h
        · rename_i n hn
          obtain ⟨sz, hsz, rfl⟩ := ptrO_ok h
          obtain ⟨k, hk, hlt⟩ := idx_ok hn hv
          obtain ⟨p, hp, hx⟩ := hu.ptr_inv
          rw [hk, hx]
          refine ⟨.pointer (some ⟨p.b, p.o + (off + n * sz), none⟩), ?_, p, hp, rfl⟩
          simp [Instr.indexAt, asIntOf, run_und ht, Instr.sureAddr, run_size hsz, hlt, addr_add, Nat.add_assoc]
        · cases h
      · cases h
    · rename_i elem ht
      split at h
      · rename_i l off len cap sz ex
        split at h
        · rename_i n hn
          split at h
          · rename_i s hsz
            split at h
            · rename_i hb'
              obtain rfl : s = sz := Nat.eq_of_beq_eq_true hb'
              obtain ⟨s', hs', rfl⟩ := ptrO_ok h
              obtain rfl := Option.some.inj hs'
              obtain ⟨k, hk, hlt⟩ := idx_ok hn hv
              obtain ⟨p, ad, c', hp, hx, h1, h2, h3, h4⟩ := hu
              obtain ⟨rfl, h5⟩ := h4 (by omega)
              rw [hk, hx]
              refine ⟨.pointer (some ⟨p.b, p.o + (off + n * s), none⟩), ?_, p, hp, rfl⟩
              simp [Instr.indexAt, asIntOf, run_und ht, run_size hsz, hlt, addr_add, Nat.add_assoc]
            · cases h
          · cases h
        · cases h
      · cases h
    · cases h
  · cases h

theorem nthB_eq : ∀ (l : List UInt8) (i : Nat), nthB l i = l[i]?
  | [], _ => by simp [nthB]
  | _ :: _, 0 => rfl
  | _ :: r, i + 1 => by simpa [nthB] using nthB_eq r i

theorem index_ok {t : TypeId} {x i : Operand} {r : AV} (ho : o.op = .index t x i) (hl : Lks ρ lk e) (h : indexO P t (lk x) (lk i) = some r) : NO P w ρ e o r := by
  unfold indexO at h
  split at h
  · rename_i a b ha hb
    have hu := hl _ _ ha
    have hv := hl _ _ hb
    refine no_of (m := Instr.index t (e x) (e i)) ?_ (by simp only [execOp, ho])
    unfold index at h
    split at h
    · rename_i len elem ht
      split at h
      · rename_i cs
        split at h
        · rename_i n hn
          split at h
          · rename_i sz hsz
            obtain ⟨k, hk, hlt⟩ := idx_ok hn hv
            obtain ⟨us, hx, hcs⟩ := hu
            rw [hk, hx]
            obtain ⟨v, hv', hr⟩ := part_ok (w := w) (show part P elem cs (n * sz) = some r from h) hcs
            refine ⟨v, ?_, hr⟩
            simp [Instr.index, asIntOf, run_und ht, run_size hsz, hlt, hv']
          · cases h
        · cases h
      · cases h
    · rename_i ht
      split at h
      · rename_i s
        split at h
        · rename_i k n
          rw [VR.eq_3] at hu
          rw [VR.eq_2] at hv
          rw [hu, hv]
          unfold byteO at h
          split at h
          · rename_i b hb'
            obtain rfl := mkI_ok h
            rw [nthB_eq] at hb'
            refine ⟨_, ?_, rfl⟩
            have hlt : n < s.length := (List.getElem?_eq_some_iff.1 hb').1
            have hg : (⟨⟨s⟩⟩ : ByteArray)[n]? = some b := by
              rw [ByteArray.getElem?_lt' _ _ (show n < (⟨⟨s⟩⟩ : ByteArray).size from hlt)]
              congr 1
              exact (List.getElem?_eq_some_iff.1 hb').2
            simp [Instr.index, asIntOf, run_und ht, hg]
          · cases h
        · cases h
      · cases h
    · cases h
  · cases h

theorem lenV_ok {t : TypeId} {ty : TypeId} {x r : AV} {v : Value} (h : lenOf P t x = some r) (hx : VR ρ x v) : PO P w ρ (Builtin.len_ #[t] ty #[v]) r := by
  unfold lenOf at h
  split at h
  · rename_i ht
    split at h
    · rename_i s
      rw [VR.eq_3] at hx
      subst hx
      obtain rfl := mkI_ok h
      exact ⟨_, by simp [Builtin.len_, run_und ht, goInt]; rfl, rfl⟩
    · cases h
  · rename_i n _ ht
    obtain rfl := Option.some.inj h
    refine ⟨goInt n, ?_, rfl⟩
    simp [Builtin.len_, run_und ht]
  · rename_i arr ht
    split at h
    · rename_i n _ hu
      obtain rfl := Option.some.inj h
      exact ⟨goInt n, by simp [Builtin.len_, run_und ht, run_und hu], rfl⟩
    · cases h
  · rename_i ht
    split at h
    · rename_i l off len cap sz ex
      obtain rfl := Option.some.inj h
      obtain ⟨p, ad, c', hp, hx, _⟩ := hx
      subst hx
      exact ⟨goInt len, by simp [Builtin.len_, run_und ht], rfl⟩
    · obtain rfl := Option.some.inj h
      rw [VR.eq_5] at hx
      subst hx
      exact ⟨goInt 0, by simp [Builtin.len_, run_und ht, goInt], rfl⟩
    · cases h
  · rename_i ht
    split at h
    · obtain rfl := Option.some.inj h
      rw [VR.eq_6] at hx
      subst hx
      exact ⟨goInt 0, by simp [Builtin.len_, run_und ht], rfl⟩
    · cases h
  · cases h

theorem call_builtin {c : Call} {b : Builtin} (ho : o.op = .call c) (hc : c.callee = .builtin b) :
    execOp e o = builtin b c.argTypes o.type (c.args.map fun | .const _ => true | _ => false) (c.args.map e) := by
  simp only [execOp, ho, resolve, hc, invoke]
  rfl

theorem len_ok {c : Call} {r : AV} (ho : o.op = .call c) (hl : Lks ρ lk e) (h : callO P lk c = some r) : NO P w ρ e o r := by
  unfold callO at h
  split at h
  · rename_i hc
    unfold lenO at h
    split at h
    · rename_i x hx
      split at h
      · rename_i t ht
        split at h
        · rename_i v hv
          have hargs : c.args = #[x] := by
            have : c.args.toList = [x] := hx
            exact Array.ext' this
          refine no_of (m := Builtin.len_ c.argTypes o.type (c.args.map e)) ?_ ?_
          · rw [hargs]
            obtain ⟨q, hq, hr⟩ := lenV_ok (P := P) (w := w) (ty := o.type) h (hl _ _ hv)
            refine ⟨q, ?_, hr⟩
            rw [← hq]
            unfold Builtin.len_
            simp only [ht, List.map_toArray, List.map_cons, List.map_nil]
            rfl
          · rw [call_builtin ho hc]
            rfl
        · cases h
      · cases h
    · cases h
  · cases h

theorem conv_ok {src dst : TypeId} {x : Operand} {r : AV} (ho : o.op = .convert src dst x) (hl : Lks ρ lk e) (h : convO P src dst (lk x) = some r) : NO P w ρ e o r := by
  unfold convO at h
  split at h
  · rename_i k n hx
    have hu := hl _ _ hx
    rw [VR.eq_2] at hu
    refine no_of (m := convert src dst (e x)) ?_ (by simp only [execOp, ho])
    rw [hu]
    split at h
    · rename_i d k' hs hd
      obtain rfl := mkI_ok h
      refine ⟨.int k' (k'.wrap n), ?_, by rw [wrapF_eq]; rfl⟩
      simp only [convert, Sem.run_bind, run_und hs, run_und hd, Result.andThen_ok]
      cases d <;> rfl
    · cases h
  · rename_i s hx
    have hu := hl _ _ hx
    rw [VR.eq_3] at hu
    refine no_of (m := convert src dst (e x)) ?_ (by simp only [execOp, ho])
    rw [hu]
    split at h
    · rename_i d hs hd
      obtain rfl := Option.some.inj h
      refine ⟨.string ⟨⟨s⟩⟩, ?_, rfl⟩
      simp only [convert, Sem.run_bind, run_und hs, run_und hd, Result.andThen_ok]
      cases d <;> rfl
    · cases h
  · cases h

theorem iface_ok {t : TypeId} {x : Operand} {r : AV} (ho : o.op = .makeInterface t x) (hl : Lks ρ lk e) (h : ifaceO P t (lk x) = some r) : NO P w ρ e o r := by
  unfold ifaceO at h
  split at h
  · cases h
  · rename_i d hd ht
    split at h
    · rename_i v hv
      obtain rfl := Option.some.inj h
      refine no_of (m := Instr.makeInterface t (e x)) ?_ (by simp only [execOp, ho])
      refine ⟨.iface t (e x), ?_, e x, rfl, hl _ _ hv⟩
      cases d <;> first
        | exact absurd hd (fun f => f _ rfl)
        | simp [Instr.makeInterface, run_und ht]
    · cases h
  · cases h

theorem lks_list (hl : Lks ρ lk e) : ∀ {xs : List Operand} {r : List AV}, mapO lk xs = some r → VRs ρ r (xs.map e)
  | [], r, h => by obtain rfl := Option.some.inj h; rfl
  | x :: xs, r, h => by
    simp only [mapO] at h
    split at h
    · rename_i b hb
      split at h
      · rename_i q hq
        obtain rfl := Option.some.inj h
        exact ⟨e x, _, rfl, hl _ _ hb, lks_list hl hq⟩
      · cases h
    · cases h

theorem func_ok {fn : Fn} {first captured : Array Operand} {r : AV} (ho : o.op = .makeFunc fn first captured) (hl : Lks ρ lk e)
    (h : funcO fn (mapO lk first.toList) (mapO lk captured.toList) = some r) : NO P w ρ e o r := by
  unfold funcO at h
  split at h
  · rename_i a b ha hb
    obtain rfl := Option.some.inj h
    refine no_of (m := Instr.makeFunc fn (first.map e) (captured.map e)) ?_ (by simp only [execOp, ho])
    exact ⟨_, rfl, _, _, rfl, by simpa using lks_list hl ha, by simpa using lks_list hl hb⟩
  · cases h

theorem fieldOf_ok {t : TypeId} {i : Nat} {f : Field} (h : fieldOf P t i = some f) : ∃ fs, und P t = some (.struct fs) ∧ fs[i]? = some f := by
  unfold fieldOf fieldD at h
  split at h
  · rename_i fs ht
    exact ⟨fs, ht, h⟩
  · cases h

theorem fieldAddr_ok {t : TypeId} {x : Operand} {i : Nat} {r : AV} (ho : o.op = .fieldAddr t x i) (hl : Lks ρ lk e) (h : fieldAddrO P (lk x) (fieldOf P t i) = some r) : NO P w ρ e o r := by
  unfold fieldAddrO at h
  split at h
  · rename_i a off hx
    have hu := hl _ _ hx
    split at h
    · rename_i f hf
      split at h
      · rename_i n hn
        simp only [fnat_eq] at h
        obtain rfl := Option.some.inj h
        obtain ⟨fs, ht, hf⟩ := fieldOf_ok hf
        obtain ⟨p, hp, hv⟩ := hu.ptr_inv
        refine no_of (m := Instr.fieldAt t (e x) i) ?_ (by simp only [execOp, ho])
        rw [hv]
        refine ⟨.pointer (some ⟨p.b, p.o + (off + f.offset), none⟩), ?_, p, hp, rfl⟩
        simp [Instr.fieldAt, run_und ht, hf, Instr.sureAddr, fieldPlace, run_size hn, addr_add, Nat.add_assoc]
      · cases h
    · cases h
  · cases h

theorem field_ok {t : TypeId} {x : Operand} {i : Nat} {r : AV} (ho : o.op = .field t x i) (hl : Lks ρ lk e) (h : fieldO P (lk x) (fieldOf P t i) = some r) : NO P w ρ e o r := by
  unfold fieldO at h
  split at h
  · rename_i cs hx
    obtain ⟨us, hv, hcs⟩ := hl _ _ hx
    split at h
    · rename_i f hf
      obtain ⟨fs, ht, hf⟩ := fieldOf_ok hf
      obtain ⟨v, hv', hr⟩ := part_ok (w := w) h hcs
      refine no_of (m := Instr.field t (e x) i) ?_ (by simp only [execOp, ho])
      rw [hv]
      exact ⟨v, by simp [Instr.field, run_und ht, hf, asAgg, hv'], hr⟩
    · cases h
  · cases h

theorem extract_ok {x : Operand} {i : Nat} {r : AV} (ho : o.op = .extract x i) (hl : Lks ρ lk e) (h : extractO i (lk x) = some r) : NO P w ρ e o r := by
  unfold extractO at h
  split at h
  · rename_i l hx
    obtain ⟨us, hv, hcs⟩ := hl _ _ hx
    obtain ⟨v, hv', hr⟩ := VRs.nth hcs h
    refine no_of (m := Instr.extract (e x) i) ?_ (by simp only [execOp, ho])
    rw [hv]
    have : us[i]? = some v := by simpa using hv'
    exact ⟨v, by simp [Instr.extract, this], hr⟩
  · cases h

theorem pure1_ok {r : AV} (hl : Lks ρ lk e) (h : pure1 P lk o.op = some r) : NO P w ρ e o r := by
  unfold pure1 at h
  split at h <;> rename_i ho
  · exact move_ok (.inl ho) hl h
  · exact move_ok (.inr ho) hl h
  · exact pick_ok ho hl h
  · exact build_ok ho hl h
  · exact nil_ok ho hl h
  · exact bin_ok ho hl h
  · exact un_ok ho hl h
  · exact conv_ok ho hl h
  · exact iface_ok ho hl h
  · exact func_ok ho hl h
  · exact slice_ok ho hl h
  · exact fieldAddr_ok ho hl h
  · exact field_ok ho hl h
  · exact indexAddr_ok ho hl h
  · exact index_ok ho hl h
  · exact extract_ok ho hl h
  · exact len_ok ho hl h
  · cases h

end Go.Ev
