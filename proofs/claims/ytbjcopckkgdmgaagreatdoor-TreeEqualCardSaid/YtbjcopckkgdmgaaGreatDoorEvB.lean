import Derived.Test.YtbjcopckkgdmgaaGreatDoorEvA
import Derived.Lib.Strings
/- An abstract evaluator over the model: the operations that look at no memory are right (4). -/
namespace Go.Ev
variable {P : Program} {ρ : Pm} {w : World} {e : Operand → Value} {lk : Lk} {o : Oper}

theorem mapM_ok : ∀ (l : List Field) (ns : List Nat), mapO (fun f => size P f.type) l = some ns →
    ∃ ps, (l.mapM fun (f : Field) => do pure (f.offset, ← Go.sizeOf f.type)).run P w = .ok ps w ∧ ∀ (i : Nat) (f : Field), l[i]? = some f → ∀ n, size P f.type = some n → ps[i]? = some (f.offset, n)
  | [], ns, h => ⟨[], rfl, fun i f hf => by simp at hf⟩
  | f :: l, ns, h => by
    simp only [mapO] at h
    split at h
    · rename_i n hn
      split at h
      · rename_i r hr
        obtain ⟨ps, h1, h2⟩ := mapM_ok l r hr
        refine ⟨(f.offset, n) :: ps, ?_, fun i g hg m hm => ?_⟩
        · rw [List.mapM_cons]
          simp only [Sem.run_bind, run_size hn, Result.andThen_ok, Sem.run_pure, h1]
        · cases i with
          | zero =>
            obtain rfl := Option.some.inj hg
            rw [hn] at hm
            obtain rfl := Option.some.inj hm
            rfl
          | succ i => exact h2 i g hg m hm
      · cases h
    · cases h

theorem build_ok {t : TypeId} {ps : Array (Nat × Operand)} {r : AV} (ho : o.op = .build t ps) (hl : Lks ρ lk e) (h : buildO P t (parts lk ps.toList) = some r) : NO P w ρ e o r := by
  unfold buildO at h
  split at h
  · rename_i l hp
    have hps := parts_ok hl hp
    refine no_of (m := Instr.build t (ps.map fun (i, x) => (i, e x))) ?_ (by simp only [execOp, ho])
    unfold build at h
    split at h
    · rename_i z hz
      obtain ⟨zv, hzr, hzv⟩ := run_zero (P := P) (w := w) (ρ := ρ) hz
      have hcs := hzv.cells
      have he : (ps.map fun (x : Nat × Operand) => (x.1, e x.2)).toList = ps.toList.map fun (i, x) => (i, e x) := by simp
      split at h
      · rename_i fields ht
        split at h
        · rename_i ns hns
          obtain ⟨pl, h1, h2⟩ := mapM_ok (P := P) (w := w) _ _ hns
          obtain ⟨c', l', h3, rfl, h5⟩ := fillS_ok (places := pl.toArray) (fun i f hf n hn => by simpa using h2 i f (by simpa using hf) n hn) h hps hcs
          refine ⟨.agg c', ?_, c', rfl, h5⟩
          unfold Instr.build
          simp only [Sem.run_bind, hzr, Result.andThen_ok, run_und ht]
          rw [Array.mapM_eq_mapM_toList]
          simp only [Sem.run_map, h1, Result.andThen_ok, he, h3, Sem.run_pure]
        · cases h
      · rename_i n elem ht
        split at h
        · rename_i sz hsz
          obtain ⟨l', hl', rfl⟩ := aggO_ok h
          obtain ⟨c', h3, h5⟩ := fillA_ok hl' hps hcs
          refine ⟨.agg c', ?_, c', rfl, h5⟩
          unfold Instr.build
          simp only [Sem.run_bind, hzr, Result.andThen_ok, run_und ht, run_size hsz, he, h3, Sem.run_pure]
        · cases h
      · cases h
    · cases h
  · cases h

theorem bound_ok {x : AV} {y n : Nat} {v : Value} {c : BoundsCode} (h : bound x y = some n) (hx : VR ρ x v) : (Instr.sliceBound v y c).run P w = .ok n w ∧ n ≤ y := by
  unfold bound at h
  split at h
  · rename_i k m
    split at h
    · rename_i hm
      obtain rfl := Option.some.inj h
      rw [VR.eq_2] at hx
      have hm : m ≤ y := Nat.le_of_ble_eq_true hm
      rw [hx]
      refine ⟨?_, hm⟩
      have h1 : (0 ≤ (Int.ofNat m)) ∧ (Int.ofNat m) ≤ (y : Int) := ⟨Int.natCast_nonneg _, Int.ofNat_le.2 hm⟩
      simp only [Instr.sliceBound, asIntOf, Sem.run_bind, Sem.run_pure, Result.andThen_ok, Sem.run_ite, h1, and_self, if_true]
      rfl
    · cases h
  · cases h

theorem bound_le {x : AV} {y n : Nat} (h : bound x y = some n) : n ≤ y := by
  unfold bound at h
  split at h
  · rename_i k m
    cases hm : Nat.ble m y with
    | true => rw [hm] at h; obtain rfl := Option.some.inj h; exact Nat.le_of_ble_eq_true hm
    | false => rw [hm] at h; cases h
  · cases h
theorem bound_mono {x : AV} {y y' n : Nat} (h : bound x y = some n) (hy : y ≤ y') : bound x y' = some n := by
  have hle := bound_le h
  unfold bound at h ⊢
  split at h
  · rename_i k m
    cases hm : Nat.ble m y with
    | true =>
      rw [hm] at h
      obtain rfl := Option.some.inj h
      have : Nat.ble m y' = true := Nat.ble_eq_true_of_le (Nat.le_trans hle hy)
      simp [this]
    | false => rw [hm] at h; cases h
  · cases h

def OR (ρ : Pm) : Option AV → Option Value → Prop
  | none, v => v = none
  | some a, v => ∃ u, v = some u ∧ VR ρ a u

theorem opt_ok {x : Option Operand} {a : Option AV} (hl : Lks ρ lk e) (h : opt lk x = some a) : OR ρ a (x.map e) := by
  cases x with
  | none => obtain rfl := Option.some.inj h; rfl
  | some x =>
    simp only [opt] at h
    split at h
    · rename_i v hv
      obtain rfl := Option.some.inj h
      exact ⟨e x, rfl, hl _ _ hv⟩
    · cases h

theorem boundO_ok {x : Option AV} {d y n : Nat} {v : Option Value} {c : BoundsCode} (h : boundO x d y = some n) (hx : OR ρ x v) :
    (match v with | some v => Instr.sliceBound v y c | none => pure d).run P w = .ok n w ∧ (x = none ∨ n ≤ y) ∧ (x = none → n = d) := by
  cases x with
  | none =>
    obtain rfl := Option.some.inj h
    obtain rfl := hx
    exact ⟨rfl, .inl rfl, fun _ => rfl⟩
  | some a =>
    obtain ⟨u, rfl, hu⟩ := hx
    obtain ⟨h1, h2⟩ := bound_ok (P := P) (w := w) (c := c) (show bound a y = some n from h) hu
    exact ⟨h1, .inr h2, fun e => by cases e⟩

/-- The bounds of a slice expression without a capacity. -/
theorem bounds2 {isS : Bool} {len cap h l : Nat} {lo hi : Option AV} {vl vh : Option Value} (hlen : len ≤ cap) (h1 : boundO hi len cap = some h) (h2 : boundO lo 0 h = some l)
    (hl : OR ρ lo vl) (hh : OR ρ hi vh) : (Instr.sliceBounds isS len cap vl vh none).run P w = .ok (l, h, cap) w ∧ l ≤ h ∧ h ≤ cap := by
  obtain ⟨r1, b1, c1⟩ := boundO_ok (P := P) (w := w) (c := if isS then .sliceAcap else .sliceAlen) h1 hh
  obtain ⟨r2, b2, c2⟩ := boundO_ok (P := P) (w := w) (c := .sliceB) h2 hl
  refine ⟨?_, ?_, ?_⟩
  · unfold Instr.sliceBounds
    cases vh <;> cases vl <;> simp at r1 r2 ⊢ <;> simp [r1, r2]
  · rcases b2 with b2 | b2
    · rw [c2 b2]; exact Nat.zero_le _
    · exact b2
  · rcases b1 with b1 | b1
    · rw [c1 b1]; exact hlen
    · exact b1

theorem bounds3 {isS : Bool} {len cap h l m : Nat} {lo : Option AV} {hi mx : AV} {vl : Option Value} {vh vm : Value} (h0 : bound mx cap = some m) (h1 : bound hi m = some h) (h2 : boundO lo 0 h = some l)
    (hl : OR ρ lo vl) (hh : VR ρ hi vh) (hm : VR ρ mx vm) : (Instr.sliceBounds isS len cap vl (some vh) (some vm)).run P w = .ok (l, h, m) w ∧ l ≤ h ∧ h ≤ m ∧ m ≤ cap := by
  obtain ⟨r0, b0⟩ := bound_ok (P := P) (w := w) (c := if isS then .slice3Acap else .slice3Alen) h0 hm
  obtain ⟨r1, b1⟩ := bound_ok (P := P) (w := w) (c := .slice3B) h1 hh
  obtain ⟨r2, b2, c2⟩ := boundO_ok (P := P) (w := w) (c := .slice3C) h2 hl
  refine ⟨?_, ?_, b1, b0⟩
  · unfold Instr.sliceBounds
    cases vl <;> simp at r0 r1 r2 ⊢ <;> simp [r0, r1, r2]
  · rcases b2 with b2 | b2
    · rw [c2 b2]; exact Nat.zero_le _
    · exact b2

theorem cutS_ok {t : TypeId} {s : List UInt8} {lo hi mx : Option AV} {vl vh vm : Option Value} {r : AV} (ht : und P t = some .string) (h : cutS s lo hi mx = some r)
    (hl : OR ρ lo vl) (hh : OR ρ hi vh) (hm : OR ρ mx vm) : PO P w ρ (Instr.sliceAt t (.string ⟨⟨s⟩⟩) vl vh vm) r := by
  unfold cutS at h
  split at h
  · cases h
  · obtain rfl := hm
    split at h
    · rename_i hh' h1
      split at h
      · rename_i l h2
        obtain rfl := Option.some.inj h
        obtain ⟨b, b1, b2⟩ := bounds2 (P := P) (w := w) (isS := false) (Nat.le_refl _) h1 h2 hl hh
        refine ⟨.string ((⟨⟨s⟩⟩ : ByteArray).extract l hh'), ?_, ?_⟩
        · simp only [Instr.sliceAt, Instr.slice, Sem.run_bind, run_und ht, Result.andThen_ok]
          have b' : (Instr.sliceBounds false (⟨⟨s⟩⟩ : ByteArray).size (⟨⟨s⟩⟩ : ByteArray).size vl vh none).run P w = .ok (l, hh', s.length) w := b
          simp [b']
        · show Value.string _ = Value.string _
          congr 1
          apply ByteArray.ext
          apply Array.ext'
          rw [Lib.extract_data]
          show (s.drop l).take (hh' - l) = _
          rw [List.drop_take]
      · cases h
    · cases h

theorem cut_ok {a off len cap sz cap' : Nat} {ex : Bool} {lo hi mx : Option AV} {vl vh vm : Option Value} {r : AV} {p : Pl} {ad : Addr} {isS : Bool}
    (h : cut a off len cap sz ex lo hi mx = some r) (hp : ρ a = some p) (hlen : len ≤ cap) (hcap : cap ≤ cap') (hex : ex = true → cap' = cap)
    (had : 0 < cap' → ad = ⟨p.b, p.o + off, none⟩ ∧ p.o + off + cap' * sz ≤ p.n) (hl : OR ρ lo vl) (hh : OR ρ hi vh) (hm : OR ρ mx vm) :
    ∃ l h m, (Instr.sliceBounds isS len cap' vl vh vm).run P w = .ok (l, h, m) w ∧ VR ρ r (Value.slice (some (if m = l then ad else ad.add (l * sz))) (h - l) (m - l)) := by
  have hadd : ∀ m l, l ≤ m → m ≤ cap' → 0 < m - l → (if m = l then ad else ad.add (l * sz)) = ⟨p.b, p.o + (off + l * sz), none⟩ ∧ p.o + (off + l * sz) + (m - l) * sz ≤ p.n := by
    intro m l h1 h2 h3
    obtain ⟨e1, e2⟩ := had (by omega)
    rw [if_neg (by omega), e1]
    constructor
    · unfold Addr.add
      by_cases hz : l * sz = 0
      · rw [if_pos hz, hz]; simp
      · rw [if_neg hz]; simp [Nat.add_assoc]
    · have : (m - l) * sz + l * sz = m * sz := by rw [← Nat.add_mul]; congr 1; omega
      have : m * sz ≤ cap' * sz := Nat.mul_le_mul_right _ h2
      omega
  unfold cut at h
  split at h
  · obtain rfl := hm
    split at h
    · rename_i hh' h1
      split at h
      · rename_i l h2
        simp only [fnat_eq] at h
        obtain rfl := Option.some.inj h
        have h1' : boundO hi len cap' = some hh' ∧ hh' ≤ cap := by
          cases hi with
          | none => exact ⟨h1, by obtain rfl := Option.some.inj h1; exact hlen⟩
          | some q =>
            exact ⟨bound_mono h1 hcap, bound_le h1⟩
        obtain ⟨b, b1, b2⟩ := bounds2 (P := P) (w := w) (isS := isS) (Nat.le_trans hlen hcap) h1'.1 h2 hl hh
        refine ⟨l, hh', cap', b, p, _, cap' - l, hp, rfl, by simp; omega, by simp; omega, fun e => by rw [hex e]; rfl, fun e => ?_⟩
        exact hadd cap' l (by omega) (Nat.le_refl _) e
      · cases h
    · cases h
  · rename_i q
    obtain ⟨um, rfl, hum⟩ := hm
    split at h
    · rename_i m qh h0
      obtain ⟨uh, rfl, huh⟩ := hh
      split at h
      · rename_i hh' h1
        split at h
        · rename_i l h2
          simp only [fnat_eq] at h
          obtain rfl := Option.some.inj h
          have h0' : bound q cap' = some m := bound_mono h0 hcap
          obtain ⟨b, b1, b2, b3⟩ := bounds3 (P := P) (w := w) (isS := isS) (len := len) h0' h1 h2 hl huh hum
          refine ⟨l, hh', m, b, p, _, m - l, hp, rfl, by simp; omega, by simp, fun e => rfl, fun e => ?_⟩
          exact hadd m l (by omega) b3 e
        · cases h
      · cases h
    · cases h

theorem cutNil_ok {elem t : TypeId} {lo hi mx : Option AV} {vl vh vm : Option Value} {r : AV} {sz : Nat} (ht : und P t = some (.slice elem)) (hsz : size P elem = some sz) (h : cutNil lo hi mx = some r)
    (hl : OR ρ lo vl) (hh : OR ρ hi vh) (hm : OR ρ mx vm) : PO P w ρ (Instr.sliceAt t (.slice none 0 0) vl vh vm) r := by
  unfold cutNil at h
  split at h
  · rename_i m hh' l h0 h1 h2
    have b0 : m = 0 := by
      obtain ⟨_, b, c⟩ := boundO_ok (P := P) (w := w) (c := .index) h0 hm
      rcases b with b | b
      · exact c b
      · omega
    have b1 : hh' = 0 := by
      obtain ⟨_, b, c⟩ := boundO_ok (P := P) (w := w) (c := .index) h1 hh
      rcases b with b | b
      · exact c b
      · omega
    have b2 : l = 0 := by
      obtain ⟨_, b, c⟩ := boundO_ok (P := P) (w := w) (c := .index) h2 hl
      rcases b with b | b
      · exact c b
      · omega
    subst b0 b1 b2
    have key : (Instr.sliceBounds true 0 0 vl vh vm).run P w = .ok (0, 0, 0) w ∧ r = .nilSlice := by
      cases mx with
      | none =>
        obtain rfl := hm
        have : r = .nilSlice := by cases hi <;> exact (Option.some.inj h).symm
        exact ⟨(bounds2 (P := P) (w := w) (isS := true) (Nat.le_refl _) h1 h2 hl hh).1, this⟩
      | some q =>
        obtain ⟨um, rfl, hum⟩ := hm
        cases hi with
        | none => cases h
        | some qh =>
          obtain ⟨uh, rfl, huh⟩ := hh
          have : r = .nilSlice := (Option.some.inj h).symm
          exact ⟨(bounds3 (P := P) (w := w) (isS := true) (len := 0) h0 h1 h2 hl huh hum).1, this⟩
    obtain ⟨k1, rfl⟩ := key
    refine ⟨.slice none 0 0, ?_, rfl⟩
    simp [Instr.sliceAt, Instr.slice, run_und ht, k1, run_size hsz]
  · cases h

theorem VR.ptr_inv {l o : Nat} {v : Value} (h : VR ρ (.ptr l o) v) : ∃ p, ρ l = some p ∧ v = .pointer (some ⟨p.b, p.o + o, none⟩) := h

theorem slice_ok {t : TypeId} {x : Operand} {lo hi mx : Option Operand} {r : AV} (ho : o.op = .slice t x lo hi mx) (hl : Lks ρ lk e)
    (h : sliceO P t (lk x) (opt lk lo) (opt lk hi) (opt lk mx) = some r) : NO P w ρ e o r := by
  unfold sliceO at h
  split at h
  · rename_i v a b c hv ha hb hc
    have ha := opt_ok hl ha
    have hb := opt_ok hl hb
    have hc := opt_ok hl hc
    have hu := hl _ _ hv
    refine no_of (m := Instr.sliceAt t (e x) (lo.map e) (hi.map e) (mx.map e)) ?_ (by simp only [execOp, ho])
    unfold slice at h
    split at h
    · rename_i ht
      split at h
      · rw [VR.eq_3] at hu
        rw [hu]
        exact cutS_ok ht h ha hb hc
      · cases h
    · rename_i elem ht
      split at h
      · rename_i n hn
        split at h
        · rename_i a' off len cap sz ex
          split at h
          · rename_i hsz
            obtain rfl : n = sz := Nat.eq_of_beq_eq_true hsz
            obtain ⟨p, ad, c', hp, hv', h1, h2, h3, h4⟩ := hu
            rw [hv']
            obtain ⟨l, h', m, hq, hr⟩ := cut_ok (P := P) (w := w) (isS := true) h hp h1 h2 h3 h4 ha hb hc
            refine ⟨_, ?_, hr⟩
            simp only [Instr.sliceAt, Instr.slice, Sem.run_bind, run_und ht, Result.andThen_ok, hq, run_size hn, Sem.run_pure]
            by_cases hml : m = l
            · simp [hml]
            · simp [hml]
          · cases h
        · rw [VR.eq_5] at hu
          rw [hu]
          exact cutNil_ok ht hn h ha hb hc
        · cases h
      · cases h
    · cases h
  · cases h

end Go.Ev

/- An abstract evaluator over the model: the operations that look at no memory are right (5). -/
namespace Go.Ev
variable {P : Program} {ρ : Pm} {w : World} {e : Operand → Value} {lk : Lk} {o : Oper}

theorem idx_ok {i : AV} {len n : Nat} {v : Value} (h : idx i len = some n) (hv : VR ρ i v) : ∃ k, v = .int k (n : Int) ∧ n < len := by
  unfold idx at h
  split at h
  · rename_i k m
    cases hm : Nat.blt m len with
    | true => rw [hm] at h; obtain rfl := Option.some.inj h; exact ⟨k, hv, by simpa [Nat.blt_eq] using hm⟩
    | false => rw [hm] at h; cases h
  · cases h

theorem ptrO_ok {a off n : Nat} {sz : Option Nat} {r : AV} (h : ptrO a off n sz = some r) : ∃ s, sz = some s ∧ r = .ptr a (off + n * s) := by
  cases sz with
  | none => cases h
  | some s =>
    simp only [ptrO, fnat_eq] at h
    exact ⟨s, rfl, (Option.some.inj h).symm⟩

theorem addr_add (b o n : Nat) : (⟨b, o, none⟩ : Addr).add n = ⟨b, o + n, none⟩ := by
  unfold Addr.add
  by_cases h : n = 0
  · rw [if_pos h, h]; rfl
  · rw [if_neg h]

theorem indexAddr_ok {t : TypeId} {x i : Operand} {r : AV} (ho : o.op = .indexAddr t x i) (hl : Lks ρ lk e) (h : indexAddrO P t (lk x) (lk i) = some r) : NO P w ρ e o r := by
  unfold indexAddrO at h
  split at h
  · rename_i a b ha hb
    have hu := hl _ _ ha
    have hv := hl _ _ hb
    refine no_of (m := Instr.indexAt t (e x) (e i)) ?_ (by simp only [execOp, ho])
    unfold indexAddr at h
    split at h
    · rename_i len elem ht
      split at h
      · rename_i l off
        split at h
        · rename_i n hn
          obtain ⟨sz, hsz, rfl⟩ := ptrO_ok h
          obtain ⟨k, hk, hlt⟩ := idx_ok hn hv
          obtain ⟨p, hp, hx⟩ := hu.ptr_inv
          rw [hk, hx]
          refine ⟨.pointer (some ⟨p.b, p.o + (off + n * sz), none⟩), ?_, p, hp, rfl⟩
          simp [Instr.indexAt, asIntOf, run_und ht, Instr.sureAddr, run_size hsz, hlt, addr_add, Nat.add_assoc]
        · cases h
      · cases h
    · rename_i elem ht
      split at h
      · rename_i l off len cap sz ex
        split at h
        · rename_i n hn
          split at h
          · rename_i s hsz
            split at h
            · rename_i hb'
              obtain rfl : s = sz := Nat.eq_of_beq_eq_true hb'
              obtain ⟨s', hs', rfl⟩ := ptrO_ok h
              obtain rfl := Option.some.inj hs'
              obtain ⟨k, hk, hlt⟩ := idx_ok hn hv
              obtain ⟨p, ad, c', hp, hx, h1, h2, h3, h4⟩ := hu
              obtain ⟨rfl, h5⟩ := h4 (by omega)
              rw [hk, hx]
              refine ⟨.pointer (some ⟨p.b, p.o + (off + n * s), none⟩), ?_, p, hp, rfl⟩
              simp [Instr.indexAt, asIntOf, run_und ht, run_size hsz, hlt, addr_add, Nat.add_assoc]
            · cases h
          · cases h
        · cases h
      · cases h
    · cases h
  · cases h

theorem nthB_eq : ∀ (l : List UInt8) (i : Nat), nthB l i = l[i]?
  | [], _ => by simp [nthB]
  | _ :: _, 0 => rfl
  | _ :: r, i + 1 => by simpa [nthB] using nthB_eq r i

theorem index_ok {t : TypeId} {x i : Operand} {r : AV} (ho : o.op = .index t x i) (hl : Lks ρ lk e) (h : indexO P t (lk x) (lk i) = some r) : NO P w ρ e o r := by
  unfold indexO at h
  split at h
  · rename_i a b ha hb
    have hu := hl _ _ ha
    have hv := hl _ _ hb
    refine no_of (m := Instr.index t (e x) (e i)) ?_ (by simp only [execOp, ho])
    unfold index at h
    split at h
    · rename_i len elem ht
      split at h
      · rename_i cs
        split at h
        · rename_i n hn
          split at h
          · rename_i sz hsz
            obtain ⟨k, hk, hlt⟩ := idx_ok hn hv
            obtain ⟨us, hx, hcs⟩ := hu
            rw [hk, hx]
            obtain ⟨v, hv', hr⟩ := part_ok (w := w) (show part P elem cs (n * sz) = some r from h) hcs
            refine ⟨v, ?_, hr⟩
            simp [Instr.index, asIntOf, run_und ht, run_size hsz, hlt, hv']
          · cases h
        · cases h
      · cases h
    · rename_i ht
      split at h
      · rename_i s
        split at h
        · rename_i k n
          rw [VR.eq_3] at hu
          rw [VR.eq_2] at hv
          rw [hu, hv]
          unfold byteO at h
          split at h
          · rename_i b hb'
            obtain rfl := mkI_ok h
            rw [nthB_eq] at hb'
            refine ⟨_, ?_, rfl⟩
            have hlt : n < s.length := (List.getElem?_eq_some_iff.1 hb').1
            have hg : (⟨⟨s⟩⟩ : ByteArray)[n]? = some b := by
              rw [ByteArray.getElem?_lt' _ _ (show n < (⟨⟨s⟩⟩ : ByteArray).size from hlt)]
              congr 1
              exact (List.getElem?_eq_some_iff.1 hb').2
            simp [Instr.index, asIntOf, run_und ht, hg]
          · cases h
        · cases h
      · cases h
    · cases h
  · cases h

theorem lenV_ok {t : TypeId} {ty : TypeId} {x r : AV} {v : Value} (h : lenOf P t x = some r) (hx : VR ρ x v) : PO P w ρ (Builtin.len_ #[t] ty #[v]) r := by
  unfold lenOf at h
  split at h
  · rename_i ht
    split at h
    · rename_i s
      rw [VR.eq_3] at hx
      subst hx
      obtain rfl := mkI_ok h
      exact ⟨_, by simp [Builtin.len_, run_und ht, goInt]; rfl, rfl⟩
    · cases h
  · rename_i n _ ht
    obtain rfl := Option.some.inj h
    refine ⟨goInt n, ?_, rfl⟩
    simp [Builtin.len_, run_und ht]
  · rename_i arr ht
    split at h
    · rename_i n _ hu
      obtain rfl := Option.some.inj h
      exact ⟨goInt n, by simp [Builtin.len_, run_und ht, run_und hu], rfl⟩
    · cases h
  · rename_i ht
    split at h
    · rename_i l off len cap sz ex
      obtain rfl := Option.some.inj h
      obtain ⟨p, ad, c', hp, hx, _⟩ := hx
      subst hx
      exact ⟨goInt len, by simp [Builtin.len_, run_und ht], rfl⟩
    · obtain rfl := Option.some.inj h
      rw [VR.eq_5] at hx
      subst hx
      exact ⟨goInt 0, by simp [Builtin.len_, run_und ht, goInt], rfl⟩
    · cases h
  · rename_i ht
    split at h
    · obtain rfl := Option.some.inj h
      rw [VR.eq_6] at hx
      subst hx
      exact ⟨goInt 0, by simp [Builtin.len_, run_und ht], rfl⟩
    · cases h
  · cases h

theorem call_builtin {c : Call} {b : Builtin} (ho : o.op = .call c) (hc : c.callee = .builtin b) :
    execOp e o = builtin b c.argTypes o.type (c.args.map fun | .const _ => true | _ => false) (c.args.map e) := by
  simp only [execOp, ho, resolve, hc, invoke]
  rfl

theorem len_ok {c : Call} {r : AV} (ho : o.op = .call c) (hl : Lks ρ lk e) (h : callO P lk c = some r) : NO P w ρ e o r := by
  unfold callO at h
  split at h
  · rename_i hc
    unfold lenO at h
    split at h
    · rename_i x hx
      split at h
      · rename_i t ht
        split at h
        · rename_i v hv
          have hargs : c.args = #[x] := by
            have : c.args.toList = [x] := hx
            exact Array.ext' this
          refine no_of (m := Builtin.len_ c.argTypes o.type (c.args.map e)) ?_ ?_
          · rw [hargs]
            obtain ⟨q, hq, hr⟩ := lenV_ok (P := P) (w := w) (ty := o.type) h (hl _ _ hv)
            refine ⟨q, ?_, hr⟩
            rw [← hq]
            unfold Builtin.len_
            simp only [ht, List.map_toArray, List.map_cons, List.map_nil]
            rfl
          · rw [call_builtin ho hc]
            rfl
        · cases h
      · cases h
    · cases h
  · cases h

theorem conv_ok {src dst : TypeId} {x : Operand} {r : AV} (ho : o.op = .convert src dst x) (hl : Lks ρ lk e) (h : convO P src dst (lk x) = some r) : NO P w ρ e o r := by
  unfold convO at h
  split at h
  · rename_i k n hx
    have hu := hl _ _ hx
    rw [VR.eq_2] at hu
    refine no_of (m := convert src dst (e x)) ?_ (by simp only [execOp, ho])
    rw [hu]
    split at h
    · rename_i d k' hs hd
      obtain rfl := mkI_ok h
      refine ⟨.int k' (k'.wrap n), ?_, by rw [wrapF_eq]; rfl⟩
      simp only [convert, Sem.run_bind, run_und hs, run_und hd, Result.andThen_ok]
      cases d <;> rfl
    · cases h
  · rename_i s hx
    have hu := hl _ _ hx
    rw [VR.eq_3] at hu
    refine no_of (m := convert src dst (e x)) ?_ (by simp only [execOp, ho])
    rw [hu]
    split at h
    · rename_i d hs hd
      obtain rfl := Option.some.inj h
      refine ⟨.string ⟨⟨s⟩⟩, ?_, rfl⟩
      simp only [convert, Sem.run_bind, run_und hs, run_und hd, Result.andThen_ok]
      cases d <;> rfl
    · cases h
  · cases h

theorem iface_ok {t : TypeId} {x : Operand} {r : AV} (ho : o.op = .makeInterface t x) (hl : Lks ρ lk e) (h : ifaceO P t (lk x) = some r) : NO P w ρ e o r := by
  unfold ifaceO at h
  split at h
  · cases h
  · rename_i d hd ht
    split at h
    · rename_i v hv
      obtain rfl := Option.some.inj h
      refine no_of (m := Instr.makeInterface t (e x)) ?_ (by simp only [execOp, ho])
      refine ⟨.iface t (e x), ?_, e x, rfl, hl _ _ hv⟩
      cases d <;> first
        | exact absurd hd (fun f => f _ rfl)
        | simp [Instr.makeInterface, run_und ht]
    · cases h
  · cases h

theorem lks_list (hl : Lks ρ lk e) : ∀ {xs : List Operand} {r : List AV}, mapO lk xs = some r → VRs ρ r (xs.map e)
  | [], r, h => by obtain rfl := Option.some.inj h; rfl
  | x :: xs, r, h => by
    simp only [mapO] at h
    split at h
    · rename_i b hb
      split at h
      · rename_i q hq
        obtain rfl := Option.some.inj h
        exact ⟨e x, _, rfl, hl _ _ hb, lks_list hl hq⟩
      · cases h
    · cases h

theorem func_ok {fn : Fn} {first captured : Array Operand} {r : AV} (ho : o.op = .makeFunc fn first captured) (hl : Lks ρ lk e)
    (h : funcO fn (mapO lk first.toList) (mapO lk captured.toList) = some r) : NO P w ρ e o r := by
  unfold funcO at h
  split at h
  · rename_i a b ha hb
    obtain rfl := Option.some.inj h
    refine no_of (m := Instr.makeFunc fn (first.map e) (captured.map e)) ?_ (by simp only [execOp, ho])
    exact ⟨_, rfl, _, _, rfl, by simpa using lks_list hl ha, by simpa using lks_list hl hb⟩
  · cases h

theorem fieldOf_ok {t : TypeId} {i : Nat} {f : Field} (h : fieldOf P t i = some f) : ∃ fs, und P t = some (.struct fs) ∧ fs[i]? = some f := by
  unfold fieldOf fieldD at h
  split at h
  · rename_i fs ht
    exact ⟨fs, ht, h⟩
  · cases h

theorem fieldAddr_ok {t : TypeId} {x : Operand} {i : Nat} {r : AV} (ho : o.op = .fieldAddr t x i) (hl : Lks ρ lk e) (h : fieldAddrO P (lk x) (fieldOf P t i) = some r) : NO P w ρ e o r := by
  unfold fieldAddrO at h
  split at h
  · rename_i a off hx
    have hu := hl _ _ hx
    split at h
    · rename_i f hf
      split at h
      · rename_i n hn
        simp only [fnat_eq] at h
        obtain rfl := Option.some.inj h
        obtain ⟨fs, ht, hf⟩ := fieldOf_ok hf
        obtain ⟨p, hp, hv⟩ := hu.ptr_inv
        refine no_of (m := Instr.fieldAt t (e x) i) ?_ (by simp only [execOp, ho])
        rw [hv]
        refine ⟨.pointer (some ⟨p.b, p.o + (off + f.offset), none⟩), ?_, p, hp, rfl⟩
        simp [Instr.fieldAt, run_und ht, hf, Instr.sureAddr, fieldPlace, run_size hn, addr_add, Nat.add_assoc]
      · cases h
    · cases h
  · cases h

theorem field_ok {t : TypeId} {x : Operand} {i : Nat} {r : AV} (ho : o.op = .field t x i) (hl : Lks ρ lk e) (h : fieldO P (lk x) (fieldOf P t i) = some r) : NO P w ρ e o r := by
  unfold fieldO at h
  split at h
  · rename_i cs hx
    obtain ⟨us, hv, hcs⟩ := hl _ _ hx
    split at h
    · rename_i f hf
      obtain ⟨fs, ht, hf⟩ := fieldOf_ok hf
      obtain ⟨v, hv', hr⟩ := part_ok (w := w) h hcs
      refine no_of (m := Instr.field t (e x) i) ?_ (by simp only [execOp, ho])
      rw [hv]
      exact ⟨v, by simp [Instr.field, run_und ht, hf, asAgg, hv'], hr⟩
    · cases h
  · cases h

theorem extract_ok {x : Operand} {i : Nat} {r : AV} (ho : o.op = .extract x i) (hl : Lks ρ lk e) (h : extractO i (lk x) = some r) : NO P w ρ e o r := by
  unfold extractO at h
  split at h
  · rename_i l hx
    obtain ⟨us, hv, hcs⟩ := hl _ _ hx
    obtain ⟨v, hv', hr⟩ := VRs.nth hcs h
    refine no_of (m := Instr.extract (e x) i) ?_ (by simp only [execOp, ho])
    rw [hv]
    have : us[i]? = some v := by simpa using hv'
    exact ⟨v, by simp [Instr.extract, this], hr⟩
  · cases h

theorem pure1_ok {r : AV} (hl : Lks ρ lk e) (h : pure1 P lk o.op = some r) : NO P w ρ e o r := by
  unfold pure1 at h
  split at h <;> rename_i ho
  · exact move_ok (.inl ho) hl h
  · exact move_ok (.inr ho) hl h
  · exact pick_ok ho hl h
  · exact build_ok ho hl h
  · exact nil_ok ho hl h
  · exact bin_ok ho hl h
  · exact un_ok ho hl h
  · exact conv_ok ho hl h
  · exact iface_ok ho hl h
  · exact func_ok ho hl h
  · exact slice_ok ho hl h
  · exact fieldAddr_ok ho hl h
  · exact field_ok ho hl h
  · exact indexAddr_ok ho hl h
  · exact index_ok ho hl h
  · exact extract_ok ho hl h
  · exact len_ok ho hl h
  · cases h

end Go.Ev

/- An abstract evaluator over the model: the operations that look at memory are right. -/
namespace Go.Ev
variable {P : Program} {ρ : Pm} {g : Nat} {s : St} {w : World} {e : Operand → Value} {lk : Lk} {o : Oper}

theorem row_ok {l : Nat} {r : List AV} (hs : Sim ρ g s w.heap) (h : rowOf s l = some r) :
    ∃ p c t fr, ρ l = some p ∧ w.heap[p.b]? = some (.cells c t fr) ∧ c.size = p.n ∧ CellsR ρ p r c := by
  unfold rowOf rowO at h
  split at h
  · rename_i r' hr
    obtain rfl := Option.some.inj h
    obtain ⟨p, ob, hp, hh, c, t, fr, rfl, h1, _, h2⟩ := hs.obj _ _ hr
    exact ⟨p, c, t, fr, hp, hh, h1, h2⟩
  · rename_i r' hr
    obtain rfl := Option.some.inj h
    obtain ⟨p, ob, hp, hh, c, t, fr, rfl, h1, h2⟩ := hs.obj _ _ hr
    exact ⟨p, c, t, fr, hp, hh, h1, h2⟩
  · rename_i r' hr
    obtain rfl := Option.some.inj h
    obtain ⟨p, ob, hp, hh, c, t, fr, rfl, h1, h2⟩ := hs.obj _ _ hr
    exact ⟨p, c, t, fr, hp, hh, h1, h2⟩
  · cases h

theorem sub_nth : ∀ {l : List AV} {o n : Nat} {r : List AV}, sub l o n = some r → r.length = n ∧ ∀ j, j < n → nth r j = nth l (o + j)
  | l, 0, 0, r, h => by
    have : r = [] := by cases l <;> exact (Option.some.inj h).symm
    subst this
    exact ⟨rfl, fun j hj => absurd hj (Nat.not_lt_zero _)⟩
  | [], 0, n + 1, r, h => by cases h
  | [], o + 1, n, r, h => by cases h
  | a :: l, 0, n + 1, r, h => by
    simp only [sub] at h
    cases hs : sub l 0 n with
    | none => rw [hs] at h; cases h
    | some r' =>
      rw [hs] at h
      obtain rfl := Option.some.inj h
      obtain ⟨h1, h2⟩ := sub_nth hs
      refine ⟨by simp [h1], fun j hj => ?_⟩
      cases j with
      | zero => rfl
      | succ j =>
        have := h2 j (by omega)
        simp only [Nat.zero_add] at this ⊢
        simpa [nth] using this
  | a :: l, o + 1, n, r, h => by
    have h' : sub l o n = some r := by cases n <;> exact h
    obtain ⟨h1, h2⟩ := sub_nth h'
    refine ⟨h1, fun j hj => ?_⟩
    rw [h2 j hj]
    have : o + 1 + j = (o + j) + 1 := by omega
    rw [this]
    rfl

theorem cells_sub {p : Pl} {r l : List AV} {c : Array Value} {off n : Nat} (hc : CellsR ρ p r c) (h : sub r off n = some l) :
    (n = 0 ∨ p.o + off + n ≤ c.size) ∧ VRs ρ l ((c.toList.drop (p.o + off)).take n) := by
  obtain ⟨h1, h2⟩ := sub_nth h
  have hb : n = 0 ∨ p.o + off + n ≤ c.size := by
    cases n with
    | zero => exact .inl rfl
    | succ n =>
      right
      have := h2 n (Nat.lt_succ_self _)
      have hlt : n < l.length := by omega
      have hn : nth l n = some l[n] := by rw [nth_eq]; exact List.getElem?_eq_getElem hlt
      rw [hn] at this
      obtain ⟨v, hv, _⟩ := hc _ _ this.symm
      have := (Array.getElem?_eq_some_iff.1 hv).1
      omega
  refine ⟨hb, VRs.of_nth ?_ (fun i a e => ?_)⟩
  · rw [List.length_take, List.length_drop, h1, Array.length_toList]
    omega
  · have hi : i < n := by
      rw [nth_eq] at e
      have := (List.getElem?_eq_some_iff.1 e).1
      omega
    rw [h2 i hi] at e
    obtain ⟨v, hv, hr⟩ := hc _ _ e
    refine ⟨v, ?_, hr⟩
    rw [List.getElem?_take_of_lt hi, List.getElem?_drop, Array.getElem?_toList, Nat.add_assoc]
    exact hv

theorem cell_of {b o : Nat} {c : Array Value} {t : TypeId} {fr : Nat × Nat} (h : w.heap[b]? = some (.cells c t fr)) : w.cell? ⟨b, o, none⟩ = c[o]? := by
  simp [World.cell?, h]

theorem loadFrom_ok {b o : Nat} {c : Array Value} {t : TypeId} {fr : Nat × Nat} (h : w.heap[b]? = some (.cells c t fr)) : ∀ (n i : Nat) (acc : Array Value), (n = 0 ∨ o + i + n ≤ c.size) →
    (loadCellsFrom ⟨b, o, none⟩ i n acc).run P w = .ok (acc ++ ((c.toList.drop (o + i)).take n).toArray) w
  | 0, i, acc, _ => by simp [loadCellsFrom]
  | n + 1, i, acc, hn => by
    have hlt : o + i < c.size := by omega
    have hc : w.cell? ((⟨b, o, none⟩ : Addr).add i) = some c[o + i] := by
      rw [addr_add, cell_of h]
      exact Array.getElem?_eq_getElem hlt
    have ih : (loadCellsFrom ⟨b, o, none⟩ (i + 1) n (acc.push c[o + i])).run P w = .ok (acc.push c[o + i] ++ ((c.toList.drop (o + (i + 1))).take n).toArray) w := loadFrom_ok h n (i + 1) _ (by omega)
    simp only [loadCellsFrom, Sem.run_bind, run_load, hc, Result.andThen_ok, ih]
    congr 1
    have e : c.toList.drop (o + i) = c[o + i] :: c.toList.drop (o + (i + 1)) := by
      rw [List.drop_eq_getElem_cons (by simpa using hlt)]
      rfl
    rw [e, List.take_succ_cons]
    apply Array.ext'
    simp

theorem loadCells_ok {b o n : Nat} {c : Array Value} {t : TypeId} {fr : Nat × Nat} (h : w.heap[b]? = some (.cells c t fr)) (hn : n = 0 ∨ o + n ≤ c.size) :
    (loadCells ⟨b, o, none⟩ n).run P w = .ok ((c.toList.drop o).take n).toArray w := by
  have := loadFrom_ok (P := P) h n 0 #[] (by omega)
  simpa [loadCells] using this

theorem loadVar_ok {t : TypeId} {p : Pl} {r : List AV} {off : Nat} {c : Array Value} {t' : TypeId} {fr : Nat × Nat} {a : AV} (hh : w.heap[p.b]? = some (.cells c t' fr)) (hc : CellsR ρ p r c)
    (h : part P t r off = some a) : PO P w ρ (loadVar t ⟨p.b, p.o + off, none⟩) a := by
  unfold part at h
  split at h
  · rename_i ha
    split at h
    · rename_i n hn
      obtain ⟨l, hl, rfl⟩ := aggO_ok h
      obtain ⟨h1, h2⟩ := cells_sub hc hl
      refine ⟨.agg ((c.toList.drop (p.o + off)).take n).toArray, ?_, _, rfl, by simpa using h2⟩
      simp [loadVar, run_isAgg ha, run_size hn, loadCells_ok hh h1]
    · cases h
  · rename_i ha
    obtain ⟨v, hv, hr⟩ := hc _ _ h
    refine ⟨v, ?_, hr⟩
    have : w.cell? ⟨p.b, p.o + off, none⟩ = some v := by rw [cell_of hh]; exact hv
    simp [loadVar, run_isAgg ha, this]
  · cases h

theorem load_ok {t : TypeId} {x : Operand} {r : AV} (hs : Sim ρ g s w.heap) (ho : o.op = .load t x) (hl : Lks ρ lk e) (h : loadR P t s (lk x) = some r) : NO P w ρ e o r := by
  unfold loadR at h
  split at h
  · rename_i l off hx
    obtain ⟨p, hp, hv⟩ := (hl _ _ hx).ptr_inv
    split at h
    · rename_i row hr
      obtain ⟨p', c, t', fr, hp', hh, hsz, hc⟩ := row_ok hs hr
      obtain rfl := Option.some.inj (hp.symm.trans hp')
      refine no_of (m := Instr.loadAt t (e x)) ?_ (by simp only [execOp, ho])
      rw [hv]
      obtain ⟨v, hv', hr'⟩ := loadVar_ok (P := P) (w := w) hh hc h
      exact ⟨v, by simp [Instr.loadAt, Instr.sureAddr, hv'], hr'⟩
    · cases h
  · cases h

theorem chkA_ok {c : AV → Bool} {elem : TypeId} {n d : Nat} {cs : List AV} {us : Array Value} {em : Bool} (hcs : VRs ρ cs us.toList)
    (hn : size P elem = some n) (hc : ∀ v u, c v = true → VR ρ v u → (Instr.checkKey em d elem u).run P w = .ok () w) : ∀ (k i : Nat), chkA P c elem n cs k i = true →
    Sem.run P (forIn (List.range' i k) PUnit.unit fun i _ => do
      let m ← Go.sizeOf elem
      let x ← Go.part elem us (i * m)
      (fun _ => ForInStep.yield PUnit.unit) <$> Instr.checkKey em d elem x) w = .ok PUnit.unit w
  | 0, i, _ => by simp
  | k + 1, i, h => by
    simp only [chkA] at h
    split at h
    · rename_i v hv
      have h1 : c v = true := by cases hcv : c v <;> simp_all
      have h2 : chkA P c elem n cs k (i + 1) = true := by cases hcv : chkA P c elem n cs k (i + 1) <;> simp_all
      obtain ⟨u, hu, hr⟩ := part_ok (w := w) (show part P elem cs (i * n) = some v from hv) hcs
      rw [List.range'_succ, List.forIn_cons]
      simp [run_size hn, hu, hc v u h1 hr]
      simpa using chkA_ok hcs hn hc k (i + 1) h2
    · cases h

theorem chkF_ok {c : TypeId → AV → Bool} {d : Nat} {cs : List AV} {us : Array Value} {em : Bool} (hcs : VRs ρ cs us.toList)
    (hc : ∀ t v u, c t v = true → VR ρ v u → (Instr.checkKey em d t u).run P w = .ok () w) : ∀ (l : List Field), chkF P c cs l = true →
    Sem.run P (forIn l PUnit.unit fun f _ => if f.name = "_" then pure (ForInStep.yield PUnit.unit) else do
      let x ← Go.part f.type us f.offset
      (fun _ => ForInStep.yield PUnit.unit) <$> Instr.checkKey em d f.type x) w = .ok PUnit.unit w
  | [], _ => by simp
  | f :: l, h => by
    simp only [chkF] at h
    rw [List.forIn_cons]
    by_cases hn : f.name = "_"
    · have e : (f.name != "_") = false := by simp [hn]
      rw [e] at h
      simp only [hn, if_true]
      simpa using chkF_ok hcs hc l h
    · have e : (f.name != "_") = true := by simp [hn]
      rw [e] at h
      simp only [hn, if_false]
      simp only at h
      split at h
      · rename_i v hv
        have h1 : c f.type v = true := by cases hcv : c f.type v <;> simp_all
        have h2 : chkF P c cs l = true := by cases hcv : chkF P c cs l <;> simp_all
        obtain ⟨u, hu, hr⟩ := part_ok (w := w) hv hcs
        simp [hu, hc _ v u h1 hr]
        simpa using chkF_ok hcs hc l h2
      · cases h

theorem chk_ok {em : Bool} {D : Nat} : ∀ (d : Nat) {t : TypeId} {v : AV} {u : Value}, chk P d t v = true → VR ρ v u → (Instr.checkKey em (D + d) t u).run P w = .ok () w := by
  intro d
  induction d with
  | zero => intro t v u h; cases h
  | succ d ih =>
    intro t v u h hv
    simp only [chk] at h
    unfold chkC at h
    show (Instr.checkKey em (D + d + 1) t u).run P w = .ok () w
    split at h
    · rename_i len elem ht
      split at h
      · rename_i cs
        obtain ⟨us, rfl, hcs⟩ := hv
        split at h
        · rename_i n hn
          have := chkA_ok (P := P) (w := w) (em := em) (d := D + d) hcs hn (fun v u a b => ih a b) _ _ h
          simp [Instr.checkKey, run_und ht]
          exact this
        · cases h
      · cases h
    · rename_i fields ht
      split at h
      · rename_i cs
        obtain ⟨us, rfl, hcs⟩ := hv
        have := chkF_ok (P := P) (w := w) (em := em) (d := D + d) hcs (fun t v u a b => ih a b) _ h
        rw [Array.forIn_toList] at this
        simp [Instr.checkKey, run_und ht]
        exact this
      · cases h
    all_goals first
      | (rename_i ht; simp only [Instr.checkKey, Sem.run_bind, run_und ht, Result.andThen_ok]; cases u <;> rfl)
      | cases h

end Go.Ev

/- An abstract evaluator over the model: the operations that look at memory are right (2). -/
namespace Go.Ev
variable {P : Program} {ρ : Pm} {g : Nat} {s : St} {w : World} {e : Operand → Value} {lk : Lk} {o : Oper}

/-- What a search in the abstract list says of the model's list. -/
def FoundR (ρ : Pm) (es : List AE) (es' : List MapEntry) (i : Nat) (r : Option (Nat × AE)) (x : Option (Nat × Value)) : Prop := match r with
  | none => x = none
  | some (j, a) => ∃ b, x = some (j, b.val) ∧ i ≤ j ∧ es[j - i]? = some a ∧ es'[j - i]? = some b ∧ VR ρ a.key b.key ∧ VR ρ a.val b.val ∧ b.born = a.born

theorem FoundR.step {a : AE} {b : MapEntry} {es : List AE} {es' : List MapEntry} {i : Nat} {r : Option (Nat × AE)} {x : Option (Nat × Value)} (h : FoundR ρ es es' (i + 1) r x) : FoundR ρ (a :: es) (b :: es') i r x := by
  cases r with
  | none => exact h
  | some q =>
    obtain ⟨j, q⟩ := q
    obtain ⟨b', h1, h2, h3, h4, h5⟩ := h
    have e : j - i = (j - (i + 1)) + 1 := by omega
    exact ⟨b', h1, by omega, by rw [e]; simpa using h3, by rw [e]; simpa using h4, h5⟩

theorem sameNow_ok {t : TypeId} {d : TypeDesc} {x y : AV} {u v : Value} {b : Bool} (ht : und P t = some d) (h : eqv P 20 t x y = some b) (hu : VR ρ x u) (hv : VR ρ y v) :
    Instr.sameNow d u v = some b ∨ Instr.sameNow d u v = none := by
  cases x with
  | bool a =>
    simp only [eqv, eqvB, ht] at h
    split at h
    · rename_i _ _ hd
      obtain rfl := Option.some.inj hd
      obtain rfl := Option.some.inj h
      obtain rfl := hu
      obtain rfl := hv
      exact .inl rfl
    · cases h
  | int k a =>
    simp only [eqv, eqvI, ht] at h
    split at h
    · rename_i hd
      obtain rfl := Option.some.inj hd
      split at h
      · rename_i hk
        obtain rfl := (kindEq_iff _ _).1 hk
        obtain rfl := Option.some.inj h
        obtain rfl := hu
        obtain rfl := hv
        exact .inl (by simp [Instr.sameNow, ieq_eq])
      · cases h
    · cases h
  | str a =>
    simp only [eqv, eqvS, ht] at h
    split at h
    · rename_i hd
      obtain rfl := Option.some.inj hd
      obtain rfl := Option.some.inj h
      obtain rfl := hu
      obtain rfl := hv
      refine .inl ?_
      simp only [Instr.sameNow, bytesEq_eq]
      congr 1
      rw [Bool.eq_iff_iff, MapKept.bytes_beq, beq_iff_eq]
      constructor
      · intro e
        have := congrArg (fun s : ByteArray => s.data.toList) e
        simpa using this
      · intro e
        rw [e]
    · cases h
  | agg l => obtain ⟨us, rfl, _⟩ := hu; exact .inr (by cases d <;> rfl)
  | tuple l => obtain ⟨us, rfl, _⟩ := hu; exact .inr (by cases d <;> rfl)
  | fn f p q => obtain ⟨_, _, rfl, _⟩ := hu; exact .inr (by cases d <;> rfl)
  | iface t a => obtain ⟨_, rfl, _⟩ := hu; exact .inr (by cases d <;> rfl)
  | ptr l o => obtain ⟨_, _, rfl⟩ := hu; exact .inr (by cases d <;> rfl)
  | slice l o n c s e => obtain ⟨_, _, _, _, rfl, _⟩ := hu; exact .inr (by cases d <;> rfl)
  | map l => obtain ⟨_, _, rfl⟩ := hu; exact .inr (by cases d <;> rfl)
  | _ => unfold VR at hu; subst hu; exact .inr (by cases d <;> rfl)

theorem findNow_ok {t : TypeId} {d : TypeDesc} {k : AV} {u : Value} (ht : und P t = some d) (hu : VR ρ k u) : ∀ {es : List AE} {es' : List MapEntry} {i : Nat} {r : Option (Nat × AE)}, ERs ρ es es' →
    find (eqv P 20 t k) es i = some r → Instr.findNow d u es' i = none ∨ ∃ x, Instr.findNow d u es' i = some x ∧ FoundR ρ es es' i r x
  | [], es', i, r, he, h => by
    obtain rfl := Option.some.inj h
    obtain rfl : es' = [] := he
    exact .inr ⟨none, rfl, rfl⟩
  | a :: es, es', i, r, he, h => by
    obtain ⟨b, q, rfl, ⟨hk, hv, hb⟩, he⟩ := he
    simp only [find] at h
    simp only [Instr.findNow]
    split at h
    · rename_i heq
      obtain rfl := Option.some.inj h
      rcases sameNow_ok ht heq hu hk with hn | hn
      · rw [hn]
        exact .inr ⟨_, rfl, b, rfl, Nat.le_refl _, by simp, by simp, hk, hv, hb⟩
      · rw [hn]
        exact .inl rfl
    · rename_i heq
      rcases sameNow_ok ht heq hu hk with hn | hn
      · rw [hn]
        rcases findNow_ok ht hu he h with h' | ⟨x, h1, h2⟩
        · exact .inl h'
        · exact .inr ⟨x, h1, h2.step⟩
      · rw [hn]
        exact .inl rfl
    · cases h

theorem findAsking_ok {t : TypeId} {k : AV} {u : Value} (hu : VR ρ k u) : ∀ {es : List AE} {es' : List MapEntry} {i : Nat} {r : Option (Nat × AE)}, ERs ρ es es' →
    find (eqv P 20 t k) es i = some r → ∃ x, (Instr.findAsking t u es' i).run P w = .ok x w ∧ FoundR ρ es es' i r x
  | [], es', i, r, he, h => by
    obtain rfl := Option.some.inj h
    obtain rfl : es' = [] := he
    exact ⟨none, rfl, rfl⟩
  | a :: es, es', i, r, he, h => by
    obtain ⟨b, q, rfl, ⟨hk, hv, hb⟩, he⟩ := he
    simp only [find] at h
    split at h
    · rename_i heq
      obtain rfl := Option.some.inj h
      have := equal_ok (w := w) heq hu hk
      exact ⟨some (i, b.val), by simp [Instr.findAsking, this], b, rfl, Nat.le_refl _, by simp, by simp, hk, hv, hb⟩
    · rename_i heq
      have := equal_ok (w := w) heq hu hk
      obtain ⟨x, h1, h2⟩ := findAsking_ok hu he h
      exact ⟨x, by simp [Instr.findAsking, this, h1], h2.step⟩
    · cases h

theorem findKey_ok {t : TypeId} {d : TypeDesc} {k : AV} {u : Value} {es : List AE} {es' : List MapEntry} {r : Option (Nat × AE)} (ht : und P t = some d) (hu : VR ρ k u) (he : ERs ρ es es')
    (h : find (eqv P 20 t k) es 0 = some r) : ∃ x, (Instr.findKey t u es').run P w = .ok x w ∧ FoundR ρ es es' 0 r x := by
  rcases findNow_ok ht hu he h with h' | ⟨x, h1, h2⟩
  · obtain ⟨x, h1, h2⟩ := findAsking_ok (P := P) (w := w) hu he h
    exact ⟨x, by simp [Instr.findKey, run_und ht, h', h1], h2⟩
  · exact ⟨x, by simp [Instr.findKey, run_und ht, h1], h2⟩

theorem chk_und {d : Nat} {t : TypeId} {v : AV} (h : chk P d t v = true) : ∃ x, und P t = some x := by
  cases d with
  | zero => cases h
  | succ d =>
    simp only [chk] at h
    cases ht : und P t with
    | none => rw [ht] at h; cases h
    | some x => exact ⟨x, rfl⟩

/-- A map's entries as the model has them. -/
theorem map_ok {x : AV} {v : Value} {es : List AE} (hs : Sim ρ g s w.heap) (hx : VR ρ x v) (h : mapOf s x = some es) :
    (v = .map none ∧ es = []) ∨ ∃ l p k es', x = .map l ∧ ρ l = some p ∧ s.look l = some (.map es k) ∧ v = .map (some p.b) ∧ w.heap[p.b]? = some (.map es' k) ∧ ERs ρ es es'.toList := by
  unfold mapOf at h
  split at h
  · rename_i l
    obtain ⟨p, hp, hv⟩ := hx
    unfold mapO' at h
    split at h
    · rename_i es0 k hl
      obtain rfl := Option.some.inj h
      obtain ⟨p', ob, hp', hh, es', rfl, he⟩ := hs.obj _ _ hl
      obtain rfl := Option.some.inj (hp.symm.trans hp')
      exact .inr ⟨l, p, k, es', rfl, hp, hl, hv, hh, he⟩
    · cases h
  · obtain rfl := Option.some.inj h
    exact .inl ⟨hx, rfl⟩
  · cases h

theorem ERs.length {es : List AE} : ∀ {es' : List MapEntry}, ERs ρ es es' → es'.length = es.length := by
  induction es with
  | nil => intro es' h; obtain rfl : es' = [] := h; rfl
  | cons a es ih => intro es' h; obtain ⟨b, q, rfl, _, h⟩ := h; simp [ih h]

theorem lookup_ok {t : TypeId} {m k : Operand} {ok : Bool} {r : AV} (hs : Sim ρ g s w.heap) (ho : o.op = .lookup t m k ok) (hl : Lks ρ lk e) (h : lookR P t ok s (lk m) (lk k) = some r) :
    NO P w ρ e o r := by
  unfold lookR at h
  split at h
  · rename_i kt et ht
    split at h
    · rename_i ma hm
      split at h
      · rename_i ka hk
        split at h
        · rename_i es hes
          split at h
          · rename_i hc
            have hu := hl _ _ hk
            obtain ⟨d, hd⟩ := chk_und hc
            refine no_of (m := Instr.lookup t (e m) (e k) ok) ?_ (by simp only [execOp, ho])
            have fin : ∀ (es' : Array MapEntry), ERs ρ es es'.toList → ∃ v q, ((do
                let (v, ok') ← match ← Instr.findKey kt (e k) es'.toList with
                  | some (_, v) => pure (v, true)
                  | none => pure (← zeroValue et, false)
                pure (if ok = true then Value.tuple #[v, .bool ok'] else v)) : Sem Value).run P w = .ok v w ∧ q = r ∧ VR ρ q v := by
              intro es' he
              unfold found at h
              split at h
              · rename_i j a hf
                obtain ⟨x, hx, b, rfl, _, _, _, _, hval, _⟩ := findKey_ok (P := P) (w := w) hd hu he hf
                split at h
                · obtain rfl := Option.some.inj h
                  exact ⟨.tuple #[b.val, .bool true], _, by simp [hx], rfl, _, rfl, b.val, [.bool true], rfl, hval, .bool true, [], rfl, rfl, rfl⟩
                · obtain rfl := Option.some.inj h
                  exact ⟨b.val, _, by simp [hx], rfl, hval⟩
              · rename_i hf
                obtain ⟨x, hx, hn⟩ := findKey_ok (P := P) (w := w) hd hu he hf
                obtain rfl : x = none := hn
                split at h
                · rename_i z hz
                  obtain ⟨zv, hzr, hzv⟩ := run_zero (P := P) (w := w) (ρ := ρ) hz
                  split at h
                  · obtain rfl := Option.some.inj h
                    exact ⟨.tuple #[zv, .bool false], _, by simp [hx, hzr], rfl, _, rfl, zv, [.bool false], rfl, hzv, .bool false, [], rfl, rfl, rfl⟩
                  · obtain rfl := Option.some.inj h
                    exact ⟨zv, _, by simp [hx, hzr], rfl, hzv⟩
                · cases h
              · cases h
            rcases map_ok hs (hl _ _ hm) hes with ⟨hv, rfl⟩ | ⟨l, p, kk, es', _, hp, _, hv, hh, he⟩
            · obtain ⟨v, q, h1, rfl, h2⟩ := fin #[] rfl
              refine ⟨v, ?_, h2⟩
              rw [← h1, hv]
              have hck := chk_ok (P := P) (w := w) (em := true) (D := 9980) 20 hc hu
              simp [Instr.lookup, run_und ht, hck]
              rfl
            · obtain ⟨v, q, h1, rfl, h2⟩ := fin es' he
              refine ⟨v, ?_, h2⟩
              rw [← h1, hv]
              have hck := chk_ok (P := P) (w := w) (em := es'.isEmpty) (D := 9980) 20 hc hu
              simp [Instr.lookup, run_und ht, getObj, Sem.run, hh, hck]
              rfl
          · cases h
        · cases h
      · cases h
    · cases h
  · cases h

end Go.Ev

/- An abstract evaluator over the model: the operations that look at memory are right (3). -/
namespace Go.Ev
variable {P : Program} {ρ : Pm} {g : Nat} {s : St} {w : World} {e : Operand → Value} {lk : Lk} {o : Oper}

theorem elemD_ok {d : Option TypeDesc} {t : TypeId} (h : elemD d = some t) : d = some (.slice t) := by
  unfold elemD at h
  split at h
  · obtain rfl := Option.some.inj h; rfl
  · cases h

theorem isByteSlice_ok {a b : Option TypeDesc} (h : isByteSlice a b = true) : a = some (.int .u8) ∧ b = some .string := by
  unfold isByteSlice at h
  split at h
  · split at h
    · exact ⟨rfl, rfl⟩
    · cases h
  · cases h

/-- Bytes pushed, one by one. -/
def pushAll (b : ByteArray) : List UInt8 → ByteArray
  | [] => b
  | x :: r => pushAll (b.push x) r

theorem pushAll_data : ∀ (l : List UInt8) (b : ByteArray), (pushAll b l).data.toList = b.data.toList ++ l
  | [], b => by simp [pushAll]
  | x :: r, b => by rw [pushAll, pushAll_data r]; simp [ByteArray.push]

theorem bytesLoop_ok : ∀ {l : List AV} {b : List UInt8} {vs : List Value} (acc : ByteArray), bytesOf l = some b → VRs ρ l vs →
    Sem.run P (forIn vs acc fun c s => match c with
      | .int .u8 n => pure (ForInStep.yield (s.push (UInt8.ofNat n.toNat)))
      | _ => do
        stuck "bytesToString: byte expected"
        pure (ForInStep.yield s)) w = .ok (pushAll acc b) w
  | [], b, vs, acc, h, hv => by
    obtain rfl := Option.some.inj h
    obtain rfl : vs = [] := hv
    rfl
  | a :: l, b, vs, acc, h, hv => by
    obtain ⟨v, q, rfl, ha, hv⟩ := hv
    simp only [bytesOf] at h
    split at h
    · rename_i n
      split at h
      · rename_i r hr
        obtain rfl := Option.some.inj h
        rw [VR.eq_2] at ha
        subst ha
        rw [List.forIn_cons]
        have := bytesLoop_ok (acc.push (UInt8.ofNat n.toNat)) hr hv
        simpa [pushAll] using this
      · cases h
    · cases h

theorem convR_ok {src dst : TypeId} {x : Operand} {r : AV} (hs : Sim ρ g s w.heap) (ho : o.op = .convert src dst x) (hl : Lks ρ lk e) (h : convR P src dst s (lk x) = some r) : NO P w ρ e o r := by
  unfold convR at h
  split at h
  · rename_i el hel
    have hsrc := elemD_ok hel
    split at h
    · rename_i hb
      obtain ⟨hel', hdst⟩ := isByteSlice_ok hb
      refine no_of (m := convert src dst (e x)) ?_ (by simp only [execOp, ho])
      have hconv : ∀ (a : Option Addr) (n c : Nat), (convert src dst (.slice a n c)).run P w = (Conv.bytesToString (.slice a n c)).run P w := by
        intro a n c
        simp only [convert, Sem.run_bind, run_und hsrc, run_und hdst, Result.andThen_ok, run_und hel']
      split at h
      · rename_i hx
        have hu := hl _ _ hx
        rw [VR.eq_5] at hu
        obtain rfl := Option.some.inj h
        refine ⟨.string .empty, ?_, rfl⟩
        rw [hu, hconv]
        rfl
      · rename_i l off n cap ex hx
        obtain ⟨p, ad, c', hp, hv, h1, h2, h3, h4⟩ := hl _ _ hx
        split at h
        · rename_i row hrow
          obtain ⟨p', c, t', fr, hp', hh, hsz, hc⟩ := row_ok hs hrow
          obtain rfl := Option.some.inj (hp.symm.trans hp')
          unfold strB at h
          split at h
          · rename_i cs hcs
            unfold strO at h
            split at h
            · rename_i b hb'
              obtain rfl := Option.some.inj h
              obtain ⟨h5, h6⟩ := cells_sub hc hcs
              refine ⟨.string (pushAll .empty b), ?_, ?_⟩
              · rw [hv, hconv]
                have hload : (loadCells ad n).run P w = .ok ((c.toList.drop (p.o + off)).take n).toArray w := by
                  rcases Nat.eq_zero_or_pos c' with h0 | h0
                  · have : n = 0 := by omega
                    subst this
                    simp [loadCells, loadCellsFrom]
                  · obtain ⟨rfl, _⟩ := h4 h0
                    exact loadCells_ok hh h5
                have := bytesLoop_ok (P := P) (w := w) .empty hb' h6
                simp only [Conv.bytesToString, Sem.run_bind, hload, Result.andThen_ok]
                rw [← Array.forIn_toList]
                simp only []
                erw [this]
                rfl
              · show Value.string _ = Value.string _
                congr 1
                apply ByteArray.ext
                apply Array.ext'
                rw [pushAll_data]
                rfl
            · cases h
          · cases h
        · cases h
      · cases h
    · cases h
  · cases h

theorem sliceR_ok {t : TypeId} {x : Operand} {lo hi mx : Option Operand} {r : AV} (hs : Sim ρ g s w.heap) (ho : o.op = .slice t x lo hi mx) (hl : Lks ρ lk e)
    (h : sliceR P t s (lk x) (opt lk lo) (opt lk hi) (opt lk mx) = some r) : NO P w ρ e o r := by
  unfold sliceR at h
  split at h
  · rename_i v a b c hv ha hb hc
    have ha := opt_ok hl ha
    have hb := opt_ok hl hb
    have hc := opt_ok hl hc
    have hu := hl _ _ hv
    refine no_of (m := Instr.sliceAt t (e x) (lo.map e) (hi.map e) (mx.map e)) ?_ (by simp only [execOp, ho])
    have key : ∀ (arr : Option TypeDesc), cutR P arr s v a b c = some r → ∃ (n : Nat) (elem : TypeId) (p : Pl) (off sz : Nat), arr = some (.array n elem) ∧ size P elem = some sz ∧ e x = .pointer (some ⟨p.b, p.o + off, none⟩) ∧
        ∃ l h m, (Instr.sliceBounds false n n (lo.map e) (hi.map e) (mx.map e)).run P w = .ok (l, h, m) w ∧ VR ρ r (Value.slice (some (if m = l then (⟨p.b, p.o + off, none⟩ : Addr) else (⟨p.b, p.o + off, none⟩ : Addr).add (l * sz))) (h - l) (m - l)) := by
      intro arr h
      unfold cutR at h
      split at h
      · rename_i n elem
        split at h
        · rename_i l off _
          split at h
          · rename_i sz hsz
            split at h
            · rename_i row hrow
              split at h
              · rename_i hlen
                obtain ⟨p, hp, hx⟩ := hu.ptr_inv
                obtain ⟨p', cc, t', fr, hp', hh, hpn, hcc⟩ := row_ok hs hrow
                obtain rfl := Option.some.inj (hp.symm.trans hp')
                have hlen : off + n * (sz + 1) ≤ row.length := Nat.le_of_ble_eq_true hlen
                have hin : 0 < n → p.o + off + n * (sz + 1) ≤ p.n := by
                  intro hn0
                  have h0 : 0 < n * (sz + 1) := Nat.mul_pos hn0 (Nat.succ_pos _)
                  have hlt : off + n * (sz + 1) - 1 < row.length := by omega
                  have hn : nth row (off + n * (sz + 1) - 1) = some row[off + n * (sz + 1) - 1] := by rw [nth_eq]; exact List.getElem?_eq_getElem hlt
                  obtain ⟨v, hv, _⟩ := hcc _ _ hn
                  have := (Array.getElem?_eq_some_iff.1 hv).1
                  omega
                obtain ⟨l', h', m, hq, hr⟩ := cut_ok (P := P) (w := w) (isS := false) h hp (Nat.le_refl _) (Nat.le_refl _) (fun _ => rfl) (fun h0 => ⟨rfl, hin h0⟩) ha hb hc
                exact ⟨n, elem, p, off, sz + 1, rfl, hsz, hx, l', h', m, hq, hr⟩
              · cases h
            · cases h
          · cases h
        · cases h
      · cases h
    split at h
    · rename_i n elem ht
      obtain ⟨n', elem', p, off, sz, he, hsz, hx, l, h', m, h1, h2⟩ := key _ h
      cases he
      refine ⟨_, ?_, h2⟩
      rw [hx]
      simp only [Instr.sliceAt, Sem.run_bind, run_und ht, Result.andThen_ok, h1, run_size hsz, Sem.run_pure, Instr.sureAddr]
    · rename_i arr ht
      obtain ⟨n', elem', p, off, sz, he, hsz, hx, l, h', m, h1, h2⟩ := key _ h
      refine ⟨_, ?_, h2⟩
      rw [hx]
      simp only [Instr.sliceAt, Instr.slice, Sem.run_bind, run_und ht, run_und he, Result.andThen_ok, h1, run_size hsz, Sem.run_pure, asAddr]
    · cases h
  · cases h

theorem lenR_ok {c : Call} {r : AV} (hs : Sim ρ g s w.heap) (ho : o.op = .call c) (hl : Lks ρ lk e) (h : callR P lk s c = some r) : NO P w ρ e o r := by
  unfold callR at h
  split at h
  · rename_i hc
    unfold lenR at h
    split at h
    · rename_i x hx
      split at h
      · rename_i t ht
        split at h
        · rename_i kt et hu
          split at h
          · rename_i m hm
            split at h
            · rename_i es hes
              obtain rfl := Option.some.inj h
              have hargs : c.args = #[x] := Array.ext' (show c.args.toList = [x] from hx)
              refine no_of (m := Builtin.len_ c.argTypes o.type (c.args.map e)) ?_ (by rw [call_builtin ho hc]; rfl)
              rw [hargs]
              refine ⟨goInt es.length, ?_, rfl⟩
              rcases map_ok hs (hl _ _ hm) hes with ⟨hv, rfl⟩ | ⟨l, p, kk, es', _, hp, _, hv, hh, he⟩
              · simp only [Builtin.len_, ht, List.map_toArray, List.map_cons, List.map_nil]
                simp [run_und hu, hv]
              · have : es'.size = es.length := by simpa using he.length
                simp only [Builtin.len_, ht, List.map_toArray, List.map_cons, List.map_nil]
                simp [run_und hu, hv, getObj, Sem.run, hh, this]
            · cases h
          · cases h
        · cases h
      · cases h
    · cases h
  · cases h

theorem read1_ok {r : AV} (hs : Sim ρ g s w.heap) (hl : Lks ρ lk e) (h : read1 P lk o.op s = some r) : NO P w ρ e o r := by
  unfold read1 at h
  split at h <;> rename_i ho
  · exact load_ok hs ho hl h
  · exact lookup_ok hs ho hl h
  · exact convR_ok hs ho hl h
  · exact sliceR_ok hs ho hl h
  · exact lenR_ok hs ho hl h
  · cases h

end Go.Ev

/- An abstract evaluator over the model: the operations that lay a block are right. -/
namespace Go.Ev
variable {P : Program} {ρ : Pm} {g : Nat} {s : St} {w : World} {e : Operand → Value} {lk : Lk} {o : Oper}

/-- The operation lays one block, and gives a value. -/
def AO (P : Program) (w : World) (ρ : Pm) (e : Operand → Value) (o : Oper) (ob : AObj) (mk : Nat → AV) : Prop :=
  ∃ v w' ob' n, (execOp e o).run P w = .ok (.value v) w' ∧ w'.heap = w.heap.push ob' ∧ Out w w' ∧ ob.owned = true ∧
    ∀ (ρ' : Pm) (l : Nat), ρ.le ρ' → ρ' l = some ⟨w.heap.size, 0, n⟩ → VR ρ' (mk l) v ∧ ObjR ρ' ⟨w.heap.size, 0, n⟩ ob ob'

theorem cells_new {ρ' : Pm} (h : ρ.le ρ') {b : Nat} {l : List AV} {c : Array Value} {t : TypeId} (hl : VRs ρ l c.toList) : ObjR ρ' ⟨b, 0, c.size⟩ (.cells l) (.cells c t) := by
  refine ⟨c, t, (0, 0), rfl, rfl, fun i => by simp, fun i a ha => ?_⟩
  obtain ⟨v, hv, hr⟩ := VRs.nth (hl.mono h) ha
  exact ⟨v, by simpa using hv, hr⟩

theorem ao_of {m : Sem Value} {ob : AObj} {mk : Nat → AV} (he : execOp e o = (do pure (.value (← m))))
    (h : ∃ v w' ob' n, m.run P w = .ok v w' ∧ w'.heap = w.heap.push ob' ∧ Out w w' ∧ ob.owned = true ∧
      ∀ (ρ' : Pm) (l : Nat), ρ.le ρ' → ρ' l = some ⟨w.heap.size, 0, n⟩ → VR ρ' (mk l) v ∧ ObjR ρ' ⟨w.heap.size, 0, n⟩ ob ob') : AO P w ρ e o ob mk := by
  obtain ⟨v, w', ob', n, h1, h2⟩ := h
  exact ⟨v, w', ob', n, by rw [he]; simp [h1], h2⟩

theorem alloc_ok {t : TypeId} {ob : AObj} {mk : Nat → AV} (ho : o.op = .alloc t) (h : allocA (zero P t) = some (ob, mk)) : AO P w ρ e o ob mk := by
  unfold allocA at h
  split at h
  · rename_i z hz
    obtain ⟨rfl, rfl⟩ := Prod.mk.inj (Option.some.inj h)
    obtain ⟨zv, hzr, hzv⟩ := run_zero (P := P) (w := w) (ρ := ρ) hz
    refine ao_of (m := Instr.alloc t true (.tuple #[])) (by simp only [execOp, ho]) ⟨.pointer (some ⟨w.heap.size, 0, none⟩), w.alloc (.cells zv.cells t), .cells zv.cells t, zv.cells.size, ?_, rfl, ⟨rfl, rfl⟩, rfl, fun ρ' l hle hp => ⟨⟨_, hp, rfl⟩, cells_new hle hzv.cells⟩⟩
    simp [Instr.alloc, hzr, newVar, newRow]
  · cases h

theorem box_ok {t : TypeId} {x : Operand} {ob : AObj} {mk : Nat → AV} (ho : o.op = .box t x) (hl : Lks ρ lk e) (h : allocA (lk x) = some (ob, mk)) : AO P w ρ e o ob mk := by
  unfold allocA at h
  split at h
  · rename_i z hz
    obtain ⟨rfl, rfl⟩ := Prod.mk.inj (Option.some.inj h)
    have hu := hl _ _ hz
    refine ao_of (m := Instr.box t (e x)) (by simp only [execOp, ho]) ⟨.pointer (some ⟨w.heap.size, 0, none⟩), w.alloc (.cells (e x).cells t), .cells (e x).cells t, (e x).cells.size, ?_, rfl, ⟨rfl, rfl⟩, rfl, fun ρ' l hle hp => ⟨⟨_, hp, rfl⟩, cells_new hle hu.cells⟩⟩
    simp [Instr.box, newVar, newRow]
  · cases h

theorem copies_length (z : List AV) : ∀ n, (copies z n).length = n * z.length
  | 0 => by simp [copies]
  | n + 1 => by rw [copies, List.length_append, copies_length z n, Nat.add_mul]; omega

theorem copies_nth (z : List AV) : ∀ (n i : Nat), i < n * z.length → nth (copies z n) i = nth z (i % z.length)
  | 0, i, h => by simp at h
  | n + 1, i, h => by
    rw [copies, nth_eq]
    rcases Nat.lt_or_ge i z.length with hi | hi
    · rw [List.getElem?_append_left hi, Nat.mod_eq_of_lt hi, nth_eq]
    · rw [List.getElem?_append_right hi, ← nth_eq, copies_nth z n _ (by rw [Nat.add_mul] at h; omega)]
      congr 1
      rw [← Nat.mod_eq_sub_mod hi]

theorem zeros_ok {z : List AV} {zs : Array Value} (hz : VRs ρ z zs.toList) (n : Nat) {m : Nat} (hm : m = n * zs.size) : VRs ρ (copies z n) ((Array.range m).map (zs[· % zs.size]!)).toList := by
  subst hm
  have hlen : zs.size = z.length := by simpa using hz.length
  refine VRs.of_nth (by simp [copies_length, hlen]) (fun i a ha => ?_)
  have hi : i < n * z.length := by
    rw [nth_eq] at ha
    have := (List.getElem?_eq_some_iff.1 ha).1
    rwa [copies_length] at this
  rw [copies_nth z n i hi] at ha
  obtain ⟨v, hv, hr⟩ := VRs.nth hz ha
  refine ⟨v, ?_, hr⟩
  have hpos : 0 < z.length := by
    rcases Nat.eq_zero_or_pos z.length with h | h
    · rw [h] at hi; omega
    · exact h
  have hm : i % zs.size < zs.size := Nat.mod_lt _ (by omega)
  have hv' : zs[i % zs.size]? = some v := by rw [hlen]; simpa using hv
  have e1 : zs[i % zs.size]! = v := by
    rw [getElem!_def, hv']
  have hi' : i < n * zs.size := by rw [hlen]; exact hi
  simp [hi', e1]

theorem zeros_nil {n : Nat} (z : List AV) (h : n * z.length = 0) : copies z n = [] := by
  apply List.eq_nil_of_length_eq_zero
  rw [copies_length]
  exact h

theorem buildSlice_ok {t : TypeId} {len : Nat} {ps : Array (Nat × Operand)} {ob : AObj} {mk : Nat → AV} (ho : o.op = .buildSlice t len ps) (hl : Lks ρ lk e)
    (h : buildSliceA P t len (parts lk ps.toList) = some (ob, mk)) : AO P w ρ e o ob mk := by
  unfold buildSliceA at h
  split at h
  · rename_i elem hel
    have ht := elemD_ok hel
    split at h
    · rename_i l hp
      have hps := parts_ok hl hp
      split at h
      · rename_i n hn
        split at h
        · rename_i z hz
          split at h
          · rename_i hc
            obtain ⟨hc1, hc2⟩ : len * n ≤ 16777216 ∧ z.cells.length = n := by simpa using hc
            split at h
            · rename_i r hr
              obtain ⟨rfl, rfl⟩ := Prod.mk.inj (Option.some.inj h)
              obtain ⟨zv, hzr, hzv⟩ := run_zero (P := P) (w := w) (ρ := ρ) hz
              have hzc := hzv.cells
              have hzs : zv.cells.size = n := by rw [hzv.cells_size, hc2]
              have hfill : ∃ zs : Array Value, (len * n = 0 → zs = #[]) ∧ (len * n ≠ 0 → zs = zv.cells) ∧
                  VRs ρ (copies z.cells len) ((Array.range (len * n)).map (zs[· % zs.size]!)).toList := by
                by_cases h0 : len * n = 0
                · refine ⟨#[], fun _ => rfl, fun h => absurd h0 h, ?_⟩
                  rw [h0, zeros_nil _ (by rw [hc2]; exact h0)]
                  simp [VRs]
                · exact ⟨zv.cells, fun h => absurd h h0, fun _ => rfl, zeros_ok hzc len (by rw [hzs])⟩
              obtain ⟨zs, hz0, hz1, hz2⟩ := hfill
              obtain ⟨c', hc', hr'⟩ := fillA_ok hr hps hz2
              have he : (ps.map fun (x : Nat × Operand) => (x.1, e x.2)).toList = ps.toList.map fun (i, x) => (i, e x) := by simp
              have hlen : c'.size = len * n := by
                have h1 := hr'.length
                have h2 : ∀ {n : Nat} {ps : List (Nat × AV)} {cs r : List AV}, fillA n ps cs = some r → r.length = cs.length := by
                  intro n ps
                  induction ps with
                  | nil => intro cs r h; obtain rfl := Option.some.inj h; rfl
                  | cons p ps ih =>
                    intro cs r h
                    obtain ⟨i, a⟩ := p
                    simp only [fillA] at h
                    split at h
                    · split at h
                      · rename_i cs' hs
                        rw [ih h, (setAt_ok hs).2.1]
                      · cases h
                    · cases h
                rw [h2 hr, copies_length, hc2] at h1
                simpa using h1
              refine ao_of (m := Instr.buildSlice t len (ps.map fun (i, x) => (i, e x))) (by simp only [execOp, ho])
                ⟨.slice (some ⟨w.heap.size, 0, none⟩) len len, w.alloc (.cells c' elem), .cells c' elem, c'.size, ?_, rfl, ⟨rfl, rfl⟩, rfl, fun ρ' l hle hp => ⟨⟨_, _, len, hp, rfl, Nat.le_refl _, Nat.le_refl _, fun _ => rfl, fun _ => ⟨rfl, by simp [hlen]⟩⟩, cells_new hle hr'⟩⟩
              have hc1' : ¬ (len * n > 2 ^ 24) := by omega
              unfold Instr.buildSlice
              simp only [Sem.run_bind, run_und ht, Result.andThen_ok, run_size hn]
              rw [if_neg hc1']
              by_cases h0 : len * n = 0
              · obtain rfl := hz0 h0
                rw [if_pos h0]
                simp only [Sem.run_bind, Sem.run_pure, Result.andThen_ok, he, hc', newRow, run_newObj]
                rfl
              · obtain rfl := hz1 h0
                rw [if_neg h0]
                simp only [Sem.run_bind, Sem.run_pure, Result.andThen_ok, hzr, he, hc', newRow, run_newObj]
                rfl
            · cases h
          · cases h
        · cases h
      · cases h
    · cases h
  · cases h

theorem makeMap_ok {t : TypeId} {x : Option Operand} {ob : AObj} {mk : Nat → AV} (ho : o.op = .makeMap t x) (hl : Lks ρ lk e) (h : makeMapA lk (und P t) x = some (ob, mk)) : AO P w ρ e o ob mk := by
  have fin : ∀ {ob : AObj} {mk : Nat → AV}, ob = .map [] 0 → mk = (fun l => .map l) → (Instr.makeMap t (x.map e)).run P w = .ok (.map (some w.heap.size)) (w.alloc (.map #[] 0)) → AO P w ρ e o ob mk := by
    rintro ob mk rfl rfl hr
    exact ao_of (m := Instr.makeMap t (x.map e)) (by simp only [execOp, ho]) ⟨.map (some w.heap.size), w.alloc (.map #[] 0), .map #[] 0, 0, hr, rfl, ⟨rfl, rfl⟩, rfl, fun ρ' l hle hp => ⟨⟨_, hp, rfl⟩, #[], rfl, rfl⟩⟩
  cases x with
  | none =>
    obtain ⟨rfl, rfl⟩ := Prod.mk.inj (Option.some.inj h)
    exact fin rfl rfl rfl
  | some x =>
    simp only [makeMapA] at h
    split at h
    · rename_i kt et ht
      split at h
      · rename_i k n hx
        obtain ⟨rfl, rfl⟩ := Prod.mk.inj (Option.some.inj h)
        have hu := hl _ _ hx
        rw [VR.eq_2] at hu
        refine fin rfl rfl ?_
        simp [Instr.makeMap, run_und ht, hu, asInt, asIntOf]
      · cases h
    · cases h

theorem makeSlice_ok {t : TypeId} {x y : Operand} {ob : AObj} {mk : Nat → AV} (ho : o.op = .makeSlice t x y) (hl : Lks ρ lk e) (h : makeSliceA P t (lk x) (lk y) = some (ob, mk)) : AO P w ρ e o ob mk := by
  unfold makeSliceA at h
  split at h
  · rename_i elem hel
    have ht := elemD_ok hel
    split at h
    · rename_i k l hx
      split at h
      · rename_i k' c hy
        split at h
        · rename_i i hi
          split at h
          · rename_i z hz
            split at h
            · rename_i hc
              obtain ⟨h1, h2, h3, h4⟩ : l ≤ c ∧ c ≤ maxText ∧ i.bytes * c ≤ 281474976710656 ∧ z.cells.length = i.size := by simpa using hc
              simp only [fnat_eq] at h
              obtain ⟨rfl, rfl⟩ := Prod.mk.inj (Option.some.inj h)
              have hux := hl _ _ hx
              have huy := hl _ _ hy
              rw [VR.eq_2] at hux huy
              obtain ⟨zv, hzr, hzv⟩ := run_zero (P := P) (w := w) (ρ := ρ) hz
              have hzs : zv.cells.size = i.size := by rw [hzv.cells_size, h4]
              have hsize : (Go.sizeOf elem).run P w = .ok i.size w := by simp [Go.sizeOf, run_info hi]
              have hfill : ∃ zs : Array Value, (c * i.size = 0 → zs = #[]) ∧ (c * i.size ≠ 0 → zs = zv.cells) ∧
                  VRs ρ (copies z.cells c) ((Array.range (c * i.size)).map (zs[· % zs.size]!)).toList := by
                by_cases h0 : c * i.size = 0
                · refine ⟨#[], fun _ => rfl, fun h => absurd h0 h, ?_⟩
                  rw [h0, zeros_nil _ (by rw [h4]; exact h0)]
                  simp [VRs]
                · exact ⟨zv.cells, fun h => absurd h h0, fun _ => rfl, zeros_ok hzv.cells c (by rw [hzs])⟩
              obtain ⟨zs, hz0, hz1, hz2⟩ := hfill
              have hn : ((Array.range (c * i.size)).map (zs[· % zs.size]!)).size = c * i.size := by simp
              have hwl : IntKind.i64.wrap (Int.ofNat l) = (l : Int) := by
                unfold maxText at h2
                exact wrap_of _ (by simp) (by simp; omega)
              have hwc : IntKind.i64.wrap (Int.ofNat c) = (c : Int) := by
                unfold maxText at h2
                exact wrap_of _ (by simp) (by simp; omega)
              refine ao_of (m := Instr.makeSlice t (e x) (e y)) (by simp only [execOp, ho])
                ⟨.slice (some ⟨w.heap.size, 0, none⟩) l c, w.alloc (.cells ((Array.range (c * i.size)).map (zs[· % zs.size]!)) elem), .cells ((Array.range (c * i.size)).map (zs[· % zs.size]!)) elem, c * i.size, ?_, rfl, ⟨rfl, rfl⟩, rfl, fun ρ' l' hle hp => ⟨⟨_, _, c, hp, rfl, h1, Nat.le_refl _, fun _ => rfl, fun _ => ⟨rfl, by simp⟩⟩, ?_⟩⟩
              · unfold Instr.makeSlice
                simp only [Sem.run_bind, run_und ht, Result.andThen_ok, hux, huy, asInt, asIntOf, Sem.run_pure, run_info hi, hwl, hwc]
                have hb : ((fun n : Int => n < 0 || (i.bytes : Int) * n > 2 ^ 48) (c : Int) || decide ((l : Int) < 0) || decide ((l : Int) > (c : Int))) = false := by
                  have h3' : ((i.bytes * c : Nat) : Int) ≤ ((281474976710656 : Nat) : Int) := Int.ofNat_le.2 h3
                  rw [Int.natCast_mul] at h3'
                  simp only [Bool.or_eq_false_iff, decide_eq_false_iff_not]
                  refine ⟨⟨⟨by omega, by omega⟩, by omega⟩, by omega⟩
                simp only [hb, Bool.false_eq_true, if_false]
                simp only [Sem.run_bind, run_askRoom, Result.andThen_ok, hsize, Int.toNat_natCast]
                by_cases h0 : c * i.size = 0
                · obtain rfl := hz0 h0
                  rw [if_pos h0]
                  simp only [Sem.run_bind, Sem.run_pure, Result.andThen_ok, newRow, run_newObj]
                  rfl
                · obtain rfl := hz1 h0
                  rw [if_neg h0]
                  simp only [Sem.run_bind, Sem.run_pure, Result.andThen_ok, hzr, newRow, run_newObj]
                  rfl
              · have := cells_new (t := elem) (b := w.heap.size) hle hz2
                rwa [hn] at this
            · cases h
          · cases h
        · cases h
      · cases h
    · cases h
  · cases h

theorem bytesAV_ok : ∀ (l : List UInt8), VRs ρ (bytesAV l) (l.map fun b => Value.int .u8 b.toNat)
  | [] => rfl
  | _b :: r => ⟨_, _, rfl, rfl, bytesAV_ok r⟩

theorem bytesAV_len : ∀ (l : List UInt8), (bytesAV l).length = l.length
  | [] => rfl
  | _ :: r => by simp [bytesAV, bytesAV_len r]

theorem modify_push (h : Array Obj) (x : Obj) (f : Obj → Obj) : (h.push x).modify h.size f = h.push (f x) := by
  apply Array.ext_getElem?
  intro i
  rw [Array.getElem?_modify]
  by_cases hi : h.size = i
  · subst hi; simp
  · rw [if_neg hi, Array.getElem?_push, Array.getElem?_push]
    have : ¬ i = h.size := fun e => hi e.symm
    simp [this]

theorem convA_ok {src dst : TypeId} {x : Operand} {ob : AObj} {mk : Nat → AV} (ho : o.op = .convert src dst x) (hl : Lks ρ lk e) (h : convA P src dst (lk x) = some (ob, mk)) : AO P w ρ e o ob mk := by
  unfold convA at h
  split at h
  · rename_i st hx
    split at h
    · rename_i d hsrc
      split at h
      · rename_i el hel
        have hdst := elemD_ok hel
        split at h
        · rename_i hb
          obtain ⟨hel', _⟩ := isByteSlice_ok hb
          simp only [fnat_eq] at h
          obtain ⟨rfl, rfl⟩ := Prod.mk.inj (Option.some.inj h)
          have hu := hl _ _ hx
          rw [VR.eq_3] at hu
          obtain ⟨c, hcut, hcn⟩ : ∃ c, (Question.appendCap st.length 0 el).cut (w.tape w.drawn (.appendCap st.length 0 el)) = c ∧ st.length ≤ c := ⟨_, rfl, by simp [Question.cut]⟩
          obtain ⟨arr, harr⟩ : ∃ arr : Array Value, arr = (st.map fun b => Value.int .u8 b.toNat).toArray ++ Array.replicate (c - st.length) (.int .u8 0) := ⟨_, rfl⟩
          have hsz : arr.size = c := by rw [harr]; simp; omega
          refine ao_of (m := convert src dst (e x)) (by simp only [execOp, ho])
            ⟨.slice (some ⟨w.heap.size, 0, none⟩) st.length c, { w.drew with heap := w.heap.push (.cells arr el (c, c + 1)) }, .cells arr el (c, c + 1), c, ?_, rfl, ⟨rfl, rfl⟩, rfl, fun ρ' l hle hp => ⟨⟨_, _, c, hp, rfl, Nat.le_refl _, hcn, (fun e => by cases e), fun _ => ⟨rfl, by simp⟩⟩, arr, el, (c, c + 1), rfl, hsz, fun i a ha => ?_⟩⟩
          · rw [hu]
            have e1 : (convert src dst (.string ⟨⟨st⟩⟩)).run P w = (Conv.stringToBytes el ⟨⟨st⟩⟩).run P w := by
              simp only [convert, Sem.run_bind, run_und hsrc, run_und hdst, Result.andThen_ok]
              cases d <;> simp only [run_und hel', Result.andThen_ok]
            rw [e1]
            unfold Conv.stringToBytes
            have e2 : (⟨⟨st⟩⟩ : ByteArray).size = st.length := rfl
            have e3 : Question.forced (.appendCap st.length 0 el) = false := rfl
            simp only [Sem.run_bind, run_choose, e2, e3, Bool.false_eq_true, if_false, Result.andThen_ok, hcut]
            have e4 : ((⟨⟨st⟩⟩ : ByteArray).data.map fun b => Value.int .u8 b.toNat) ++ Array.replicate (c - st.length) (.int .u8 0) = arr := by rw [harr]; simp
            simp only [e4, newRow, Sem.run_bind, run_newObj, Result.andThen_ok, Sem.run_pure, markStringish, run_shape]
            have e5 : ({ w with drawn := w.drawn + 1, heap := w.heap.push (.cells arr el) } : World).shape? w.heap.size = some (el, c) := by
              simp [World.shape?, hsz]
            simp only [e5, run_freeze, Result.andThen_ok, World.freeze]
            simp only [Nat.one_ne_zero, if_false, modify_push]
            rfl
          · obtain ⟨v, hv, hr⟩ := VRs.nth (bytesAV_ok (ρ := ρ') st) ha
            refine ⟨v, ?_, hr⟩
            rw [harr]
            have hi : i < st.length := by
              have := (List.getElem?_eq_some_iff.1 hv).1
              simpa using this
            simp only [Nat.zero_add]
            rw [Array.getElem?_append_left (by simpa using hi)]
            simpa using hv
        · cases h
      · cases h
    · cases h
  · cases h

theorem rangeA_ok {t : TypeId} {x : Operand} {ob : AObj} {mk : Nat → AV} (ho : o.op = .range t x) (hl : Lks ρ lk e) (h : rangeA P t (lk x) = some (ob, mk)) : AO P w ρ e o ob mk := by
  unfold rangeA at h
  split at h
  · rename_i ht
    split at h
    · rename_i st hx
      obtain ⟨rfl, rfl⟩ := Prod.mk.inj (Option.some.inj h)
      have hu := hl _ _ hx
      rw [VR.eq_3] at hu
      refine ao_of (m := Instr.range t (e x)) (by simp only [execOp, ho]) ⟨.pointer (some ⟨w.heap.size, 0, none⟩), w.alloc (.stringIter ⟨⟨st⟩⟩ 0), .stringIter ⟨⟨st⟩⟩ 0, 0, ?_, rfl, ⟨rfl, rfl⟩, rfl, fun ρ' l hle hp => ⟨⟨_, hp, rfl⟩, rfl, rfl⟩⟩
      simp [Instr.range, run_und ht, hu]
    · cases h
  · cases h

theorem alloc1_ok {ob : AObj} {mk : Nat → AV} (hl : Lks ρ lk e) (h : alloc1 P lk o.op = some (ob, mk)) : AO P w ρ e o ob mk := by
  unfold alloc1 at h
  split at h <;> rename_i ho
  · exact alloc_ok ho h
  · exact box_ok ho hl h
  · exact buildSlice_ok ho hl h
  · exact makeMap_ok ho hl h
  · exact makeSlice_ok ho hl h
  · exact convA_ok ho hl h
  · exact rangeA_ok ho hl h
  · cases h

end Go.Ev

/- An abstract evaluator over the model: changes of memory. -/
namespace Go.Ev
variable {P : Program} {ρ : Pm} {g : Nat} {s : St} {w : World} {e : Operand → Value} {lk : Lk} {o : Oper}

theorem look_put (s : St) (l l' : Nat) (ob : AObj) : (s.put l ob).look l' = if l' = l then some ob else s.look l' := by
  unfold St.look St.put
  by_cases h : l' = l
  · subst h; rw [if_pos rfl, T.get_set_same]
  · rw [if_neg h, T.get_set_ne _ (key_ne (fun e => h e.symm))]
theorem look_add (s : St) (l' : Nat) (ob : AObj) : (s.add ob).look l' = if l' = s.nx then some ob else s.look l' := by
  unfold St.look St.add
  by_cases h : l' = s.nx
  · subst h; rw [if_pos rfl, T.get_set_same]
  · rw [if_neg h, T.get_set_ne _ (key_ne (fun e => h e.symm))]
theorem look_kill (s : St) (l l' : Nat) : (s.kill l).look l' = if l' = l then none else s.look l' := by
  unfold St.look St.kill
  by_cases h : l' = l
  · subst h; rw [if_pos rfl, T.get_set_same]
  · rw [if_neg h, T.get_set_ne _ (key_ne (fun e => h e.symm))]

/-- One place more. -/
def Pm.upd (ρ : Pm) (l : Nat) (p : Pl) : Pm := fun k => if k = l then some p else ρ k
theorem Pm.upd_same (ρ : Pm) (l : Nat) (p : Pl) : ρ.upd l p l = some p := if_pos rfl
theorem Pm.upd_ne {ρ : Pm} {l k : Nat} {p : Pl} (h : k ≠ l) : ρ.upd l p k = ρ k := if_neg h
theorem Pm.le_upd {ρ : Pm} {l : Nat} {p : Pl} (h : ρ l = none) : ρ.le (ρ.upd l p) := fun k q e => by
  rw [Pm.upd_ne]; exact e
  intro hk; rw [hk, h] at e; cases e

theorem Sim.lt {h : Array Obj} (hs : Sim ρ g s h) {l : Nat} {ob : AObj} {p : Pl} (hl : s.look l = some ob) (hp : ρ l = some p) : p.b < h.size := by
  obtain ⟨p', o, hp', hh, _⟩ := hs.obj l ob hl
  obtain rfl := Option.some.inj (hp.symm.trans hp')
  exact (Array.getElem?_eq_some_iff.1 hh).1

theorem Sim.lt_nx {h : Array Obj} (hs : Sim ρ g s h) {l : Nat} {p : Pl} (hp : ρ l = some p) : l < s.nx := by
  rcases Nat.lt_or_ge l s.nx with h | h
  · exact h
  · rw [hs.fresh l h] at hp; cases hp

theorem Sim.glob_lt {h : Array Obj} (hs : Sim ρ g s h) {i : Nat} (hi : i < g) : i < s.nx := by
  obtain ⟨n, hn⟩ := hs.glob i hi
  exact hs.lt_nx hn

/-- A block turns, and nothing else. -/
theorem sim_put {h h' : Array Obj} {l : Nat} {ob ob' : AObj} {p : Pl} {x : Obj} (hs : Sim ρ g s h) (hl : s.look l = some ob) (hown : ob.owned = true) (_hown' : ob'.owned = true) (hp : ρ l = some p)
    (hsz : h'.size = h.size) (hb : h'[p.b]? = some x) (hx : ObjR ρ p ob' x) (hother : ∀ b : Nat, b ≠ p.b → h'[b]? = h[b]?) :
    Sim ρ g (s.put l ob') h' ∧ Ste ρ s h ρ (s.put l ob') h' := by
  refine ⟨⟨fun l' ob1 h1 => ?_, fun l1 l2 ob1 ob2 p1 p2 h1 h2 h3 h4 h5 h6 => ?_, hs.fresh, hs.glob⟩, ⟨Nat.le_refl _, fun _ _ => rfl, by omega, fun b hb' hf => ?_, fun l1 ob1 p1 h1 h3 => ?_⟩⟩
  · rw [look_put] at h1
    by_cases e1 : l' = l
    · subst e1
      rw [if_pos rfl] at h1
      obtain rfl := Option.some.inj h1
      exact ⟨p, x, hp, hb, hx⟩
    · rw [if_neg e1] at h1
      obtain ⟨p1, o1, hp1, hh1, hr1⟩ := hs.obj _ _ h1
      refine ⟨p1, o1, hp1, ?_, hr1⟩
      rw [hother _ (fun e => hs.sep l l' ob ob1 p p1 hl h1 hown (fun e => e1 e.symm) hp hp1 e.symm)]
      exact hh1
  · rw [look_put] at h1 h2
    by_cases e1 : l1 = l
    · rw [if_pos e1] at h1
      subst e1
      rw [if_neg (fun e => h4 e.symm)] at h2
      exact hs.sep l1 l2 ob ob2 p1 p2 hl h2 hown h4 h5 h6
    · rw [if_neg e1] at h1
      by_cases e2 : l2 = l
      · subst e2
        exact hs.sep l1 l2 ob1 ob p1 p2 h1 hl h3 h4 h5 h6
      · rw [if_neg e2] at h2
        exact hs.sep l1 l2 ob1 ob2 p1 p2 h1 h2 h3 h4 h5 h6
  · exact hother b (fun e => hf l ob p hl hown hp e.symm)
  · rw [look_put] at h1
    by_cases e1 : l1 = l
    · subst e1
      obtain rfl := Option.some.inj (hp.symm.trans h3)
      exact .inr ⟨l1, ob, p, hl, fun _ => hown, hp, rfl⟩
    · rw [if_neg e1] at h1
      exact .inr ⟨l1, ob1, p1, h1, id, h3, rfl⟩

/-- A block more. -/
theorem sim_add {h : Array Obj} {ob : AObj} {x : Obj} {n : Nat} (hs : Sim ρ g s h) (hx : ObjR (ρ.upd s.nx ⟨h.size, 0, n⟩) ⟨h.size, 0, n⟩ ob x) :
    Sim (ρ.upd s.nx ⟨h.size, 0, n⟩) g (s.add ob) (h.push x) ∧ Ste ρ s h (ρ.upd s.nx ⟨h.size, 0, n⟩) (s.add ob) (h.push x) := by
  have hle : ρ.le (ρ.upd s.nx ⟨h.size, 0, n⟩) := Pm.le_upd (hs.fresh _ (Nat.le_refl _))
  have hne : ∀ {l p}, ρ l = some p → l ≠ s.nx := fun hp e => by have := hs.lt_nx hp; omega
  have hold : ∀ l, (ρ.upd s.nx ⟨h.size, 0, n⟩) l = ρ l ∨ l = s.nx := fun l => by
    by_cases e : l = s.nx
    · exact .inr e
    · exact .inl (Pm.upd_ne e)
  have hpush : ∀ b : Nat, b < h.size → (h.push x)[b]? = h[b]? := fun b hb => by rw [Array.getElem?_push, if_neg (by omega)]
  refine ⟨⟨fun l ob1 h1 => ?_, fun l1 l2 ob1 ob2 p1 p2 h1 h2 h3 h4 h5 h6 => ?_, fun l hl => ?_, fun i hi => ?_⟩, ⟨Nat.le_succ _, fun l hl => Pm.upd_ne (by omega), by simp, fun b hb _ => hpush b hb, fun l ob1 p1 h1 h3 => ?_⟩⟩
  · rw [look_add] at h1
    by_cases e1 : l = s.nx
    · rw [if_pos e1] at h1
      obtain rfl := Option.some.inj h1
      subst e1
      exact ⟨_, x, Pm.upd_same _ _ _, by simp, hx⟩
    · rw [if_neg e1] at h1
      obtain ⟨p1, o1, hp1, hh1, hr1⟩ := hs.obj _ _ h1
      exact ⟨p1, o1, hle _ _ hp1, by rw [hpush _ (hs.lt h1 hp1)]; exact hh1, hr1.mono hle⟩
  · rw [look_add] at h1 h2
    by_cases e1 : l1 = s.nx
    · subst e1
      rw [Pm.upd_same] at h5
      obtain rfl := Option.some.inj h5
      rw [if_neg (fun e => h4 e.symm)] at h2
      rw [Pm.upd_ne (fun e => h4 e.symm)] at h6
      have := hs.lt h2 h6
      simp only
      omega
    · rw [if_neg e1] at h1
      rw [Pm.upd_ne e1] at h5
      by_cases e2 : l2 = s.nx
      · subst e2
        rw [Pm.upd_same] at h6
        obtain rfl := Option.some.inj h6
        have := hs.lt h1 h5
        simp only
        omega
      · rw [if_neg e2] at h2
        rw [Pm.upd_ne e2] at h6
        exact hs.sep l1 l2 ob1 ob2 p1 p2 h1 h2 h3 h4 h5 h6
  · have hl : s.nx + 1 ≤ l := hl
    rw [Pm.upd_ne (by omega)]
    exact hs.fresh l (by omega)
  · obtain ⟨m, hm⟩ := hs.glob i hi
    exact ⟨m, hle _ _ hm⟩
  · rw [look_add] at h1
    by_cases e1 : l = s.nx
    · subst e1
      rw [Pm.upd_same] at h3
      obtain rfl := Option.some.inj h3
      exact .inl (Nat.le_refl _)
    · rw [if_neg e1] at h1
      rw [Pm.upd_ne e1] at h3
      exact .inr ⟨l, ob1, p1, h1, id, h3, rfl⟩

/-- A block under another name. -/
theorem sim_move {h h' : Array Obj} {l : Nat} {ob ob' : AObj} {p q : Pl} {x : Obj} (hs : Sim ρ g s h) (hl : s.look l = some ob) (hown : ob.owned = true) (hp : ρ l = some p) (hq : q.b = p.b)
    (hsz : h'.size = h.size) (hb : h'[p.b]? = some x) (hx : ObjR (ρ.upd s.nx q) q ob' x) (hother : ∀ b : Nat, b ≠ p.b → h'[b]? = h[b]?) :
    Sim (ρ.upd s.nx q) g ((s.kill l).add ob') h' ∧ Ste ρ s h (ρ.upd s.nx q) ((s.kill l).add ob') h' := by
  have hle : ρ.le (ρ.upd s.nx q) := Pm.le_upd (hs.fresh _ (Nat.le_refl _))
  have hnx : (s.kill l).nx = s.nx := rfl
  have look : ∀ l', ((s.kill l).add ob').look l' = if l' = s.nx then some ob' else if l' = l then none else s.look l' := fun l' => by
    rw [look_add, look_kill, hnx]
  refine ⟨⟨fun l' ob1 h1 => ?_, fun l1 l2 ob1 ob2 p1 p2 h1 h2 h3 h4 h5 h6 => ?_, fun l' hl' => ?_, fun i hi => ?_⟩, ⟨Nat.le_succ _, fun l' hl' => Pm.upd_ne (by omega), by omega, fun b hb' hf => ?_, fun l1 ob1 p1 h1 h3 => ?_⟩⟩
  · rw [look] at h1
    by_cases e1 : l' = s.nx
    · rw [if_pos e1] at h1
      obtain rfl := Option.some.inj h1
      subst e1
      exact ⟨q, x, Pm.upd_same _ _ _, by rw [hq]; exact hb, hx⟩
    · rw [if_neg e1] at h1
      by_cases e2 : l' = l
      · rw [if_pos e2] at h1; cases h1
      · rw [if_neg e2] at h1
        obtain ⟨p1, o1, hp1, hh1, hr1⟩ := hs.obj _ _ h1
        refine ⟨p1, o1, hle _ _ hp1, ?_, hr1.mono hle⟩
        rw [hother _ (fun e => hs.sep l l' ob ob1 p p1 hl h1 hown (fun e => e2 e.symm) hp hp1 e.symm)]
        exact hh1
  · rw [look] at h1 h2
    by_cases e1 : l1 = s.nx
    · subst e1
      rw [Pm.upd_same] at h5
      obtain rfl := Option.some.inj h5
      rw [if_neg (fun e => h4 e.symm)] at h2
      rw [Pm.upd_ne (fun e => h4 e.symm)] at h6
      by_cases e2 : l2 = l
      · rw [if_pos e2] at h2; cases h2
      · rw [if_neg e2] at h2
        rw [hq]
        exact hs.sep l l2 ob ob2 p p2 hl h2 hown (fun e => e2 e.symm) hp h6
    · rw [if_neg e1] at h1
      rw [Pm.upd_ne e1] at h5
      by_cases e3 : l1 = l
      · rw [if_pos e3] at h1; cases h1
      · rw [if_neg e3] at h1
        by_cases e2 : l2 = s.nx
        · subst e2
          rw [Pm.upd_same] at h6
          obtain rfl := Option.some.inj h6
          rw [hq]
          exact hs.sep l1 l ob1 ob p1 p h1 hl h3 e3 h5 hp
        · rw [if_neg e2] at h2
          rw [Pm.upd_ne e2] at h6
          by_cases e4 : l2 = l
          · rw [if_pos e4] at h2; cases h2
          · rw [if_neg e4] at h2
            exact hs.sep l1 l2 ob1 ob2 p1 p2 h1 h2 h3 h4 h5 h6
  · have hl' : s.nx + 1 ≤ l' := hl'
    rw [Pm.upd_ne (by omega)]
    exact hs.fresh l' (by omega)
  · obtain ⟨m, hm⟩ := hs.glob i hi
    exact ⟨m, hle _ _ hm⟩
  · exact hother b (fun e => hf l ob p hl hown hp e.symm)
  · rw [look] at h1
    by_cases e1 : l1 = s.nx
    · subst e1
      rw [Pm.upd_same] at h3
      obtain rfl := Option.some.inj h3
      exact .inr ⟨l, ob, p, hl, fun _ => hown, hp, hq.symm⟩
    · rw [if_neg e1] at h1
      rw [Pm.upd_ne e1] at h3
      by_cases e2 : l1 = l
      · rw [if_pos e2] at h1; cases h1
      · rw [if_neg e2] at h1
        exact .inr ⟨l1, ob1, p1, h1, id, h3, rfl⟩

/-- A name is forgotten. -/
theorem sim_kill {h : Array Obj} {l : Nat} (hs : Sim ρ g s h) : Sim ρ g (s.kill l) h := by
  refine ⟨fun l' ob1 h1 => ?_, fun l1 l2 ob1 ob2 p1 p2 h1 h2 h3 h4 h5 h6 => ?_, hs.fresh, hs.glob⟩
  · rw [look_kill] at h1
    by_cases e : l' = l
    · rw [if_pos e] at h1; cases h1
    · rw [if_neg e] at h1; exact hs.obj _ _ h1
  · rw [look_kill] at h1 h2
    by_cases e : l1 = l
    · rw [if_pos e] at h1; cases h1
    · rw [if_neg e] at h1
      by_cases e' : l2 = l
      · rw [if_pos e'] at h2; cases h2
      · rw [if_neg e'] at h2; exact hs.sep l1 l2 ob1 ob2 p1 p2 h1 h2 h3 h4 h5 h6

theorem ste_kill {h : Array Obj} {l : Nat} : Ste ρ s h ρ (s.kill l) h :=
  ⟨Nat.le_refl _, fun _ _ => rfl, Nat.le_refl _, fun _ _ _ => rfl, fun l1 ob1 p1 h1 h3 => by
    rw [look_kill] at h1
    by_cases e : l1 = l
    · rw [if_pos e] at h1; cases h1
    · rw [if_neg e] at h1; exact .inr ⟨l1, ob1, p1, h1, id, h3, rfl⟩⟩

theorem storeCells_ok {b ofs : Nat} {t : TypeId} {fr : Nat × Nat} : ∀ (vs : List Value) (i : Nat) (c : Array Value) (w : World), w.heap[b]? = some (.cells c t fr) → (∀ v ∈ vs, v.oneCell' = true) →
    (vs = [] ∨ ofs + i + vs.length ≤ c.size) → (∀ j, j < c.size → ¬ (fr.1 ≤ j ∧ j < fr.2)) →
    ∃ w', (storeCells ⟨b, ofs, none⟩ vs i).run P w = .ok () w' ∧ w'.heap.size = w.heap.size ∧ w'.heap[b]? = some (.cells (sets c (ofs + i) vs) t fr) ∧ (∀ k : Nat, k ≠ b → w'.heap[k]? = w.heap[k]?) ∧ Out w w'
  | [], i, c, w, h, _, _, _ => ⟨w, by simp [storeCells], rfl, h, fun _ _ => rfl, Out.refl w⟩
  | v :: vs, i, c, w, h, h1, h2, h3 => by
    have h2 : ofs + i + (vs.length + 1) ≤ c.size := by simpa using h2
    have hlt : ofs + i < c.size := by omega
    have hadd : (⟨b, ofs, none⟩ : Addr).add i = ⟨b, ofs + i, none⟩ := addr_add _ _ _
    have hcell : w.cell? ⟨b, ofs + i, none⟩ = some c[ofs + i] := by rw [cell_of h]; exact Array.getElem?_eq_getElem hlt
    have hfr : w.frozen? ⟨b, ofs + i, none⟩ = false := by
      simp only [World.frozen?, h]
      have := h3 _ hlt
      cases hh : (decide (fr.1 ≤ ofs + i) && decide (ofs + i < fr.2)) with
      | false => rfl
      | true => simp at hh; exact absurd hh this
    have hset : (w.setCell ⟨b, ofs + i, none⟩ v).heap[b]? = some (.cells (c.setIfInBounds (ofs + i) v) t fr) := by
      simp [World.setCell, Array.getElem?_modify, h]
    have hroom : vs = [] ∨ ofs + (i + 1) + vs.length ≤ (c.setIfInBounds (ofs + i) v).size := by right; simp; omega
    obtain ⟨w', r1, r2, r3, r4, r5⟩ := storeCells_ok vs (i + 1) (c.setIfInBounds (ofs + i) v) _ hset (fun u hu => h1 u (List.mem_cons_of_mem _ hu)) hroom (by simpa using h3)
    refine ⟨w', ?_, ?_, r3, fun k hk => ?_, ?_⟩
    · simp only [storeCells, Sem.run_bind, hadd, run_store P w _ v _ (h1 v (List.mem_cons_self ..)), hcell, hfr, Bool.false_eq_true, if_false, Result.andThen_ok]
      exact r1
    · rw [r2]; simp [World.setCell]
    · rw [r4 k hk]
      simp [World.setCell, Array.getElem?_modify, Ne.symm hk]
    · exact Out.trans ⟨rfl, rfl⟩ r5

theorem CellsR.sets {p : Pl} {r r' vs : List AV} {us : List Value} {c : Array Value} {off : Nat} (hc : CellsR ρ p r c) (h : setAt r off vs = some r') (hv : VRs ρ vs us) :
    (us = [] ∨ p.o + off + us.length ≤ c.size) ∧ CellsR ρ p r' (Ev.sets c (p.o + off) us) := by
  obtain ⟨h1, h2, h3⟩ := setAt_ok h
  have hlen := hv.length
  have hb : us = [] ∨ p.o + off + us.length ≤ c.size := by
    rcases h1 with h1 | h1
    · subst h1; exact .inl hv
    · cases us with
      | nil => exact .inl rfl
      | cons u us =>
        right
        have hlt : off + vs.length - 1 < r.length := by simp at hlen; omega
        have hn : nth r (off + vs.length - 1) = some r[off + vs.length - 1] := by rw [nth_eq]; exact List.getElem?_eq_getElem hlt
        obtain ⟨v, hv, _⟩ := hc _ _ hn
        have := (Array.getElem?_eq_some_iff.1 hv).1
        simp at hlen ⊢
        omega
  refine ⟨hb, fun i a ha => ?_⟩
  rw [h3] at ha
  rcases hb with hb | hb
  · subst hb
    have hvs : vs = [] := List.eq_nil_of_length_eq_zero (by simpa using hlen.symm)
    subst hvs
    rw [if_neg (by simp only [List.length_nil]; omega)] at ha
    exact hc _ _ ha
  · have hget := sets_get us c (p.o + off) hb (p.o + i)
    split at ha
    · rename_i hi
      obtain ⟨v, hv', hr⟩ := VRs.nth hv ha
      refine ⟨v, ?_, hr⟩
      rw [hget, if_pos (by omega)]
      have : p.o + i - (p.o + off) = i - off := by omega
      rw [this]
      exact hv'
    · rename_i hi
      obtain ⟨v, hv', hr⟩ := hc _ _ ha
      refine ⟨v, ?_, hr⟩
      rw [hget, if_neg (by omega)]
      exact hv'

/-- The operation changes memory, and gives a value. -/
def LO (P : Program) (g : Nat) (ρ : Pm) (s : St) (w : World) (e : Operand → Value) (o : Oper) (a : AV) (s' : St) : Prop :=
  ∃ u w' ρ', ((execOp e o).run P w = .ok (.value u) w' ∨ ((execOp e o).run P w = .ok .skip w' ∧ u = undef)) ∧ VR ρ' a u ∧ Sim ρ' g s' w'.heap ∧ Ste ρ s w.heap ρ' s' w'.heap ∧ Out w w'

/-- Cells of a row are written. -/
theorem write_ok {l : Nat} {r r' vs : List AV} {us : List Value} {p : Pl} {off : Nat} (hs : Sim ρ g s w.heap) (hl : s.look l = some (.cells r)) (hp : ρ l = some p) (h : setAt r off vs = some r') (hv : VRs ρ vs us)
    (h1 : ∀ v ∈ us, v.oneCell' = true) :
    ∃ w', (storeCells ⟨p.b, p.o + off, none⟩ us).run P w = .ok () w' ∧ Sim ρ g (s.put l (.cells r')) w'.heap ∧ Ste ρ s w.heap ρ (s.put l (.cells r')) w'.heap ∧ Out w w' := by
  obtain ⟨p', ob, hp', hh, c, t, fr, rfl, hsz, hfr, hc⟩ := hs.obj _ _ hl
  obtain rfl := Option.some.inj (hp.symm.trans hp')
  obtain ⟨hb, hc'⟩ := hc.sets h hv
  obtain ⟨w', r1, r2, r3, r4, r5⟩ := storeCells_ok (P := P) us 0 c w hh h1 (by simpa using hb) (fun j _ => hfr j)
  obtain ⟨q1, q2⟩ := sim_put (ob' := .cells r') hs hl rfl rfl hp r2 r3 ⟨_, t, fr, rfl, by rw [sets_size]; exact hsz, hfr, hc'⟩ r4
  exact ⟨w', r1, q1, q2, r5⟩

theorem flat_all : ∀ {l : List AV} {us : List Value}, VRs ρ l us → flats l = true → ∀ v ∈ us, v.oneCell' = true
  | [], _, h, _ => by obtain rfl := h; simp
  | a :: l, _, ⟨v, r, rfl, h, h'⟩, hf => by
    simp [flats] at hf
    intro u hu
    cases hu with
    | head => exact h.one hf.1
    | tail _ hu => exact flat_all h' hf.2 u hu

theorem putO_ok {s : St} {l : Nat} {v : AV} {r : Option (List AV)} {a : AV} {s' : St} (h : putO s l v r = some (a, s')) : ∃ r', r = some r' ∧ a = v ∧ s' = s.put l (.cells r') := by
  cases r with
  | none => cases h
  | some r' =>
    obtain ⟨rfl, rfl⟩ := Prod.mk.inj (Option.some.inj h)
    exact ⟨r', rfl, rfl, rfl⟩

theorem store_ok {t : TypeId} {x y : Operand} {a : AV} {s' : St} (hs : Sim ρ g s w.heap) (ho : o.op = .store t x y) (hl : Lks ρ lk e) (h : storeL s (lk x) (lk y) (size P t) = some (a, s')) :
    LO P g ρ s w e o a s' := by
  unfold storeL at h
  split at h
  · rename_i l off hx
    split at h
    · rename_i v hy
      split at h
      · rename_i n hn
        split at h
        · rename_i hc
          obtain ⟨hc1, hc2⟩ : v.cells.length = n ∧ flats v.cells = true := by
            cases h1 : Nat.beq v.cells.length n <;> cases h2 : flats v.cells <;> simp [h1, h2] at hc
            exact ⟨Nat.eq_of_beq_eq_true h1, rfl⟩
          split at h
          · rename_i r hr
            obtain ⟨r', hset, rfl, rfl⟩ := putO_ok h
            obtain ⟨p, hp, hxv⟩ := (hl _ _ hx).ptr_inv
            have hv := hl _ _ hy
            obtain ⟨w', q1, q2, q3, q4⟩ := write_ok (P := P) hs hr hp hset hv.cells (flat_all hv.cells hc2)
            refine ⟨undef, w', ρ, .inr ⟨?_, rfl⟩, ⟨#[], rfl, rfl⟩, q2, q3, q4⟩
            simp only [execOp, ho, Instr.storeAt, Instr.sureAddr, hxv]
            have hsz : (e y).cells.size = n := by rw [hv.cells_size, hc1]
            simp [storeVar, run_size hn, hsz, q1]
          · cases h
        · cases h
      · cases h
    · cases h
  · cases h

end Go.Ev

/- An abstract evaluator over the model: changes of memory (2). -/
namespace Go.Ev
variable {P : Program} {ρ : Pm} {g : Nat} {s : St} {w : World} {e : Operand → Value} {lk : Lk} {o : Oper}

theorem fitI_ok {x : Option TypeInfo} {i : TypeInfo} (h : fitI x = some i) : x = some i ∧ ∃ v, i.zero = some v ∧ v.cells.size = i.size := by
  unfold fitI at h
  split at h
  · split at h
    · rename_i hz
      obtain rfl := Option.some.inj h
      refine ⟨rfl, ?_⟩
      unfold zeroFits at hz
      split at hz
      · rename_i v hv
        exact ⟨v, hv, Nat.eq_of_beq_eq_true hz⟩
      · cases hz
    · cases h
  · cases h

theorem lenAV_ok {y : AV} {v : Value} {n : Nat} (h : lenAV y = some n) (hy : VR ρ y v) : (Builtin.lenOf v).run P w = .ok n w := by
  unfold lenAV at h
  split at h
  · obtain rfl := Option.some.inj h
    obtain ⟨p, a, c, _, rfl, _⟩ := hy
    rfl
  · obtain rfl := Option.some.inj h
    obtain rfl := hy
    rfl
  · obtain rfl := Option.some.inj h
    obtain rfl := hy
    rfl
  · cases h

theorem first_ok {y : AV} {v : Value} {n sz m : Nat} {r : List AV} (hs : Sim ρ g s w.heap) (h : firstCells s sz n y = some r) (hy : VR ρ y v) (hm : lenAV y = some m) (hnm : n ≤ m) :
    ∃ arr, (∀ w' : World, w'.heap = w.heap → (Builtin.firstCells sz n v).run P w' = .ok arr w') ∧ VRs ρ r arr.toList ∧ arr.size = n * sz := by
  unfold firstCells at h
  split at h
  · rename_i l off len cap sz' ex
    split at h
    · rename_i hsz
      obtain rfl := Nat.eq_of_beq_eq_true hsz
      split at h
      · rename_i row hrow
        obtain ⟨p, a, c', hp, rfl, h1, h2, h3, h4⟩ := hy
        obtain ⟨p', c, t', fr, hp', hh, hpn, hc⟩ := row_ok hs hrow
        obtain rfl := Option.some.inj (hp.symm.trans hp')
        have h : sub row off (n * sz) = some r := h
        obtain ⟨h5, h6⟩ := cells_sub hc h
        obtain rfl : len = m := Option.some.inj hm
        rcases Nat.eq_zero_or_pos c' with h0 | h0
        · have : n = 0 := by omega
          subst this
          refine ⟨#[], fun w' _ => by simp [Builtin.firstCells, loadCells, loadCellsFrom], ?_, by simp⟩
          simp only [Nat.zero_mul] at h6
          simpa using h6
        · obtain ⟨rfl, _⟩ := h4 h0
          refine ⟨((c.toList.drop (p.o + off)).take (n * sz)).toArray, fun w' hw => ?_, by simpa using h6, ?_⟩
          · show (loadCells _ _).run P w' = _
            exact loadCells_ok (by rw [hw]; exact hh) h5
          · simp; omega
      · cases h
    · cases h
  · obtain rfl := Option.some.inj h
    obtain rfl := hy
    obtain rfl : 0 = m := Option.some.inj hm
    have : n = 0 := by omega
    subst this
    exact ⟨#[], fun _ _ => rfl, rfl, by simp⟩
  · rename_i b
    split at h
    · rename_i hsz
      obtain rfl := Nat.eq_of_beq_eq_true hsz
      obtain rfl := Option.some.inj h
      obtain rfl := hy
      obtain rfl : b.length = m := Option.some.inj hm
      refine ⟨_, fun _ _ => rfl, ?_, ?_⟩
      · have : (Array.map (fun b => Value.int .u8 ((b : UInt8).toNat : Int)) ((⟨⟨b⟩⟩ : ByteArray).extract 0 n).data).toList = (b.take n).map fun b => Value.int .u8 b.toNat := by
          rw [Array.toList_map, Lib.extract_data]
          simp
        rw [this]
        exact bytesAV_ok _
      · rw [Array.size_map]
        have := congrArg List.length (Lib.extract_data (⟨⟨b⟩⟩ : ByteArray) 0 n)
        simp only [Array.length_toList] at this
        rw [this]
        simp
        omega
    · cases h
  · cases h

theorem grow_le (n : Nat) : ∀ (r c : Nat), c ≤ 2 * n + 768 → Builtin.growBy n r c ≤ 2 * n + 768
  | 0, c, h => h
  | r + 1, c, h => by
    simp only [Builtin.growBy]
    split
    · exact h
    · refine grow_le n r _ ?_
      omega

theorem next_le {need cap : Nat} (h : cap < need) : Builtin.nextslicecap need cap ≤ 4 * need + 4000 := by
  unfold Builtin.nextslicecap
  split
  · omega
  · split
    · omega
    · have := grow_le need 4 cap (by omega)
      omega

theorem notInt_ok {d : TypeDesc} (h : notInt (some d) = true) : (match d with
    | .int _ => true
    | _ => false) = false := by
  cases d <;> first | rfl | cases h

/-- An append where there is room. -/
theorem append_room {ats : Array TypeId} {t elem : TypeId} {ty : TypeId} {i : TypeInfo} {base : Option Addr} {len cap n : Nat} {v : Value} {arr : Array Value} {w' : World} (ht : und P t = some (.slice elem)) (hi : info P elem = some i)
    (h0 : ats[0]? = some t) (h1 : ats[1]? = none ∨ ∃ u d, ats[1]? = some u ∧ und P u = some d ∧ notInt (some d) = true) (hn : (Builtin.lenOf v).run P w = .ok n w) (hf : (Builtin.firstCells i.size n v).run P w = .ok arr w) (hroom : len + n ≤ cap)
    (hst : ∀ a, base = some a → (storeCells (a.add (len * i.size)) arr.toList).run P w = .ok () w') (hnone : base = none → w' = w) :
    (Builtin.append_ ats ty #[.slice base len cap, v]).run P w = .ok (.slice base (len + n) cap) w' := by
  have hsize : (Go.sizeOf elem).run P w = .ok i.size w := by simp [Go.sizeOf, run_info hi]
  unfold Builtin.append_
  simp only [h0, List.getElem?_toArray, List.getElem?_cons_zero, List.getElem?_cons_succ]
  rw [Sem.run_bind, run_und ht]
  simp only [Result.andThen_ok]
  rw [Sem.run_bind, hsize]
  simp only [Result.andThen_ok]
  rcases h1 with h1 | ⟨u, d, h1, hu, hd⟩
  · simp only [h1]
    rw [Sem.run_bind]
    simp only [Sem.run_pure, Result.andThen_ok, Bool.false_eq_true, if_false]
    rw [Sem.run_bind, hn]
    simp only [Result.andThen_ok, Bool.not_false, if_true]
    rw [if_pos hroom, Sem.run_bind, hf]
    cases base with
    | none => obtain rfl := hnone rfl; rfl
    | some a => simp only [Result.andThen_ok]; rw [Sem.run_bind, hst a rfl]; rfl
  · simp only [h1]
    rw [Sem.run_bind, run_und hu]
    simp only [Result.andThen_ok]
    rw [Sem.run_bind]
    refine Eq.trans (congrArg (fun r : Result Bool => Result.andThen r _) (?_ : _ = Result.ok false w)) ?_
    · cases d <;> first | rfl | (cases hd; done)
    · simp only [Result.andThen_ok, Bool.false_eq_true, if_false]
      rw [Sem.run_bind, hn]
      simp only [Result.andThen_ok, Bool.not_false, if_true]
      rw [if_pos hroom, Sem.run_bind, hf]
      cases base with
      | none => obtain rfl := hnone rfl; rfl
      | some a => simp only [Result.andThen_ok]; rw [Sem.run_bind, hst a rfl]; rfl

/-- An append where there is none. -/
theorem append_grow {ats : Array TypeId} {t elem : TypeId} {ty : TypeId} {i : TypeInfo} {base : Option Addr} {len cap n : Nat} {v zv : Value} {arr old : Array Value} (ht : und P t = some (.slice elem)) (hi : info P elem = some i)
    (h0 : ats[0]? = some t) (h1 : ats[1]? = none ∨ ∃ u d, ats[1]? = some u ∧ und P u = some d ∧ notInt (some d) = true) (hn : (Builtin.lenOf v).run P w = .ok n w) (hf : ∀ w' : World, w'.heap = w.heap → (Builtin.firstCells i.size n v).run P w' = .ok arr w') (hroom : ¬ len + n ≤ cap)
    (hbig : roomy (len + n) i.bytes = true) (hz : i.zero = some zv) (hold : ∀ w' : World, w'.heap = w.heap → (Builtin.firstCells i.size len (.slice base len cap)).run P w' = .ok old w') :
    ∃ c, len + n ≤ c ∧ (Builtin.append_ ats ty #[.slice base len cap, v]).run P w = .ok (.slice (some ⟨w.heap.size, 0, none⟩) (len + n) c) (w.drew.alloc (.cells (old ++ arr ++ Builtin.zeroCells zv.cells (c - (len + n))) elem)) := by
  obtain ⟨c, hcut, hcn⟩ : ∃ c, (Question.appendCap (len + n) cap elem).cut (w.tape w.drawn (.appendCap (len + n) cap elem)) = c ∧ len + n ≤ c := ⟨_, rfl, by simp [Question.cut]⟩
  have hforced : Question.forced (.appendCap (len + n) cap elem) = false := rfl
  obtain ⟨hmax, hbig'⟩ : len + n ≤ maxText ∧ (4 * (len + n) + 4000) * i.bytes ≤ 281474976710656 := by simpa [roomy] using hbig
  have hc2 : ¬ Builtin.nextslicecap (len + n) cap * i.bytes > 2 ^ 48 := by
    have := Nat.mul_le_mul_right i.bytes (next_le (need := len + n) (cap := cap) (by omega))
    omega
  have hc1 : ¬ (((len + n : Nat) : Int) > IntKind.i64.max ∧ (False ∨ i.bytes = 0)) := by
    rintro ⟨h, _⟩
    have e : IntKind.i64.max = 9223372036854775807 := by decide
    rw [e] at h
    unfold maxText at hmax
    omega
  have hzr : ∀ w' : World, (zeroValue elem).run P w' = .ok zv w' := fun w' => by simp [zeroValue, run_info hi, hz]
  refine ⟨c, hcn, ?_⟩
  have hsize : (Go.sizeOf elem).run P w = .ok i.size w := by simp [Go.sizeOf, run_info hi]
  unfold Builtin.append_
  simp only [h0, List.getElem?_toArray, List.getElem?_cons_zero, List.getElem?_cons_succ]
  rw [Sem.run_bind, run_und ht]
  simp only [Result.andThen_ok]
  rw [Sem.run_bind, hsize]
  simp only [Result.andThen_ok]
  rcases h1 with h1 | ⟨u, d, h1, hu, hd⟩
  · simp only [h1]
    rw [Sem.run_bind]
    simp only [Sem.run_pure, Result.andThen_ok, Bool.false_eq_true, if_false]
    rw [Sem.run_bind, hn]
    simp only [Result.andThen_ok, Bool.not_false, if_true]
    rw [if_neg hroom, Sem.run_bind, run_info hi]
    simp only [Result.andThen_ok]
    rw [if_neg hc1, Sem.run_bind, run_info hi]
    simp only [Result.andThen_ok]
    rw [if_neg hc2, Sem.run_bind, run_choose]
    simp only [hforced, Bool.false_eq_true, if_false, Result.andThen_ok, hcut]
    rw [Sem.run_bind, run_info hi]
    simp only [Result.andThen_ok]
    rw [Sem.run_bind, run_askRoom]
    simp only [Result.andThen_ok]
    rw [Sem.run_bind, hold { heap := w.heap, tape := w.tape, drawn := w.drawn + 1, os := w.os, output := w.output } rfl]
    simp only [Result.andThen_ok]
    rw [Sem.run_bind, hf { heap := w.heap, tape := w.tape, drawn := w.drawn + 1, os := w.os, output := w.output } rfl]
    simp only [Result.andThen_ok]
    rw [Sem.run_bind, hzr]
    simp only [Result.andThen_ok]
    rfl
  · simp only [h1]
    rw [Sem.run_bind, run_und hu]
    simp only [Result.andThen_ok]
    rw [Sem.run_bind]
    refine Eq.trans (congrArg (fun r : Result Bool => Result.andThen r _) (?_ : _ = Result.ok false w)) ?_
    · cases d <;> first | rfl | (cases hd; done)
    · simp only [Result.andThen_ok, Bool.false_eq_true, if_false]
      rw [Sem.run_bind, hn]
      simp only [Result.andThen_ok, Bool.not_false, if_true]
      rw [if_neg hroom, Sem.run_bind, run_info hi]
      simp only [Result.andThen_ok]
      rw [if_neg hc1, Sem.run_bind, run_info hi]
      simp only [Result.andThen_ok]
      rw [if_neg hc2, Sem.run_bind, run_choose]
      simp only [hforced, Bool.false_eq_true, if_false, Result.andThen_ok, hcut]
      rw [Sem.run_bind, run_info hi]
      simp only [Result.andThen_ok]
      rw [Sem.run_bind, run_askRoom]
      simp only [Result.andThen_ok]
      rw [Sem.run_bind, hold { heap := w.heap, tape := w.tape, drawn := w.drawn + 1, os := w.os, output := w.output } rfl]
      simp only [Result.andThen_ok]
      rw [Sem.run_bind, hf { heap := w.heap, tape := w.tape, drawn := w.drawn + 1, os := w.os, output := w.output } rfl]
      simp only [Result.andThen_ok]
      rw [Sem.run_bind, hzr]
      simp only [Result.andThen_ok]
      rfl

end Go.Ev
