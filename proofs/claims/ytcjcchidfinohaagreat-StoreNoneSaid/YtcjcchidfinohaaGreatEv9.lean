/- An abstract evaluator over the model: the operations that look at no memory are right (4). -/
import Derived.Test.YtcjcchidfinohaaGreatEv8
import Derived.Lib.Strings
namespace Go.Ev
variable {P : Program} {ρ : Pm} {w : World} {e : Operand → Value} {lk : Lk} {o : Oper}

theorem mapM_ok : ∀ (l : List Field) (ns : List Nat), mapO (fun f => size P f.type) l = some ns →
    ∃ ps, (l.mapM fun (f : Field) => do pure (f.offset, ← Go.sizeOf f.type)).run P w = .ok ps w ∧ ∀ (i : Nat) (f : Field), l[i]? = some f → ∀ n, size P f.type = some n → ps[i]? = some (f.offset, n)
  | [], ns, h => ⟨[], rfl, fun i f hf => by simp at hf⟩
  | f :: l, ns, h => by
    simp only [mapO] at h
    split at h
    · rename_i n hn
      split at h
      · rename_i r hr
        obtain ⟨ps, h1, h2⟩ := mapM_ok l r hr
        refine ⟨(f.offset, n) :: ps, ?_, fun i g hg m hm => ?_⟩
        · rw [List.mapM_cons]
          simp only [Sem.run_bind, run_size hn, Result.andThen_ok, Sem.run_pure, h1]
        · cases i with
          | zero =>
            obtain rfl := Option.some.inj hg
            rw [hn] at hm
            obtain rfl := Option.some.inj hm
            rfl
          | succ i => exact h2 i g hg m hm
      · cases h
    · cases h

theorem build_ok {t : TypeId} {ps : Array (Nat × Operand)} {r : AV} (ho : o.op = .build t ps) (hl : Lks ρ lk e) (h : buildO P t (parts lk ps.toList) = some r) : NO P w ρ e o r := by
  unfold buildO at h
  split at h
  · rename_i l hp
    have hps := parts_ok hl hp
    refine no_of (m := Instr.build t (ps.map fun (i, x) => (i, e x))) ?_ (by simp only [execOp, ho])
    unfold build at h
    split at h
    · rename_i z hz
      obtain ⟨zv, hzr, hzv⟩ := run_zero (P := P) (w := w) (ρ := ρ) hz
      have hcs := hzv.cells
      have he : (ps.map fun (x : Nat × Operand) => (x.1, e x.2)).toList = ps.toList.map fun (i, x) => (i, e x) := by simp
      split at h
      · rename_i fields ht
        split at h
        · rename_i ns hns
          obtain ⟨pl, h1, h2⟩ := mapM_ok (P := P) (w := w) _ _ hns
          obtain ⟨c', l', h3, rfl, h5⟩ := fillS_ok (places := pl.toArray) (fun i f hf n hn => by simpa using h2 i f (by simpa using hf) n hn) h hps hcs
          refine ⟨.agg c', ?_, c', rfl, h5⟩
          unfold Instr.build
          simp only [Sem.run_bind, hzr, Result.andThen_ok, run_und ht]
          rw [Array.mapM_eq_mapM_toList]
          simp only [Sem.run_map, h1, Result.andThen_ok, he, h3, Sem.run_pure]
        · cases h
      · rename_i n elem ht
        split at h
        · rename_i sz hsz
          obtain ⟨l', hl', rfl⟩ := aggO_ok h
          obtain ⟨c', h3, h5⟩ := fillA_ok hl' hps hcs
          refine ⟨.agg c', ?_, c', rfl, h5⟩
          unfold Instr.build
          simp only [Sem.run_bind, hzr, Result.andThen_ok, run_und ht, run_size hsz, he, h3, Sem.run_pure]
        · cases h
      · cases h
    · cases h
  · cases h

theorem bound_ok {x : AV} {y n : Nat} {v : Value} {c : BoundsCode} (h : bound x y = some n) (hx : VR ρ x v) : (Instr.sliceBound v y c).run P w = .ok n w ∧ n ≤ y := by
  unfold bound at h
  split at h
  · rename_i k m
    split at h
    · rename_i hm
      obtain rfl := Option.some.inj h
      rw [VR.eq_2] at hx
      have hm : m ≤ y := Nat.le_of_ble_eq_true hm
      rw [hx]
      refine ⟨?_, hm⟩
      have h1 : (0 ≤ (Int.ofNat m)) ∧ (Int.ofNat m) ≤ (y : Int) := ⟨Int.natCast_nonneg _, Int.ofNat_le.2 hm⟩
      simp only [Instr.sliceBound, asIntOf, Sem.run_bind, Sem.run_pure, Result.andThen_ok, Sem.run_ite, h1, and_self, if_true]
      rfl
    · cases h
  · cases h

theorem bound_le {x : AV} {y n : Nat} (h : bound x y = some n) : n ≤ y := by
  unfold bound at h
  split at h
  · rename_i k m
    cases hm : Nat.ble m y with
    | true => rw [hm] at h; obtain rfl := Option.some.inj h; exact Nat.le_of_ble_eq_true hm
    | false => rw [hm] at h; cases h
  · cases h
theorem bound_mono {x : AV} {y y' n : Nat} (h : bound x y = some n) (hy : y ≤ y') : bound x y' = some n := by
  have hle := bound_le h
  unfold bound at h ⊢
  split at h
  · rename_i k m
    cases hm : Nat.ble m y with
    | true =>
      rw [hm] at h
      obtain rfl := Option.some.inj h
      have : Nat.ble m y' = true := Nat.ble_eq_true_of_le (Nat.le_trans hle hy)
      simp [this]
    | false => rw [hm] at h; cases h
  · cases h

def OR (ρ : Pm) : Option AV → Option Value → Prop
  | none, v => v = none
  | some a, v => ∃ u, v = some u ∧ VR ρ a u

theorem opt_ok {x : Option Operand} {a : Option AV} (hl : Lks ρ lk e) (h : opt lk x = some a) : OR ρ a (x.map e) := by
  cases x with
  | none => obtain rfl := Option.some.inj h; rfl
  | some x =>
    simp only [opt] at h
    split at h
    · rename_i v hv
      obtain rfl := Option.some.inj h
      exact ⟨e x, rfl, hl _ _ hv⟩
    · cases h

theorem boundO_ok {x : Option AV} {d y n : Nat} {v : Option Value} {c : BoundsCode} (h : boundO x d y = some n) (hx : OR ρ x v) :
    (match v with | some v => Instr.sliceBound v y c | none => pure d).run P w = .ok n w ∧ (x = none ∨ n ≤ y) ∧ (x = none → n = d) := by
  cases x with
  | none =>
    obtain rfl := Option.some.inj h
    obtain rfl := hx
    exact ⟨rfl, .inl rfl, fun _ => rfl⟩
  | some a =>
    obtain ⟨u, rfl, hu⟩ := hx
    obtain ⟨h1, h2⟩ := bound_ok (P := P) (w := w) (c := c) (show bound a y = some n from h) hu
    exact ⟨h1, .inr h2, fun e => by cases e⟩

/-- The bounds of a slice expression without a capacity. -/
theorem bounds2 {isS : Bool} {len cap h l : Nat} {lo hi : Option AV} {vl vh : Option Value} (hlen : len ≤ cap) (h1 : boundO hi len cap = some h) (h2 : boundO lo 0 h = some l)
    (hl : OR ρ lo vl) (hh : OR ρ hi vh) : (Instr.sliceBounds isS len cap vl vh none).run P w = .ok (l, h, cap) w ∧ l ≤ h ∧ h ≤ cap := by
  obtain ⟨r1, b1, c1⟩ := boundO_ok (P := P) (w := w) (c := if isS then .sliceAcap else .sliceAlen) h1 hh
  obtain ⟨r2, b2, c2⟩ := boundO_ok (P := P) (w := w) (c := .sliceB) h2 hl
  refine ⟨?_, ?_, ?_⟩
  · unfold Instr.sliceBounds
    cases vh <;> cases vl <;> simp at r1 r2 ⊢ <;> simp [r1, r2]
  · rcases b2 with b2 | b2
    · rw [c2 b2]; exact Nat.zero_le _
    · exact b2
  · rcases b1 with b1 | b1
    · rw [c1 b1]; exact hlen
    · exact b1

theorem bounds3 {isS : Bool} {len cap h l m : Nat} {lo : Option AV} {hi mx : AV} {vl : Option Value} {vh vm : Value} (h0 : bound mx cap = some m) (h1 : bound hi m = some h) (h2 : boundO lo 0 h = some l)
    (hl : OR ρ lo vl) (hh : VR ρ hi vh) (hm : VR ρ mx vm) : (Instr.sliceBounds isS len cap vl (some vh) (some vm)).run P w = .ok (l, h, m) w ∧ l ≤ h ∧ h ≤ m ∧ m ≤ cap := by
  obtain ⟨r0, b0⟩ := bound_ok (P := P) (w := w) (c := if isS then .slice3Acap else .slice3Alen) h0 hm
  obtain ⟨r1, b1⟩ := bound_ok (P := P) (w := w) (c := .slice3B) h1 hh
  obtain ⟨r2, b2, c2⟩ := boundO_ok (P := P) (w := w) (c := .slice3C) h2 hl
  refine ⟨?_, ?_, b1, b0⟩
  · unfold Instr.sliceBounds
    cases vl <;> simp at r0 r1 r2 ⊢ <;> simp [r0, r1, r2]
  · rcases b2 with b2 | b2
    · rw [c2 b2]; exact Nat.zero_le _
    · exact b2

theorem cutS_ok {t : TypeId} {s : List UInt8} {lo hi mx : Option AV} {vl vh vm : Option Value} {r : AV} (ht : und P t = some .string) (h : cutS s lo hi mx = some r)
    (hl : OR ρ lo vl) (hh : OR ρ hi vh) (hm : OR ρ mx vm) : PO P w ρ (Instr.sliceAt t (.string ⟨⟨s⟩⟩) vl vh vm) r := by
  unfold cutS at h
  split at h
  · cases h
  · obtain rfl := hm
    split at h
    · rename_i hh' h1
      split at h
      · rename_i l h2
        obtain rfl := Option.some.inj h
        obtain ⟨b, b1, b2⟩ := bounds2 (P := P) (w := w) (isS := false) (Nat.le_refl _) h1 h2 hl hh
        refine ⟨.string ((⟨⟨s⟩⟩ : ByteArray).extract l hh'), ?_, ?_⟩
        · simp only [Instr.sliceAt, Instr.slice, Sem.run_bind, run_und ht, Result.andThen_ok]
          have b' : (Instr.sliceBounds false (⟨⟨s⟩⟩ : ByteArray).size (⟨⟨s⟩⟩ : ByteArray).size vl vh none).run P w = .ok (l, hh', s.length) w := b
          simp [b']
        · show Value.string _ = Value.string _
          congr 1
          apply ByteArray.ext
          apply Array.ext'
          rw [Lib.extract_data]
          show (s.drop l).take (hh' - l) = _
          rw [List.drop_take]
      · cases h
    · cases h

theorem cut_ok {a off len cap sz cap' : Nat} {ex : Bool} {lo hi mx : Option AV} {vl vh vm : Option Value} {r : AV} {p : Pl} {ad : Addr} {isS : Bool}
    (h : cut a off len cap sz ex lo hi mx = some r) (hp : ρ a = some p) (hlen : len ≤ cap) (hcap : cap ≤ cap') (hex : ex = true → cap' = cap)
    (had : 0 < cap' → ad = ⟨p.b, p.o + off, none⟩ ∧ p.o + off + cap' * sz ≤ p.n) (hl : OR ρ lo vl) (hh : OR ρ hi vh) (hm : OR ρ mx vm) :
    ∃ l h m, (Instr.sliceBounds isS len cap' vl vh vm).run P w = .ok (l, h, m) w ∧ VR ρ r (Value.slice (some (if m = l then ad else ad.add (l * sz))) (h - l) (m - l)) := by
  have hadd : ∀ m l, l ≤ m → m ≤ cap' → 0 < m - l → (if m = l then ad else ad.add (l * sz)) = ⟨p.b, p.o + (off + l * sz), none⟩ ∧ p.o + (off + l * sz) + (m - l) * sz ≤ p.n := by
    intro m l h1 h2 h3
    obtain ⟨e1, e2⟩ := had (by omega)
    rw [if_neg (by omega), e1]
    constructor
    · unfold Addr.add
      by_cases hz : l * sz = 0
      · rw [if_pos hz, hz]; simp
      · rw [if_neg hz]; simp [Nat.add_assoc]
    · have : (m - l) * sz + l * sz = m * sz := by rw [← Nat.add_mul]; congr 1; omega
      have : m * sz ≤ cap' * sz := Nat.mul_le_mul_right _ h2
      omega
  unfold cut at h
  split at h
  · obtain rfl := hm
    split at h
    · rename_i hh' h1
      split at h
      · rename_i l h2
        simp only [fnat_eq] at h
        obtain rfl := Option.some.inj h
        have h1' : boundO hi len cap' = some hh' ∧ hh' ≤ cap := by
          cases hi with
          | none => exact ⟨h1, by obtain rfl := Option.some.inj h1; exact hlen⟩
          | some q =>
            exact ⟨bound_mono h1 hcap, bound_le h1⟩
        obtain ⟨b, b1, b2⟩ := bounds2 (P := P) (w := w) (isS := isS) (Nat.le_trans hlen hcap) h1'.1 h2 hl hh
        refine ⟨l, hh', cap', b, p, _, cap' - l, hp, rfl, by simp; omega, by simp; omega, fun e => by rw [hex e]; rfl, fun e => ?_⟩
        exact hadd cap' l (by omega) (Nat.le_refl _) e
      · cases h
    · cases h
  · rename_i q
    obtain ⟨um, rfl, hum⟩ := hm
    split at h
    · rename_i m qh h0
      obtain ⟨uh, rfl, huh⟩ := hh
      split at h
      · rename_i hh' h1
        split at h
        · rename_i l h2
          simp only [fnat_eq] at h
          obtain rfl := Option.some.inj h
          have h0' : bound q cap' = some m := bound_mono h0 hcap
          obtain ⟨b, b1, b2, b3⟩ := bounds3 (P := P) (w := w) (isS := isS) (len := len) h0' h1 h2 hl huh hum
          refine ⟨l, hh', m, b, p, _, m - l, hp, rfl, by simp; omega, by simp, fun e => rfl, fun e => ?_⟩
          exact hadd m l (by omega) b3 e
        · cases h
      · cases h
    · cases h

theorem cutNil_ok {elem t : TypeId} {lo hi mx : Option AV} {vl vh vm : Option Value} {r : AV} {sz : Nat} (ht : und P t = some (.slice elem)) (hsz : size P elem = some sz) (h : cutNil lo hi mx = some r)
    (hl : OR ρ lo vl) (hh : OR ρ hi vh) (hm : OR ρ mx vm) : PO P w ρ (Instr.sliceAt t (.slice none 0 0) vl vh vm) r := by
  unfold cutNil at h
  split at h
  · rename_i m hh' l h0 h1 h2
    have b0 : m = 0 := by
      obtain ⟨_, b, c⟩ := boundO_ok (P := P) (w := w) (c := .index) h0 hm
      rcases b with b | b
      · exact c b
      · omega
    have b1 : hh' = 0 := by
      obtain ⟨_, b, c⟩ := boundO_ok (P := P) (w := w) (c := .index) h1 hh
      rcases b with b | b
      · exact c b
      · omega
    have b2 : l = 0 := by
      obtain ⟨_, b, c⟩ := boundO_ok (P := P) (w := w) (c := .index) h2 hl
      rcases b with b | b
      · exact c b
      · omega
    subst b0 b1 b2
    have key : (Instr.sliceBounds true 0 0 vl vh vm).run P w = .ok (0, 0, 0) w ∧ r = .nilSlice := by
      cases mx with
      | none =>
        obtain rfl := hm
        have : r = .nilSlice := by cases hi <;> exact (Option.some.inj h).symm
        exact ⟨(bounds2 (P := P) (w := w) (isS := true) (Nat.le_refl _) h1 h2 hl hh).1, this⟩
      | some q =>
        obtain ⟨um, rfl, hum⟩ := hm
        cases hi with
        | none => cases h
        | some qh =>
          obtain ⟨uh, rfl, huh⟩ := hh
          have : r = .nilSlice := (Option.some.inj h).symm
          exact ⟨(bounds3 (P := P) (w := w) (isS := true) (len := 0) h0 h1 h2 hl huh hum).1, this⟩
    obtain ⟨k1, rfl⟩ := key
    refine ⟨.slice none 0 0, ?_, rfl⟩
    simp [Instr.sliceAt, Instr.slice, run_und ht, k1, run_size hsz]
  · cases h

theorem VR.ptr_inv {l o : Nat} {v : Value} (h : VR ρ (.ptr l o) v) : ∃ p, ρ l = some p ∧ v = .pointer (some ⟨p.b, p.o + o, none⟩) := h

theorem slice_ok {t : TypeId} {x : Operand} {lo hi mx : Option Operand} {r : AV} (ho : o.op = .slice t x lo hi mx) (hl : Lks ρ lk e)
    (h : sliceO P t (lk x) (opt lk lo) (opt lk hi) (opt lk mx) = some r) : NO P w ρ e o r := by
  unfold sliceO at h
  split at h
  · rename_i v a b c hv ha hb hc
    have ha := opt_ok hl ha
    have hb := opt_ok hl hb
    have hc := opt_ok hl hc
    have hu := hl _ _ hv
    refine no_of (m := Instr.sliceAt t (e x) (lo.map e) (hi.map e) (mx.map e)) ?_ (by simp only [execOp, ho])
    unfold slice at h
    split at h
    · rename_i ht
      split at h
      · rw [VR.eq_3] at hu
        rw [hu]
        exact cutS_ok ht h ha hb hc
      · cases h
    · rename_i elem ht
      split at h
      · rename_i n hn
        split at h
        · rename_i a' off len cap sz ex
          split at h
          · rename_i hsz
            obtain rfl : n = sz := Nat.eq_of_beq_eq_true hsz
            obtain ⟨p, ad, c', hp, hv', h1, h2, h3, h4⟩ := hu
            rw [hv']
            obtain ⟨l, h', m, hq, hr⟩ := cut_ok (P := P) (w := w) (isS := true) h hp h1 h2 h3 h4 ha hb hc
            refine ⟨_, ?_, hr⟩
            simp only [Instr.sliceAt, Instr.slice, Sem.run_bind, run_und ht, Result.andThen_ok, hq, run_size hn, Sem.run_pure]
            by_cases hml : m = l
            · simp [hml]
            · simp [hml]
          · cases h
        · rw [VR.eq_5] at hu
          rw [hu]
          exact cutNil_ok ht hn h ha hb hc
        · cases h
      · cases h
    · cases h
  · cases h

end Go.Ev
