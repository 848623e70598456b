/- An abstract evaluator over the model: what holds while a region's operations are listed, in whatever order. -/
import Derived.Test.YtcjcchidfinohaaGreatEv21
namespace Go.Ev

theorem alloc1_owned {P : Program} {lk : Lk} {o : Op} {ob : AObj} {mk : Nat → AV} (h : alloc1 P lk o = some (ob, mk)) : ob.owned = true := by
  unfold alloc1 allocA buildSliceA makeMapA makeSliceA convA rangeA at h
  simp only [fnat_eq] at h
  repeat' (split at h)
  all_goals first
    | (obtain ⟨rfl, _⟩ := Prod.mk.inj (Option.some.inj h); rfl)
    | cases h

/-- How an operation came by its value, in the plan. -/
def Fact (E : Env Prop) (ops : Array Oper) (s : St) (rs : List Rec) (ps : List Pend) (e : Ent) (fin : AF) : Prop :=
  ∃ o, ops[e.i]? = some o ∧ fin.fits o.dst = true ∧
    (((∀ p ∈ ps, p.i ≠ e.i) ∧ wanted ops fin o = false ∧ e.v = .undef) ∨
     (wanted ops fin o = true ∧
      (((∀ p ∈ ps, p.i ≠ e.i) ∧ pure1 E.P (fin.lkO E.g o.op) o.op = some e.v) ∨
       ((∀ p ∈ ps, p.i ≠ e.i) ∧ (⟨e.i, o.op, fin, e.v⟩ : Rec) ∈ rs ∧ read1 E.P (fin.lkO E.g o.op) o.op s = some e.v) ∨
       ∃ p mk, p ∈ ps ∧ p.i = e.i ∧ alloc1 E.P (fin.lkO E.g o.op) o.op = some (p.o, mk) ∧ e.v = mk p.l)))

def Facts (E : Env Prop) (ops : Array Oper) (f0 : AF) (S : Nat → Bool) (s : St) (rs : List Rec) (ps : List Pend) : List Ent → Prop
  | [] => True
  | e :: r => (S e.i = false → Fact E ops s rs ps e (virt allB f0 r)) ∧ Facts E ops f0 S s rs ps r

variable {E : Env Prop} {ops : Array Oper} {bef : Array Nat} {f0 : AF} {ρ0 : Pm} {s0 : St} {w0 : World}

theorem Facts.imp {S S' : Nat → Bool} {s s' : St} {rs rs' : List Rec} {ps ps' : List Pend} : ∀ {log : List Ent},
    (∀ e ∈ log, S' e.i = false → S e.i = false ∧ ∀ fin, Fact E ops s rs ps e fin → Fact E ops s' rs' ps' e fin) → Facts E ops f0 S s rs ps log → Facts E ops f0 S' s' rs' ps' log
  | [], _, _ => trivial
  | e :: log, h, ⟨h1, h2⟩ => ⟨fun hS => (h e (List.mem_cons_self ..) hS).2 _ (h1 (h e (List.mem_cons_self ..) hS).1), Facts.imp (fun x hx => h x (List.mem_cons_of_mem _ hx)) h2⟩

theorem Facts.get {S : Nat → Bool} {s : St} {rs : List Rec} {ps : List Pend} {e : Ent} {R : List Ent} : ∀ {L : List Ent}, Facts E ops f0 S s rs ps (L ++ e :: R) → S e.i = false → Fact E ops s rs ps e (virt allB f0 R)
  | [], h, hS => h.1 hS
  | _ :: L, h, hS => Facts.get (L := L) h.2 hS

structure Inv (E : Env Prop) (ops : Array Oper) (bef : Array Nat) (f0 : AF) (ρ0 : Pm) (s0 : St) (w0 : World) (S : Nat → Bool) (log : List Ent) (s : St) (rs : List Rec) (ps : List Pend) (a : Act) (w : World) (ρ : Pm) : Prop where
  frame : FR ρ (virt S f0 log) a
  sim : Sim ρ E.g (layP S ps s) w.heap
  ste : Ste ρ0 s0 w0.heap ρ (layP S ps s) w.heap
  out : Out w0 w
  closed : Closed ops S
  sub : ∀ i, S i = true → ∃ e ∈ log, e.i = i
  sorted : Sorted ops bef log
  facts : Facts E ops f0 S s rs ps log
  pend : ∀ p ∈ ps, s0.nx ≤ p.l ∧ p.l < s.nx ∧ p.o.owned = true ∧ s.look p.l = none ∧ (S p.i = false → ρ p.l = none) ∧ ∃ e ∈ log, e.i = p.i
  dist : PDist ps

def DoneRel (done : Nat) (log : List Ent) : Prop := ∀ x, bit done x = true ↔ ∃ e ∈ log, e.i = x

theorem DoneRel.add {done : Nat} {log : List Ent} (h : DoneRel done log) (e : Ent) : DoneRel (Nat.lor done (2 ^ e.i)) (e :: log) := by
  intro x
  rw [bit_add, h x]
  constructor
  · rintro (⟨e', h1, h2⟩ | rfl)
    · exact ⟨e', List.mem_cons_of_mem _ h1, h2⟩
    · exact ⟨e, List.mem_cons_self .., rfl⟩
  · rintro ⟨e', h1, h2⟩
    cases h1 with
    | head => exact .inr h2.symm
    | tail _ h1 => exact .inl ⟨e', h1, h2⟩

section
variable {S : Nat → Bool} {log : List Ent} {s : St} {rs : List Rec} {ps : List Pend} {a : Act} {w : World} {ρ : Pm}

theorem Inv.out_of (h : Inv E ops bef f0 ρ0 s0 w0 S log s rs ps a w ρ) {i : Nat} (hi : ∀ e ∈ log, e.i ≠ i) : S i = false := by
  cases hS : S i with
  | false => rfl
  | true => obtain ⟨e, h1, h2⟩ := h.sub i hS; exact absurd h2 (hi e h1)

theorem Inv.nx (h : Inv E ops bef f0 ρ0 s0 w0 S log s rs ps a w ρ) : s0.nx ≤ s.nx := by
  have := h.ste.nx
  rwa [lay_nx] at this

/-- An operation that looks at memory, or at none, is done in the plan. -/
theorem Inv.note (h : Inv E ops bef f0 ρ0 s0 w0 S log s rs ps a w ρ) {e : Ent} {o : Oper} {rs' : List Rec} (ho : ops[e.i]? = some o) (hd : o.dst = e.d) (hnew : ∀ x ∈ log, x.i ≠ e.i)
    (hbef : ∀ x, bit (bef.getD e.i 0) x = true → ∃ e' ∈ log, e'.i = x) (hrs : ∀ r ∈ rs, r ∈ rs') (hf : (∀ p ∈ ps, p.i ≠ e.i) → Fact E ops s rs' ps e (virt allB f0 log)) :
    Inv E ops bef f0 ρ0 s0 w0 S (e :: log) s rs' ps a w ρ := by
  have hS := h.out_of hnew
  have hps : ∀ p ∈ ps, p.i ≠ e.i := fun p hp he => by
    obtain ⟨_, _, _, _, _, x, h1, h2⟩ := h.pend p hp
    exact hnew x h1 (h2.trans he)
  refine ⟨by rw [virt_cons_out hS]; exact h.frame, h.sim, h.ste, h.out, h.closed, fun i hi => ?_, ⟨hbef, hnew, ⟨o, ho, hd⟩, h.sorted⟩, ⟨fun _ => hf hps, ?_⟩, fun p hp => ?_, h.dist⟩
  · obtain ⟨x, h1, h2⟩ := h.sub i hi
    exact ⟨x, List.mem_cons_of_mem _ h1, h2⟩
  · refine h.facts.imp fun x hx hSx => ⟨hSx, fun fin hfin => ?_⟩
    obtain ⟨ox, h1, h2, h3⟩ := hfin
    refine ⟨ox, h1, h2, ?_⟩
    rcases h3 with h3 | ⟨h4, h3 | ⟨h5, h6, h7⟩ | h3⟩
    · exact .inl h3
    · exact .inr ⟨h4, .inl h3⟩
    · exact .inr ⟨h4, .inr (.inl ⟨h5, hrs _ h6, h7⟩)⟩
    · exact .inr ⟨h4, .inr (.inr h3)⟩
  · obtain ⟨h1, h2, h3, h4, h5, x, h6, h7⟩ := h.pend p hp
    exact ⟨h1, h2, h3, h4, h5, x, List.mem_cons_of_mem _ h6, h7⟩

theorem lay_look_nx (n : Nat) (D : Nat → Bool) (ps : List Pend) (l : Nat) : (layP D ps ⟨s.h, n⟩).look l = (layP D ps s).look l := by
  unfold St.look
  rw [lay_h]

/-- A block is planned. -/
theorem Inv.plan (h : Inv E ops bef f0 ρ0 s0 w0 S log s rs ps a w ρ) {e : Ent} {o : Oper} {ob : AObj} (ho : ops[e.i]? = some o) (hd : o.dst = e.d) (hnew : ∀ x ∈ log, x.i ≠ e.i)
    (hbef : ∀ x, bit (bef.getD e.i 0) x = true → ∃ e' ∈ log, e'.i = x) (hob : ob.owned = true)
    (hf : Fact E ops ⟨s.h, Nat.succ s.nx⟩ rs (⟨e.i, s.nx, ob⟩ :: ps) e (virt allB f0 log)) :
    Inv E ops bef f0 ρ0 s0 w0 S (e :: log) ⟨s.h, Nat.succ s.nx⟩ rs (⟨e.i, s.nx, ob⟩ :: ps) a w ρ := by
  have hS := h.out_of hnew
  have hps : ∀ p ∈ ps, p.i ≠ e.i := fun p hp he => by
    obtain ⟨_, _, _, _, _, x, h1, h2⟩ := h.pend p hp
    exact hnew x h1 (h2.trans he)
  have hlay : layP S (⟨e.i, s.nx, ob⟩ :: ps) ⟨s.h, Nat.succ s.nx⟩ = layP S ps ⟨s.h, Nat.succ s.nx⟩ := by rw [layP_cons]; simp only [hS]
  have hlook := fun l => lay_look_nx (s := s) (Nat.succ s.nx) S ps l
  have hnx1 : (layP S ps ⟨s.h, Nat.succ s.nx⟩).nx = Nat.succ s.nx := lay_nx _
  have hnx0 : (layP S ps s).nx = s.nx := lay_nx _
  have hnone : ρ s.nx = none := h.sim.fresh _ (by rw [hnx0]; exact Nat.le_refl _)
  refine ⟨by rw [virt_cons_out hS]; exact h.frame, ?_, ?_, h.out, h.closed, fun i hi => ?_, ⟨hbef, hnew, ⟨o, ho, hd⟩, h.sorted⟩, ⟨fun _ => hf, ?_⟩, fun p hp => ?_, ?_⟩
  · rw [hlay]
    exact ⟨fun l ob h1 => h.sim.obj l ob (by rwa [← hlook]), fun l l' ob ob' p p' h1 h2 => h.sim.sep l l' ob ob' p p' (by rwa [← hlook]) (by rwa [← hlook]),
      fun l hl => h.sim.fresh l (by rw [hnx1] at hl; rw [hnx0]; omega), h.sim.glob⟩
  · rw [hlay]
    exact ⟨by rw [hnx1]; have := h.nx; omega, h.ste.agree, h.ste.size, h.ste.frame, fun l ob p h1 h2 => h.ste.own l ob p (by rwa [← hlook]) h2⟩
  · obtain ⟨x, h1, h2⟩ := h.sub i hi
    exact ⟨x, List.mem_cons_of_mem _ h1, h2⟩
  · refine h.facts.imp fun x hx hSx => ⟨hSx, fun fin hfin => ?_⟩
    obtain ⟨ox, h1, h2, h3⟩ := hfin
    have hne : ∀ p ∈ ((⟨e.i, s.nx, ob⟩ : Pend) :: ps), (∀ p ∈ ps, p.i ≠ x.i) → p.i ≠ x.i := fun p hp hall => by
      cases hp with
      | head => exact fun he => hnew x hx he.symm
      | tail _ hp => exact hall p hp
    refine ⟨ox, h1, h2, ?_⟩
    rcases h3 with ⟨h3, h4⟩ | ⟨h4, ⟨h3, h5⟩ | ⟨h5, h6, h7⟩ | ⟨p, mk, h3, h5⟩⟩
    · exact .inl ⟨fun p hp => hne p hp h3, h4⟩
    · exact .inr ⟨h4, .inl ⟨fun p hp => hne p hp h3, h5⟩⟩
    · exact .inr ⟨h4, .inr (.inl ⟨fun p hp => hne p hp h5, h6, by rw [read1_nx]; exact h7⟩)⟩
    · exact .inr ⟨h4, .inr (.inr ⟨p, mk, List.mem_cons_of_mem _ h3, h5⟩)⟩
  · cases hp with
    | head =>
      refine ⟨h.nx, Nat.lt_succ_self _, hob, ?_, fun _ => hnone, e, List.mem_cons_self .., rfl⟩
      show s.look s.nx = none
      cases hl : s.look s.nx with
      | none => rfl
      | some ob' =>
        exfalso
        have h1 : (layP S ps s).look s.nx = some ob' := by
          rw [lay_out (fun p hp _ he => by have := (h.pend p hp).2.1; omega)]
          exact hl
        obtain ⟨p, _, hp, _⟩ := h.sim.obj _ _ h1
        rw [hnone] at hp
        cases hp
    | tail _ hp =>
      obtain ⟨h1, h2, h3, h4, h5, x, h6, h7⟩ := h.pend p hp
      exact ⟨h1, Nat.lt_succ_of_lt h2, h3, h4, h5, x, List.mem_cons_of_mem _ h6, h7⟩
  · refine List.pairwise_cons.2 ⟨fun q hq => ⟨?_, fun he => hps q hq he.symm⟩, h.dist⟩
    have := (h.pend q hq).2.1
    show s.nx ≠ q.l
    omega

variable {K : QK Prop}

/-- One step of the plan. -/
theorem quiet_one (hno : ∀ n, ¬ E.no n) (h : Inv E ops bef f0 ρ0 s0 w0 S log s rs ps a w ρ) {i : Nat} (hnew : ∀ x ∈ log, x.i ≠ i) (hbef : ∀ x, bit (bef.getD i 0) x = true → ∃ e' ∈ log, e'.i = x)
    (hk : quiet1 E ops i K (virt allB f0 log) s rs ps ops[i]?) :
    ∃ e s' rs' ps', e.i = i ∧ K (virt allB f0 (e :: log)) s' rs' ps' ∧ Inv E ops bef f0 ρ0 s0 w0 S (e :: log) s' rs' ps' a w ρ := by
  cases ho : ops[i]? with
  | none => rw [ho] at hk; exact absurd hk (hno _)
  | some o =>
    rw [ho] at hk
    unfold quiet1 at hk
    simp only at hk
    split at hk
    · rename_i hfit
      have hcons : ∀ v, virt allB f0 ((⟨i, o.dst, v⟩ : Ent) :: log) = (virt allB f0 log).put o.dst v := fun v => rfl
      split at hk
      · rename_i hw
        unfold quietC at hk
        split at hk
        · split at hk
          · rename_i v hv
            exact ⟨⟨i, o.dst, v⟩, s, rs, ps, rfl, by rw [hcons]; exact hk, h.note ho rfl hnew hbef (fun _ hr => hr) fun hps => ⟨o, ho, hfit, .inr ⟨hw, .inl ⟨hps, hv⟩⟩⟩⟩
          · exact absurd hk (hno _)
        · split at hk
          · rename_i v hv
            exact ⟨⟨i, o.dst, v⟩, s, _, ps, rfl, by rw [hcons]; exact hk, h.note ho rfl hnew hbef (fun _ hr => List.mem_cons_of_mem _ hr) fun hps => ⟨o, ho, hfit, .inr ⟨hw, .inr (.inl ⟨hps, List.mem_cons_self .., hv⟩)⟩⟩⟩
          · exact absurd hk (hno _)
        · split at hk
          · rename_i ob mk hv
            have hown : ob.owned = true := alloc1_owned hv
            exact ⟨⟨i, o.dst, mk s.nx⟩, _, rs, _, rfl, by rw [hcons]; exact hk, h.plan ho rfl hnew hbef hown ⟨o, ho, hfit, .inr ⟨hw, .inr (.inr ⟨⟨i, s.nx, ob⟩, mk, List.mem_cons_self .., rfl, hv, rfl⟩)⟩⟩⟩
          · exact absurd hk (hno _)
        · exact absurd hk (hno _)
      · rename_i hw
        exact ⟨⟨i, o.dst, .undef⟩, s, rs, ps, rfl, by rw [hcons]; exact hk, h.note ho rfl hnew hbef (fun _ hr => hr) fun hps => ⟨o, ho, hfit, .inl ⟨hps, hw, rfl⟩⟩⟩
    · exact absurd hk (hno _)

/-- A row of the plan. -/
theorem quiet_run (hno : ∀ n, ¬ E.no n) {prev : Option Nat} : ∀ {ns : List Nat} {done done' : Nat} {log : List Ent} {s : St} {rs : List Rec} {ps : List Pend}, Inv E ops bef f0 ρ0 s0 w0 S log s rs ps a w ρ → DoneRel done log →
    quietsOk E ops bef prev ns done = some done' → quietOps E ops K ns (virt allB f0 log) s rs ps →
    ∃ log' s' rs' ps', K (virt allB f0 log') s' rs' ps' ∧ Inv E ops bef f0 ρ0 s0 w0 S log' s' rs' ps' a w ρ ∧ DoneRel done' log'
  | [], done, done', log, s, rs, ps, h, hd, hq, hk => by
    obtain rfl := Option.some.inj hq
    exact ⟨log, s, rs, ps, hk, h, hd⟩
  | i :: ns, done, done', log, s, rs, ps, h, hd, hq, hk => by
    unfold quietsOk at hq
    split at hq
    · rename_i hc
      simp only [Bool.and_eq_true, Bool.not_eq_true'] at hc
      obtain ⟨h1, h2, _, _⟩ := hc
      have hnew : ∀ x ∈ log, x.i ≠ i := fun x hx he => by
        have := (hd i).2 ⟨x, hx, he⟩
        rw [h1] at this
        cases this
      obtain ⟨e, s', rs', ps', rfl, hk', h'⟩ := quiet_one hno h hnew (fun x hx => (hd x).1 (within_ok h2 hx)) hk
      exact quiet_run hno h' (hd.add e) hq hk'
    · cases hq
end

end Go.Ev
