/- An abstract evaluator over the model: a region that draws its order. -/
import Derived.Test.YtcjcchidfinohaaGreatEv23
namespace Go.Ev

variable {E : Env Prop} {ops : Array Oper} {bef : Array Nat} {f0 : AF} {ρ0 : Pm} {s0 : St} {w0 : World}
variable {S : Nat → Bool} {log : List Ent} {s : St} {rs : List Rec} {ps : List Pend} {a : Act} {w : World} {ρ : Pm}

/-- An operation that calls or changes memory is listed, and done in the plan. -/
theorem Inv.loud (h : Inv E ops bef f0 ρ0 s0 w0 S log s rs ps a w ρ) {e : Ent} {o : Oper} (hi : ops[e.i]? = some o) (hd : o.dst = e.d) (hnew : ∀ x ∈ log, x.i ≠ e.i)
    (hbef : ∀ x, bit (bef.getD e.i 0) x = true → ∃ e' ∈ log, e'.i = x) (hb : ∀ d ∈ o.after, Region.binds .any d = true → S d.on = true) (hfit : f0.fits e.d = true)
    {u : Value} {s' : St} {ps' : List Pend} {w' : World} {ρ' : Pm} (hle : ρ.le ρ') (hu : VR ρ' e.v u) (hsim : Sim ρ' E.g (layP (more S e.i) ps' s') w'.heap) (hste : Ste ρ0 s0 w0.heap ρ' (layP (more S e.i) ps' s') w'.heap)
    (hout : Out w w') (hfacts : ∀ x ∈ log, S x.i = false → ∀ fin, Fact E ops s rs ps x fin → Fact E ops s' rs ps' x fin)
    (hpend : ∀ p ∈ ps', s0.nx ≤ p.l ∧ p.l < s'.nx ∧ p.o.owned = true ∧ s'.look p.l = none ∧ (S p.i = false → ρ' p.l = none) ∧ ∃ e ∈ log, e.i = p.i) (hdist : PDist ps') :
    Inv E ops bef f0 ρ0 s0 w0 (more S e.i) (e :: log) s' rs ps' (a.put e.d u) w' ρ' := by
  refine ⟨?_, hsim, hste, h.out.trans hout, h.closed.more hi hb, fun i hi' => ?_, ⟨hbef, hnew, ⟨o, hi, hd⟩, h.sorted⟩, ⟨fun hf => (by rw [more_same] at hf; cases hf), ?_⟩, fun p hp => ?_, hdist⟩
  · rw [virt_cons]
    simp only [more_same]
    rw [virt_more_out hnew]
    exact (h.frame.mono hle).put (by rw [fits_congr (virt_n S f0 _)]; exact hfit) hu
  · by_cases hie : i = e.i
    · exact ⟨e, List.mem_cons_self .., hie.symm⟩
    · rw [more_ne hie] at hi'
      obtain ⟨x, h1, h2⟩ := h.sub i hi'
      exact ⟨x, List.mem_cons_of_mem _ h1, h2⟩
  · refine h.facts.imp fun x hx hSx => ?_
    rw [more_ne (hnew x hx)] at hSx
    exact ⟨hSx, hfacts x hx hSx⟩
  · obtain ⟨h1, h2, h3, h4, h5, x, h6, h7⟩ := hpend p hp
    refine ⟨h1, h2, h3, h4, fun hS => h5 ?_, x, List.mem_cons_of_mem _ h6, h7⟩
    rwa [more_ne (h7 ▸ hnew x h6)] at hS

/-- An operation that calls or changes memory. -/
theorem loud_exec {P : Program} {Q : Exit → Act → World → Prop} {K : Act → World → Prop} {K' : QK Prop} {call : CallR Prop} (hP : E.P = P) (hno : ∀ n, ¬ E.no n) (hnm : Named P) (hc : CallOk P E.g call) (ho : Ord ops bef)
    (h : Inv E ops bef f0 ρ0 s0 w0 S log s rs ps a w ρ) {l : Nat} {o : Oper} (hi : ops[l]? = some o) (hnew : ∀ x ∈ log, x.i ≠ l)
    (hbef : ∀ x, bit (bef.getD l 0) x = true → ∃ e' ∈ log, e'.i = x) (hb : ∀ d ∈ o.after, Region.binds .any d = true → S d.on = true)
    (hk : draw1 E call ops (bef.getD l 0) K' (some o) (virt allB f0 log) s rs ps)
    (hK : ∀ e s' ps' a' w' ρ', e.i = l → K' (virt allB f0 (e :: log)) s' rs ps' → Inv E ops bef f0 ρ0 s0 w0 (more S l) (e :: log) s' rs ps' a' w' ρ' → K a' w') : wpOp P ops Q l K a w := by
  have hD := ho.before h.closed l o hi hb
  have hslot : ∀ t, t ∈ readsOf ops o → (virt S f0 log).look t = (virt allB f0 log).look t := fun t ht => slot_new ho h.sorted hi hnew hD (.inl ht)
  have hw : Region.wanted o (yielded ops a.tmps) = wanted ops (virt allB f0 log) o := by
    rw [wanted_ok h.frame]
    exact wanted_slots fun t ht => hslot t (List.mem_append_left _ ht)
  have hl : Lks ρ ((virt allB f0 log).lkO E.g o.op) a.eval := lkO_ok h.frame h.sim.glob fun t ht => hslot t (List.mem_append_right _ ht)
  have hpi : ∀ p ∈ ps, p.i ≠ l := fun p hp => by
    obtain ⟨_, _, _, _, _, x, h6, h7⟩ := h.pend p hp
    exact h7 ▸ hnew x h6
  unfold draw1 at hk
  simp only at hk
  split at hk
  · rename_i hfit
    have hfit0 : f0.fits o.dst = true := by rw [← hfit]; exact fits_congr (virt_n _ _ _).symm _
    unfold wpOp
    simp only [hi, hw]
    split at hk
    · rename_i hwt
      rw [if_pos hwt]
      left
      have hweak := h.weak (bit (bef.getD l 0)) hD
      refine step_ok hP hno hnm hc hl (h.sim.sub hweak.1 hweak.2) hk fun v s' w' ρ' u hv hu hsim hste hout => ?_
      split at hv
      · rename_i hst
        have hnx1 : (layP (bit (bef.getD l 0)) ps s).nx = s.nx := lay_nx _
        have hle : ρ.le ρ' := h.sim.le (fun k hk' => hste.agree k (by rw [hnx1]; rw [lay_nx] at hk'; exact hk'))
        have hrest : layP (more S l) (rest (bit (bef.getD l 0)) ps) s' = layP S (rest (bit (bef.getD l 0)) ps) s' := lay_same fun p hp => more_ne (hpi p (rest_mem.1 hp).1)
        have hs1 : ∀ p ∈ ps, bit (bef.getD l 0) p.i = false → (layP (bit (bef.getD l 0)) ps s).look p.l = none := fun p hp hpD => by
          rw [lay_out (fun q hq hqD he => ?_)]
          · exact (h.pend p hp).2.2.2.1
          · obtain ⟨L', R', hps⟩ := split_mem hp
            have hd := h.dist
            rw [hps] at hq hd
            obtain ⟨_, hd2, hd3⟩ := List.pairwise_append.1 hd
            rcases List.mem_append.1 hq with hq | hq
            · exact (hd3 q hq p (List.mem_cons_self ..)).1 he
            · cases hq with
              | head => rw [hpD] at hqD; cases hqD
              | tail _ hq => exact ((List.pairwise_cons.1 hd2).1 q hq).1 he.symm
        obtain ⟨m1, m2⟩ := merge_ok (b' := layP S (rest (bit (bef.getD l 0)) ps) s') h.sim hweak.1 hweak.2 hsim hste (lay_nx _) (fun k ob hk' => by
          rcases lay_inv hk' with ⟨p, hp, hd, rfl, rfl⟩ | hk'
          · obtain ⟨hp1, hp2⟩ := rest_mem.1 hp
            exact .inr ⟨lay_some h.dist p hp1 hd, hs1 p hp1 hp2, (h.pend p hp1).2.2.1⟩
          · exact .inl hk')
        have hinv := h.loud (e := ⟨l, o.dst, v⟩) hi rfl hnew hbef hb hfit0 hle hu (s' := s') (ps' := rest (bit (bef.getD l 0)) ps) (by rw [hrest]; exact m1) (by rw [hrest]; exact h.ste.trans m2) hout
          (fun x hx hSx fin hfin => by
            have hxD : bit (bef.getD l 0) x.i = false := by
              cases hxb : bit (bef.getD l 0) x.i with
              | false => rfl
              | true => rw [hD _ hxb] at hSx; cases hSx
            obtain ⟨ox, h1, h2, h3⟩ := hfin
            refine ⟨ox, h1, h2, ?_⟩
            rcases h3 with ⟨h3, h4⟩ | ⟨h4, ⟨h3, h5⟩ | ⟨h5, h6, h7⟩ | ⟨p, mk, h3, h5, h6⟩⟩
            · exact .inl ⟨fun p hp => h3 p (rest_mem.1 hp).1, h4⟩
            · exact .inr ⟨h4, .inl ⟨fun p hp => h3 p (rest_mem.1 hp).1, h5⟩⟩
            · exact .inr ⟨h4, .inr (.inl ⟨fun p hp => h5 p (rest_mem.1 hp).1, h6, still_ok hst _ h6 hxD⟩)⟩
            · exact .inr ⟨h4, .inr (.inr ⟨p, mk, rest_mem.2 ⟨h3, by rw [h5]; exact hxD⟩, h5, h6⟩)⟩)
          (fun p hp => by
            obtain ⟨hp1, hp2⟩ := rest_mem.1 hp
            obtain ⟨q1, q2, q3, q4, q5, q6⟩ := h.pend p hp1
            refine ⟨q1, Nat.lt_of_lt_of_le q2 (by rw [← hnx1]; exact hste.nx), q3, ?_, fun hS => ?_, q6⟩
            · cases hS : S p.i with
              | true => exact merge_none h.sim hweak.1 hweak.2 hsim hste (lay_some h.dist p hp1 hS) (hs1 p hp1 hp2) q3
              | false => exact merge_none' hsim hste (by rw [hnx1]; exact q2) (q5 hS)
            · rw [hste.agree p.l (by rw [hnx1]; exact q2)]
              exact q5 hS)
          (rest_dist h.dist)
        exact hK ⟨l, o.dst, v⟩ s' _ _ w' ρ' rfl hv hinv
      · exact absurd hv (hno _)
    · rename_i hwf
      have hwf' : ¬ wanted ops (virt allB f0 log) o = true := by rw [hwf]; simp
      rw [if_neg hwf']
      have hlay : layP (more S l) ps s = layP S ps s := lay_same fun p hp => more_ne (hpi p hp)
      have hinv := h.loud (e := ⟨l, o.dst, .undef⟩) (u := undef) hi rfl hnew hbef hb hfit0 (Pm.le_refl ρ) ⟨#[], rfl, rfl⟩ (s' := s) (ps' := ps) (by rw [hlay]; exact h.sim) (by rw [hlay]; exact h.ste) (Out.refl w)
        (fun _ _ _ _ hf => hf) h.pend h.dist
      exact hK ⟨l, o.dst, .undef⟩ s ps _ w ρ rfl hk hinv
  · exact absurd hk (hno _)

theorem quietsOk_mem {prev : Option Nat} : ∀ {ns : List Nat} {done done' : Nat}, quietsOk E ops bef prev ns done = some done' →
    (∀ x, bit done' x = true ↔ bit done x = true ∨ x ∈ ns) ∧ ∀ i ∈ ns, prevOk (bef.getD i 0) prev = true
  | [], done, done', h => by
    obtain rfl := Option.some.inj h
    simp
  | i :: ns, done, done', h => by
    unfold quietsOk at h
    split at h
    · rename_i hc
      simp only [Bool.and_eq_true] at hc
      obtain ⟨h1, h2⟩ := quietsOk_mem h
      refine ⟨fun x => ?_, fun j hj => ?_⟩
      · rw [h1 x, bit_add, List.mem_cons, or_assoc]
      · cases hj with
        | head => exact hc.2.2.1
        | tail _ hj => exact h2 j hj
    · cases h

theorem later_ok {last : List Nat} : ∀ {r : List (List Nat × Nat)} {l done : Nat}, phasesOk E ops bef last r (some l) done = true → ∀ i, i < ops.size → bit done i = false →
    ∃ x, bit (bef.getD i 0) x = true ∧ (x = l ∨ bit done x = false)
  | [], l, done, h, i, hi, hd => by
    unfold phasesOk at h
    split at h
    · rename_i done' hq
      obtain ⟨h1, h2⟩ := quietsOk_mem hq
      have h := Nat.eq_of_beq_eq_true h
      have hb : bit done' i = true := by rw [h, bit_full]; simpa using hi
      rcases (h1 i).1 hb with hb | hb
      · rw [hd] at hb; cases hb
      · exact ⟨l, h2 i hb, .inl rfl⟩
    · cases h
  | (ns, l2) :: r, l, done, h, i, hi, hd => by
    unfold phasesOk at h
    split at h
    · rename_i done' hq
      obtain ⟨h1, h2⟩ := quietsOk_mem hq
      split at h
      · rename_i hc
        simp only [Bool.and_eq_true, Bool.not_eq_true'] at hc
        by_cases hi2 : i = l2
        · subst hi2
          exact ⟨l, hc.2.2.1, .inl rfl⟩
        · by_cases hm : i ∈ ns
          · exact ⟨l, h2 i hm, .inl rfl⟩
          · have hnot : bit (Nat.lor done' (2 ^ l2)) i = false := by
              rw [Bool.eq_false_iff]
              intro hb
              rcases bit_add.1 hb with hb | hb
              · rcases (h1 i).1 hb with hb | hb
                · rw [hd] at hb; cases hb
                · exact hm hb
              · exact hi2 hb
            obtain ⟨x, hx, hx'⟩ := later_ok h i hi hnot
            refine ⟨x, hx, .inr ?_⟩
            rw [Bool.eq_false_iff]
            intro hb
            have hb' : bit done' x = true := (h1 x).2 (.inl hb)
            rcases hx' with rfl | hx'
            · rw [hc.1] at hb'; cases hb'
            · rw [Bool.eq_false_iff] at hx'
              exact hx' (bit_add.2 (.inl hb'))
      · cases h
    · cases h

/-- Where the plan waits. -/
def Wait (E : Env Prop) (call : CallR Prop) (ops : Array Oper) (bef : Array Nat) (last : List Nat) (K : AF → St → Prop) (ph : List (List Nat × Nat)) (done : Nat) (f : AF) (s : St) (rs : List Rec) (ps : List Pend) : Prop := match ph with
  | [] => done = 2 ^ ops.size - 1 ∧ K f (layP (fun _ => true) ps s)
  | (_, l) :: r => bit done l = false ∧ within (bef.getD l 0) done = true ∧ draw1 E call ops (bef.getD l 0) (fun f s rs ps => drawOps E call ops bef last K r f s rs ps) ops[l]? f s rs ps ∧
      phasesOk E ops bef last r (some l) (Nat.lor done (2 ^ l)) = true

theorem wait_of {call : CallR Prop} {last : List Nat} {K : AF → St → Prop} (hno : ∀ n, ¬ E.no n) {ph : List (List Nat × Nat)} {prev : Option Nat} {done : Nat} (h : Inv E ops bef f0 ρ0 s0 w0 S log s rs ps a w ρ) (hd : DoneRel done log)
    (hp : phasesOk E ops bef last ph prev done = true) (hk : drawOps E call ops bef last K ph (virt allB f0 log) s rs ps) :
    ∃ done' log' s' rs' ps', Wait E call ops bef last K ph done' (virt allB f0 log') s' rs' ps' ∧ Inv E ops bef f0 ρ0 s0 w0 S log' s' rs' ps' a w ρ ∧ DoneRel done' log' := by
  cases ph with
  | nil =>
    unfold phasesOk at hp
    split at hp
    · rename_i done' hq
      obtain ⟨log', s', rs', ps', h1, h2, h3⟩ := quiet_run hno h hd hq hk
      exact ⟨done', log', s', rs', ps', ⟨Nat.eq_of_beq_eq_true hp, h1⟩, h2, h3⟩
    · cases hp
  | cons q r =>
    obtain ⟨ns, l⟩ := q
    unfold phasesOk at hp
    split at hp
    · rename_i done' hq
      obtain ⟨log', s', rs', ps', h1, h2, h3⟩ := quiet_run hno h hd hq hk
      split at hp
      · rename_i hc
        simp only [Bool.and_eq_true, Bool.not_eq_true'] at hc
        exact ⟨done', log', s', rs', ps', ⟨hc.1, hc.2.1, h1, hp⟩, h2, h3⟩
      · cases hp
    · cases hp

/-- How many operations are not listed. -/
def left (n : Nat) (listed : Array Bool) : Nat := ((List.range n).filter fun i => !listed.getD i false).length

theorem filter_lt {α : Type} {p q : α → Bool} (hpq : ∀ x, q x = true → p x = true) : ∀ {l : List α} {x : α}, x ∈ l → p x = true → q x = false → (l.filter q).length < (l.filter p).length := by
  have hle : ∀ l : List α, (l.filter q).length ≤ (l.filter p).length := fun l => by
    induction l with
    | nil => simp
    | cons y l ih =>
      simp only [List.filter_cons]
      cases hq : q y with
      | true => rw [hpq y hq]; simpa using ih
      | false =>
        cases hp : p y with
        | true => simp; omega
        | false => simpa using ih
  intro l
  induction l with
  | nil => intro x hx; cases hx
  | cons y l ih =>
    intro x hx hp hq
    simp only [List.filter_cons]
    cases hx with
    | head => rw [hp, hq]; have := hle l; simp; omega
    | tail _ hx =>
      have := ih hx hp hq
      cases hq' : q y with
      | true => rw [hpq y hq']; simpa using this
      | false =>
        cases hp' : p y with
        | true => simp; omega
        | false => simpa using this

theorem set_get {listed : Array Bool} {i : Nat} (hi : i < listed.size) : (fun j => (listed.setIfInBounds i true).getD j false) = more (fun j => listed.getD j false) i := by
  funext j
  by_cases h : j = i
  · subst h
    rw [more_same, Array.getD_eq_getD_getElem?]
    simp [hi]
  · rw [more_ne h]
    exact getD_set_ne false (fun e => h e.symm)

theorem left_set {n : Nat} {listed : Array Bool} {i : Nat} (hi : i < listed.size) (hn : i < n) (h : listed.getD i false = false) : left n (listed.setIfInBounds i true) < left n listed := by
  have hset := set_get hi
  unfold left
  have hg : ∀ j, (listed.setIfInBounds i true).getD j false = more (fun j => listed.getD j false) i j := fun j => congrFun hset j
  refine filter_lt (fun x hx => ?_) (List.mem_range.2 hn) (by simpa using h) (by rw [hg, more_same]; rfl)
  rw [hg] at hx
  simp only [more, Bool.not_eq_true', Bool.or_eq_false_iff] at hx
  simpa using hx.1

theorem draw_main {P : Program} {Q : Exit → Act → World → Prop} {call : CallR Prop} {last : List Nat} {K : AF → St → Prop} (hP : E.P = P) (hno : ∀ n, ¬ E.no n) (hnm : Named P) (hc : CallOk P E.g call) (ho : Ord ops bef)
    (hQ : ∀ f' s' a' w' ρ', K f' s' → FR ρ' f' a' → Sim ρ' E.g s' w'.heap → Ste ρ0 s0 w0.heap ρ' s' w'.heap → Out w0 w' → Q .normal a' w') :
    ∀ (fuel : Nat) (listed : Array Bool) (ph : List (List Nat × Nat)) (done : Nat) (log : List Ent) (s : St) (rs : List Rec) (ps : List Pend) (a : Act) (w : World) (ρ : Pm), listed.size = ops.size →
      Inv E ops bef f0 ρ0 s0 w0 (fun i => listed.getD i false) log s rs ps a w ρ → DoneRel done log → Wait E call ops bef last K ph done (virt allB f0 log) s rs ps → left ops.size listed ≤ fuel →
      wpAny P .any ops Q fuel listed a w := by
  have fin : ∀ (listed : Array Bool) (ph : List (List Nat × Nat)) (done : Nat) (log : List Ent) (s : St) (rs : List Rec) (ps : List Pend) (a : Act) (w : World) (ρ : Pm), (∀ i, i < ops.size → listed.getD i false = true) →
      Inv E ops bef f0 ρ0 s0 w0 (fun i => listed.getD i false) log s rs ps a w ρ → DoneRel done log → Wait E call ops bef last K ph done (virt allB f0 log) s rs ps → Q .normal a w := by
    intro listed ph done log s rs ps a w ρ hall h hd hwt
    have hlog : ∀ e ∈ log, listed.getD e.i false = true := fun e he => by
      obtain ⟨o, hi, _⟩ := h.sorted.op e he
      exact hall _ (Array.getElem?_eq_some_iff.1 hi).1
    cases ph with
    | nil =>
      obtain ⟨_, hk⟩ := hwt
      have hlay : layP (fun i => listed.getD i false) ps s = layP (fun _ => true) ps s := lay_same fun p hp => by
        obtain ⟨_, _, _, _, _, x, h6, h7⟩ := h.pend p hp
        show listed.getD p.i false = true
        rw [← h7]; exact hlog x h6
      refine hQ _ _ a w ρ hk (h.frame.congr (by rw [virt_n, virt_n]) fun t => virt_congr fun e he _ => hlog e he) ?_ ?_ h.out
      · rw [← hlay]; exact h.sim
      · rw [← hlay]; exact h.ste
    | cons q r =>
      obtain ⟨ns, l⟩ := q
      obtain ⟨h1, _, h3, _⟩ := hwt
      exfalso
      cases ho' : ops[l]? with
      | none => rw [ho'] at h3; exact hno _ h3
      | some o =>
        obtain ⟨e, he, hel⟩ := h.sub l (hall l (Array.getElem?_eq_some_iff.1 ho').1)
        have := (hd l).2 ⟨e, he, hel⟩
        rw [h1] at this; cases this
  have empty : ∀ (listed : Array Bool), listed.size = ops.size → (∀ i o, ops[i]? = some o → ∀ e ∈ o.after, Region.binds .any e = true → e.on < i) → Region.ready .any ops listed = [] → ∀ i, i < ops.size → listed.getD i false = true := by
    intro listed hsz hedge hr i
    induction i using Nat.strongRecOn with
    | _ i ih =>
      intro hi
      cases hl : listed.getD i false with
      | true => rfl
      | false =>
        exfalso
        have hm : i ∈ Region.ready .any ops listed := by
          rw [mem_ready]
          refine ⟨?_, ops[i], Array.getElem?_eq_getElem hi, fun e he hb => ?_⟩
          · rw [Array.getD_eq_getD_getElem?] at hl ⊢
            rw [Array.getElem?_eq_getElem (by omega)] at hl ⊢
            simpa using hl
          · have := hedge i _ (Array.getElem?_eq_getElem hi) e he hb
            exact ih e.on this (by omega)
        rw [hr] at hm
        cases hm
  intro fuel
  induction fuel with
  | zero =>
    intro listed ph done log s rs ps a w ρ hsz h hd hwt hleft
    have hall : ∀ i, i < ops.size → listed.getD i false = true := fun i hi => by
      cases hl : listed.getD i false with
      | true => rfl
      | false =>
        have hz : (List.range ops.size).filter (fun i => !listed.getD i false) = [] := List.eq_nil_of_length_eq_zero (by unfold left at hleft; omega)
        have : i ∈ (List.range ops.size).filter (fun i => !listed.getD i false) := List.mem_filter.2 ⟨List.mem_range.2 hi, by rw [hl]; rfl⟩
        rw [hz] at this
        cases this
    refine ⟨?_, fin listed ph done log s rs ps a w ρ hall h hd hwt⟩
    rw [List.eq_nil_iff_forall_not_mem]
    intro i hi
    obtain ⟨h1, o, h2, _⟩ := mem_ready.1 hi
    have hlt := (Array.getElem?_eq_some_iff.1 h2).1
    have := hall i hlt
    rw [Array.getD_eq_getD_getElem?] at h1 this
    rw [Array.getElem?_eq_getElem (by omega)] at h1 this
    simp only [Option.getD_some] at h1 this
    rw [h1] at this
    cases this
  | succ fuel ih =>
    intro listed ph done log s rs ps a w ρ hsz h hd hwt hleft
    refine ⟨fun hr => fin listed ph done log s rs ps a w ρ (empty listed hsz ho.edge hr) h hd hwt, fun i hi => ?_⟩
    obtain ⟨h1, o, h2, h3⟩ := mem_ready.1 hi
    have hlt := (Array.getElem?_eq_some_iff.1 h2).1
    have hS : listed.getD i false = false := by
      rw [Array.getD_eq_getD_getElem?] at h1 ⊢
      rw [Array.getElem?_eq_getElem (by omega)] at h1 ⊢
      simpa using h1
    have hset := set_get (listed := listed) (i := i) (by omega)
    have hless := left_set (n := ops.size) (listed := listed) (i := i) (by omega) hlt hS
    have hsz' : (listed.setIfInBounds i true).size = ops.size := by simpa using hsz
    by_cases hin : ∃ e ∈ log, e.i = i
    · obtain ⟨e, he, rfl⟩ := hin
      exact quiet_exec hP ho h he h2 hS h3 fun a' w' ρ' h' => ih _ ph done log s rs ps a' w' ρ' hsz' (by rw [hset]; exact h') hd hwt (by omega)
    · have hnew : ∀ x ∈ log, x.i ≠ i := fun x hx hxi => hin ⟨x, hx, hxi⟩
      cases ph with
      | nil =>
        exfalso
        have hb : bit done i = true := by rw [hwt.1, bit_full]; simpa using hlt
        exact hin ((hd i).1 hb)
      | cons q r =>
        obtain ⟨ns, l⟩ := q
        obtain ⟨q1, q2, q3, q4⟩ := hwt
        by_cases hil : i = l
        · subst hil
          rw [h2] at q3
          refine loud_exec hP hno hnm hc ho h h2 hnew (fun x hx => (hd x).1 (within_ok q2 hx)) h3 q3 fun e s' ps' a' w' ρ' hei hk' h' => ?_
          have hd' : DoneRel (Nat.lor done (2 ^ i)) (e :: log) := hei ▸ hd.add e
          obtain ⟨done', log', s'', rs'', ps'', r1, r2, r3⟩ := wait_of hno h' hd' q4 hk'
          exact ih _ r done' log' s'' rs'' ps'' a' w' ρ' hsz' (by rw [hset]; exact r2) r3 r1 (by omega)
        · exfalso
          have hnot : bit (Nat.lor done (2 ^ l)) i = false := by
            rw [Bool.eq_false_iff]
            intro hb
            rcases bit_add.1 hb with hb | hb
            · exact hin ((hd i).1 hb)
            · exact hil hb
          obtain ⟨x, hx, hx'⟩ := later_ok q4 i hlt hnot
          have hSx := ho.before h.closed i o h2 h3 x hx
          obtain ⟨e, he, hex⟩ := h.sub x hSx
          have hdx := (hd x).2 ⟨e, he, hex⟩
          rcases hx' with rfl | hx'
          · rw [q1] at hdx; cases hdx
          · rw [Bool.eq_false_iff] at hx'
            exact hx' (bit_add.2 (.inl hdx))

/-- A region. -/
theorem region_ok {P : Program} {Q : Exit → Act → World → Prop} {call : CallR Prop} {K : AF → St → Prop} {id : Nat} {draw : Bool} {f : AF} (hP : E.P = P) (hm : P.follows .mixedOrders = true) (hno : ∀ n, ¬ E.no n) (hnm : Named P) (hc : CallOk P E.g call)
    (hf : FR ρ f a) (hs : Sim ρ E.g s w.heap) (h : region E call ops draw K f s)
    (hQ : ∀ f' s' a' w' ρ', K f' s' → FR ρ' f' a' → Sim ρ' E.g s' w'.heap → Ste ρ s w.heap ρ' s' w'.heap → Out w w' → Q .normal a' w') :
    (Code.region id ops draw).wp P Q a w := by
  unfold region at h
  cases draw with
  | false =>
    simp only at h
    refine wp_region ?_
    have := seq_ok hP rfl hno hnm hc ops.toList [] f s a w ρ rfl hf hs h hQ
    simpa [List.range_eq_range'] using this
  | true =>
    simp only at h
    refine wp_region_any hm ?_
    unfold drawPlan plan at h
    split at h
    · rename_i bef ph last hp
      unfold planned at hp
      generalize plan0 E ops = p0 at hp
      obtain ⟨bef', ph', last'⟩ := p0
      simp only at hp
      split at hp
      · rename_i hdraw
        obtain ⟨rfl, h1⟩ := Prod.mk.inj (Option.some.inj hp)
        obtain ⟨rfl, rfl⟩ := Prod.mk.inj h1
        obtain ⟨hord, hph⟩ := ord_of hdraw
        have hrep : ∀ i, (Array.replicate ops.size false).getD i false = false := fun i => by
          rw [Array.getD_eq_getD_getElem?, Array.getElem?_replicate]
          split <;> rfl
        have hinv : Inv E ops bef' f ρ s { w with drawn := w.drawn + 1 } (fun i => (Array.replicate ops.size false).getD i false) [] s [] [] a { w with drawn := w.drawn + 1 } ρ :=
          ⟨hf, hs, Ste.refl _ _ _, Out.refl _, fun i o hi => (by rw [hrep] at hi; cases hi), fun i hi => (by rw [hrep] at hi; cases hi), trivial, trivial, fun p hp => (by cases hp), List.Pairwise.nil⟩
        have hd0 : DoneRel 0 ([] : List Ent) := fun x => by rw [bit_zero]; simp
        obtain ⟨done', log', s', rs', ps', r1, r2, r3⟩ := wait_of hno hinv hd0 hph h
        refine draw_main (w0 := { w with drawn := w.drawn + 1 }) hP hno hnm hc hord (fun f' s' a' w' ρ' h1 h2 h3 h4 h5 => hQ f' s' a' w' ρ' h1 h2 h3 h4 ⟨h5.1, h5.2⟩) ops.size _ ph' done' log' s' rs' ps' a _ ρ (by simp) r2 r3 r1 ?_
        unfold left
        exact Nat.le_trans (List.length_filter_le _ _) (by simp)
      · cases hp
    · exact absurd h (hno _)

end Go.Ev
