/- An abstract evaluator over the model: a region's operations in whatever order. -/
import Derived.Test.YtcjcchidfinohaaGreatEv22
namespace Go.Ev

variable {E : Env Prop} {ops : Array Oper} {bef : Array Nat} {f0 : AF} {ρ0 : Pm} {s0 : St} {w0 : World}
variable {S : Nat → Bool} {log : List Ent} {s : St} {rs : List Rec} {ps : List Pend} {a : Act} {w : World} {ρ : Pm}

theorem fits_congr {f f' : AF} (h : f.n = f'.n) (d : Option Nat) : f.fits d = f'.fits d := by
  cases d with
  | none => rfl
  | some d => unfold AF.fits; simp only [h]

theorem FR.congr {f f' : AF} (h : FR ρ f a) (hn : f.n = f'.n) (hl : ∀ t, f.look t = f'.look t) : FR ρ f' a :=
  ⟨h.size.trans hn, h.defers, fun t => hl t ▸ h.val t⟩

theorem lkO_ok {f fin : AF} {g : Nat} {o : Oper} (hf : FR ρ f a) (hg : ∀ i, i < g → ∃ n, ρ i = some ⟨i, 0, n⟩) (h : ∀ t, t ∈ opdTmps o.op.operands.toList → f.look t = fin.look t) : Lks ρ (fin.lkO g o.op) a.eval := by
  intro x v hx
  cases x with
  | tmp t =>
    have hx : (match memN t (opdTmps o.op.operands.toList) with | true => undefO (fin.t.get (key t)) | false => none) = some v := hx
    split at hx
    · rename_i hm
      rw [look_def] at hx
      obtain rfl := Option.some.inj hx
      rw [← h t (memN_iff.1 hm)]
      exact hf.val t
    · cases hx
  | const c => exact hf.lk hg (.const c) v hx
  | global i => exact hf.lk hg (.global i) v hx
  | func i => exact hf.lk hg (.func i) v hx

theorem wanted_slots {f fin : AF} {o : Oper} (h : ∀ t, t ∈ guardTmp ops o.guard → f.look t = fin.look t) : wanted ops f o = wanted ops fin o := by
  unfold wanted
  unfold guardTmp at h
  cases hg : o.guard with
  | none => rfl
  | some q =>
    obtain ⟨j, want⟩ := q
    rw [hg] at h
    simp only at h ⊢
    cases hd : dstO ops[j]? with
    | none => rfl
    | some d =>
      cases d with
      | none => rfl
      | some d =>
        rw [hd] at h
        unfold wantD
        simp only
        rw [h d (by simp)]

theorem split_mem {α : Type} {x : α} : ∀ {l : List α}, x ∈ l → ∃ L R, l = L ++ x :: R
  | [], h => by cases h
  | y :: l, h => by
    cases h with
    | head => exact ⟨[], l, rfl⟩
    | tail _ h =>
      obtain ⟨L, R, rfl⟩ := split_mem h
      exact ⟨y :: L, R, rfl⟩

/-- An operation that the plan has done is listed. -/
theorem Inv.list (ho : Ord ops bef) (h : Inv E ops bef f0 ρ0 s0 w0 S log s rs ps a w ρ) {e : Ent} {o : Oper} (he : e ∈ log) (hi : ops[e.i]? = some o) (hS : S e.i = false) (hb : ∀ d ∈ o.after, Region.binds .any d = true → S d.on = true)
    (hfit : f0.fits o.dst = true) {u : Value} {w' : World} {ρ' : Pm} (hle : ρ.le ρ') (hu : VR ρ' e.v u) (hsim : Sim ρ' E.g (layP (more S e.i) ps s) w'.heap) (hste : Ste ρ0 s0 w0.heap ρ' (layP (more S e.i) ps s) w'.heap)
    (hout : Out w w') (hp : ∀ p ∈ ps, p.i ≠ e.i → ρ' p.l = ρ p.l) : Inv E ops bef f0 ρ0 s0 w0 (more S e.i) log s rs ps (a.put o.dst u) w' ρ' := by
  obtain ⟨L, R, rfl⟩ := split_mem he
  obtain ⟨o', ho', hd⟩ := h.sorted.op e he
  rw [hi] at ho'
  obtain rfl := Option.some.inj ho'
  have hsub : ∀ i, more S e.i i = false → S i = false ∧ i ≠ e.i := fun i hi => by
    unfold more at hi
    simp only [Bool.or_eq_false_iff] at hi
    exact ⟨hi.1, by simpa using hi.2⟩
  refine ⟨?_, hsim, hste, h.out.trans hout, h.closed.more hi hb, fun i hi => ?_, h.sorted, ?_, fun p hp' => ?_, h.dist⟩
  · have hf := (h.frame.mono hle).put (d := o.dst) (by rw [fits_congr (virt_n S f0 _)]; exact hfit) hu
    refine hf.congr (by rw [put_n, virt_n, virt_n]) fun t => ?_
    rw [virt_more ho h.closed h.sorted hS t, look_putO, hd]
  · by_cases hie : i = e.i
    · exact ⟨e, he, hie.symm⟩
    · rw [more_ne hie] at hi
      exact h.sub i hi
  · exact h.facts.imp fun x hx hSx => ⟨(hsub _ hSx).1, fun _ hf => hf⟩
  · obtain ⟨h1, h2, h3, h4, h5, h6⟩ := h.pend p hp'
    refine ⟨h1, h2, h3, h4, fun hSp => ?_, h6⟩
    obtain ⟨h7, h8⟩ := hsub _ hSp
    rw [hp p hp' h8]
    exact h5 h7

theorem Inv.weak (h : Inv E ops bef f0 ρ0 s0 w0 S log s rs ps a w ρ) (D : Nat → Bool) (hD : ∀ i, D i = true → S i = true) :
    (layP D ps s).nx = (layP S ps s).nx ∧ ∀ l ob, (layP D ps s).look l = some ob → (layP S ps s).look l = some ob := by
  refine ⟨by rw [lay_nx, lay_nx], fun l ob h1 => ?_⟩
  rcases lay_inv h1 with ⟨p, hp, hd, rfl, rfl⟩ | h1
  · exact lay_some h.dist p hp (hD _ hd)
  · rw [lay_out (fun p hp _ he => ?_)]
    · exact h1
    · have := (h.pend p hp).2.2.2.1
      rw [he, h1] at this
      cases this

theorem lay_none : ∀ (ps : List Pend), layP (fun _ => false) ps s = s
  | [] => rfl
  | p :: ps => by rw [layP_cons]; exact lay_none ps

theorem lay_more {e : Ent} (h : ∀ p ∈ ps, p.i ≠ e.i) : layP (more S e.i) ps s = layP S ps s := lay_same fun p hp => more_ne (h p hp)

/-- What the plan has done, is done. -/
theorem quiet_exec {P : Program} {Q : Exit → Act → World → Prop} {K : Act → World → Prop} (hP : E.P = P) (ho : Ord ops bef) (h : Inv E ops bef f0 ρ0 s0 w0 S log s rs ps a w ρ) {e : Ent} {o : Oper} (he : e ∈ log) (hi : ops[e.i]? = some o) (hS : S e.i = false)
    (hb : ∀ d ∈ o.after, Region.binds .any d = true → S d.on = true)
    (hK : ∀ a' w' ρ', Inv E ops bef f0 ρ0 s0 w0 (more S e.i) log s rs ps a' w' ρ' → K a' w') : wpOp P ops Q e.i K a w := by
  obtain ⟨L, R, rfl⟩ := split_mem he
  have hbef := ho.before h.closed e.i o hi hb
  have hslot : ∀ t, t ∈ readsOf ops o → (virt S f0 (L ++ e :: R)).look t = (virt allB f0 R).look t := fun t ht => slot_old ho h.closed h.sorted hi hS hbef (.inl ht)
  obtain ⟨o', ho', hfit, hfact⟩ := h.facts.get hS
  rw [hi] at ho'
  obtain rfl := Option.some.inj ho'
  have hfit0 : f0.fits o.dst = true := by rw [← hfit]; exact fits_congr (virt_n _ _ _).symm _
  have hw : Region.wanted o (yielded ops a.tmps) = wanted ops (virt allB f0 R) o := by
    rw [wanted_ok h.frame]
    exact wanted_slots fun t ht => hslot t (List.mem_append_left _ ht)
  have hl : Lks ρ ((virt allB f0 R).lkO E.g o.op) a.eval := lkO_ok h.frame h.sim.glob fun t ht => hslot t (List.mem_append_right _ ht)
  have hweak := h.weak (fun _ => false) (fun _ hf => by cases hf)
  rw [lay_none] at hweak
  have hsim : Sim ρ E.g s w.heap := h.sim.sub hweak.1 hweak.2
  have quiet : ∀ {u : Value}, (∀ p ∈ ps, p.i ≠ e.i) → VR ρ e.v u → K (a.put o.dst u) w := fun {u} hps hu => by
    refine hK _ _ ρ (h.list ho he hi hS hb hfit0 (Pm.le_refl ρ) hu ?_ ?_ (Out.refl w) fun p hp _ => rfl)
    · rw [lay_more hps]; exact h.sim
    · rw [lay_more hps]; exact h.ste
  unfold wpOp
  simp only [hi, hw]
  rcases hfact with ⟨hps, hwf, hv⟩ | ⟨hwt, hfact⟩
  · rw [hwf]
    simp only [Bool.false_eq_true, if_false]
    exact quiet hps (by rw [hv]; exact ⟨#[], rfl, rfl⟩)
  · rw [if_pos hwt]
    left
    unfold Oper.wp
    subst hP
    rcases hfact with ⟨hps, hpure⟩ | ⟨hps, _, hread⟩ | ⟨p, mk, hp, hpi, halloc, hv⟩
    · obtain ⟨u, hrun, hu⟩ := pure1_ok (w := w) hl hpure
      rw [hrun]
      exact quiet hps hu
    · obtain ⟨u, hrun, hu⟩ := read1_ok hsim hl hread
      rw [hrun]
      exact quiet hps hu
    · obtain ⟨u, w', ob', n, hrun, hheap, hout, hown, hnew⟩ := alloc1_ok (w := w) hl halloc
      rw [hrun]
      obtain ⟨q1, q2, q3, q4, q5, q6⟩ := h.pend p hp
      have hnone : ρ p.l = none := q5 (by rw [hpi]; exact hS)
      have hle : ρ.le (ρ.upd p.l ⟨w.heap.size, 0, n⟩) := Pm.le_upd hnone
      obtain ⟨r1, r2⟩ := hnew _ p.l hle (Pm.upd_same _ _ _)
      have hnx : (layP (more S e.i) ps s).nx = (layP S ps s).nx := by rw [lay_nx, lay_nx]
      have huniq : ∀ q ∈ ps, q.i = e.i → q = p := fun q hq hqi => by
        obtain ⟨L', R', hps⟩ := split_mem hp
        have hd := h.dist
        rw [hps] at hq hd
        obtain ⟨_, hd2, hd3⟩ := List.pairwise_append.1 hd
        rcases List.mem_append.1 hq with hq | hq
        · exact absurd (hqi.trans hpi.symm) (hd3 q hq p (List.mem_cons_self ..)).2
        · cases hq with
          | head => rfl
          | tail _ hq => exact absurd (hpi.trans hqi.symm) ((List.pairwise_cons.1 hd2).1 q hq).2
      have hdl : ∀ q ∈ ps, q.i ≠ e.i → q.l ≠ p.l := fun q hq hqi => by
        obtain ⟨L', R', hps⟩ := split_mem hp
        have hd := h.dist
        rw [hps] at hq hd
        obtain ⟨_, hd2, hd3⟩ := List.pairwise_append.1 hd
        rcases List.mem_append.1 hq with hq | hq
        · exact (hd3 q hq p (List.mem_cons_self ..)).1
        · cases hq with
          | head => exact absurd hpi hqi
          | tail _ hq => exact fun e => ((List.pairwise_cons.1 hd2).1 q hq).1 e.symm
      have hlook : ∀ k, (layP (more S e.i) ps s).look k = if k = p.l then some p.o else (layP S ps s).look k := fun k => by
        by_cases hk : k = p.l
        · rw [if_pos hk, hk]
          exact lay_some h.dist p hp (by rw [hpi]; exact more_same)
        · rw [if_neg hk]
          cases h1 : (layP (more S e.i) ps s).look k with
          | some ob =>
            rcases lay_inv h1 with ⟨q, hq, hd, rfl, rfl⟩ | h1
            · have hqi : q.i ≠ e.i := fun hqi => hk (by rw [huniq q hq hqi])
              rw [more_ne hqi] at hd
              exact (lay_some h.dist q hq hd).symm
            · exact (hweak.2 _ _ h1).symm
          | none =>
            cases h2 : (layP S ps s).look k with
            | none => rfl
            | some ob =>
              have : (layP (more S e.i) ps s).look k = some ob := by
                rcases lay_inv h2 with ⟨q, hq, hd, rfl, rfl⟩ | h2
                · exact lay_some h.dist q hq (by simp [more, hd])
                · rw [lay_out (fun q hq _ he => ?_)]
                  · exact h2
                  · have := (h.pend q hq).2.2.2.1
                    rw [he, h2] at this
                    cases this
              rw [this] at h1
              cases h1
      refine hK _ _ (ρ.upd p.l ⟨w.heap.size, 0, n⟩) (h.list ho he hi hS hb hfit0 hle (by rw [hv]; exact r1) ?_ ?_ hout fun q hq hqi => Pm.upd_ne (hdl q hq hqi))
      · rw [hheap]
        exact sim_lay h.sim (by rw [lay_nx]; exact q2) hnone r2 hnx hlook
      · rw [hheap]
        exact ste_lay h.ste q1 hnx hlook

end Go.Ev
