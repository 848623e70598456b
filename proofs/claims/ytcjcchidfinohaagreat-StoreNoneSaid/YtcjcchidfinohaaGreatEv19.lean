/- An abstract evaluator over the model: one operation, and a row of them, in the order of the text. -/
import Derived.Test.YtcjcchidfinohaaGreatEv18
namespace Go.Ev
variable {P : Program} {ρ : Pm} {g : Nat} {s : St} {w : World}

/-- The frames agree. -/
structure FR (ρ : Pm) (f : AF) (a : Act) : Prop where
  size : a.tmps.size = f.n
  defers : a.defers = []
  val : ∀ t : Nat, VR ρ (f.look t) (a.tmps.getD t undef)

theorem FR.mono {ρ' : Pm} {f : AF} {a : Act} (h : FR ρ f a) (hle : ρ.le ρ') : FR ρ' f a := ⟨h.size, h.defers, fun t => (h.val t).mono hle⟩

theorem look_def (f : AF) (t : Nat) : undefO (f.t.get (key t)) = some (f.look t) := by
  unfold AF.look
  cases f.t.get (key t) <;> rfl

theorem look_putF (f : AF) (d t : Nat) (v : AV) : (f.put (some d) v).look t = if t = d then v else f.look t := by
  unfold AF.look AF.put
  by_cases h : t = d
  · subst h; simp [T.get_set_same]
  · rw [if_neg h]; simp only; rw [T.get_set_ne _ (key_ne (fun e => h e.symm))]

theorem FR.put {f : AF} {a : Act} (h : FR ρ f a) {d : Option Nat} (hd : f.fits d = true) {v : AV} {u : Value} (hv : VR ρ v u) : FR ρ (f.put d v) (a.put d u) := by
  cases d with
  | none => exact h
  | some d =>
    have hlt : d < f.n := by simpa [AF.fits, Nat.blt_eq] using hd
    refine ⟨?_, h.defers, fun t => ?_⟩
    · show (a.tmps.setIfInBounds d u).size = f.n
      rw [Array.size_setIfInBounds]; exact h.size
    · rw [look_putF]
      show VR ρ _ ((a.tmps.setIfInBounds d u).getD t undef)
      by_cases e : t = d
      · subst e
        rw [if_pos rfl]
        have : (a.tmps.setIfInBounds t u).getD t undef = u := by
          rw [Array.getD_eq_getD_getElem?]
          simp [h.size, hlt]
        rw [this]
        exact hv
      · rw [if_neg e]
        have : (a.tmps.setIfInBounds d u).getD t undef = a.tmps.getD t undef := by
          rw [Array.getD_eq_getD_getElem?, Array.getD_eq_getD_getElem?, Array.getElem?_setIfInBounds_ne (fun x => e x.symm)]
        rw [this]
        exact h.val t

theorem FR.lk {f : AF} {a : Act} (h : FR ρ f a) (hg : ∀ i, i < g → ∃ n, ρ i = some ⟨i, 0, n⟩) : Lks ρ (f.lk g) a.eval := by
  intro x v hx
  cases x with
  | tmp t =>
    have hx : undefO (f.t.get (key t)) = some v := hx
    rw [look_def] at hx
    obtain rfl := Option.some.inj hx
    exact h.val t
  | const c => exact ofV_ok _ _ _ hx
  | global i =>
    have hx : globO i g = some v := hx
    unfold globO at hx
    split at hx
    · rename_i hi
      obtain rfl := Option.some.inj hx
      obtain ⟨n, hn⟩ := hg i (by simpa [Nat.blt_eq] using hi)
      exact ⟨_, hn, rfl⟩
    · cases hx
  | func i =>
    obtain rfl := Option.some.inj hx
    exact ⟨_, _, rfl, rfl, rfl⟩

theorem VR.bool_inv {a : AV} {b : Bool} (h : VR ρ a (.bool b)) : a = .bool b := by
  cases a with
  | bool c => rw [VR.eq_1] at h; cases h; rfl
  | agg l => obtain ⟨cs, h, _⟩ := h; cases h
  | tuple l => obtain ⟨cs, h, _⟩ := h; cases h
  | fn f p q => obtain ⟨_, _, h, _⟩ := h; cases h
  | iface t a => obtain ⟨_, h, _⟩ := h; cases h
  | ptr l o => obtain ⟨_, _, h⟩ := h; cases h
  | slice l o n c s e => obtain ⟨_, _, _, _, h, _⟩ := h; cases h
  | map l => obtain ⟨_, _, h⟩ := h; cases h
  | _ => unfold VR at h; cases h

theorem wanted_ok {f : AF} {a : Act} (h : FR ρ f a) (ops : Array Oper) (o : Oper) : Region.wanted o (yielded ops a.tmps) = wanted ops f o := by
  unfold Region.wanted wanted
  cases hg : o.guard with
  | none => rfl
  | some q =>
    obtain ⟨j, want⟩ := q
    simp only
    unfold yielded dstO wantD
    cases hj : ops[j]? with
    | none => rfl
    | some p =>
      simp only [Option.bind_some]
      cases hd : p.dst with
      | none => rfl
      | some d =>
        simp only [Option.bind_some]
        have hv := h.val d
        rw [Array.getD_eq_getD_getElem?] at hv
        cases ht : a.tmps[d]? with
        | none =>
          rw [ht] at hv
          have hne : ∀ b, f.look d ≠ .bool b := fun b e => by rw [e] at hv; cases hv
          simp only
          unfold isB
          split
          · rename_i b hb; exact absurd hb (hne b)
          · rfl
        | some x =>
          rw [ht] at hv
          simp only [Option.getD_some] at hv
          cases x with
          | bool b =>
            rw [hv.bool_inv]
            cases b <;> cases want <;> rfl
          | _ =>
            have hne : ∀ b, f.look d ≠ .bool b := fun b e => by rw [e] at hv; cases hv
            simp only
            unfold isB
            split
            · rename_i b hb; exact absurd hb (hne b)
            · rfl

variable {e : Operand → Value} {lk : Lk} {o : Oper}

theorem lo_pure {a : AV} (hs : Sim ρ g s w.heap) (h : NO P w ρ e o a) : LO P g ρ s w e o a s := by
  obtain ⟨v, h1, h2⟩ := h
  exact ⟨v, w, ρ, .inl h1, h2, hs, Ste.refl _ _ _, Out.refl _⟩

theorem lo_alloc {ob : AObj} {mk : Nat → AV} (hs : Sim ρ g s w.heap) (h : AO P w ρ e o ob mk) : LO P g ρ s w e o (mk s.nx) (s.add ob) := by
  obtain ⟨v, w', ob', n, h1, h2, h3, _, h4⟩ := h
  have hle : ρ.le (ρ.upd s.nx ⟨w.heap.size, 0, n⟩) := Pm.le_upd (hs.fresh _ (Nat.le_refl _))
  obtain ⟨q1, q2⟩ := h4 _ s.nx hle (Pm.upd_same _ _ _)
  obtain ⟨r1, r2⟩ := sim_add hs q2
  exact ⟨v, w', _, .inl h1, q1, by rw [h2]; exact r1, by rw [h2]; exact r2, h3⟩

variable {E : Env Prop}

theorem plain_ok {a : AV} {s' : St} (hP : E.P = P) (hs : Sim ρ g s w.heap) (hl : Lks ρ lk e) (h : plainOp E lk o.op s = some (a, s')) : LO P g ρ s w e o a s' := by
  subst hP
  unfold plainOp at h
  split at h
  · unfold withS at h
    split at h
    · rename_i v hv
      obtain ⟨rfl, rfl⟩ := Prod.mk.inj (Option.some.inj h)
      exact lo_pure hs (pure1_ok hl hv)
    · cases h
  · unfold withS at h
    split at h
    · rename_i v hv
      obtain ⟨rfl, rfl⟩ := Prod.mk.inj (Option.some.inj h)
      exact lo_pure hs (read1_ok hs hl hv)
    · cases h
  · unfold layS at h
    split at h
    · rename_i ob mk hv
      obtain ⟨rfl, rfl⟩ := Prod.mk.inj (Option.some.inj h)
      exact lo_alloc hs (alloc1_ok hl hv)
    · cases h
  · exact loud1_ok hs hl h

/-- What is asked of the program: no function has the name of one that the model takes for itself. -/
def Named (P : Program) : Prop := ∀ (i : Nat) (fn : Func), P.funcs[i]? = some fn → (fn.name == "runtime.NumGoroutine") = false

/-- What is asked of the abstract call. -/
def CallOk (P : Program) (g : Nat) (call : CallR Prop) : Prop :=
  ∀ (i : FuncId) (l : List AV) (K : AV → St → Prop) (s : St) (w : World) (ρ : Pm) (us : List Value) (R : Ending → World → Prop), call i l K s → Sim ρ g s w.heap → VRs ρ l us →
    (∀ v s' w' ρ' u, K v s' → VR ρ' v u → Sim ρ' g s' w'.heap → Ste ρ s w.heap ρ' s' w'.heap → Out w w' → R (.returned u) w') →
    (∃ fn, P.funcs[i]? = some fn ∧ fn.body.isSome = true) ∧ Calls P i us.toArray w R

theorem callee_ok {i : FuncId} {l : List AV} (hl : Lks ρ lk e) (h : callee lk o.op = some (some (i, l))) (hnm : Named P) :
    ∃ us, VRs ρ l us ∧ ((∃ fn, P.funcs[i]? = some fn ∧ fn.body.isSome = true) → ∀ w, (execOp e o).run P w = .ok (.enter i us.toArray) w) := by
  unfold callee at h
  split at h
  · rename_i c ho
    split at h
    · rename_i x hx
      unfold calleeO at h
      split at h
      · rename_i gi first captured hf
        split at h
        · rename_i as has
          obtain ⟨rfl, rfl⟩ := Prod.mk.inj (Option.some.inj (Option.some.inj h))
          obtain ⟨x', y', hv, h1, h2⟩ := hl _ _ hf
          have h3 := lks_list hl has
          refine ⟨x'.toList ++ (c.args.toList.map e ++ y'.toList), VRs.append h1 (VRs.append h3 h2), ?_⟩
          rintro ⟨fn, hfn, hb⟩ w
          have hnone : ¬ fn.body = none := by intro hbb; rw [hbb] at hb; cases hb
          have hn : ¬ fn.name = "runtime.NumGoroutine" := by simpa using hnm _ _ hfn
          simp only [execOp, ho, resolve, hx, hv, Deferred.ofValue, invoke, callFunc]
          simp [hfn]
          rw [if_neg hn, if_neg hnone]
          congr 2
          apply Array.ext'
          simp
        · cases h
      · cases h
    · cases h
    · cases h
  · cases h

theorem step_ok {call : CallR Prop} {a : Act} {K : AV → St → Prop} {next : Act → World → Prop} {Q : Exit → Act → World → Prop} (hP : E.P = P) (hno : ∀ n, ¬ E.no n) (hnm : Named P) (hc : CallOk P g call)
    (hl : Lks ρ lk a.eval) (hs : Sim ρ g s w.heap) (h : stepOp E call lk o.op s K)
    (hK : ∀ v s' w' ρ' u, K v s' → VR ρ' v u → Sim ρ' g s' w'.heap → Ste ρ s w.heap ρ' s' w'.heap → Out w w' → next (a.put o.dst u) w') : o.wp P a w next Q := by
  unfold stepOp at h
  unfold Oper.wp
  split at h
  · exact absurd h (hno _)
  · rename_i i l hcal
    obtain ⟨us, hus, hrun⟩ := callee_ok (P := P) hl hcal hnm
    obtain ⟨hfn, hcalls⟩ := hc i l K s w ρ us (fun
        | .returned v, w'' => next (a.put o.dst v) w''
        | .panicked chain, w'' => Q (.panic chain) a w''
        | .outgrown, _ => LetsOut Q) h hs hus (fun v s' w' ρ' u h1 h2 h3 h4 h5 => hK v s' w' ρ' u h1 h2 h3 h4 h5)
    rw [hrun hfn w]
    exact hcalls
  · unfold resK at h
    split at h
    · rename_i v s' hv
      obtain ⟨u, w', ρ', hr, h1, h2, h3, h4⟩ := plain_ok hP hs hl hv
      rcases hr with hr | ⟨hr, rfl⟩
      · rw [hr]; exact hK v s' w' ρ' u h h1 h2 h3 h4
      · rw [hr]; exact hK v s' w' ρ' undef h h1 h2 h3 h4
    · exact absurd h (hno _)

/-- A row of operations, in the order of the text. -/
theorem seq_ok {call : CallR Prop} {ops : Array Oper} {K : AF → St → Prop} {Q : Exit → Act → World → Prop} (hP : E.P = P) (hg : E.g = g) (hno : ∀ n, ¬ E.no n) (hnm : Named P) (hc : CallOk P g call) :
    ∀ (l pre : List Oper) (f : AF) (s : St) (a : Act) (w : World) (ρ : Pm), ops.toList = pre ++ l → FR ρ f a → Sim ρ g s w.heap → seqOps E call ops K l f s →
    (∀ f' s' a' w' ρ', K f' s' → FR ρ' f' a' → Sim ρ' g s' w'.heap → Ste ρ s w.heap ρ' s' w'.heap → Out w w' → Q .normal a' w') →
    wpOps P ops Q (List.range' pre.length l.length) a w
  | [], pre, f, s, a, w, ρ, _, hf, hs, h, hQ => hQ f s a w ρ h hf hs (Ste.refl _ _ _) (Out.refl _)
  | o :: l, pre, f, s, a, w, ρ, hops, hf, hs, h, hQ => by
    have hget : ops[pre.length]? = some o := by
      rw [← Array.getElem?_toList, hops]
      simp
    have hrest : ops.toList = (pre ++ [o]) ++ l := by rw [hops]; simp
    have hlen : (pre ++ [o]).length = pre.length + 1 := by simp
    simp only [List.length_cons, List.range'_succ]
    rw [wpOps_cons]
    unfold wpOp
    rw [hget]
    simp only [wanted_ok hf]
    simp only [seqOps] at h
    unfold seq1 at h
    split at h
    · rename_i hfit
      split at h
      · rename_i hw
        rw [if_pos hw]
        left
        refine step_ok hP hno hnm hc (hg ▸ hf.lk hs.glob) hs h (fun v s' w' ρ' u h1 h2 h3 h4 h5 => ?_)
        have hf' := (hf.mono (hs.le h4.agree)).put hfit h2
        have := seq_ok hP hg hno hnm hc l (pre ++ [o]) _ _ (a.put o.dst u) w' ρ' hrest hf' h3 h1 (fun f' s'' a' w'' ρ'' k1 k2 k3 k4 k5 => hQ f' s'' a' w'' ρ'' k1 k2 k3 (h4.trans k4) (h5.trans k5))
        rwa [hlen] at this
      · rename_i hw
        have hw' : ¬ wanted ops f o = true := by rw [hw]; simp
        rw [if_neg hw']
        have hf' := hf.put hfit (v := .undef) (u := undef) ⟨#[], rfl, rfl⟩
        have := seq_ok hP hg hno hnm hc l (pre ++ [o]) _ _ (a.put o.dst undef) w ρ hrest hf' hs h hQ
        rwa [hlen] at this
    · exact absurd h (hno _)

end Go.Ev
