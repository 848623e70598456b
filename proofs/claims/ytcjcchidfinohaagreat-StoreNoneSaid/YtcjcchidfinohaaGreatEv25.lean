/- An abstract evaluator over the model: code, calls, and that all of it is right. -/
import Derived.Test.YtcjcchidfinohaaGreatEv24
import Derived.LoopN
import Derived.Tactics
namespace Go.Ev

variable {E : Env Prop} {P : Program} {ρ : Pm} {s : St} {a : Act} {w : World} {f : AF} {Q : Exit → Act → World → Prop}

def exOf : Ex → Exit
  | .normal => .normal
  | .exit id => .exit id
  | .ret => .ret

/-- What holds behind a piece of code. -/
def Post (E : Env Prop) (Q : Exit → Act → World → Prop) (K : CK Prop) (ρ : Pm) (s : St) (w : World) : Prop :=
  ∀ e f' s' a' w' ρ', K e f' s' → FR ρ' f' a' → Sim ρ' E.g s' w'.heap → Ste ρ s w.heap ρ' s' w'.heap → Out w w' → Q (exOf e) a' w'

theorem Post.later {K : CK Prop} (h : Post E Q K ρ s w) {ρ' : Pm} {s' : St} {w' : World} (ht : Ste ρ s w.heap ρ' s' w'.heap) (ho : Out w w') : Post E Q K ρ' s' w' :=
  fun e f'' s'' a'' w'' ρ'' h1 h2 h3 h4 h5 => h e f'' s'' a'' w'' ρ'' h1 h2 h3 (ht.trans h4) (ho.trans h5)

/-- What is asked of the rounds of a loop that are still to come. -/
def LoopOk (E : Env Prop) (P : Program) (loop : Code → CK Prop → AF → St → Prop) (n : Nat) : Prop :=
  ∀ (c : Code) (K : CK Prop) (f : AF) (s : St) (a : Act) (w : World) (ρ : Pm) (Q : Exit → Act → World → Prop), loop (.loop c) K f s → FR ρ f a → Sim ρ E.g s w.heap → Post E Q K ρ s w → Code.rounds P c Q n a w

structure Good (E : Env Prop) (P : Program) : Prop where
  prog : E.P = P
  mixed : P.follows .mixedOrders = true
  no : ∀ n, ¬ E.no n
  named : Named P

theorem code_ok (hE : Good E P) {call : CallR Prop} {loop : Code → CK Prop → AF → St → Prop} {n : Nat} (hc : CallOk P E.g call) (hl : LoopOk E P loop n) :
    ∀ (c : Code) (K : CK Prop) (f : AF) (s : St) (a : Act) (w : World) (ρ : Pm) (Q : Exit → Act → World → Prop), codeR E call loop c K f s → FR ρ f a → Sim ρ E.g s w.heap → Post E Q K ρ s w → c.wp P Q a w := by
  intro c
  induction c with
  | skip => intro K f s a w ρ Q h hf hs hQ; exact wp_skip (hQ .normal f s a w ρ h hf hs (Ste.refl _ _ _) (Out.refl _))
  | label l => intro K f s a w ρ Q h hf hs hQ; exact wp_label (hQ .normal f s a w ρ h hf hs (Ste.refl _ _ _) (Out.refl _))
  | ret => intro K f s a w ρ Q h hf hs hQ; exact wp_ret (hQ .ret f s a w ρ h hf hs (Ste.refl _ _ _) (Out.refl _))
  | exit id => intro K f s a w ρ Q h hf hs hQ; exact wp_exit (hQ (.exit id) f s a w ρ h hf hs (Ste.refl _ _ _) (Out.refl _))
  | seq x y ihx ihy =>
    intro K f s a w ρ Q h hf hs hQ
    refine wp_seq (ihx _ f s a w ρ _ h hf hs fun e f' s' a' w' ρ' h1 h2 h3 h4 h5 => ?_)
    cases e with
    | normal => exact ihy K f' s' a' w' ρ' Q h1 h2 h3 (hQ.later h4 h5)
    | exit id => exact hQ (.exit id) f' s' a' w' ρ' h1 h2 h3 h4 h5
    | ret => exact hQ .ret f' s' a' w' ρ' h1 h2 h3 h4 h5
  | cond c x y ihx ihy =>
    intro K f s a w ρ Q h hf hs hQ
    have h : condK (E.no 14) (fun f s => codeR E call loop x K f s) (fun f s => codeR E call loop y K f s) f s (f.lk E.g c) := h
    unfold condK at h
    split at h
    · rename_i hv
      exact wp_cond_true (hf.lk hs.glob _ _ hv) (ihx K f s a w ρ Q h hf hs hQ)
    · rename_i hv
      exact wp_cond_false (hf.lk hs.glob _ _ hv) (ihy K f s a w ρ Q h hf hs hQ)
    · exact absurd h (hE.no _)
  | block id x ihx =>
    intro K f s a w ρ Q h hf hs hQ
    refine wp_block (ihx _ f s a w ρ _ h hf hs fun e f' s' a' w' ρ' h1 h2 h3 h4 h5 => ?_)
    cases e with
    | normal => exact hQ .normal f' s' a' w' ρ' h1 h2 h3 h4 h5
    | ret => exact hQ .ret f' s' a' w' ρ' h1 h2 h3 h4 h5
    | exit j =>
      have h1 : (match Nat.beq j id with | true => K .normal f' s' | false => K (.exit j) f' s') := h1
      show (if j = id then Q .normal a' w' else Q (.exit j) a' w')
      split at h1
      · rename_i hj
        rw [if_pos (Nat.eq_of_beq_eq_true hj)]
        exact hQ .normal f' s' a' w' ρ' h1 h2 h3 h4 h5
      · rename_i hj
        rw [if_neg (fun e => by subst e; simp at hj)]
        exact hQ (.exit j) f' s' a' w' ρ' h1 h2 h3 h4 h5
  | loop x ihx =>
    intro K f s a w ρ Q h hf hs hQ
    refine wp_loop_rounds (n + 1) ?_
    rw [rounds_succ]
    refine ihx _ f s a w ρ _ h hf hs fun e f' s' a' w' ρ' h1 h2 h3 h4 h5 => ?_
    cases e with
    | normal => exact hl x K f' s' a' w' ρ' Q h1 h2 h3 (hQ.later h4 h5)
    | exit id => exact hQ (.exit id) f' s' a' w' ρ' h1 h2 h3 h4 h5
    | ret => exact hQ .ret f' s' a' w' ρ' h1 h2 h3 h4 h5
  | region id ops draw =>
    intro K f s a w ρ Q h hf hs hQ
    exact region_ok hE.prog hE.mixed hE.no hE.named hc hf hs h fun f' s' a' w' ρ' h1 h2 h3 h4 h5 => hQ .normal f' s' a' w' ρ' h1 h2 h3 h4 h5
  | _ => intro K f s a w ρ Q h; exact absurd h (hE.no _)

theorem round_ok (hE : Good E P) {call : CallR Prop} {loop : Code → CK Prop → AF → St → Prop} {n : Nat} (hc : CallOk P E.g call) (hl : LoopOk E P loop n) : LoopOk E P (codeR E call loop) (n + 1) := by
  intro x K f s a w ρ Q h hf hs hQ
  rw [rounds_succ]
  refine code_ok hE hc hl x _ f s a w ρ _ h hf hs fun e f' s' a' w' ρ' h1 h2 h3 h4 h5 => ?_
  cases e with
  | normal => exact hl x K f' s' a' w' ρ' Q h1 h2 h3 (hQ.later h4 h5)
  | exit id => exact hQ (.exit id) f' s' a' w' ρ' h1 h2 h3 h4 h5
  | ret => exact hQ .ret f' s' a' w' ρ' h1 h2 h3 h4 h5

def resOne (tmps : Array Value) : ResultVar → Sem Value
  | .tmp t => pure (tmps.getD t undef)
  | .cell p t => do loadVar t (← asAddr (tmps.getD p undef))

theorem results_eq (fn : Func) (tmps : Array Value) : results fn tmps = (do
    let vs ← fn.results.mapM (resOne tmps)
    pure (if h : vs.size = 1 then vs[0] else .tuple vs)) := rfl

theorem res_list (hP : E.P = P) (hf : FR ρ f a) (hs : Sim ρ E.g s w.heap) : ∀ (l : List ResultVar) (r : List AV), mapO (resultAV E f s) l = some r →
    ∃ vs, (l.mapM (resOne a.tmps)).run P w = .ok vs w ∧ VRs ρ r vs
  | [], r, h => by
    obtain rfl := Option.some.inj h
    exact ⟨[], by simp, rfl⟩
  | x :: l, r, h => by
    simp only [mapO] at h
    cases hx : resultAV E f s x with
    | none => rw [hx] at h; cases h
    | some v =>
      rw [hx] at h
      cases hr : mapO (resultAV E f s) l with
      | none => rw [hr] at h; cases h
      | some r' =>
        rw [hr] at h
        obtain rfl := Option.some.inj h
        obtain ⟨vs, h1, h2⟩ := res_list hP hf hs l r' hr
        have hlk := hf.lk (g := 0) (fun i hi => absurd hi (Nat.not_lt_zero i))
        have head : ∃ u, (resOne a.tmps x).run P w = .ok u w ∧ VR ρ v u := by
          cases x with
          | tmp t => exact ⟨_, rfl, hlk (.tmp t) v hx⟩
          | cell p t =>
            have hx : cellO E s t (f.lk 0 (.tmp p)) = some v := hx
            unfold cellO at hx
            split at hx
            · rename_i k off hp
              split at hx
              · rename_i row hrow
                obtain ⟨q, hq, hv⟩ := (hlk (.tmp p) _ hp).ptr_inv
                obtain ⟨q', c, t', fr, hq', hh, hsz, hc⟩ := row_ok hs hrow
                obtain rfl := Option.some.inj (hq.symm.trans hq')
                rw [hP] at hx
                obtain ⟨u, hu, hr'⟩ := loadVar_ok (P := P) (w := w) hh hc hx
                have hv : a.tmps.getD p undef = .pointer (some ⟨q.b, q.o + off, none⟩) := hv
                exact ⟨u, by
                  show Sem.run P (do loadVar t (← asAddr (a.tmps.getD p undef))) w = _
                  rw [hv]
                  simp [asAddr, hu], hr'⟩
              · cases hx
            · cases hx
        obtain ⟨u, hu, hv⟩ := head
        refine ⟨u :: vs, ?_, u, vs, rfl, hv, h2⟩
        rw [List.mapM_cons]
        simp [Sem.run_bind, hu, h1]

theorem results_ok (hP : E.P = P) (hf : FR ρ f a) (hs : Sim ρ E.g s w.heap) {fn : Func} {r : List AV} (h : mapO (resultAV E f s) fn.results.toList = some r) :
    ∃ v, (results fn a.tmps).run P w = .ok v w ∧ VR ρ (oneOf r) v := by
  obtain ⟨vs, h1, h2⟩ := res_list hP hf hs _ r h
  have hlen := h2.length
  have hrun : (results fn a.tmps).run P w = .ok (if h : vs.toArray.size = 1 then vs.toArray[0] else .tuple vs.toArray) w := by
    rw [results_eq, Array.mapM_eq_mapM_toList]
    simp [Sem.run_bind, h1]
  refine ⟨_, hrun, ?_⟩
  match r, h2, hlen with
  | [], h2, hlen => obtain rfl := h2; exact ⟨#[], rfl, rfl⟩
  | [x], h2, hlen =>
    obtain ⟨v, r, rfl, h3, rfl⟩ := h2
    exact h3
  | x :: y :: r, h2, hlen =>
    have : ¬ vs.toArray.size = 1 := by simp at hlen ⊢; omega
    rw [dif_neg this]
    exact ⟨vs.toArray, rfl, by simpa using h2⟩

theorem frame_look (n : Nat) : ∀ (l : List AV) (i : Nat) (t : T AV) (k : Nat), (frame n l i t).look k = if i ≤ k ∧ k < i + l.length then (l[k - i]?).getD .undef else (⟨n, t⟩ : AF).look k
  | [], i, t, k => by
    have : ¬ (i ≤ k ∧ k < i + 0) := by omega
    rw [List.length_nil, if_neg this]; rfl
  | x :: l, i, t, k => by
    show (frame n l (Nat.succ i) (t.set (key i) (some x))).look k = _
    rw [frame_look n l (Nat.succ i) _ k]
    by_cases hk : k = i
    · subst hk
      rw [if_neg (by omega), if_pos (by simp)]
      have := (look_putF ⟨n, t⟩ k k x).trans (if_pos rfl)
      have this : (⟨n, t.set (key k) (some x)⟩ : AF).look k = x := this
      rw [this]
      simp
    · by_cases h1 : Nat.succ i ≤ k ∧ k < Nat.succ i + l.length
      · have e : k - i = (k - Nat.succ i) + 1 := by omega
        rw [if_pos h1, if_pos (by simp; omega), e, List.getElem?_cons_succ]
      · rw [if_neg h1, if_neg (by simp; omega)]
        have := look_putF ⟨n, t⟩ i k x
        rw [if_neg hk] at this
        exact this

theorem frame_n (n : Nat) : ∀ (l : List AV) (i : Nat) (t : T AV), (frame n l i t).n = n
  | [], _, _ => rfl
  | _ :: l, _, _ => frame_n n l _ _

theorem frame_ok {l : List AV} {us : List Value} {n : Nat} (h : VRs ρ l us) (hn : l.length ≤ n) : FR ρ (frame n l 0 .e) { tmps := us.toArray ++ Array.replicate (n - us.toArray.size) undef, defers := [] } := by
  have hlen := h.length
  refine ⟨?_, rfl, fun t => ?_⟩
  · rw [frame_n]; simp; omega
  · rw [frame_look, Array.getD_eq_getD_getElem?]
    by_cases ht : t < l.length
    · have h1 : t < us.length := by omega
      obtain ⟨v, hv, hr⟩ := h.nth (i := t) (a := l[t]) (by rw [nth_eq]; exact List.getElem?_eq_getElem ht)
      rw [if_pos (by omega), Nat.sub_zero, List.getElem?_eq_getElem ht]
      have e : (us.toArray ++ Array.replicate (n - us.toArray.size) undef)[t]? = some v := by
        rw [Array.getElem?_append_left (by simpa using h1)]
        simpa using hv
      rw [e]
      exact hr
    · rw [if_neg (by omega)]
      have e : ((us.toArray ++ Array.replicate (n - us.toArray.size) undef)[t]?).getD undef = undef := by
        rw [Array.getElem?_append_right (by simp; omega), Array.getElem?_replicate]
        split <;> rfl
      rw [e]
      exact ⟨#[], rfl, rfl⟩

mutual
theorem codeN_ok (hE : Good E P) (hS : ∀ g q, E.spec g = some q → CallOk P E.g (fun i l K s => i = g ∧ q l K s)) : ∀ n, LoopOk E P (codeN E n) n ∧ (∀ (c : Code) (K : CK Prop) (f : AF) (s : St) (a : Act) (w : World) (ρ : Pm) (Q : Exit → Act → World → Prop), codeN E n c K f s → FR ρ f a → Sim ρ E.g s w.heap → Post E Q K ρ s w → c.wp P Q a w)
  | 0 => ⟨fun c K f s a w ρ Q h => absurd h (hE.no _), fun c K f s a w ρ Q h => absurd h (hE.no _)⟩
  | n + 1 => ⟨round_ok hE (callN_ok hE hS n) (codeN_ok hE hS n).1, code_ok hE (callN_ok hE hS n) (codeN_ok hE hS n).1⟩
theorem callN_ok (hE : Good E P) (hS : ∀ g q, E.spec g = some q → CallOk P E.g (fun i l K s => i = g ∧ q l K s)) : ∀ n, CallOk P E.g (callN E n)
  | 0 => fun i l K s w ρ us R h => absurd h (hE.no _)
  | n + 1 => fun i l K s w ρ us R h hs hl hR => by
    have h : callS E (codeN E n) i l K s (E.spec i) := h
    unfold callS at h
    split at h
    · rename_i q hq
      exact hS i q hq i l K s w ρ us R ⟨rfl, h⟩ hs hl hR
    · unfold call1 at h
      split at h
      · exact absurd h (hE.no _)
      · rename_i fn hfn
        have hfn := fn_ok hfn
        rw [hE.prog] at hfn
        unfold enter at h
        split at h
        · exact absurd h (hE.no _)
        · rename_i c hb
          split at h
          · rename_i hlen
            refine ⟨⟨fn, hfn, by rw [hb]; rfl⟩, calls_of_wp hfn hb ?_⟩
            refine (codeN_ok hE hS n).2 c _ _ s _ w ρ _ h (frame_ok hl (Nat.le_of_ble_eq_true hlen)) hs fun e f' s' a' w' ρ' h1 h2 h3 h4 h5 => ?_
            have fin : retK E K s' (mapO (resultAV E f' s') fn.results.toList) → a'.defers = [] ∧ ∃ v, (results fn a'.tmps).run P w' = .ok v w' ∧ R (.returned v) w' := fun h => by
              unfold retK at h
              split at h
              · rename_i r hr
                obtain ⟨v, hv1, hv2⟩ := results_ok hE.prog h2 h3 hr
                exact ⟨h2.defers, v, hv1, hR _ _ _ _ _ h hv2 h3 h4 h5⟩
              · exact absurd h (hE.no _)
            cases e with
            | normal => exact fin h1
            | ret => exact fin h1
            | exit id => exact absurd h1 (hE.no _)
          · exact absurd h (hE.no _)
end

end Go.Ev
