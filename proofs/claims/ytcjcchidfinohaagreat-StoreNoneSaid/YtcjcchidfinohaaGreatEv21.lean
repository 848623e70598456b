/- An abstract evaluator over the model: blocks that are laid later than the plan says. -/
import Derived.Test.YtcjcchidfinohaaGreatEv20
namespace Go.Ev

mutual
theorem AV.beq_ok : ∀ (a b : AV), AV.beq a b = true → a = b
  | .bool a, b, h => by cases b <;> simp [AV.beq] at h; rw [h]
  | .int k a, b, h => by
    cases b <;> simp [AV.beq, kindEq_iff, ieq_eq] at h
    rw [h.1, h.2]
  | .str a, b, h => by cases b <;> simp [AV.beq, bytesEq_eq] at h; rw [h]
  | .nilPtr, b, h => by cases b <;> simp [AV.beq] at h; rfl
  | .nilSlice, b, h => by cases b <;> simp [AV.beq] at h; rfl
  | .nilMap, b, h => by cases b <;> simp [AV.beq] at h; rfl
  | .nilFunc, b, h => by cases b <;> simp [AV.beq] at h; rfl
  | .nilIface, b, h => by cases b <;> simp [AV.beq] at h; rfl
  | .ptr a o, b, h => by cases b <;> simp [AV.beq] at h; rw [h.1, h.2]
  | .slice a o c d e f, b, h => by cases b <;> simp [AV.beq] at h; obtain ⟨h1, h2, h3, h4, h5, h6⟩ := h; rw [h1, h2, h3, h4, h5, h6]
  | .map a, b, h => by cases b <;> simp [AV.beq] at h; rw [h]
  | .fn f a c, b, h => by
    cases b <;> simp [AV.beq] at h
    rw [h.1, beqs_ok _ _ h.2.1, beqs_ok _ _ h.2.2]
  | .iface t a, b, h => by
    cases b <;> simp [AV.beq] at h
    rw [h.1, AV.beq_ok _ _ h.2]
  | .agg a, b, h => by cases b <;> simp [AV.beq] at h; rw [beqs_ok _ _ h]
  | .tuple a, b, h => by cases b <;> simp [AV.beq] at h; rw [beqs_ok _ _ h]
theorem beqs_ok : ∀ (a b : List AV), beqs a b = true → a = b
  | [], b, h => by cases b <;> simp [beqs] at h; rfl
  | a :: l, b, h => by
    cases b with
    | nil => simp [beqs] at h
    | cons b r =>
      simp [beqs] at h
      rw [AV.beq_ok _ _ h.1, beqs_ok _ _ h.2]
end

theorem read1_nx {P : Program} {lk : Lk} {o : Op} {s : St} (n : Nat) : read1 P lk o ⟨s.h, n⟩ = read1 P lk o s := by
  cases o <;> rfl

section
variable {D S : Nat → Bool} {s : St}

def PDist (ps : List Pend) : Prop := ps.Pairwise fun p q => p.l ≠ q.l ∧ p.i ≠ q.i

theorem layP_cons (D : Nat → Bool) (p : Pend) (ps : List Pend) (s : St) : layP D (p :: ps) s = match D p.i with
    | true => (layP D ps s).put p.l p.o
    | false => layP D ps s := rfl

theorem lay_nx : ∀ (ps : List Pend), (layP D ps s).nx = s.nx
  | [] => rfl
  | p :: ps => by
    rw [layP_cons]
    split
    · exact lay_nx ps
    · exact lay_nx ps

theorem lay_inv : ∀ {ps : List Pend} {l : Nat} {ob : AObj}, (layP D ps s).look l = some ob → (∃ p ∈ ps, D p.i = true ∧ p.l = l ∧ p.o = ob) ∨ s.look l = some ob
  | [], _, _, h => .inr h
  | p :: ps, l, ob, h => by
    rw [layP_cons] at h
    split at h
    · rename_i hd
      rw [look_put] at h
      by_cases hl : l = p.l
      · rw [if_pos hl] at h
        exact .inl ⟨p, List.mem_cons_self .., hd, hl.symm, Option.some.inj h⟩
      · rw [if_neg hl] at h
        rcases lay_inv h with ⟨q, h1, h2⟩ | h
        · exact .inl ⟨q, List.mem_cons_of_mem _ h1, h2⟩
        · exact .inr h
    · rcases lay_inv h with ⟨q, h1, h2⟩ | h
      · exact .inl ⟨q, List.mem_cons_of_mem _ h1, h2⟩
      · exact .inr h

theorem lay_out {l : Nat} : ∀ {ps : List Pend}, (∀ p ∈ ps, D p.i = true → p.l ≠ l) → (layP D ps s).look l = s.look l
  | [], _ => rfl
  | p :: ps, h => by
    rw [layP_cons]
    have ih := lay_out (fun q hq => h q (List.mem_cons_of_mem _ hq))
    split
    · rename_i hd
      rw [look_put, if_neg (fun e => h p (List.mem_cons_self ..) hd e.symm)]
      exact ih
    · exact ih

theorem lay_some : ∀ {ps : List Pend}, PDist ps → ∀ p ∈ ps, D p.i = true → (layP D ps s).look p.l = some p.o
  | [], _, p, hp, _ => by cases hp
  | q :: ps, h, p, hp, hd => by
    obtain ⟨h1, h2⟩ := List.pairwise_cons.1 h
    rw [layP_cons]
    cases hp with
    | head => rw [hd]; simp only; rw [look_put, if_pos rfl]
    | tail _ hp =>
      have ih := lay_some h2 p hp hd
      split
      · rw [look_put, if_neg (fun e => (h1 p hp).1 e.symm)]; exact ih
      · exact ih

theorem lay_same {D' : Nat → Bool} : ∀ {ps : List Pend}, (∀ p ∈ ps, D p.i = D' p.i) → layP D ps s = layP D' ps s
  | [], _ => rfl
  | p :: ps, h => by
    rw [layP_cons, layP_cons, h p (List.mem_cons_self ..), lay_same (fun q hq => h q (List.mem_cons_of_mem _ hq))]

theorem lay_h (n : Nat) : ∀ (ps : List Pend), (layP D ps ⟨s.h, n⟩).h = (layP D ps s).h
  | [] => rfl
  | p :: ps => by
    rw [layP_cons, layP_cons]
    split
    · show T.set _ _ _ = T.set _ _ _; rw [lay_h n ps]
    · exact lay_h n ps

theorem rest_mem {p : Pend} : ∀ {ps : List Pend}, p ∈ rest D ps ↔ p ∈ ps ∧ D p.i = false
  | [] => by simp [rest]
  | q :: ps => by
    unfold rest
    split
    · rename_i hd
      rw [rest_mem]
      constructor
      · exact fun ⟨h1, h2⟩ => ⟨List.mem_cons_of_mem _ h1, h2⟩
      · rintro ⟨h1, h2⟩
        cases h1 with
        | head => rw [hd] at h2; cases h2
        | tail _ h1 => exact ⟨h1, h2⟩
    · rename_i hd
      rw [List.mem_cons, rest_mem, List.mem_cons]
      constructor
      · rintro (rfl | ⟨h1, h2⟩)
        · exact ⟨.inl rfl, hd⟩
        · exact ⟨.inr h1, h2⟩
      · rintro ⟨rfl | h1, h2⟩
        · exact .inl rfl
        · exact .inr ⟨h1, h2⟩

theorem rest_dist : ∀ {ps : List Pend}, PDist ps → PDist (rest D ps)
  | [], h => h
  | p :: ps, h => by
    obtain ⟨h1, h2⟩ := List.pairwise_cons.1 h
    unfold rest
    split
    · exact rest_dist h2
    · exact List.pairwise_cons.2 ⟨fun q hq => h1 q (rest_mem.1 hq).1, rest_dist h2⟩

theorem still_ok {R : Type} {E : Env R} : ∀ {rs : List Rec}, still E D s rs = true → ∀ c ∈ rs, D c.i = false → read1 E.P (c.f.lkO E.g c.o) c.o s = some c.v
  | [], _, c, hc, _ => by cases hc
  | q :: rs, h, c, hc, hd => by
    unfold still at h
    split at h
    · rename_i hq
      cases hc with
      | head => rw [hq] at hd; cases hd
      | tail _ hc => exact still_ok h c hc hd
    · split at h
      · rename_i v hv
        simp only [Bool.and_eq_true] at h
        cases hc with
        | head => rw [hv, AV.beq_ok _ _ h.1]
        | tail _ hc => exact still_ok h.2 c hc hd
      · cases h
end

section
variable {ρ : Pm} {g : Nat}

theorem Sim.sub {s s1 : St} {h : Array Obj} (hs : Sim ρ g s h) (hnx : s1.nx = s.nx) (hsub : ∀ l ob, s1.look l = some ob → s.look l = some ob) : Sim ρ g s1 h :=
  ⟨fun l ob h1 => hs.obj l ob (hsub _ _ h1), fun l l' ob ob' p p' h1 h2 => hs.sep l l' ob ob' p p' (hsub _ _ h1) (hsub _ _ h2), fun l hl => hs.fresh l (by omega), hs.glob⟩

theorem sim_lay {s s' : St} {h : Array Obj} {l : Nat} {ob : AObj} {x : Obj} {n : Nat} (hs : Sim ρ g s h) (hl : l < s.nx) (hn : ρ l = none)
    (hx : ObjR (ρ.upd l ⟨h.size, 0, n⟩) ⟨h.size, 0, n⟩ ob x) (hnx : s'.nx = s.nx) (hlook : ∀ k, s'.look k = if k = l then some ob else s.look k) :
    Sim (ρ.upd l ⟨h.size, 0, n⟩) g s' (h.push x) := by
  have hle : ρ.le (ρ.upd l ⟨h.size, 0, n⟩) := Pm.le_upd hn
  have hpush : ∀ b : Nat, b < h.size → (h.push x)[b]? = h[b]? := fun b hb => by rw [Array.getElem?_push, if_neg (by omega)]
  refine ⟨fun k ob1 h1 => ?_, fun l1 l2 ob1 ob2 p1 p2 h1 h2 h3 h4 h5 h6 => ?_, fun k hk => ?_, fun i hi => ?_⟩
  · rw [hlook] at h1
    by_cases e1 : k = l
    · rw [if_pos e1] at h1
      obtain rfl := Option.some.inj h1
      subst e1
      exact ⟨_, x, Pm.upd_same _ _ _, by simp, hx⟩
    · rw [if_neg e1] at h1
      obtain ⟨p1, o1, hp1, hh1, hr1⟩ := hs.obj _ _ h1
      exact ⟨p1, o1, hle _ _ hp1, by rw [hpush _ (hs.lt h1 hp1)]; exact hh1, hr1.mono hle⟩
  · rw [hlook] at h1 h2
    by_cases e1 : l1 = l
    · subst e1
      rw [Pm.upd_same] at h5
      obtain rfl := Option.some.inj h5
      rw [if_neg (fun e => h4 e.symm)] at h2
      rw [Pm.upd_ne (fun e => h4 e.symm)] at h6
      have := hs.lt h2 h6
      simp only
      omega
    · rw [if_neg e1] at h1
      rw [Pm.upd_ne e1] at h5
      by_cases e2 : l2 = l
      · subst e2
        rw [Pm.upd_same] at h6
        obtain rfl := Option.some.inj h6
        have := hs.lt h1 h5
        simp only
        omega
      · rw [if_neg e2] at h2
        rw [Pm.upd_ne e2] at h6
        exact hs.sep l1 l2 ob1 ob2 p1 p2 h1 h2 h3 h4 h5 h6
  · rw [Pm.upd_ne (by omega)]
    exact hs.fresh k (by omega)
  · obtain ⟨m, hm⟩ := hs.glob i hi
    exact ⟨m, hle _ _ hm⟩

theorem ste_lay {ρ0 : Pm} {s0 s s' : St} {h0 h : Array Obj} {l : Nat} {ob : AObj} {x : Obj} {n : Nat} (ht : Ste ρ0 s0 h0 ρ s h) (hl : s0.nx ≤ l)
    (hnx : s'.nx = s.nx) (hlook : ∀ k, s'.look k = if k = l then some ob else s.look k) :
    Ste ρ0 s0 h0 (ρ.upd l ⟨h.size, 0, n⟩) s' (h.push x) := by
  refine ⟨by rw [hnx]; exact ht.nx, fun k hk => by rw [Pm.upd_ne (by omega)]; exact ht.agree k hk, by have := ht.size; simp; omega, fun b hb hf => ?_, fun k ob1 p1 h1 h3 => ?_⟩
  · have := ht.size
    rw [Array.getElem?_push, if_neg (by omega)]
    exact ht.frame b hb hf
  · rw [hlook] at h1
    by_cases e1 : k = l
    · subst e1
      rw [Pm.upd_same] at h3
      obtain rfl := Option.some.inj h3
      exact .inl ht.size
    · rw [if_neg e1] at h1
      rw [Pm.upd_ne e1] at h3
      exact ht.own k ob1 p1 h1 h3

/-- What an operation did that saw a part of memory, seen with all of it. -/
theorem merge_ok {ρ' : Pm} {b b' s1 s' : St} {h h' : Array Obj} (hs : Sim ρ g b h) (hnx1 : s1.nx = b.nx) (hsub : ∀ l ob, s1.look l = some ob → b.look l = some ob)
    (hs' : Sim ρ' g s' h') (ht : Ste ρ s1 h ρ' s' h') (hnx : b'.nx = s'.nx)
    (hlook : ∀ l ob, b'.look l = some ob → s'.look l = some ob ∨ (b.look l = some ob ∧ s1.look l = none ∧ ob.owned = true)) :
    Sim ρ' g b' h' ∧ Ste ρ b h ρ' b' h' := by
  have hle : ρ.le ρ' := hs.le (fun l hl => ht.agree l (by omega))
  have far : ∀ l ob p, b.look l = some ob → s1.look l = none → ob.owned = true → ρ l = some p → ∀ l2 ob2 p2, s'.look l2 = some ob2 → ρ' l2 = some p2 → p2.b ≠ p.b := by
    intro l ob p h1 h2 h3 h4 l2 ob2 p2 h5 h6 h7
    have hlt := hs.lt h1 h4
    rcases ht.own l2 ob2 p2 h5 h6 with h8 | ⟨l0, ob0, p0, h8, _, h9, h10⟩
    · omega
    · have hne : l ≠ l0 := fun e => by subst e; rw [h2] at h8; cases h8
      exact hs.sep l l0 ob ob0 p p0 h1 (hsub _ _ h8) h3 hne h4 h9 (by omega)
  have pend : ∀ l ob, b.look l = some ob → ∃ p, ρ l = some p ∧ ∀ q, ρ' l = some q → p = q := fun l ob h1 => by
    obtain ⟨p, o, hp, _⟩ := hs.obj l ob h1
    refine ⟨p, hp, fun q hq => ?_⟩
    rw [hle _ _ hp] at hq
    exact Option.some.inj hq
  refine ⟨⟨fun l ob h1 => ?_, fun l1 l2 ob1 ob2 p1 p2 h1 h2 h3 h4 h5 h6 => ?_, fun l hl => hs'.fresh l (by omega), hs'.glob⟩,
    ⟨by have := ht.nx; omega, fun l hl => ht.agree l (by omega), ht.size, fun k hk hf => ht.frame k hk (fun l ob p h1 => hf l ob p (hsub _ _ h1)), fun l ob p h1 h2 => ?_⟩⟩
  · rcases hlook _ _ h1 with h1 | ⟨h1, h2, h3⟩
    · exact hs'.obj _ _ h1
    · obtain ⟨p, o, hp, hh, hr⟩ := hs.obj _ _ h1
      refine ⟨p, o, hle _ _ hp, ?_, hr.mono hle⟩
      rw [ht.frame p.b (hs.lt h1 hp) (fun l2 ob2 p2 k1 k2 k3 => ?_)]
      · exact hh
      · exact hs.sep l2 l ob2 ob p2 p (hsub _ _ k1) h1 k2 (fun e => by subst e; rw [h2] at k1; cases k1) k3 hp
  · rcases hlook _ _ h1 with k1 | ⟨k1, k2, k3⟩ <;> rcases hlook _ _ h2 with m1 | ⟨m1, m2, m3⟩
    · exact hs'.sep l1 l2 ob1 ob2 p1 p2 k1 m1 h3 h4 h5 h6
    · obtain ⟨p, hp, hq⟩ := pend _ _ m1
      obtain rfl := hq _ h6
      exact far l2 ob2 p m1 m2 m3 hp l1 ob1 p1 k1 h5
    · obtain ⟨p, hp, hq⟩ := pend _ _ k1
      obtain rfl := hq _ h5
      exact fun e => far l1 ob1 p k1 k2 k3 hp l2 ob2 p2 m1 h6 e.symm
    · obtain ⟨p, hp, hq⟩ := pend _ _ k1
      obtain rfl := hq _ h5
      obtain ⟨p', hp', hq'⟩ := pend _ _ m1
      obtain rfl := hq' _ h6
      exact hs.sep l1 l2 ob1 ob2 p p' k1 m1 h3 h4 hp hp'
  · rcases hlook _ _ h1 with k1 | ⟨k1, k2, k3⟩
    · rcases ht.own l ob p k1 h2 with h | ⟨l0, ob0, p0, h, h'⟩
      · exact .inl h
      · exact .inr ⟨l0, ob0, p0, hsub _ _ h, h'⟩
    · obtain ⟨q, hq, hq'⟩ := pend _ _ k1
      obtain rfl := hq' _ h2
      exact .inr ⟨l, ob, q, k1, id, hq, rfl⟩

/-- A block that an operation didn't see is not named by what it left. -/
theorem merge_none {ρ' : Pm} {b s1 s' : St} {h h' : Array Obj} (hs : Sim ρ g b h) (hnx1 : s1.nx = b.nx) (hsub : ∀ l ob, s1.look l = some ob → b.look l = some ob)
    (hs' : Sim ρ' g s' h') (ht : Ste ρ s1 h ρ' s' h') {l : Nat} {ob : AObj} (h1 : b.look l = some ob) (h2 : s1.look l = none) (h3 : ob.owned = true) : s'.look l = none := by
  cases h4 : s'.look l with
  | none => rfl
  | some ob' =>
    obtain ⟨p, o, hp, _⟩ := hs.obj _ _ h1
    have hle : ρ.le ρ' := hs.le (fun l hl => ht.agree l (by omega))
    have hlt := hs.lt h1 hp
    rcases ht.own l ob' p h4 (hle _ _ hp) with h8 | ⟨l0, ob0, p0, h8, _, h9, h10⟩
    · omega
    · have hne : l ≠ l0 := fun e => by subst e; rw [h2] at h8; cases h8
      exact absurd (by omega) (hs.sep l l0 ob ob0 p p0 h1 (hsub _ _ h8) h3 hne hp h9)

theorem merge_none' {ρ' : Pm} {s1 s' : St} {h h' : Array Obj} (hs' : Sim ρ' g s' h') (ht : Ste ρ s1 h ρ' s' h') {l : Nat} (hl : l < s1.nx) (h1 : ρ l = none) : s'.look l = none := by
  cases h4 : s'.look l with
  | none => rfl
  | some ob' =>
    obtain ⟨p, o, hp, _⟩ := hs'.obj _ _ h4
    rw [ht.agree l hl, h1] at hp
    cases hp
end

end Go.Ev
