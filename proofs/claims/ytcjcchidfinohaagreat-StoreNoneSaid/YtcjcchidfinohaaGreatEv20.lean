/- An abstract evaluator over the model: what is known of the order of a region's operations. -/
import Derived.Test.YtcjcchidfinohaaGreatEv19
import Derived.Orders
namespace Go.Ev

theorem bit_zero (i : Nat) : bit 0 i = false := Nat.zero_testBit i
theorem bit_lor (a b i : Nat) : bit (Nat.lor a b) i = (bit a i || bit b i) := Nat.testBit_or a b i
theorem bit_pow (i j : Nat) : bit (2 ^ i) j = decide (i = j) := Nat.testBit_two_pow
theorem bit_full (n i : Nat) : bit (2 ^ n - 1) i = decide (i < n) := Nat.testBit_two_pow_sub_one n i
theorem bit_add {d l x : Nat} : bit (Nat.lor d (2 ^ l)) x = true ↔ bit d x = true ∨ x = l := by
  rw [bit_lor, bit_pow]
  by_cases h : l = x
  · subst h; simp
  · have : ¬ x = l := fun e => h e.symm
    simp [h, this]
theorem within_ok {b d i : Nat} (h : within b d = true) (hi : bit b i = true) : bit d i = true := by
  have h : Nat.land b d = b := Nat.eq_of_beq_eq_true h
  have := Nat.testBit_and b d i
  have e : (b &&& d) = b := h
  rw [e] at this
  unfold bit at *
  rw [hi] at this
  simpa using this.symm

theorem memN_iff {t : Nat} : ∀ {l : List Nat}, memN t l = true ↔ t ∈ l
  | [] => by simp [memN]
  | a :: l => by
    unfold memN
    split
    · rename_i h
      simp [Nat.eq_of_beq_eq_true h]
    · rename_i h
      have hne : ¬ t = a := fun e => by subst e; simp at h
      simp [memN_iff, hne]

/-- The operation reads a slot, or writes it. -/
def Touches (ops : Array Oper) (o : Oper) (t : Nat) : Prop := t ∈ readsOf ops o ∨ o.dst = some t

theorem clash_of {ops : Array Oper} {o : Oper} {t : Nat} (h : Touches ops o t) : clashes (some t) o.dst (readsOf ops o) = true := by
  unfold clashes
  simp only
  rcases h with h | h
  · simp [memN_iff.2 h]
  · simp [h]

structure Ord (ops : Array Oper) (bef : Array Nat) : Prop where
  edge : ∀ i o, ops[i]? = some o → ∀ e ∈ o.after, Region.binds .any e = true → e.on < i
  back : ∀ i o j, ops[i]? = some o → bit (bef.getD i 0) j = true → ∃ e ∈ o.after, Region.binds .any e = true ∧ (e.on = j ∨ bit (bef.getD e.on 0) j = true)
  apart : ∀ i j a b t, i ≠ j → ops[i]? = some a → ops[j]? = some b → a.dst = some t → Touches ops b t → bit (bef.getD j 0) i = true ∨ bit (bef.getD i 0) j = true

theorem cover_ok {bef : Array Nat} {j : Nat} : ∀ {es : List Edge} {c : Nat}, bit (cover bef es c) j = true → bit c j = true ∨ ∃ e ∈ es, Region.binds .any e = true ∧ (e.on = j ∨ bit (bef.getD e.on 0) j = true)
  | [], _, h => .inl h
  | e :: es, c, h => by
    unfold cover at h
    split at h
    · rename_i hb
      rcases cover_ok h with h | ⟨e', h1, h2⟩
      · rw [bit_lor, bit_lor, bit_pow] at h
        simp only [Bool.or_eq_true, decide_eq_true_eq] at h
        rcases h with h | h | h
        · exact .inl h
        · exact .inr ⟨e, List.mem_cons_self .., hb, .inl h⟩
        · exact .inr ⟨e, List.mem_cons_self .., hb, .inr h⟩
      · exact .inr ⟨e', List.mem_cons_of_mem _ h1, h2⟩
    · rcases cover_ok h with h | ⟨e', h1, h2⟩
      · exact .inl h
      · exact .inr ⟨e', List.mem_cons_of_mem _ h1, h2⟩

theorem apartAll_ok {ops : Array Oper} {bef : Array Nat} : ∀ {l : List Nat}, apartAll ops bef l = true → ∀ j ∈ l, ∀ i, i < j → apart ops bef i j = true
  | [], _, j, hj => by cases hj
  | k :: l, h, j, hj => by
    unfold apartAll at h
    simp only [Bool.and_eq_true] at h
    intro i hi
    cases hj with
    | head => exact List.all_eq_true.1 h.1 i (List.mem_range.2 hi)
    | tail _ hj => exact apartAll_ok h.2 j hj i hi

theorem ord_of {R : Type} {E : Env R} {ops : Array Oper} {bef : Array Nat} {ph : List (List Nat × Nat)} {last : List Nat} (h : drawOk E ops bef ph last = true) : Ord ops bef ∧ phasesOk E ops bef last ph none 0 = true := by
  unfold drawOk at h
  simp only [Bool.and_eq_true] at h
  obtain ⟨h1, h2, h3⟩ := h
  have hlt : ∀ {i o}, ops[i]? = some o → i < ops.size := fun ho => (Array.getElem?_eq_some_iff.1 ho).1
  have hedge : ∀ i o, ops[i]? = some o → (∀ e ∈ o.after, Region.binds .any e = true → e.on < i) ∧ bef.getD i 0 = cover bef o.after.toList 0 := fun i o ho => by
    have := List.all_eq_true.1 h1 i (List.mem_range.2 (hlt ho))
    rw [ho] at this
    unfold edgesOk at this
    simp only [Bool.and_eq_true] at this
    refine ⟨fun e he hb => ?_, Nat.eq_of_beq_eq_true this.2⟩
    have := List.all_eq_true.1 this.1 e (by simpa using he)
    simp only [Bool.or_eq_true, Bool.not_eq_true'] at this
    rcases this with h | h
    · rw [hb] at h; cases h
    · simpa [Nat.blt_eq] using h
  refine ⟨⟨fun i o ho => (hedge i o ho).1, fun i o j ho hb => ?_, fun i j a b t hne ha hb hd ht => ?_⟩, h3⟩
  · rw [(hedge i o ho).2] at hb
    rcases cover_ok hb with h | ⟨e, he, h⟩
    · rw [bit_zero] at h; cases h
    · exact ⟨e, by simpa using he, h⟩
  · have hc : clashes a.dst b.dst (readsOf ops b) = true := by rw [hd]; exact clash_of ht
    rcases Nat.lt_or_ge i j with hij | hij
    · have := apartAll_ok h2 j (List.mem_range.2 (hlt hb)) i hij
      unfold apart at this
      rw [ha, hb] at this
      simp only [hc, Bool.true_or, Bool.not_true, Bool.or_false] at this
      exact .inl this
    · have := apartAll_ok h2 i (List.mem_range.2 (hlt ha)) j (by omega)
      unfold apart at this
      rw [ha, hb] at this
      simp only [hc, Bool.or_true, Bool.not_true, Bool.or_false] at this
      exact .inr this

/-- With an operation all are listed that stand before it. -/
def Closed (ops : Array Oper) (S : Nat → Bool) : Prop := ∀ i o, S i = true → ops[i]? = some o → ∀ e ∈ o.after, Region.binds .any e = true → S e.on = true

theorem Ord.before {ops : Array Oper} {bef : Array Nat} (ho : Ord ops bef) {S : Nat → Bool} (hc : Closed ops S) :
    ∀ (i : Nat) (o : Oper), ops[i]? = some o → (∀ e ∈ o.after, Region.binds .any e = true → S e.on = true) → ∀ j, bit (bef.getD i 0) j = true → S j = true := by
  intro i
  induction i using Nat.strongRecOn with
  | _ i ih =>
    intro o hi hS j hj
    obtain ⟨e, he, hb, h⟩ := ho.back i o j hi hj
    rcases h with rfl | h
    · exact hS e he hb
    · have hlt := ho.edge i o hi e he hb
      have hsz : e.on < ops.size := Nat.lt_trans hlt (Array.getElem?_eq_some_iff.1 hi).1
      exact ih e.on hlt ops[e.on] (Array.getElem?_eq_getElem hsz) (hc e.on _ (hS e he hb) (Array.getElem?_eq_getElem hsz)) j h

/-- What an operation gave, in the order of the plan, the newest first. -/
structure Ent where
  i : Nat
  d : Option Nat
  v : AV

/-- The frame after those operations that are listed. -/
noncomputable def virt (S : Nat → Bool) (f0 : AF) : List Ent → AF
  | [] => f0
  | e :: r => match S e.i with
    | true => (virt S f0 r).put e.d e.v
    | false => virt S f0 r

theorem virt_cons (S : Nat → Bool) (f0 : AF) (e : Ent) (r : List Ent) : virt S f0 (e :: r) = match S e.i with
    | true => (virt S f0 r).put e.d e.v
    | false => virt S f0 r := rfl

def allB : Nat → Bool := fun _ => true

theorem put_n (f : AF) (d : Option Nat) (v : AV) : (f.put d v).n = f.n := by cases d <;> rfl
theorem look_putO (f : AF) (d : Option Nat) (v : AV) (t : Nat) : (f.put d v).look t = if d = some t then v else f.look t := by
  cases d with
  | none => rfl
  | some d =>
    rw [look_putF]
    by_cases h : t = d
    · subst h; simp
    · have : ¬ some d = some t := fun e => h (Option.some.inj e).symm
      rw [if_neg h, if_neg this]

theorem virt_n (S : Nat → Bool) (f0 : AF) : ∀ l, (virt S f0 l).n = f0.n
  | [] => rfl
  | e :: l => by
    unfold virt
    split
    · rw [put_n]; exact virt_n S f0 l
    · exact virt_n S f0 l

theorem virt_skip {S : Nat → Bool} {f0 : AF} {t : Nat} {R : List Ent} : ∀ {L : List Ent}, (∀ e ∈ L, S e.i = true → e.d ≠ some t) → (virt S f0 (L ++ R)).look t = (virt S f0 R).look t
  | [], _ => rfl
  | e :: L, h => by
    have ih := virt_skip (R := R) (f0 := f0) (fun x hx => h x (List.mem_cons_of_mem _ hx))
    rw [List.cons_append, virt_cons]
    split
    · rename_i hs
      rw [look_putO, if_neg (h e (List.mem_cons_self ..) hs)]
      exact ih
    · exact ih

theorem virt_congr {S S' : Nat → Bool} {f0 : AF} {t : Nat} : ∀ {R : List Ent}, (∀ e ∈ R, e.d = some t → S e.i = S' e.i) → (virt S f0 R).look t = (virt S' f0 R).look t
  | [], _ => rfl
  | e :: R, h => by
    have ih := virt_congr (f0 := f0) (fun x hx => h x (List.mem_cons_of_mem _ hx))
    unfold virt
    by_cases hd : e.d = some t
    · rw [h e (List.mem_cons_self ..) hd]
      split
      · rw [look_putO, look_putO, if_pos hd, if_pos hd]
      · exact ih
    · have h1 : ∀ b : Bool, (match b with | true => (virt S f0 R).put e.d e.v | false => virt S f0 R).look t = (virt S f0 R).look t := fun b => by
        cases b
        · rfl
        · simp only; rw [look_putO, if_neg hd]
      have h2 : ∀ b : Bool, (match b with | true => (virt S' f0 R).put e.d e.v | false => virt S' f0 R).look t = (virt S' f0 R).look t := fun b => by
        cases b
        · rfl
        · simp only; rw [look_putO, if_neg hd]
      rw [h1, h2]
      exact ih

/-- The log keeps the order. -/
def Sorted (ops : Array Oper) (bef : Array Nat) : List Ent → Prop
  | [] => True
  | e :: r => (∀ x, bit (bef.getD e.i 0) x = true → ∃ e' ∈ r, e'.i = x) ∧ (∀ e' ∈ r, e'.i ≠ e.i) ∧ (∃ o, ops[e.i]? = some o ∧ o.dst = e.d) ∧ Sorted ops bef r

theorem Sorted.op {ops : Array Oper} {bef : Array Nat} : ∀ {l : List Ent}, Sorted ops bef l → ∀ e ∈ l, ∃ o, ops[e.i]? = some o ∧ o.dst = e.d
  | [], _, e, he => by cases he
  | x :: l, h, e, he => by
    cases he with
    | head => exact h.2.2.1
    | tail _ he => exact Sorted.op h.2.2.2 e he

theorem Sorted.right {ops : Array Oper} {bef : Array Nat} : ∀ {L R : List Ent}, Sorted ops bef (L ++ R) → Sorted ops bef R
  | [], _, h => h
  | _ :: L, _, h => Sorted.right (L := L) h.2.2.2

theorem Sorted.mem {ops : Array Oper} {bef : Array Nat} : ∀ {l : List Ent}, Sorted ops bef l → ∀ e ∈ l, ∀ x, bit (bef.getD e.i 0) x = true → ∃ e' ∈ l, e'.i = x
  | [], _, e, he => by cases he
  | y :: l, h, e, he => by
    intro x hx
    cases he with
    | head => obtain ⟨e', h1, h2⟩ := h.1 x hx; exact ⟨e', List.mem_cons_of_mem _ h1, h2⟩
    | tail _ he => obtain ⟨e', h1, h2⟩ := Sorted.mem h.2.2.2 e he x hx; exact ⟨e', List.mem_cons_of_mem _ h1, h2⟩

theorem Sorted.left_ne {ops : Array Oper} {bef : Array Nat} : ∀ {L R : List Ent}, Sorted ops bef (L ++ R) → ∀ x ∈ L, ∀ y ∈ R, x.i ≠ y.i
  | [], _, _, x, hx => by cases hx
  | z :: L, R, h, x, hx => by
    intro y hy
    cases hx with
    | head => exact fun e => h.2.1 y (List.mem_append_right _ hy) e.symm
    | tail _ hx => exact Sorted.left_ne (L := L) h.2.2.2 x hx y hy

section
variable {ops : Array Oper} {bef : Array Nat} {S : Nat → Bool} {f0 : AF}

/-- What an operation that is still to come finds in its slots: what those before it left there. -/
theorem slot_new (ho : Ord ops bef) {R : List Ent} (hs : Sorted ops bef R) {i : Nat} {o : Oper} (hi : ops[i]? = some o) (hout : ∀ e ∈ R, e.i ≠ i) (hb : ∀ j, bit (bef.getD i 0) j = true → S j = true) {t : Nat} (ht : Touches ops o t) :
    (virt S f0 R).look t = (virt allB f0 R).look t := by
  refine virt_congr fun x hx hd => ?_
  obtain ⟨ox, hox, hdx⟩ := hs.op x hx
  rcases ho.apart x.i i ox o t (hout x hx) hox hi (hdx.trans hd) ht with h | h
  · exact hb _ h
  · obtain ⟨e', he', h'⟩ := hs.mem x hx i h
    exact absurd h' (hout e' he')

theorem newer_ne (ho : Ord ops bef) (hc : Closed ops S) {L R : List Ent} {e : Ent} (hs : Sorted ops bef (L ++ e :: R)) {o : Oper} (hi : ops[e.i]? = some o) (hS : S e.i = false) {t : Nat} (ht : Touches ops o t) :
    ∀ x ∈ L, S x.i = true → x.d ≠ some t := by
  intro x hx hSx hd
  obtain ⟨ox, hox, hdx⟩ := hs.op x (List.mem_append_left _ hx)
  have hne : x.i ≠ e.i := hs.left_ne x hx e (List.mem_cons_self ..)
  rcases ho.apart x.i e.i ox o t hne hox hi (hdx.trans hd) ht with h | h
  · obtain ⟨e', he', h'⟩ := hs.right.1 x.i h
    exact hs.left_ne x hx e' (List.mem_cons_of_mem _ he') h'.symm
  · have := ho.before hc x.i ox hox (hc x.i ox hSx hox) e.i h
    rw [hS] at this; cases this

/-- What an operation finds in its slots that the plan has done before. -/
theorem slot_old (ho : Ord ops bef) (hc : Closed ops S) {L R : List Ent} {e : Ent} (hs : Sorted ops bef (L ++ e :: R)) {o : Oper} (hi : ops[e.i]? = some o) (hS : S e.i = false) (hb : ∀ j, bit (bef.getD e.i 0) j = true → S j = true) {t : Nat} (ht : Touches ops o t) :
    (virt S f0 (L ++ e :: R)).look t = (virt allB f0 R).look t := by
  rw [virt_skip (newer_ne ho hc hs hi hS ht)]
  have h1 : (virt S f0 (e :: R)) = virt S f0 R := by simp only [virt, hS]
  rw [h1]
  exact slot_new ho hs.right.2.2.2 hi hs.right.2.1 hb ht

/-- One operation more. -/
def more (S : Nat → Bool) (i : Nat) : Nat → Bool := fun x => S x || x == i

theorem more_ne {i x : Nat} (h : x ≠ i) : more S i x = S x := by simp [more, h]
theorem more_same {i : Nat} : more S i i = true := by simp [more]

theorem virt_more (ho : Ord ops bef) (hc : Closed ops S) {L R : List Ent} {e : Ent} (hs : Sorted ops bef (L ++ e :: R)) (hS : S e.i = false) (t : Nat) :
    (virt (more S e.i) f0 (L ++ e :: R)).look t = if e.d = some t then e.v else (virt S f0 (L ++ e :: R)).look t := by
  obtain ⟨o, hi, hdo⟩ := hs.op e (by simp)
  by_cases hd : e.d = some t
  · rw [if_pos hd]
    have ht : Touches ops o t := .inr (hdo.trans hd)
    have hne := newer_ne ho hc hs hi hS ht
    rw [virt_skip (fun x hx hSx => hne x hx (by rw [more_ne (hs.left_ne x hx e (List.mem_cons_self ..))] at hSx; exact hSx))]
    simp only [virt, more_same]
    rw [look_putO, if_pos hd]
  · rw [if_neg hd]
    refine virt_congr fun x hx hdx => more_ne fun hxe => ?_
    obtain ⟨ox, hox, hdox⟩ := hs.op x hx
    rw [hxe, hi] at hox
    obtain rfl := Option.some.inj hox
    exact hd (hdo.symm.trans (hdox.trans hdx))

theorem virt_cons_out {S : Nat → Bool} {e : Ent} {R : List Ent} (h : S e.i = false) : virt S f0 (e :: R) = virt S f0 R := by simp only [virt, h]

theorem virt_more_out {i : Nat} {R : List Ent} (h : ∀ e ∈ R, e.i ≠ i) : virt (more S i) f0 R = virt S f0 R := by
  induction R with
  | nil => rfl
  | cons e R ih =>
    simp only [virt]
    rw [more_ne (h e (List.mem_cons_self ..)), ih (fun x hx => h x (List.mem_cons_of_mem _ hx))]

theorem Closed.more (hc : Closed ops S) {i : Nat} {o : Oper} (hi : ops[i]? = some o) (h : ∀ e ∈ o.after, Region.binds .any e = true → S e.on = true) : Closed ops (more S i) := by
  intro j oj hj hoj e he hb
  by_cases hji : j = i
  · subst hji
    rw [hi] at hoj
    obtain rfl := Option.some.inj hoj
    simp [Ev.more, h e he hb]
  · rw [more_ne hji] at hj
    simp [Ev.more, hc j oj hj hoj e he hb]
end

end Go.Ev
