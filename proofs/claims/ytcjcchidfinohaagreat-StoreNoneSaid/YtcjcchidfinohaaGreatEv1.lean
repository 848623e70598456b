/- An abstract evaluator over the model: definitions. -/
import Derived.Calls
import Derived.Orders
namespace Go.Ev

/-- A finite map with lists of bits as keys. -/
inductive T (α : Type) where
  | e
  | n (l : T α) (v : Option α) (r : T α)

noncomputable def T.get {α : Type} (t : T α) : List Bool → Option α :=
  T.rec (motive := fun _ => List Bool → Option α) (fun _ => none)
    (fun _ v _ gl gr bs => List.rec (motive := fun _ => Option α) v (fun b r _ => Bool.rec (motive := fun _ => Option α) (gl r) (gr r) b) bs) t

def T.set {α : Type} : List Bool → Option α → T α → T α
  | [], a, .e => .n .e a .e
  | [], a, .n l _ r => .n l a r
  | b :: bs, a, .e => match b with
    | true => .n .e none (T.set bs a .e)
    | false => .n (T.set bs a .e) none .e
  | b :: bs, a, .n l v r => match b with
    | true => .n l v (T.set bs a r)
    | false => .n (T.set bs a l) v r

/-- The bits of a number, an injection. -/
noncomputable def bits (f : Nat) : Nat → List Bool :=
  Nat.rec (motive := fun _ => Nat → List Bool) (fun n => List.replicate n true)
    (fun _ g n => Nat.rec (motive := fun _ => List Bool) [] (fun m _ => Nat.beq (Nat.mod m 2) 1 :: g (Nat.div m 2)) n) f

noncomputable def key (n : Nat) : List Bool := bits 16 n

noncomputable def mkT {α : Type} : List α → Nat → T α → T α
  | [], _, t => t
  | a :: r, i, t => mkT r (Nat.succ i) (t.set (key i) (some a))

noncomputable def tyT (P : Program) : T TypeInfo := mkT P.types.toList 0 .e
noncomputable def fnT (P : Program) : T Func := mkT P.funcs.toList 0 .e
noncomputable def info (P : Program) (t : TypeId) : Option TypeInfo := (tyT P).get (key t)
def descOf : Option TypeInfo → Option TypeDesc
  | some i => some i.desc
  | none => none
noncomputable def und (P : Program) (t : TypeId) : Option TypeDesc := match info P t with
  | some i => match i.desc with
    | .named _ u => descOf (info P u)
    | d => some d
  | none => none

/-- An abstract value. A slice: the place, the offset, the length, the capacity (exact, or at least so much), and the cells of an element. -/
inductive AV where
  | bool (b : Bool)
  | int (k : IntKind) (n : Int)
  | str (s : List UInt8)
  | nilPtr
  | nilSlice
  | nilMap
  | nilFunc
  | nilIface
  | ptr (l off : Nat)
  | slice (l off len cap sz : Nat) (ex : Bool)
  | map (l : Nat)
  | fn (f : Fn) (first captured : List AV)
  | iface (t : TypeId) (v : AV)
  | agg (l : List AV)
  | tuple (l : List AV)
  deriving Inhabited

abbrev AV.undef : AV := .tuple []

structure AE where
  key : AV
  val : AV
  born : Nat

inductive AObj where
  | cells (l : List AV)
  | ro (l : List AV)
  | marked (l : List AV)
  | map (es : List AE) (clock : Nat)
  | iter (s : List UInt8) (pos : Nat)

def AObj.owned : AObj → Bool
  | .ro _ => false
  | _ => true

structure St where
  h : T AObj
  nx : Nat

noncomputable def St.look (s : St) (l : Nat) : Option AObj := s.h.get (key l)
noncomputable def St.put (s : St) (l : Nat) (o : AObj) : St := ⟨s.h.set (key l) (some o), s.nx⟩
noncomputable def St.kill (s : St) (l : Nat) : St := ⟨s.h.set (key l) none, s.nx⟩
noncomputable def St.add (s : St) (o : AObj) : St := ⟨s.h.set (key s.nx) (some o), Nat.succ s.nx⟩

structure AF where
  n : Nat
  t : T AV

noncomputable def AF.look (f : AF) (i : Nat) : AV := match f.t.get (key i) with
  | some v => v
  | none => .undef
noncomputable def AF.put (f : AF) (d : Option Nat) (v : AV) : AF := match d with
  | some d => ⟨f.n, f.t.set (key d) (some v)⟩
  | none => f
def AF.fits (f : AF) (d : Option Nat) : Bool := match d with
  | some d => Nat.blt d f.n
  | none => true

def mapO {α β : Type} (g : α → Option β) : List α → Option (List β)
  | [] => some []
  | a :: l => match g a with
    | some b => match mapO g l with
      | some r => some (b :: r)
      | none => none
    | none => none

def aggO (f : List AV → AV) : Option (List AV) → Option AV
  | some l => some (f l)
  | none => none

/-- A value of the model that holds no address. -/
def ofV : Nat → Value → Option AV
  | 0, _ => none
  | n + 1, v => match v with
    | .bool b => some (.bool b)
    | .int k i => some (.int k i)
    | .string s => some (.str s.data.toList)
    | .pointer none => some .nilPtr
    | .slice none 0 0 => some .nilSlice
    | .map none => some .nilMap
    | .nilFunc => some .nilFunc
    | .nilIface => some .nilIface
    | .agg cs => aggO .agg (mapO (ofV n) cs.toList)
    | .tuple cs => aggO .tuple (mapO (ofV n) cs.toList)
    | _ => none

/-- A number put into its plain form (for the kernel). -/
def fint {R : Type} (z : Int) (g : Int → R) : R := match z with
  | .ofNat 0 => g 0
  | .ofNat (n + 1) => g (.ofNat (Nat.succ n))
  | .negSucc 0 => g (.negSucc 0)
  | .negSucc (n + 1) => g (.negSucc (Nat.succ n))

theorem fint_eq {R : Type} (z : Int) (g : Int → R) : fint z g = g z := by
  unfold fint
  split <;> rfl

def fnat {R : Type} (z : Nat) (g : Nat → R) : R := match z with
  | 0 => g 0
  | n + 1 => g (Nat.succ n)

theorem fnat_eq {R : Type} (z : Nat) (g : Nat → R) : fnat z g = g z := by
  unfold fnat
  split <;> rfl

/-- Some cells out of a row. -/
def sub : List AV → Nat → Nat → Option (List AV)
  | _, 0, 0 => some []
  | [], _, _ => none
  | a :: r, 0, n + 1 => match sub r 0 n with
    | some l => some (a :: l)
    | none => none
  | _ :: r, o + 1, n => sub r o n

/-- A row with some cells written over. -/
def setAt : List AV → Nat → List AV → Option (List AV)
  | l, _, [] => some l
  | [], _, _ :: _ => none
  | _ :: r, 0, v :: vs => match setAt r 0 vs with
    | some r' => some (v :: r')
    | none => none
  | a :: r, o + 1, v :: vs => match setAt r o (v :: vs) with
    | some r' => some (a :: r')
    | none => none

def nth : List AV → Nat → Option AV
  | [], _ => none
  | a :: _, 0 => some a
  | _ :: r, n + 1 => nth r n

def AV.cells : AV → List AV
  | .agg l => l
  | v => [v]

/-- May the value stand in one cell? -/
def AV.flat : AV → Bool
  | .agg _ | .tuple _ => false
  | _ => true

/-- Comparisons of integers, quick in the kernel. -/
def ilt : Int → Int → Bool
  | .ofNat a, .ofNat b => Nat.blt a b
  | .ofNat _, .negSucc _ => false
  | .negSucc _, .ofNat _ => true
  | .negSucc a, .negSucc b => Nat.blt b a
def ieq : Int → Int → Bool
  | .ofNat a, .ofNat b => Nat.beq a b
  | .negSucc a, .negSucc b => Nat.beq a b
  | _, _ => false
def kindEq : IntKind → IntKind → Bool
  | .i8, .i8 | .i16, .i16 | .i32, .i32 | .i64, .i64 | .u8, .u8 | .u16, .u16 | .u32, .u32 | .u64, .u64 => true
  | _, _ => false

theorem ilt_eq (a b : Int) : ilt a b = decide (a < b) := by
  rw [Bool.eq_iff_iff, decide_eq_true_iff]
  cases a <;> cases b <;> simp [ilt] <;> omega
theorem ieq_eq (a b : Int) : ieq a b = (a == b) := by
  rw [Bool.eq_iff_iff, beq_iff_eq]
  cases a <;> cases b <;> simp [ieq] <;> omega
theorem kindEq_iff (a b : IntKind) : kindEq a b = true ↔ a = b := by
  cases a <;> cases b <;> simp [kindEq]

/-- The wrap of a number, quick where nothing wraps. -/
def wrapF (k : IntKind) (z : Int) : Int := match k with
  | .i64 => match z with
    | .ofNat n => match Nat.blt n 9223372036854775808 with
      | true => .ofNat n
      | false => k.wrap (.ofNat n)
    | .negSucc n => match Nat.blt n 9223372036854775808 with
      | true => .negSucc n
      | false => k.wrap (.negSucc n)
  | k => k.wrap z

theorem wrap_of (z : Int) (h : -9223372036854775808 ≤ z) (h' : z < 9223372036854775808) : IntKind.i64.wrap z = z := by
  simp only [IntKind.wrap, IntKind.bits, IntKind.signed]
  simp
  split <;> omega

theorem wrapF_eq (k : IntKind) (z : Int) : wrapF k z = k.wrap z := by
  cases k <;> try rfl
  cases z with
  | ofNat n =>
    simp only [wrapF]
    cases h : Nat.blt n 9223372036854775808 with
    | true =>
      have h' : n < 9223372036854775808 := by simpa [Nat.blt_eq] using h
      exact (wrap_of (Int.ofNat n) (by simp) (by simp; omega)).symm
    | false => rfl
  | negSucc n =>
    simp only [wrapF]
    cases h : Nat.blt n 9223372036854775808 with
    | true =>
      have h' : n < 9223372036854775808 := by simpa [Nat.blt_eq] using h
      exact (wrap_of (Int.negSucc n) (by omega) (by omega)).symm
    | false => rfl

def bytesEq : List UInt8 → List UInt8 → Bool
  | [], [] => true
  | a :: l, b :: r => match Nat.beq a.toNat b.toNat with
    | true => bytesEq l r
    | false => false
  | _, _ => false

theorem bytesEq_eq (a b : List UInt8) : bytesEq a b = (a == b) := by
  rw [Bool.eq_iff_iff, beq_iff_eq]
  induction a generalizing b with
  | nil => cases b <;> simp [bytesEq]
  | cons x l ih =>
    cases b with
    | nil => simp [bytesEq]
    | cons y r =>
      simp only [bytesEq, List.cons.injEq]
      cases h : Nat.beq x.toNat y.toNat with
      | true =>
        have : x = y := UInt8.toNat_inj.1 (Nat.eq_of_beq_eq_true h)
        simp [this, ih]
      | false =>
        have : x ≠ y := fun e => by rw [e] at h; simp at h
        simp [this]

end Go.Ev
