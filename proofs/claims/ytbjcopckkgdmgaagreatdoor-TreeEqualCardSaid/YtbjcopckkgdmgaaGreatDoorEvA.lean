import Derived.Calls
import Derived.Orders
import Derived.Laws.World
import Derived.Laws.Sem
import Derived.Laws.Strings
import Derived.MapKept
/- An abstract evaluator over the model: definitions. -/
namespace Go.Ev

/-- A finite map with lists of bits as keys. -/
inductive T (α : Type) where
  | e
  | n (l : T α) (v : Option α) (r : T α)

noncomputable def T.get {α : Type} (t : T α) : List Bool → Option α :=
  T.rec (motive := fun _ => List Bool → Option α) (fun _ => none)
    (fun _ v _ gl gr bs => List.rec (motive := fun _ => Option α) v (fun b r _ => Bool.rec (motive := fun _ => Option α) (gl r) (gr r) b) bs) t

def T.set {α : Type} : List Bool → Option α → T α → T α
  | [], a, .e => .n .e a .e
  | [], a, .n l _ r => .n l a r
  | b :: bs, a, .e => match b with
    | true => .n .e none (T.set bs a .e)
    | false => .n (T.set bs a .e) none .e
  | b :: bs, a, .n l v r => match b with
    | true => .n l v (T.set bs a r)
    | false => .n (T.set bs a l) v r

/-- The bits of a number, an injection. -/
noncomputable def bits (f : Nat) : Nat → List Bool :=
  Nat.rec (motive := fun _ => Nat → List Bool) (fun n => List.replicate n true)
    (fun _ g n => Nat.rec (motive := fun _ => List Bool) [] (fun m _ => Nat.beq (Nat.mod m 2) 1 :: g (Nat.div m 2)) n) f

noncomputable def key (n : Nat) : List Bool := bits 16 n

noncomputable def mkT {α : Type} : List α → Nat → T α → T α
  | [], _, t => t
  | a :: r, i, t => mkT r (Nat.succ i) (t.set (key i) (some a))

noncomputable def tyT (P : Program) : T TypeInfo := mkT P.types.toList 0 .e
noncomputable def fnT (P : Program) : T Func := mkT P.funcs.toList 0 .e
noncomputable def info (P : Program) (t : TypeId) : Option TypeInfo := (tyT P).get (key t)
def descOf : Option TypeInfo → Option TypeDesc
  | some i => some i.desc
  | none => none
noncomputable def und (P : Program) (t : TypeId) : Option TypeDesc := match info P t with
  | some i => match i.desc with
    | .named _ u => descOf (info P u)
    | d => some d
  | none => none

/-- An abstract value. A slice: the place, the offset, the length, the capacity (exact, or at least so much), and the cells of an element. -/
inductive AV where
  | bool (b : Bool)
  | int (k : IntKind) (n : Int)
  | str (s : List UInt8)
  | nilPtr
  | nilSlice
  | nilMap
  | nilFunc
  | nilIface
  | ptr (l off : Nat)
  | slice (l off len cap sz : Nat) (ex : Bool)
  | map (l : Nat)
  | fn (f : Fn) (first captured : List AV)
  | iface (t : TypeId) (v : AV)
  | agg (l : List AV)
  | tuple (l : List AV)
  deriving Inhabited

abbrev AV.undef : AV := .tuple []

structure AE where
  key : AV
  val : AV
  born : Nat

inductive AObj where
  | cells (l : List AV)
  | ro (l : List AV)
  | marked (l : List AV)
  | map (es : List AE) (clock : Nat)
  | iter (s : List UInt8) (pos : Nat)

def AObj.owned : AObj → Bool
  | .ro _ => false
  | _ => true

structure St where
  h : T AObj
  nx : Nat

noncomputable def St.look (s : St) (l : Nat) : Option AObj := s.h.get (key l)
noncomputable def St.put (s : St) (l : Nat) (o : AObj) : St := ⟨s.h.set (key l) (some o), s.nx⟩
noncomputable def St.kill (s : St) (l : Nat) : St := ⟨s.h.set (key l) none, s.nx⟩
noncomputable def St.add (s : St) (o : AObj) : St := ⟨s.h.set (key s.nx) (some o), Nat.succ s.nx⟩

structure AF where
  n : Nat
  t : T AV

noncomputable def AF.look (f : AF) (i : Nat) : AV := match f.t.get (key i) with
  | some v => v
  | none => .undef
noncomputable def AF.put (f : AF) (d : Option Nat) (v : AV) : AF := match d with
  | some d => ⟨f.n, f.t.set (key d) (some v)⟩
  | none => f
def AF.fits (f : AF) (d : Option Nat) : Bool := match d with
  | some d => Nat.blt d f.n
  | none => true

def mapO {α β : Type} (g : α → Option β) : List α → Option (List β)
  | [] => some []
  | a :: l => match g a with
    | some b => match mapO g l with
      | some r => some (b :: r)
      | none => none
    | none => none

def aggO (f : List AV → AV) : Option (List AV) → Option AV
  | some l => some (f l)
  | none => none

/-- A value of the model that holds no address. -/
def ofV : Nat → Value → Option AV
  | 0, _ => none
  | n + 1, v => match v with
    | .bool b => some (.bool b)
    | .int k i => some (.int k i)
    | .string s => some (.str s.data.toList)
    | .pointer none => some .nilPtr
    | .slice none 0 0 => some .nilSlice
    | .map none => some .nilMap
    | .nilFunc => some .nilFunc
    | .nilIface => some .nilIface
    | .agg cs => aggO .agg (mapO (ofV n) cs.toList)
    | .tuple cs => aggO .tuple (mapO (ofV n) cs.toList)
    | _ => none

/-- A number put into its plain form (for the kernel). -/
def fint {R : Type} (z : Int) (g : Int → R) : R := match z with
  | .ofNat 0 => g 0
  | .ofNat (n + 1) => g (.ofNat (Nat.succ n))
  | .negSucc 0 => g (.negSucc 0)
  | .negSucc (n + 1) => g (.negSucc (Nat.succ n))

theorem fint_eq {R : Type} (z : Int) (g : Int → R) : fint z g = g z := by
  unfold fint
  split <;> rfl

def fnat {R : Type} (z : Nat) (g : Nat → R) : R := match z with
  | 0 => g 0
  | n + 1 => g (Nat.succ n)

theorem fnat_eq {R : Type} (z : Nat) (g : Nat → R) : fnat z g = g z := by
  unfold fnat
  split <;> rfl

/-- Some cells out of a row. -/
def sub : List AV → Nat → Nat → Option (List AV)
  | _, 0, 0 => some []
  | [], _, _ => none
  | a :: r, 0, n + 1 => match sub r 0 n with
    | some l => some (a :: l)
    | none => none
  | _ :: r, o + 1, n => sub r o n

/-- A row with some cells written over. -/
def setAt : List AV → Nat → List AV → Option (List AV)
  | l, _, [] => some l
  | [], _, _ :: _ => none
  | _ :: r, 0, v :: vs => match setAt r 0 vs with
    | some r' => some (v :: r')
    | none => none
  | a :: r, o + 1, v :: vs => match setAt r o (v :: vs) with
    | some r' => some (a :: r')
    | none => none

def nth : List AV → Nat → Option AV
  | [], _ => none
  | a :: _, 0 => some a
  | _ :: r, n + 1 => nth r n

def AV.cells : AV → List AV
  | .agg l => l
  | v => [v]

/-- May the value stand in one cell? -/
def AV.flat : AV → Bool
  | .agg _ | .tuple _ => false
  | _ => true

/-- Comparisons of integers, quick in the kernel. -/
def ilt : Int → Int → Bool
  | .ofNat a, .ofNat b => Nat.blt a b
  | .ofNat _, .negSucc _ => false
  | .negSucc _, .ofNat _ => true
  | .negSucc a, .negSucc b => Nat.blt b a
def ieq : Int → Int → Bool
  | .ofNat a, .ofNat b => Nat.beq a b
  | .negSucc a, .negSucc b => Nat.beq a b
  | _, _ => false
def kindEq : IntKind → IntKind → Bool
  | .i8, .i8 | .i16, .i16 | .i32, .i32 | .i64, .i64 | .u8, .u8 | .u16, .u16 | .u32, .u32 | .u64, .u64 => true
  | _, _ => false

theorem ilt_eq (a b : Int) : ilt a b = decide (a < b) := by
  rw [Bool.eq_iff_iff, decide_eq_true_iff]
  cases a <;> cases b <;> simp [ilt] <;> omega
theorem ieq_eq (a b : Int) : ieq a b = (a == b) := by
  rw [Bool.eq_iff_iff, beq_iff_eq]
  cases a <;> cases b <;> simp [ieq] <;> omega
theorem kindEq_iff (a b : IntKind) : kindEq a b = true ↔ a = b := by
  cases a <;> cases b <;> simp [kindEq]

/-- The wrap of a number, quick where nothing wraps. -/
def wrapF (k : IntKind) (z : Int) : Int := match k with
  | .i64 => match z with
    | .ofNat n => match Nat.blt n 9223372036854775808 with
      | true => .ofNat n
      | false => k.wrap (.ofNat n)
    | .negSucc n => match Nat.blt n 9223372036854775808 with
      | true => .negSucc n
      | false => k.wrap (.negSucc n)
  | k => k.wrap z

theorem wrap_of (z : Int) (h : -9223372036854775808 ≤ z) (h' : z < 9223372036854775808) : IntKind.i64.wrap z = z := by
  simp only [IntKind.wrap, IntKind.bits, IntKind.signed]
  simp
  split <;> omega

theorem wrapF_eq (k : IntKind) (z : Int) : wrapF k z = k.wrap z := by
  cases k <;> try rfl
  cases z with
  | ofNat n =>
    simp only [wrapF]
    cases h : Nat.blt n 9223372036854775808 with
    | true =>
      have h' : n < 9223372036854775808 := by simpa [Nat.blt_eq] using h
      exact (wrap_of (Int.ofNat n) (by simp) (by simp; omega)).symm
    | false => rfl
  | negSucc n =>
    simp only [wrapF]
    cases h : Nat.blt n 9223372036854775808 with
    | true =>
      have h' : n < 9223372036854775808 := by simpa [Nat.blt_eq] using h
      exact (wrap_of (Int.negSucc n) (by omega) (by omega)).symm
    | false => rfl

def bytesEq : List UInt8 → List UInt8 → Bool
  | [], [] => true
  | a :: l, b :: r => match Nat.beq a.toNat b.toNat with
    | true => bytesEq l r
    | false => false
  | _, _ => false

theorem bytesEq_eq (a b : List UInt8) : bytesEq a b = (a == b) := by
  rw [Bool.eq_iff_iff, beq_iff_eq]
  induction a generalizing b with
  | nil => cases b <;> simp [bytesEq]
  | cons x l ih =>
    cases b with
    | nil => simp [bytesEq]
    | cons y r =>
      simp only [bytesEq, List.cons.injEq]
      cases h : Nat.beq x.toNat y.toNat with
      | true =>
        have : x = y := UInt8.toNat_inj.1 (Nat.eq_of_beq_eq_true h)
        simp [this, ih]
      | false =>
        have : x ≠ y := fun e => by rw [e] at h; simp at h
        simp [this]

end Go.Ev

/- An abstract evaluator over the model: the operations that look at no memory. -/
namespace Go.Ev
variable (P : Program)

def aggD : Option TypeDesc → Option Bool
  | some (.struct _) => some true
  | some (.array _ _) => some true
  | some _ => some false
  | none => none
noncomputable def isAgg (t : TypeId) : Option Bool := aggD (und P t)

def sizeI : Option TypeInfo → Option Nat
  | some i => some i.size
  | none => none
noncomputable def size (t : TypeId) : Option Nat := sizeI (info P t)

def zeroV : Option Value → Option AV
  | some v => ofV 8 v
  | none => none
def zeroI : Option TypeInfo → Option AV
  | some i => zeroV i.zero
  | none => none
/-- The zero value of a type. -/
noncomputable def zero (t : TypeId) : Option AV := zeroI (info P t)

/-- A part of a struct or an array. -/
noncomputable def part (t : TypeId) (l : List AV) (off : Nat) : Option AV :=
  match isAgg P t with
  | some true => match size P t with
    | some n => aggO .agg (sub l off n)
    | none => none
  | some false => nth l off
  | none => none

def mkI (k : IntKind) (z : Int) : Option AV := fint z fun z => some (.int k z)

def quoI (k : IntKind) (x y : Int) : Option AV := match ieq y 0 with
  | true => none
  | false => mkI k (wrapF k (x.tdiv y))
def remI (k : IntKind) (x y : Int) : Option AV := match ieq y 0 with
  | true => none
  | false => mkI k (x.tmod y)
def andI (k : IntKind) (x y : Int) : Option AV := mkI k (k.wrap (BitVec.ofInt k.bits x &&& BitVec.ofInt k.bits y).toNat)
def orI (k : IntKind) (x y : Int) : Option AV := mkI k (k.wrap (BitVec.ofInt k.bits x ||| BitVec.ofInt k.bits y).toNat)
def xorI (k : IntKind) (x y : Int) : Option AV := mkI k (k.wrap (BitVec.ofInt k.bits x ^^^ BitVec.ofInt k.bits y).toNat)
def andNotI (k : IntKind) (x y : Int) : Option AV := mkI k (k.wrap (BitVec.ofInt k.bits x &&& ~~~ BitVec.ofInt k.bits y).toNat)

def shlI (k : IntKind) (x y : Int) : Option AV := match ilt y 0 with
  | true => none
  | false => mkI k (k.wrap (x * 2 ^ (min y.toNat k.bits)))
def shrI (k : IntKind) (x y : Int) : Option AV := match ilt y 0 with
  | true => none
  | false => mkI k (x.fdiv (2 ^ (min y.toNat k.bits)))

/-- Operations on two integers. -/
def intOp (op : BinOp) (k : IntKind) (x y : Int) : Option AV := match op with
  | .add => mkI k (wrapF k (Int.add x y))
  | .sub => mkI k (wrapF k (Int.sub x y))
  | .mul => mkI k (wrapF k (Int.mul x y))
  | .quo => quoI k x y
  | .rem => remI k x y
  | .and => andI k x y
  | .or => orI k x y
  | .xor => xorI k x y
  | .andNot => andNotI k x y
  | .eql => some (.bool (ieq x y))
  | .neq => some (.bool (Bool.not (ieq x y)))
  | .lss => some (.bool (ilt x y))
  | .leq => some (.bool (Bool.not (ilt y x)))
  | .gtr => some (.bool (ilt y x))
  | .geq => some (.bool (Bool.not (ilt x y)))
  | .shl => shlI k x y
  | .shr => shrI k x y

def maxText : Nat := 9223372036854775807

def catS (x y : List UInt8) : Option AV := match Nat.ble (Nat.add x.length y.length) maxText with
  | true => some (.str (x ++ y))
  | false => none

def strOp (op : BinOp) (x y : List UInt8) : Option AV := match op with
  | .add => catS x y
  | .eql => some (.bool (bytesEq x y))
  | .neq => some (.bool (Bool.not (bytesEq x y)))
  | .lss => some (.bool (Op.bytesLess x y))
  | .leq => some (.bool (Bool.or (Op.bytesLess x y) (bytesEq x y)))
  | .gtr => some (.bool (Bool.not (Bool.or (Op.bytesLess x y) (bytesEq x y))))
  | .geq => some (.bool (Bool.not (Op.bytesLess x y)))
  | _ => none

def eqvB (t : Option TypeDesc) (a : Bool) (y : AV) : Option Bool := match t, y with
  | some .bool, .bool b => some (a == b)
  | _, _ => none
def eqvI (t : Option TypeDesc) (k : IntKind) (a : Int) (y : AV) : Option Bool := match t, y with
  | some (.int _), .int k' b => match kindEq k k' with
    | true => some (ieq a b)
    | false => none
  | _, _ => none
def eqvS (t : Option TypeDesc) (a : List UInt8) (y : AV) : Option Bool := match t, y with
  | some .string, .str b => some (bytesEq a b)
  | _, _ => none
/-- Against nil. -/
def eqvN (t : Option TypeDesc) (x y : AV) : Option Bool := match t with
  | some (.pointer _) => match x, y with
    | .nilPtr, .nilPtr => some true
    | .nilPtr, .ptr _ _ => some false
    | .ptr _ _, .nilPtr => some false
    | _, _ => none
  | some (.interface _) => match x, y with
    | .nilIface, .nilIface => some true
    | .nilIface, .iface _ _ => some false
    | .iface _ _, .nilIface => some false
    | _, _ => none
  | some (.slice _) => match x, y with
    | .nilSlice, .nilSlice => some true
    | .nilSlice, .slice .. => some false
    | .slice .., .nilSlice => some false
    | _, _ => none
  | some (.map _ _) => match x, y with
    | .nilMap, .nilMap => some true
    | .nilMap, .map _ => some false
    | .map _, .nilMap => some false
    | _, _ => none
  | some (.func _ _ _) => match x, y with
    | .nilFunc, .nilFunc => some true
    | .nilFunc, .fn .. => some false
    | .fn .., .nilFunc => some false
    | _, _ => none
  | _ => none

noncomputable def fieldsEq (eq : TypeId → AV → AV → Option Bool) (xs ys : List AV) : List Field → Option Bool
  | [] => some true
  | f :: r => match f.name != "_" with
    | true => match part P f.type xs f.offset, part P f.type ys f.offset with
      | some a, some b => match eq f.type a b with
        | some true => fieldsEq eq xs ys r
        | some false => some false
        | none => none
      | _, _ => none
    | false => fieldsEq eq xs ys r
noncomputable def cellsEq (eq : AV → AV → Option Bool) (elem : TypeId) (n : Nat) (xs ys : List AV) : Nat → Nat → Option Bool
  | 0, _ => some true
  | c + 1, i => match part P elem xs (Nat.mul i n), part P elem ys (Nat.mul i n) with
    | some a, some b => match eq a b with
      | some true => cellsEq eq elem n xs ys c (Nat.succ i)
      | some false => some false
      | none => none
    | _, _ => none

/-- Structs and arrays. -/
noncomputable def eqvA (eq : TypeId → AV → AV → Option Bool) (t : TypeId) (xs : List AV) (y : AV) : Option Bool := match und P t, y with
  | some (.struct fields), .agg ys => match P.stoodInHeld t with
    | false => fieldsEq P eq xs ys fields.toList
    | true => none
  | some (.array len elem), .agg ys => match size P elem with
    | some n => cellsEq P (eq elem) elem n xs ys len 0
    | none => none
  | _, _ => none

/-- One place, met twice. -/
noncomputable def eqvP (t : Option TypeDesc) (l o l' o' : Nat) : Option Bool := match t with
  | some (.pointer e) => match size P e with
    | some _ => match Bool.and (Nat.beq l l') (Nat.beq o o') with
      | true => some true
      | false => none
    | none => none
  | _ => none
/-- Equality at a type. -/
noncomputable def eqv : Nat → TypeId → AV → AV → Option Bool
  | 0, _, _, _ => none
  | d + 1, t, x, y => match x with
    | .bool a => eqvB (und P t) a y
    | .int k a => eqvI (und P t) k a y
    | .str a => eqvS (und P t) a y
    | .agg xs => eqvA P (eqv d) t xs y
    | .ptr l o => match y with
      | .ptr l' o' => eqvP P (und P t) l o l' o'
      | y => eqvN (und P t) (.ptr l o) y
    | x => eqvN (und P t) x y

def isConst : Operand → Bool
  | .const _ => true
  | _ => false

/-- What the model asks before it compares. -/
def eqFree (t : TypeId) (x y : Operand) (a b : AV) : Bool := match a, b with
  | .nilIface, .nilIface => Bool.or (isConst x) (isConst y)
  | .agg _, .agg _ => Bool.not (P.eqGuardType P.depth t)
  | _, _ => true

def boolO (neg : Bool) : Option Bool → Option AV
  | some b => some (.bool (Bool.xor b neg))
  | none => none

noncomputable def cmpOp (op : BinOp) (t : TypeId) (x y : Operand) (a b : AV) : Option AV := match eqFree P t x y a b with
  | true => match op with
    | .eql => boolO false (eqv P 20 t a b)
    | .neq => boolO true (eqv P 20 t a b)
    | _ => none
  | false => none

def isShift : BinOp → Bool
  | .shl | .shr => true
  | _ => false

noncomputable def binOp (op : BinOp) (t : TypeId) (x y : Operand) (a b : AV) : Option AV := match a with
  | .int k m => match b with
    | .int k' n => match Bool.or (isShift op) (kindEq k k') with
      | true => intOp op k m n
      | false => none
    | _ => none
  | .str m => match b with
    | .str n => strOp op m n
    | _ => none
  | a => cmpOp P op t x y a b

def notB : Bool → Bool
  | true => false
  | false => true

def unOp (op : UnOp) (x : AV) : Option AV := match x with
  | .int k n => match op with
    | .neg => intOp .sub k 0 n
    | .xor => intOp .xor k (if k.signed then -1 else k.max) n
    | _ => none
  | .bool b => match op with
    | .not => some (.bool (notB b))
    | _ => none
  | _ => none

def fieldD (i : Nat) : Option TypeDesc → Option Field
  | some (.struct fields) => fields[i]?
  | _ => none
noncomputable def fieldOf (s : TypeId) (i : Nat) : Option Field := fieldD i (und P s)

noncomputable def fillS (fields : Array Field) : List (Nat × AV) → List AV → Option AV
  | [], cs => some (.agg cs)
  | (i, v) :: r, cs => match fields[i]? with
    | some f => match size P f.type with
      | some (n + 1) => match Nat.beq v.cells.length (Nat.succ n) with
        | true => match setAt cs f.offset v.cells with
          | some cs' => fillS fields r cs'
          | none => none
        | false => none
      | _ => none
    | none => none
def fillA (n : Nat) : List (Nat × AV) → List AV → Option (List AV)
  | [], cs => some cs
  | (i, v) :: r, cs => match Nat.beq v.cells.length n with
    | true => match setAt cs (Nat.mul i n) v.cells with
      | some cs' => fillA n r cs'
      | none => none
    | false => none

noncomputable def build (t : TypeId) (ps : List (Nat × AV)) : Option AV := match zero P t with
  | some z => match und P t with
    | some (.struct fields) => match mapO (fun f => size P f.type) fields.toList with
      | some _ => fillS P fields ps z.cells
      | none => none
    | some (.array _ elem) => match size P elem with
      | some n => aggO .agg (fillA n ps z.cells)
      | none => none
    | _ => none
  | none => none

/-- So many copies of some cells. -/
def copies (z : List AV) : Nat → List AV
  | 0 => []
  | n + 1 => z ++ copies z n

/-- An index, or a bound: at most so much. -/
def bound (x : AV) (y : Nat) : Option Nat := match x with
  | .int _ (.ofNat n) => match Nat.ble n y with
    | true => some n
    | false => none
  | _ => none
def boundO (x : Option AV) (d y : Nat) : Option Nat := match x with
  | some x => bound x y
  | none => some d

def cut (a off len cap sz : Nat) (ex : Bool) (lo hi mx : Option AV) : Option AV := match mx with
  | none => match boundO hi len cap with
    | some h => match boundO lo 0 h with
      | some l => fnat (Nat.add off (Nat.mul l sz)) fun o => fnat (Nat.sub h l) fun n => fnat (Nat.sub cap l) fun c => some (.slice a o n c sz ex)
      | none => none
    | none => none
  | some m => match bound m cap, hi with
    | some m, some v => match bound v m with
      | some h => match boundO lo 0 h with
        | some l => fnat (Nat.add off (Nat.mul l sz)) fun o => fnat (Nat.sub h l) fun n => fnat (Nat.sub m l) fun c => some (.slice a o n c sz true)
        | none => none
      | none => none
    | _, _ => none

def cutNil (lo hi mx : Option AV) : Option AV := match boundO mx 0 0, boundO hi 0 0, boundO lo 0 0 with
  | some _, some _, some _ => match mx, hi with
    | some _, none => none
    | _, _ => some .nilSlice
  | _, _, _ => none

def cutS (s : List UInt8) (lo hi mx : Option AV) : Option AV := match mx with
  | some _ => none
  | none => match boundO hi s.length s.length with
    | some h => match boundO lo 0 h with
      | some l => some (.str ((s.take h).drop l))
      | none => none
    | none => none


noncomputable def slice (t : TypeId) (x : AV) (lo hi mx : Option AV) : Option AV := match und P t with
  | some .string => match x with
    | .str s => cutS s lo hi mx
    | _ => none
  | some (.slice elem) => match size P elem with
    | some n => match x with
      | .slice a off len cap sz ex => match Nat.beq n sz with
        | true => cut a off len cap sz ex lo hi mx
        | false => none
      | .nilSlice => cutNil lo hi mx
      | _ => none
    | none => none
  | _ => none

def idx (x : AV) (len : Nat) : Option Nat := match x with
  | .int _ (.ofNat n) => match Nat.blt n len with
    | true => some n
    | false => none
  | _ => none

def ptrO (a off n : Nat) : Option Nat → Option AV
  | some sz => fnat (Nat.add off (Nat.mul n sz)) fun o => some (.ptr a o)
  | none => none

noncomputable def indexAddr (t : TypeId) (x i : AV) : Option AV := match und P t with
  | some (.array len elem) => match x with
    | .ptr a off => match idx i len with
      | some n => ptrO a off n (size P elem)
      | none => none
    | _ => none
  | some (.slice elem) => match x with
    | .slice a off len _ sz _ => match idx i len with
      | some n => match size P elem with
        | some s => match Nat.beq s sz with
          | true => ptrO a off n (some sz)
          | false => none
        | none => none
      | none => none
    | _ => none
  | _ => none

def byteO : Option UInt8 → Option AV
  | some b => mkI .u8 (Int.ofNat b.toNat)
  | none => none
def nthB : List UInt8 → Nat → Option UInt8
  | [], _ => none
  | a :: _, 0 => some a
  | _ :: r, n + 1 => nthB r n

noncomputable def index (t : TypeId) (x i : AV) : Option AV := match und P t with
  | some (.array len elem) => match x with
    | .agg cs => match idx i len with
      | some n => match size P elem with
        | some sz => part P elem cs (Nat.mul n sz)
        | none => none
      | none => none
    | _ => none
  | some .string => match x with
    | .str s => match i with
      | .int _ (.ofNat n) => byteO (nthB s n)
      | _ => none
    | _ => none
  | _ => none

noncomputable def lenOf (t : TypeId) (x : AV) : Option AV := match und P t with
  | some .string => match x with
    | .str s => mkI .i64 (Int.ofNat s.length)
    | _ => none
  | some (.array n _) => some (.int .i64 (Int.ofNat n))
  | some (.pointer arr) => match und P arr with
    | some (.array n _) => some (.int .i64 (Int.ofNat n))
    | _ => none
  | some (.slice _) => match x with
    | .slice _ _ len _ _ _ => some (.int .i64 (Int.ofNat len))
    | .nilSlice => some (.int .i64 0)
    | _ => none
  | some (.map _ _) => match x with
    | .nilMap => some (.int .i64 0)
    | _ => none
  | _ => none

/-- The operand of an operation. -/
abbrev Lk := Operand → Option AV

def parts (lk : Lk) : List (Nat × Operand) → Option (List (Nat × AV))
  | [] => some []
  | (i, x) :: r => match lk x with
    | some v => match parts lk r with
      | some l => some ((i, v) :: l)
      | none => none
    | none => none

def opt (lk : Lk) : Option Operand → Option (Option AV)
  | none => some none
  | some x => match lk x with
    | some v => some (some v)
    | none => none

def pickO (lk : Lk) (a b : Operand) : Option AV → Option AV
  | some (.bool true) => lk a
  | some (.bool false) => lk b
  | _ => none
noncomputable def buildO (t : TypeId) : Option (List (Nat × AV)) → Option AV
  | some l => build P t l
  | none => none
def nilO : Option AV → Option AV
  | some (.ptr a o) => some (.ptr a o)
  | some (.fn (.func g) a b) => some (.fn (.func g) a b)
  | _ => none
noncomputable def binO (lk : Lk) (op : BinOp) (t : TypeId) (x y : Operand) : Option AV := match lk x with
  | some a => match lk y with
    | some b => binOp P op t x y a b
    | none => none
  | none => none
def unO (op : UnOp) : Option AV → Option AV
  | some a => unOp op a
  | none => none
noncomputable def convO (src dst : TypeId) : Option AV → Option AV
  | some (.int _ n) => match und P src, und P dst with
    | some _, some (.int k) => mkI k (wrapF k n)
    | _, _ => none
  | some (.str s) => match und P src, und P dst with
    | some _, some .string => some (.str s)
    | _, _ => none
  | _ => none
noncomputable def ifaceO (t : TypeId) (v : Option AV) : Option AV := match und P t with
  | some (.interface _) => none
  | some _ => match v with
    | some v => some (.iface t v)
    | none => none
  | none => none
def funcO (fn : Fn) : Option (List AV) → Option (List AV) → Option AV
  | some a, some b => some (.fn fn a b)
  | _, _ => none
noncomputable def sliceO (t : TypeId) (x : Option AV) (lo hi mx : Option (Option AV)) : Option AV := match x, lo, hi, mx with
  | some v, some a, some b, some c => slice P t v a b c
  | _, _, _, _ => none
noncomputable def fieldAddrO (x : Option AV) (f : Option Field) : Option AV := match x with
  | some (.ptr a off) => match f with
    | some f => match size P f.type with
      | some (_ + 1) => fnat (Nat.add off f.offset) fun o => some (.ptr a o)
      | _ => none
    | none => none
  | _ => none
noncomputable def fieldO (x : Option AV) (f : Option Field) : Option AV := match x with
  | some (.agg cs) => match f with
    | some f => part P f.type cs f.offset
    | none => none
  | _ => none
noncomputable def indexAddrO (t : TypeId) (x i : Option AV) : Option AV := match x, i with
  | some a, some b => indexAddr P t a b
  | _, _ => none
noncomputable def indexO (t : TypeId) (x i : Option AV) : Option AV := match x, i with
  | some a, some b => index P t a b
  | _, _ => none
def extractO (i : Nat) : Option AV → Option AV
  | some (.tuple l) => nth l i
  | _ => none
noncomputable def lenO (lk : Lk) (t : Option TypeId) : List Operand → Option AV
  | [x] => match t with
    | some t => match lk x with
      | some v => lenOf P t v
      | none => none
    | none => none
  | _ => none
noncomputable def callO (lk : Lk) (c : Call) : Option AV := match c.callee with
  | .builtin .len => lenO P lk c.argTypes[0]? c.args.toList
  | _ => none

/-- Operations that look at no memory and change none. -/
noncomputable def pure1 (lk : Lk) (o : Op) : Option AV := match o with
  | .move x => lk x
  | .assign x => lk x
  | .pick c a b => pickO lk a b (lk c)
  | .build t ps => buildO P t (parts lk ps.toList)
  | .nilCheck x => nilO (lk x)
  | .binOp op t x y _ => binO P lk op t x y
  | .unOp op _ x => unO op (lk x)
  | .convert src dst x => convO P src dst (lk x)
  | .makeInterface t x => ifaceO P t (lk x)
  | .makeFunc fn first captured => funcO fn (mapO lk first.toList) (mapO lk captured.toList)
  | .slice t x lo hi mx => sliceO P t (lk x) (opt lk lo) (opt lk hi) (opt lk mx)
  | .fieldAddr s x i => fieldAddrO P (lk x) (fieldOf P s i)
  | .field t x i => fieldO P (lk x) (fieldOf P t i)
  | .indexAddr t x i => indexAddrO P t (lk x) (lk i)
  | .index t x i => indexO P t (lk x) (lk i)
  | .extract x i => extractO i (lk x)
  | .call c => callO P lk c
  | _ => none

end Go.Ev

/- An abstract evaluator over the model: memory. -/
namespace Go.Ev

mutual
def AV.beq : AV → AV → Bool
  | .bool a, b => match b with
    | .bool b => a == b
    | _ => false
  | .int k a, b => match b with
    | .int k' b => Bool.and (kindEq k k') (ieq a b)
    | _ => false
  | .str a, b => match b with
    | .str b => bytesEq a b
    | _ => false
  | .nilPtr, b => match b with
    | .nilPtr => true
    | _ => false
  | .nilSlice, b => match b with
    | .nilSlice => true
    | _ => false
  | .nilMap, b => match b with
    | .nilMap => true
    | _ => false
  | .nilFunc, b => match b with
    | .nilFunc => true
    | _ => false
  | .nilIface, b => match b with
    | .nilIface => true
    | _ => false
  | .ptr a o, b => match b with
    | .ptr a' o' => Bool.and (Nat.beq a a') (Nat.beq o o')
    | _ => false
  | .slice a o c d e f, b => match b with
    | .slice a' o' c' d' e' f' => Bool.and (Nat.beq a a') (Bool.and (Nat.beq o o') (Bool.and (Nat.beq c c') (Bool.and (Nat.beq d d') (Bool.and (Nat.beq e e') (f == f')))))
    | _ => false
  | .map a, b => match b with
    | .map b => Nat.beq a b
    | _ => false
  | .fn f a c, b => match b with
    | .fn g a' c' => Bool.and (decide (f = g)) (Bool.and (beqs a a') (beqs c c'))
    | _ => false
  | .iface t a, b => match b with
    | .iface u b => Bool.and (Nat.beq t u) (AV.beq a b)
    | _ => false
  | .agg a, b => match b with
    | .agg b => beqs a b
    | _ => false
  | .tuple a, b => match b with
    | .tuple b => beqs a b
    | _ => false
def beqs : List AV → List AV → Bool
  | [], b => match b with
    | [] => true
    | _ => false
  | a :: l, b => match b with
    | b :: r => Bool.and (AV.beq a b) (beqs l r)
    | _ => false
end

variable (P : Program)

def rowO : Option AObj → Option (List AV)
  | some (.cells r) => some r
  | some (.ro r) => some r
  | some (.marked r) => some r
  | _ => none
noncomputable def rowOf (s : St) (l : Nat) : Option (List AV) := rowO (s.look l)

def mapO' : Option AObj → Option (List AE)
  | some (.map es _) => some es
  | _ => none
noncomputable def mapOf (s : St) (x : AV) : Option (List AE) := match x with
  | .map l => mapO' (s.look l)
  | .nilMap => some []
  | _ => none

/-- The entry of a key. -/
def find (eq : AV → Option Bool) : List AE → Nat → Option (Option (Nat × AE))
  | [], _ => some none
  | e :: r, i => match eq e.key with
    | some true => some (some (i, e))
    | some false => find eq r (Nat.succ i)
    | none => none

noncomputable def chkA (c : AV → Bool) (elem : TypeId) (n : Nat) (cs : List AV) : Nat → Nat → Bool
  | 0, _ => true
  | k + 1, i => match part P elem cs (Nat.mul i n) with
    | some v => Bool.and (c v) (chkA c elem n cs k (Nat.succ i))
    | none => false
noncomputable def chkF (c : TypeId → AV → Bool) (cs : List AV) : List Field → Bool
  | [] => true
  | f :: r => match f.name != "_" with
    | true => match part P f.type cs f.offset with
      | some v => Bool.and (c f.type v) (chkF c cs r)
      | none => false
    | false => chkF c cs r
noncomputable def chkC (c : TypeId → AV → Bool) (v : AV) : Option TypeDesc → Bool
  | some (.array len elem) => match v with
    | .agg cs => match size P elem with
      | some n => chkA P (c elem) elem n cs len 0
      | none => false
    | _ => false
  | some (.struct fields) => match v with
    | .agg cs => chkF P c cs fields.toList
    | _ => false
  | some .bool => true
  | some (.int _) => true
  | some .string => true
  | some (.pointer _) => true
  | _ => false
/-- May the value be a key? -/
noncomputable def chk : Nat → TypeId → AV → Bool
  | 0, _, _ => false
  | d + 1, t, v => chkC P (chk d) v (und P t)

def sames (q : AV → AV → Bool) : List AV → List AV → Bool
  | [], [] => true
  | a :: l, b :: r => Bool.and (q a b) (sames q l r)
  | _, _ => false
/-- Values that are the same to the bit. -/
def sameB : Nat → AV → AV → Bool
  | 0, _, _ => false
  | n + 1, a, b => match a, b with
    | .bool a, .bool b => a == b
    | .int j a, .int k b => Bool.and (kindEq j k) (ieq a b)
    | .str a, .str b => bytesEq a b
    | .agg a, .agg b => sames (sameB n) a b
    | _, _ => false

noncomputable def loadR (t : TypeId) (s : St) : Option AV → Option AV
  | some (.ptr l off) => match rowOf s l with
    | some r => part P t r off
    | none => none
  | _ => none

noncomputable def found (ok : Bool) (et : TypeId) : Option (Option (Nat × AE)) → Option AV
  | some (some (_, e)) => match ok with
    | true => some (.tuple [e.val, .bool true])
    | false => some e.val
  | some none => match zero P et with
    | some z => match ok with
      | true => some (.tuple [z, .bool false])
      | false => some z
    | none => none
  | none => none

noncomputable def lookR (t : TypeId) (ok : Bool) (s : St) (m k : Option AV) : Option AV := match und P t with
  | some (.map kt et) => match m with
    | some m => match k with
      | some k => match mapOf s m with
        | some es => match chk P 20 kt k with
          | true => found P ok et (find (eqv P 20 kt k) es 0)
          | false => none
        | none => none
      | none => none
    | none => none
  | _ => none

def bytesOf : List AV → Option (List UInt8)
  | [] => some []
  | a :: r => match a with
    | .int .u8 n => match bytesOf r with
      | some l => some (UInt8.ofNat n.toNat :: l)
      | none => none
    | _ => none
def strO : Option (List UInt8) → Option AV
  | some b => some (.str b)
  | none => none
def strB : Option (List AV) → Option AV
  | some cs => strO (bytesOf cs)
  | none => none

def isByteSlice (e s : Option TypeDesc) : Bool := match e with
  | some (.int .u8) => match s with
    | some .string => true
    | _ => false
  | _ => false
def elemD : Option TypeDesc → Option TypeId
  | some (.slice e) => some e
  | _ => none

noncomputable def convR (src dst : TypeId) (s : St) (x : Option AV) : Option AV := match elemD (und P src) with
  | some e => match isByteSlice (und P e) (und P dst) with
    | true => match x with
      | some .nilSlice => some (.str [])
      | some (.slice l off n _ 1 _) => match rowOf s l with
        | some r => strB (sub r off n)
        | none => none
      | _ => none
    | false => none
  | none => none

noncomputable def lenR (lk : Lk) (s : St) (t : Option TypeId) : List Operand → Option AV
  | [x] => match t with
    | some t => match und P t with
      | some (.map _ _) => match lk x with
        | some m => match mapOf s m with
          | some es => some (.int .i64 (Int.ofNat es.length))
          | none => none
        | none => none
      | _ => none
    | none => none
  | _ => none
noncomputable def callR (lk : Lk) (s : St) (c : Call) : Option AV := match c.callee with
  | .builtin .len => lenR P lk s c.argTypes[0]? c.args.toList
  | _ => none

noncomputable def cutR (arr : Option TypeDesc) (s : St) (x : AV) (lo hi mx : Option AV) : Option AV := match arr with
  | some (.array n elem) => match x with
    | .ptr a off => match size P elem with
      | some (sz + 1) => match rowOf s a with
        | some r => match Nat.ble (Nat.add off (Nat.mul n (Nat.succ sz))) r.length with
          | true => cut a off n n (Nat.succ sz) true lo hi mx
          | false => none
        | none => none
      | _ => none
    | _ => none
  | _ => none

noncomputable def sliceR (t : TypeId) (s : St) (x : Option AV) (lo hi mx : Option (Option AV)) : Option AV := match x, lo, hi, mx with
  | some v, some a, some b, some c => match und P t with
    | some (.array n elem) => cutR P (some (.array n elem)) s v a b c
    | some (.pointer arr) => cutR P (und P arr) s v a b c
    | _ => none
  | _, _, _, _ => none

/-- Operations that look at memory and change none. -/
noncomputable def read1 (lk : Lk) (o : Op) (s : St) : Option AV := match o with
  | .load t a => loadR P t s (lk a)
  | .lookup t m k ok => lookR P t ok s (lk m) (lk k)
  | .convert src dst x => convR P src dst s (lk x)
  | .slice t x lo hi mx => sliceR P t s (lk x) (opt lk lo) (opt lk hi) (opt lk mx)
  | .call c => callR P lk s c
  | _ => none

def bytesAV : List UInt8 → List AV
  | [] => []
  | b :: r => .int .u8 (Int.ofNat b.toNat) :: bytesAV r

abbrev Lay := Option (AObj × (Nat → AV))

def allocA : Option AV → Lay
  | some z => some (.cells z.cells, fun l => .ptr l 0)
  | none => none

noncomputable def buildSliceA (t : TypeId) (len : Nat) (ps : Option (List (Nat × AV))) : Lay := match elemD (und P t) with
  | some elem => match ps with
    | some l => match size P elem with
      | some n => match zero P elem with
        | some z => match Bool.and (Nat.ble (Nat.mul len n) 16777216) (Nat.beq z.cells.length n) with
          | true => match fillA n l (copies z.cells len) with
            | some r => some (.cells r, fun a => .slice a 0 len len n true)
            | none => none
          | false => none
        | none => none
      | none => none
    | none => none
  | none => none

def makeMapA (lk : Lk) (d : Option TypeDesc) : Option Operand → Lay
  | none => some (.map [] 0, fun l => .map l)
  | some x => match d with
    | some (.map _ _) => match lk x with
      | some (.int _ _) => some (.map [] 0, fun l => .map l)
      | _ => none
    | _ => none

noncomputable def makeSliceA (t : TypeId) (a b : Option AV) : Lay := match elemD (und P t) with
  | some elem => match a with
    | some (.int _ (.ofNat l)) => match b with
      | some (.int _ (.ofNat c)) => match info P elem with
        | some i => match zero P elem with
          | some z => match Bool.and (Nat.ble l c) (Bool.and (Nat.ble c maxText) (Bool.and (Nat.ble (Nat.mul i.bytes c) 281474976710656) (Nat.beq z.cells.length i.size))) with
            | true => fnat l fun l => fnat c fun c => some (.cells (copies z.cells c), fun a => .slice a 0 l c i.size true)
            | false => none
          | none => none
        | none => none
      | _ => none
    | _ => none
  | none => none

noncomputable def convA (src dst : TypeId) (x : Option AV) : Lay := match x with
  | some (.str s) => match und P src with
    | some _ => match elemD (und P dst) with
      | some e => match isByteSlice (und P e) (some .string) with
        | true => fnat s.length fun n => some (.marked (bytesAV s), fun a => .slice a 0 n n 1 false)
        | false => none
      | none => none
    | none => none
  | _ => none

noncomputable def rangeA (t : TypeId) (x : Option AV) : Lay := match und P t with
  | some .string => match x with
    | some (.str s) => some (.iter s 0, fun l => .ptr l 0)
    | _ => none
  | _ => none

/-- Operations that lay one new block. -/
noncomputable def alloc1 (lk : Lk) (o : Op) : Lay := match o with
  | .alloc t => allocA (zero P t)
  | .box _ x => allocA (lk x)
  | .buildSlice t len ps => buildSliceA P t len (parts lk ps.toList)
  | .makeMap t r => makeMapA lk (und P t) r
  | .makeSlice t a b => makeSliceA P t (lk a) (lk b)
  | .convert src dst x => convA P src dst (lk x)
  | .range t x => rangeA P t (lk x)
  | _ => none

/-- The cells of what is appended or copied: so many elements of a size. -/
noncomputable def firstCells (s : St) (sz n : Nat) : AV → Option (List AV)
  | .slice l off _ _ sz' _ => match Nat.beq sz sz' with
    | true => match rowOf s l with
      | some r => sub r off (Nat.mul n sz)
      | none => none
    | false => none
  | .nilSlice => some []
  | .str b => match Nat.beq sz 1 with
    | true => some (bytesAV (b.take n))
    | false => none
  | _ => none

def lenAV : AV → Option Nat
  | .slice _ _ n _ _ _ => some n
  | .nilSlice => some 0
  | .str s => some s.length
  | _ => none

def modE (g : AE → AE) : List AE → Nat → List AE
  | [], _ => []
  | e :: r, 0 => g e :: r
  | e :: r, i + 1 => e :: modE g r i

def eraseE : List AE → Nat → List AE
  | [], _ => []
  | _ :: r, 0 => r
  | e :: r, i + 1 => e :: eraseE r i

/-- Is there room for so many elements, and as many again as an append may add? -/
def roomy (n bytes : Nat) : Bool := Bool.and (Nat.ble n maxText) (Nat.ble (Nat.mul (Nat.add (Nat.mul 4 n) 4000) bytes) 281474976710656)

abbrev Res := Option (AV × St)

noncomputable def putO (s : St) (l : Nat) (v : AV) : Option (List AV) → Res
  | some r => some (v, s.put l (.cells r))
  | none => none
noncomputable def growO (s : St) (len sz : Nat) (new : List AV) : Option (List AV) → Res
  | some old => fnat len fun len => some (.slice s.nx 0 len len sz false, s.add (.cells (old ++ new)))
  | none => none

def flats : List AV → Bool
  | [] => true
  | a :: r => Bool.and a.flat (flats r)
noncomputable def putF (s : St) (l : Nat) (v : AV) (new : List AV) (r : Option (List AV)) : Res := match flats new with
  | true => putO s l v r
  | false => none
noncomputable def growF (s : St) (len sz : Nat) (new : List AV) (r : Option (List AV)) : Res := match flats new with
  | true => growO s len sz new r
  | false => none

/-- Append to a slice that is not nil, at least one element. -/
noncomputable def appendS (s : St) (l off len cap sz : Nat) (ex : Bool) (n bytes : Nat) (new : List AV) : Res :=
  match Nat.ble (Nat.add len n) cap with
  | true => match s.look l with
    | some (.cells r) => fnat (Nat.add len n) fun m => putF s l (.slice l off m cap sz ex) new (setAt r (Nat.add off (Nat.mul len sz)) new)
    | _ => none
  | false => match roomy (Nat.add len n) bytes with
    | true => match s.look l with
      | some (.cells r) => match ex with
        | true => growO s (Nat.add len n) sz new (sub r off (Nat.mul len sz))
        | false => growF (s.kill l) (Nat.add len n) sz new (sub r off (Nat.mul len sz))
      | some (.ro r) => match ex with
        | true => growO s (Nat.add len n) sz new (sub r off (Nat.mul len sz))
        | false => none
      | _ => none
    | false => none

/-- Does the zero value have the type's size? -/
def zeroFits (i : TypeInfo) : Bool := match i.zero with
  | some v => Nat.beq v.cells.size i.size
  | none => false
def fitI : Option TypeInfo → Option TypeInfo
  | some i => match zeroFits i with
    | true => some i
    | false => none
  | none => none

noncomputable def append (s : St) (t : TypeId) (x y : AV) : Res := match elemD (und P t) with
  | some elem => match fitI (info P elem) with
    | some i => match lenAV y with
      | some n => match firstCells s i.size n y with
        | some new => match x with
          | .nilSlice => match n with
            | 0 => some (.nilSlice, s)
            | n + 1 => match roomy (Nat.succ n) i.bytes with
              | true => growO s (Nat.succ n) i.size new (some [])
              | false => none
          | .slice l off len cap sz ex => match Nat.beq sz i.size with
            | true => match n with
              | 0 => some (.slice l off len cap sz ex, s)
              | n + 1 => appendS s l off len cap sz ex (Nat.succ n) i.bytes new
            | false => none
          | _ => none
        | none => none
      | none => none
    | none => none
  | none => none

noncomputable def storeL (s : St) (a x : Option AV) (n : Option Nat) : Res := match a with
  | some (.ptr l off) => match x with
    | some v => match n with
      | some n => match Bool.and (Nat.beq v.cells.length n) (flats v.cells) with
        | true => match s.look l with
          | some (.cells r) => putO s l .undef (setAt r off v.cells)
          | _ => none
        | false => none
      | none => none
    | none => none
  | _ => none

noncomputable def updateE (s : St) (l : Nat) (es : List AE) (c : Nat) (k v : AV) : Option (Option (Nat × AE)) → Res
  | some (some (i, e)) => match sameB 20 e.key k with
    | true => some (.undef, s.put l (.map (modE (fun e => ⟨k, v, e.born⟩) es i) c))
    | false => none
  | some none => some (.undef, s.put l (.map (es ++ [⟨k, v, c⟩]) (Nat.succ c)))
  | none => none

noncomputable def updateL (s : St) (t : TypeId) (m k v : Option AV) : Res := match und P t with
  | some (.map kt _) => match m with
    | some (.map l) => match k with
      | some k => match v with
        | some v => match s.look l with
          | some (.map es c) => match chk P 20 kt k with
            | true => updateE s l es c k v (find (eqv P 20 kt k) es 0)
            | false => none
          | _ => none
        | none => none
      | none => none
    | _ => none
  | _ => none

noncomputable def deleteE (s : St) (l : Nat) (es : List AE) (c : Nat) : Option (Option (Nat × AE)) → Res
  | some (some (i, _)) => some (.tuple [], s.put l (.map (eraseE es i) c))
  | some none => some (.tuple [], s.put l (.map es c))
  | none => none

noncomputable def deleteL (s : St) (t : TypeId) (m k : Option AV) : Res := match und P t with
  | some (.map kt _) => match m with
    | some (.map l) => match k with
      | some k => match s.look l with
        | some (.map es c) => match chk P 20 kt k with
          | true => deleteE s l es c (find (eqv P 20 kt k) es 0)
          | false => none
        | _ => none
      | none => none
    | _ => none
  | _ => none

def nextT (b : List UInt8) (p : Nat) : Nat × Nat := Utf8.decode ⟨⟨b⟩⟩ p

noncomputable def nextL (s : St) (str : Bool) : Option AV → Res
  | some (.ptr l 0) => match str with
    | true => match s.look l with
      | some (.iter b p) => match Nat.blt p b.length with
        | true => match nextT b p with
          | (c, w) => fnat (Nat.add p w) fun q => some (.tuple [.bool true, .int .i64 (Int.ofNat p), .int .i32 (Int.ofNat c)], s.put l (.iter b q))
        | false => some (.tuple [.bool false], s)
      | _ => none
    | false => none
  | _ => none

def notInt : Option TypeDesc → Bool
  | some (.int _) => false
  | some _ => true
  | none => false
noncomputable def plainAppend : List TypeId → Bool
  | [] => true
  | u :: _ => notInt (und P u)

noncomputable def appendL (lk : Lk) (s : St) : List Operand → List TypeId → Res
  | [x, y], t :: ts => match plainAppend P ts with
    | true => match lk x with
      | some x => match lk y with
        | some y => append P s t x y
        | none => none
      | none => none
    | false => none
  | _, _ => none

noncomputable def copyS (s : St) (sz : Nat) (x y : AV) (n : Nat) : Res := match x with
  | .nilSlice => some (.int .i64 0, s)
  | .slice l off len _ sz' _ => match Nat.beq sz sz' with
    | true => match firstCells s sz (Nat.min n len) y with
      | some new => match s.look l with
        | some (.cells r) => fnat (Nat.min n len) fun m => putF s l (.int .i64 (Int.ofNat m)) new (setAt r off new)
        | _ => none
      | none => none
    | false => none
  | _ => none

noncomputable def copyL (lk : Lk) (s : St) : List Operand → List TypeId → Res
  | [x, y], t :: _ => match lk x with
    | some x => match lk y with
      | some y => match elemD (und P t) with
        | some elem => match size P elem with
          | some sz => match lenAV y with
            | some n => copyS s sz x y n
            | none => none
          | none => none
        | none => none
      | none => none
    | none => none
  | _, _ => none

noncomputable def clearL (lk : Lk) (s : St) : List Operand → List TypeId → Res
  | [x], t :: _ => match lk x with
    | some (.slice l off (len + 1) _ sz _) => match elemD (und P t) with
      | some elem => match zero P elem with
        | some z => match s.look l with
          | some (.cells r) => match Nat.beq z.cells.length sz with
            | true => putF s l (.tuple []) (copies z.cells (Nat.succ len)) (setAt r off (copies z.cells (Nat.succ len)))
            | false => none
          | _ => none
        | none => none
      | none => none
    | some (.slice _ _ 0 _ _ _) => match und P t with
      | some _ => some (.tuple [], s)
      | none => none
    | some .nilSlice => match und P t with
      | some _ => some (.tuple [], s)
      | none => none
    | _ => none
  | _, _ => none

def pickI (lss : Bool) (x y : Int) : Int := match lss with
  | true => match ilt y x with
    | true => y
    | false => x
  | false => match ilt x y with
    | true => y
    | false => x
def minMax (lss : Bool) (k : IntKind) : Int → List AV → Option AV
  | x, [] => mkI k x
  | x, .int k' y :: r => match kindEq k k' with
    | true => minMax lss k (pickI lss x y) r
    | false => none
  | _, _ => none
def minMaxL (lss : Bool) (s : St) : Option (List AV) → Res
  | some (.int k x :: r) => match minMax lss k x r with
    | some v => some (v, s)
    | none => none
  | _ => none

noncomputable def callL (lk : Lk) (s : St) (c : Call) : Res := match c.callee with
  | .builtin .append => appendL P lk s c.args.toList c.argTypes.toList
  | .builtin .copy => copyL P lk s c.args.toList c.argTypes.toList
  | .builtin .clear => clearL P lk s c.args.toList c.argTypes.toList
  | .builtin .delete => match c.args.toList, c.argTypes.toList with
    | [m, k], t :: _ => deleteL P s t (lk m) (lk k)
    | _, _ => none
  | .builtin .min => minMaxL true s (mapO lk c.args.toList)
  | .builtin .max => minMaxL false s (mapO lk c.args.toList)
  | _ => none

/-- Operations that change memory. -/
noncomputable def loud1 (lk : Lk) (o : Op) (s : St) : Res := match o with
  | .store t a x => storeL s (lk a) (lk x) (size P t)
  | .mapUpdate t m k v => updateL P s t (lk m) (lk k) (lk v)
  | .insert t m k v => updateL P s t (lk m) (lk k) (lk v)
  | .next it str => nextL s str (lk it)
  | .call c => callL P lk s c
  | _ => none

def clsConv : Option TypeDesc → Option TypeDesc → Nat
  | some (.slice _), some .string => 1
  | some _, some (.slice _) => 2
  | _, _ => 0
def clsSlice : Option TypeDesc → Nat
  | some (.array _ _) => 1
  | some (.pointer _) => 1
  | _ => 0
def clsLen : Option TypeDesc → Nat
  | some (.map _ _) => 1
  | _ => 0
noncomputable def clsCall (c : Call) : Nat := match c.callee with
  | .builtin .len => match c.argTypes[0]? with
    | some t => clsLen (und P t)
    | none => 0
  | _ => 3

/-- 0: looks at no memory; 1: looks; 2: lays a block; 3: changes memory, or calls. -/
noncomputable def cls (o : Op) : Nat := match o with
  | .move _ | .assign _ | .pick .. | .build .. | .nilCheck _ | .binOp .. | .unOp .. | .makeInterface .. | .makeFunc .. | .fieldAddr .. | .field .. | .indexAddr .. | .index .. | .extract .. => 0
  | .load .. | .lookup .. => 1
  | .alloc _ | .box .. | .buildSlice .. | .makeMap .. | .makeSlice .. | .range .. => 2
  | .slice t .. => clsSlice (und P t)
  | .convert src dst _ => clsConv (und P src) (und P dst)
  | .call c => clsCall P c
  | _ => 3

end Go.Ev

/- An abstract evaluator over the model: code. -/
namespace Go.Ev

/-- A contract: what a call does, as a transformer. -/
abbrev Spec (R : Type) := List AV → (AV → St → R) → St → R

structure Env (R : Type) where
  P : Program
  g : Nat
  no : Nat → R
  spec : FuncId → Option (Spec R)

inductive Ex where
  | normal
  | exit (id : Nat)
  | ret

variable {R : Type} (E : Env R)

def undefO : Option AV → Option AV
  | some v => some v
  | none => some .undef
def globO (i g : Nat) : Option AV := match Nat.blt i g with
  | true => some (.ptr i 0)
  | false => none
noncomputable def AF.lk (f : AF) (g : Nat) : Lk := fun x => match x with
  | .tmp t => undefO (f.t.get (key t))
  | .const v => ofV 8 v
  | .global i => globO i g
  | .func i => some (.fn (.func i) [] [])

def opdTmps : List Operand → List Nat
  | [] => []
  | .tmp t :: r => t :: opdTmps r
  | _ :: r => opdTmps r
def memN (t : Nat) : List Nat → Bool
  | [] => false
  | a :: r => match Nat.beq a t with
    | true => true
    | false => memN t r
/-- The operand of an operation, for the slots that it names alone. -/
noncomputable def AF.lkT (f : AF) (g : Nat) (ts : List Nat) : Lk := fun x => match x with
  | .tmp t => match memN t ts with
    | true => undefO (f.t.get (key t))
    | false => none
  | .const v => ofV 8 v
  | .global i => globO i g
  | .func i => some (.fn (.func i) [] [])

def isB (want : Bool) : AV → Bool
  | .bool b => b == want
  | _ => false
noncomputable def wantD (f : AF) (want : Bool) : Option (Option Nat) → Bool
  | some (some d) => isB want (f.look d)
  | _ => false
def dstO : Option Oper → Option (Option Nat)
  | some o => some o.dst
  | none => none
noncomputable def wanted (ops : Array Oper) (f : AF) (o : Oper) : Bool := match o.guard with
  | none => true
  | some (j, want) => wantD f want (dstO ops[j]?)

def withS (s : St) : Option AV → Res
  | some v => some (v, s)
  | none => none
noncomputable def layS (s : St) : Lay → Res
  | some (ob, mk) => some (mk s.nx, s.add ob)
  | none => none

/-- An operation that is no call of a function. -/
noncomputable def plainOp (lk : Lk) (o : Op) (s : St) : Res := match cls E.P o with
  | 0 => withS s (pure1 E.P lk o)
  | 1 => withS s (read1 E.P lk o s)
  | 2 => layS s (alloc1 E.P lk o)
  | _ => loud1 E.P lk o s

def calleeO (f : Option AV) (l : Option (List AV)) : Option (Option (FuncId × List AV)) := match f with
  | some (.fn (.func g) first captured) => match l with
    | some l => some (some (g, first ++ (l ++ captured)))
    | none => none
  | _ => none
/-- What is called, and with what. -/
def callee (lk : Lk) (o : Op) : Option (Option (FuncId × List AV)) := match o with
  | .call c => match c.callee with
    | .value x => calleeO (lk x) (mapO lk c.args.toList)
    | .builtin _ => some none
    | .invoke _ _ => none
  | _ => some none

/-- A number for a kind of operation (to find what is not served). -/
def opc (o : Op) : Nat := match o with
  | .move _ => 1 | .assign _ => 2 | .pick .. => 3 | .alloc _ => 4 | .box .. => 5 | .build .. => 6 | .buildSlice .. => 7 | .insert .. => 8
  | .load .. => 9 | .store .. => 10 | .nilCheck _ => 11 | .binOp .. => 12 | .unOp .. => 13 | .convert .. => 14 | .makeInterface .. => 15
  | .makeFunc .. => 16 | .makeMap .. => 17 | .makeSlice .. => 18 | .slice .. => 19 | .fieldAddr .. => 20 | .field .. => 21
  | .indexAddr .. => 22 | .index .. => 23 | .lookup .. => 24 | .mapUpdate .. => 25 | .mapEntry .. => 26 | .entryStore .. => 27
  | .range .. => 28 | .next .. => 29 | .typeAssert .. => 30 | .extract .. => 31 | .defer _ => 32 | .panic _ => 33
  | .call c => (match c.callee with
    | .builtin .len => 40 | .builtin .append => 41 | .builtin .copy => 42 | .builtin .cap => 43 | .builtin .clear => 44 | .builtin .delete => 45
    | .builtin .min => 46 | .builtin .max => 47 | .builtin _ => 48 | .value _ => 49 | .invoke _ _ => 50)
  | _ => 34

abbrev CallR (R : Type) := FuncId → List AV → (AV → St → R) → St → R

def resK (o : Op) (K : AV → St → R) : Res → R
  | some (v, s') => K v s'
  | none => E.no (Nat.add 200 (opc o))

noncomputable def stepOp (call : CallR R) (lk : Lk) (o : Op) (s : St) (K : AV → St → R) : R :=
  match callee lk o with
  | none => E.no (Nat.add 100 (opc o))
  | some (some (g, l)) => call g l K s
  | some none => resK E o K (plainOp E lk o s)

noncomputable def seq1 (call : CallR R) (ops : Array Oper) (o : Oper) (K : AF → St → R) (f : AF) (s : St) : R :=
  match f.fits o.dst with
  | true => match wanted ops f o with
    | true => stepOp E call (f.lk E.g) o.op s fun v s' => K (f.put o.dst v) s'
    | false => K (f.put o.dst .undef) s
  | false => E.no 3

noncomputable def seqOps (call : CallR R) (ops : Array Oper) (K : AF → St → R) : List Oper → AF → St → R
  | [], f, s => K f s
  | o :: r, f, s => seq1 E call ops o (fun f s => seqOps call ops K r f s) f s

/-- An operation that looked at memory: what it was, what it saw, what it gave. -/
structure Rec where
  i : Nat
  o : Op
  f : AF
  v : AV

/-- A block that was laid, and that no call has needed so far. -/
structure Pend where
  i : Nat
  l : Nat
  o : AObj

abbrev QK (R : Type) := AF → St → List Rec → List Pend → R

noncomputable def AF.lkO (f : AF) (g : Nat) (o : Op) : Lk := f.lkT g (opdTmps o.operands.toList)

noncomputable def quietC (i : Nat) (o : Oper) (K : QK R) (f : AF) (s : St) (rs : List Rec) (ps : List Pend) : Nat → R
  | 0 => match pure1 E.P (f.lkO E.g o.op) o.op with
    | some v => K (f.put o.dst v) s rs ps
    | none => E.no (Nat.add 300 (opc o.op))
  | 1 => match read1 E.P (f.lkO E.g o.op) o.op s with
    | some v => K (f.put o.dst v) s (⟨i, o.op, f, v⟩ :: rs) ps
    | none => E.no (Nat.add 400 (opc o.op))
  | 2 => match alloc1 E.P (f.lkO E.g o.op) o.op with
    | some (ob, mk) => K (f.put o.dst (mk s.nx)) ⟨s.h, Nat.succ s.nx⟩ rs (⟨i, s.nx, ob⟩ :: ps)
    | none => E.no (Nat.add 500 (opc o.op))
  | _ => E.no 8

noncomputable def quiet1 (ops : Array Oper) (i : Nat) (K : QK R) (f : AF) (s : St) (rs : List Rec) (ps : List Pend) : Option Oper → R
  | none => E.no 4
  | some o => match f.fits o.dst with
    | true => match wanted ops f o with
      | true => quietC E i o K f s rs ps (cls E.P o.op)
      | false => K (f.put o.dst .undef) s rs ps
    | false => E.no 9

/-- Operations that change no memory that was there, in the order of the text. -/
noncomputable def quietOps (ops : Array Oper) (K : QK R) : List Nat → QK R
  | [], f, s, rs, ps => K f s rs ps
  | i :: r, f, s, rs, ps => quiet1 E ops i (fun f s rs ps => quietOps ops K r f s rs ps) f s rs ps ops[i]?

/-- The blocks that some operations have laid. -/
noncomputable def layP (D : Nat → Bool) : List Pend → St → St
  | [], s => s
  | p :: r, s => match D p.i with
    | true => (layP D r s).put p.l p.o
    | false => layP D r s

/-- The blocks that no operation has needed. -/
def rest (D : Nat → Bool) : List Pend → List Pend
  | [] => []
  | p :: r => match D p.i with
    | true => rest D r
    | false => p :: rest D r

noncomputable def still (D : Nat → Bool) (s : St) : List Rec → Bool
  | [] => true
  | c :: r => match D c.i with
    | true => still D s r
    | false => match read1 E.P (c.f.lkO E.g c.o) c.o s with
      | some v => Bool.and (AV.beq v c.v) (still D s r)
      | none => false

def bit (b i : Nat) : Bool := Nat.testBit b i

noncomputable def draw1 (call : CallR R) (ops : Array Oper) (before : Nat) (K : QK R) (o : Option Oper) : QK R := fun f s rs ps => match o with
  | none => E.no 10
  | some o => match f.fits o.dst with
    | true => match wanted ops f o with
      | true => stepOp E call (f.lkO E.g o.op) o.op (layP (bit before) ps s) fun v s' => match still E (bit before) s' rs with
          | true => K (f.put o.dst v) s' rs (rest (bit before) ps)
          | false => E.no 11
      | false => K (f.put o.dst .undef) s rs ps
    | false => E.no 12

noncomputable def drawOps (call : CallR R) (ops : Array Oper) (bef : Array Nat) (last : List Nat) (K : AF → St → R) : List (List Nat × Nat) → QK R
  | [], f, s, rs, ps => quietOps E ops (fun f s _ ps => K f (layP (fun _ => true) ps s)) last f s rs ps
  | (ns, l) :: r, f, s, rs, ps => quietOps E ops (draw1 E call ops (bef.getD l 0) (fun f s rs ps => drawOps call ops bef last K r f s rs ps) ops[l]?) ns f s rs ps

noncomputable def isLoud (o : Option Oper) : Bool := match o with
  | some o => Nat.ble 3 (cls E.P o.op)
  | none => false

/-- The operations of a region that change memory or call. -/
noncomputable def louds (ops : Array Oper) : List Nat := (List.range ops.size).filter fun i => isLoud E ops[i]?

/-- How many of some operations stand before one. -/
def phase (ls : List Nat) (before : Nat) : Nat := (ls.filter fun l => bit before l).length

def quiets (n : Nat) (bef : Array Nat) (ls : List Nat) (k : Nat) : List Nat :=
  (List.range n).filter fun i => Bool.and (Bool.not (memN i ls)) (Nat.beq (phase ls (bef.getD i 0)) k)

def phasesFrom (n : Nat) (bef : Array Nat) (ls : List Nat) : List Nat → Nat → List (List Nat × Nat)
  | [], _ => []
  | l :: r, k => (quiets n bef ls k, l) :: phasesFrom n bef ls r (Nat.succ k)

/-- What an operation's edges say stands before it. -/
def cover (bef : Array Nat) : List Edge → Nat → Nat
  | [], c => c
  | e :: r, c => match Region.binds .any e with
    | true => cover bef r (Nat.lor c (Nat.lor (2 ^ e.on) (bef.getD e.on 0)))
    | false => cover bef r c
def edgesOk (bef : Array Nat) (i : Nat) : Option Oper → Bool
  | some o => Bool.and (o.after.toList.all fun e => Bool.or (Bool.not (Region.binds .any e)) (Nat.blt e.on i)) (Nat.beq (bef.getD i 0) (cover bef o.after.toList 0))
  | none => false

def guardTmp (ops : Array Oper) : Option (Nat × Bool) → List Nat
  | some (j, _) => match dstO ops[j]? with
    | some (some d) => [d]
    | _ => []
  | none => []
/-- The slots that an operation reads. -/
def readsOf (ops : Array Oper) (o : Oper) : List Nat := guardTmp ops o.guard ++ opdTmps o.op.operands.toList
def clashes (d : Option Nat) (d' : Option Nat) (reads : List Nat) : Bool := match d with
  | none => false
  | some d => Bool.or (memN d reads) (match d' with | some d' => Nat.beq d d' | none => false)
/-- Of two operations that meet at a slot one stands before the other. -/
def apart (ops : Array Oper) (bef : Array Nat) (i j : Nat) : Bool := match ops[i]?, ops[j]? with
  | some a, some b => Bool.or (bit (bef.getD j 0) i) (Bool.not (Bool.or (clashes a.dst b.dst (readsOf ops b)) (clashes b.dst a.dst (readsOf ops a))))
  | _, _ => false
def apartAll (ops : Array Oper) (bef : Array Nat) : List Nat → Bool
  | [] => true
  | j :: r => Bool.and ((List.range j).all fun i => apart ops bef i j) (apartAll ops bef r)

def prevOk (before : Nat) : Option Nat → Bool
  | none => true
  | some l => bit before l
def within (before done : Nat) : Bool := Nat.beq (Nat.land before done) before
/-- Some operations, one by one: each one behind what stands before it. -/
noncomputable def quietsOk (ops : Array Oper) (bef : Array Nat) (prev : Option Nat) : List Nat → Nat → Option Nat
  | [], done => some done
  | i :: r, done => match Bool.and (Bool.not (bit done i)) (Bool.and (within (bef.getD i 0) done) (Bool.and (prevOk (bef.getD i 0) prev) (Bool.not (isLoud E ops[i]?)))) with
    | true => quietsOk ops bef prev r (Nat.lor done (2 ^ i))
    | false => none
noncomputable def phasesOk (ops : Array Oper) (bef : Array Nat) (last : List Nat) : List (List Nat × Nat) → Option Nat → Nat → Bool
  | [], prev, done => match quietsOk E ops bef prev last done with
    | some done => Nat.beq done (2 ^ ops.size - 1)
    | none => false
  | (ns, l) :: r, prev, done => match quietsOk E ops bef prev ns done with
    | some done => match Bool.and (Bool.not (bit done l)) (Bool.and (within (bef.getD l 0) done) (Bool.and (prevOk (bef.getD l 0) prev) (isLoud E ops[l]?))) with
      | true => phasesOk ops bef last r (some l) (Nat.lor done (2 ^ l))
      | false => false
    | none => false

/-- May the region be carried out in whatever order? -/
noncomputable def drawOk (ops : Array Oper) (bef : Array Nat) (ph : List (List Nat × Nat)) (last : List Nat) : Bool :=
  Bool.and ((List.range ops.size).all fun i => edgesOk bef i ops[i]?) (Bool.and (apartAll ops bef (List.range ops.size)) (phasesOk E ops bef last ph none 0))

abbrev Plan := Array Nat × List (List Nat × Nat) × List Nat

noncomputable def plan0 (ops : Array Oper) : Plan :=
  (Region.before ops, phasesFrom ops.size (Region.before ops) (louds E ops) (louds E ops) 0, quiets ops.size (Region.before ops) (louds E ops) (louds E ops).length)

/-- How a region is carried out that draws its order. -/
noncomputable def planned (ops : Array Oper) : Plan → Option Plan
  | (bef, ph, last) => match drawOk E ops bef ph last with
    | true => some (bef, ph, last)
    | false => none
noncomputable def plan (ops : Array Oper) : Option Plan := planned E ops (plan0 E ops)

noncomputable def drawPlan (call : CallR R) (ops : Array Oper) (K : AF → St → R) (f : AF) (s : St) : Option Plan → R
  | some (bef, ph, last) => drawOps E call ops bef last K ph f s [] []
  | none => E.no 13

noncomputable def region (call : CallR R) (ops : Array Oper) (draw : Bool) (K : AF → St → R) (f : AF) (s : St) : R :=
  match draw with
  | false => seqOps E call ops K ops.toList f s
  | true => drawPlan E call ops K f s (plan E ops)

abbrev CK (R : Type) := Ex → AF → St → R

def thenK (next : AF → St → R) (K : CK R) : CK R := fun e f s => match e with
  | .normal => next f s
  | e => K e f s
def blockK (id : Nat) (K : CK R) : CK R := fun e f s => match e with
  | .exit j => match Nat.beq j id with
    | true => K .normal f s
    | false => K (.exit j) f s
  | e => K e f s

def condK (no : R) (a b : AF → St → R) (f : AF) (s : St) : Option AV → R
  | some (.bool true) => a f s
  | some (.bool false) => b f s
  | _ => no

noncomputable def codeR (call : CallR R) (loop : Code → CK R → AF → St → R) : Code → CK R → AF → St → R
  | .skip, K, f, s => K .normal f s
  | .label _, K, f, s => K .normal f s
  | .ret, K, f, s => K .ret f s
  | .exit id, K, f, s => K (.exit id) f s
  | .seq a b, K, f, s => codeR call loop a (thenK (fun f s => codeR call loop b K f s) K) f s
  | .cond c a b, K, f, s => condK (E.no 14) (fun f s => codeR call loop a K f s) (fun f s => codeR call loop b K f s) f s (f.lk E.g c)
  | .block id a, K, f, s => codeR call loop a (blockK id K) f s
  | .loop a, K, f, s => codeR call loop a (thenK (fun f s => loop (.loop a) K f s) K) f s
  | .region _ ops draw, K, f, s => region E call ops draw (fun f s => K .normal f s) f s
  | _, _, _, _ => E.no 15

noncomputable def cellO (s : St) (t : TypeId) : Option AV → Option AV
  | some (.ptr l off) => match rowOf s l with
    | some row => part E.P t row off
    | none => none
  | _ => none
noncomputable def resultAV (f : AF) (s : St) : ResultVar → Option AV
  | .tmp t => f.lk 0 (.tmp t)
  | .cell a t => cellO E s t (f.lk 0 (.tmp a))

def oneOf : List AV → AV
  | [v] => v
  | l => .tuple l

noncomputable def frame (n : Nat) : List AV → Nat → T AV → AF
  | [], _, t => ⟨n, t⟩
  | a :: r, i, t => frame n r (Nat.succ i) (t.set (key i) (some a))

def retK (K : AV → St → R) (s : St) : Option (List AV) → R
  | some r => K (oneOf r) s
  | none => E.no 21
noncomputable def endK (rs : Array ResultVar) (K : AV → St → R) : CK R := fun e f s => match e with
  | .exit _ => E.no 20
  | _ => retK E K s (mapO (resultAV E f s) rs.toList)

noncomputable def enter (code : Code → CK R → AF → St → R) (fn : Func) (l : List AV) (K : AV → St → R) (s : St) : Option Code → R
  | none => E.no 19
  | some c => match Nat.ble l.length fn.ntmps with
    | true => code c (endK E fn.results K) (frame fn.ntmps l 0 .e) s
    | false => E.no 22
noncomputable def call1 (code : Code → CK R → AF → St → R) (l : List AV) (K : AV → St → R) (s : St) : Option Func → R
  | none => E.no 18
  | some fn => enter E code fn l K s fn.body
noncomputable def callS (code : Code → CK R → AF → St → R) (g : FuncId) (l : List AV) (K : AV → St → R) (s : St) : Option (Spec R) → R
  | some q => q l K s
  | none => call1 E code l K s ((fnT E.P).get (key g))

mutual
noncomputable def codeN : Nat → Code → CK R → AF → St → R
  | 0, _, _, _, _ => E.no 16
  | n + 1, c, K, f, s => codeR E (callN n) (codeN n) c K f s
noncomputable def callN : Nat → FuncId → List AV → (AV → St → R) → St → R
  | 0, _, _, _, _ => E.no 17
  | n + 1, g, l, K, s => callS E (codeN n) g l K s (E.spec g)
end

end Go.Ev

/- An abstract evaluator over the model: what an abstract value, a place and a memory stand for. -/
namespace Go.Ev

theorem T.get_e {α : Type} (k : List Bool) : (T.e : T α).get k = none := rfl
theorem T.get_nil {α : Type} (l r : T α) (v : Option α) : (T.n l v r).get [] = v := rfl
theorem T.get_true {α : Type} (l r : T α) (v : Option α) (k : List Bool) : (T.n l v r).get (true :: k) = r.get k := rfl
theorem T.get_false {α : Type} (l r : T α) (v : Option α) (k : List Bool) : (T.n l v r).get (false :: k) = l.get k := rfl

theorem T.get_set_same {α : Type} (k : List Bool) (a : Option α) : ∀ t : T α, (t.set k a).get k = a := by
  induction k with
  | nil => intro t; cases t <;> rfl
  | cons b k ih =>
    intro t
    cases t <;> cases b <;> simp [T.set, T.get_true, T.get_false, ih]

theorem T.get_set_ne {α : Type} {k k' : List Bool} (a : Option α) (h : k ≠ k') : ∀ t : T α, (t.set k a).get k' = t.get k' := by
  induction k generalizing k' with
  | nil =>
    intro t
    cases k' with
    | nil => exact absurd rfl h
    | cons b k' => cases t <;> cases b <;> rfl
  | cons b k ih =>
    intro t
    cases k' with
    | nil => cases t <;> cases b <;> rfl
    | cons b' k' =>
      by_cases hb : b = b'
      · subst hb
        have hk : k ≠ k' := fun e => h (by rw [e])
        cases t <;> cases b <;> simp [T.set, T.get_true, T.get_false, ih hk, T.get_e]
      · cases t <;> cases b <;> cases b' <;> first | exact absurd rfl hb | rfl

theorem bits_zero (n : Nat) : bits 0 n = List.replicate n true := rfl
theorem bits_succ_zero (f : Nat) : bits (f + 1) 0 = [] := rfl
theorem bits_succ_succ (f n : Nat) : bits (f + 1) (n + 1) = Nat.beq (Nat.mod n 2) 1 :: bits f (Nat.div n 2) := rfl

theorem bits_inj : ∀ (f n m : Nat), bits f n = bits f m → n = m := by
  intro f
  induction f with
  | zero =>
    intro n m h
    have := congrArg List.length h
    simpa [bits_zero] using this
  | succ f ih =>
    intro n m h
    cases n with
    | zero =>
      cases m with
      | zero => rfl
      | succ m => rw [bits_succ_zero, bits_succ_succ] at h; cases h
    | succ n =>
      cases m with
      | zero => rw [bits_succ_zero, bits_succ_succ] at h; cases h
      | succ m =>
        rw [bits_succ_succ, bits_succ_succ] at h
        obtain ⟨h1, h2⟩ := List.cons.inj h
        have h2 : n / 2 = m / 2 := ih _ _ h2
        have h3 : n % 2 = m % 2 := by
          have h1' : Nat.beq (n % 2) 1 = Nat.beq (m % 2) 1 := h1
          have hn : n % 2 = 0 ∨ n % 2 = 1 := by omega
          have hm : m % 2 = 0 ∨ m % 2 = 1 := by omega
          rcases hn with hn | hn <;> rcases hm with hm | hm <;> rw [hn, hm] at h1' <;> first | omega | cases h1'
        omega

theorem key_inj {n m : Nat} (h : key n = key m) : n = m := bits_inj 16 n m h
theorem key_ne {n m : Nat} (h : n ≠ m) : key n ≠ key m := fun e => h (key_inj e)

theorem mkT_get {α : Type} : ∀ (l : List α) (i : Nat) (t : T α) (k : Nat) (x : α), (mkT l i t).get (key k) = some x →
    (i ≤ k ∧ l[k - i]? = some x) ∨ t.get (key k) = some x := by
  intro l
  induction l with
  | nil => intro i t k x h; exact .inr h
  | cons a r ih =>
    intro i t k x h
    rcases ih _ _ _ _ h with ⟨h1, h2⟩ | h
    · left
      refine ⟨by omega, ?_⟩
      have : k - i = (k - Nat.succ i) + 1 := by omega
      rw [this]
      simpa using h2
    · by_cases hk : i = k
      · subst hk
        rw [T.get_set_same] at h
        left
        simpa using h
      · rw [T.get_set_ne _ (key_ne hk)] at h
        exact .inr h

theorem mkT_list {α : Type} {l : List α} {k : Nat} {x : α} (h : (mkT l 0 .e).get (key k) = some x) : l[k]? = some x := by
  rcases mkT_get _ _ _ _ _ h with ⟨_, h⟩ | h
  · simpa using h
  · cases h

theorem info_ok {P : Program} {t : TypeId} {i : TypeInfo} (h : info P t = some i) : P.info? t = some i := by
  have h' : P.types.toList[t]? = some i := mkT_list h
  have hl : t < P.types.size := by
    have := (List.getElem?_eq_some_iff.1 h').1
    simpa using this
  unfold Tables.info?
  rw [if_pos hl]
  simpa using h'

theorem fn_ok {P : Program} {g : Nat} {fn : Func} (h : (fnT P).get (key g) = some fn) : P.funcs[g]? = some fn := by
  have h' : P.funcs.toList[g]? = some fn := mkT_list h
  simpa using h'

theorem und_ok {P : Program} {t : TypeId} {d : TypeDesc} (h : und P t = some d) : P.underlying t = some d := by
  unfold und at h
  unfold Program.underlying
  cases hi : info P t with
  | none => rw [hi] at h; cases h
  | some i =>
    rw [hi] at h
    rw [info_ok hi]
    obtain ⟨desc⟩ := i
    cases desc <;> first | exact h | skip
    rename_i nm u
    simp only at h ⊢
    cases hu : info P u with
    | none => rw [hu] at h; cases h
    | some j =>
      rw [hu] at h
      rw [info_ok hu]
      exact h

/-- Where a place lies: the block, the first cell, and how many cells the block has. -/
structure Pl where
  b : Nat
  o : Nat
  n : Nat

abbrev Pm := Nat → Option Pl

def Pm.le (ρ ρ' : Pm) : Prop := ∀ l p, ρ l = some p → ρ' l = some p
theorem Pm.le_refl (ρ : Pm) : ρ.le ρ := fun _ _ h => h
theorem Pm.le_trans {ρ ρ' ρ'' : Pm} (h : ρ.le ρ') (h' : ρ'.le ρ'') : ρ.le ρ'' := fun l p e => h' l p (h l p e)

mutual
def VR (ρ : Pm) : AV → Value → Prop
  | .bool b, v => v = .bool b
  | .int k n, v => v = .int k n
  | .str s, v => v = .string ⟨⟨s⟩⟩
  | .nilPtr, v => v = .pointer none
  | .nilSlice, v => v = .slice none 0 0
  | .nilMap, v => v = .map none
  | .nilFunc, v => v = .nilFunc
  | .nilIface, v => v = .nilIface
  | .ptr l o, v => ∃ p, ρ l = some p ∧ v = .pointer (some ⟨p.b, p.o + o, none⟩)
  | .slice l o len cap sz ex, v => ∃ p a c, ρ l = some p ∧ v = .slice (some a) len c ∧ len ≤ cap ∧ cap ≤ c ∧ (ex = true → c = cap) ∧ (0 < c → a = ⟨p.b, p.o + o, none⟩ ∧ p.o + o + c * sz ≤ p.n)
  | .map l, v => ∃ p, ρ l = some p ∧ v = .map (some p.b)
  | .fn f x y, v => ∃ x' y', v = .func f x' y' ∧ VRs ρ x x'.toList ∧ VRs ρ y y'.toList
  | .iface t a, v => ∃ u, v = .iface t u ∧ VR ρ a u
  | .agg l, v => ∃ cs, v = .agg cs ∧ VRs ρ l cs.toList
  | .tuple l, v => ∃ cs, v = .tuple cs ∧ VRs ρ l cs.toList
def VRs (ρ : Pm) : List AV → List Value → Prop
  | [], vs => vs = []
  | a :: l, vs => ∃ v r, vs = v :: r ∧ VR ρ a v ∧ VRs ρ l r
end

mutual
theorem VR.mono {ρ ρ' : Pm} (h : ρ.le ρ') : ∀ (a : AV) (v : Value), VR ρ a v → VR ρ' a v
  | .bool _, _, e => e
  | .int _ _, _, e => e
  | .str _, _, e => e
  | .nilPtr, _, e => e
  | .nilSlice, _, e => e
  | .nilMap, _, e => e
  | .nilFunc, _, e => e
  | .nilIface, _, e => e
  | .ptr _ _, _, ⟨p, e, q⟩ => ⟨p, h _ _ e, q⟩
  | .slice .., _, ⟨p, a, c, e, q⟩ => ⟨p, a, c, h _ _ e, q⟩
  | .map _, _, ⟨p, e, q⟩ => ⟨p, h _ _ e, q⟩
  | .fn _ x y, _, ⟨x', y', e, q, r⟩ => ⟨x', y', e, VRs.mono h x _ q, VRs.mono h y _ r⟩
  | .iface _ a, _, ⟨u, e, q⟩ => ⟨u, e, VR.mono h a _ q⟩
  | .agg l, _, ⟨cs, e, q⟩ => ⟨cs, e, VRs.mono h l _ q⟩
  | .tuple l, _, ⟨cs, e, q⟩ => ⟨cs, e, VRs.mono h l _ q⟩
theorem VRs.mono {ρ ρ' : Pm} (h : ρ.le ρ') : ∀ (l : List AV) (vs : List Value), VRs ρ l vs → VRs ρ' l vs
  | [], _, e => e
  | a :: l, _, ⟨v, r, e, q, q'⟩ => ⟨v, r, e, VR.mono h a v q, VRs.mono h l r q'⟩
end

theorem VRs.length {ρ : Pm} : ∀ {l : List AV} {vs : List Value}, VRs ρ l vs → vs.length = l.length
  | [], _, e => by rw [e]; rfl
  | a :: l, _, ⟨v, r, e, _, q⟩ => by rw [e, List.length_cons, List.length_cons, VRs.length q]

theorem VRs.nth {ρ : Pm} : ∀ {l : List AV} {vs : List Value} {i : Nat} {a : AV}, VRs ρ l vs → nth l i = some a → ∃ v, vs[i]? = some v ∧ VR ρ a v
  | [], _, _, _, _, h => by cases h
  | b :: l, _, 0, a, ⟨v, r, e, q, _⟩, h => by
    obtain rfl : b = a := Option.some.inj h
    exact ⟨v, by rw [e]; rfl, q⟩
  | b :: l, _, i + 1, a, ⟨v, r, e, _, q⟩, h => by
    obtain ⟨u, hu, hv⟩ := VRs.nth q (show Ev.nth l i = some a from h)
    exact ⟨u, by rw [e]; simpa using hu, hv⟩

theorem VRs.append {ρ : Pm} : ∀ {l l' : List AV} {vs vs' : List Value}, VRs ρ l vs → VRs ρ l' vs' → VRs ρ (l ++ l') (vs ++ vs')
  | [], _, _, _, e, q => by rw [e]; exact q
  | a :: l, _, _, _, ⟨v, r, e, q, q'⟩, q'' => ⟨v, r ++ _, by rw [e]; rfl, q, VRs.append q' q''⟩

theorem VRs.sub {ρ : Pm} : ∀ {l : List AV} {vs : List Value} {o n : Nat} {r : List AV}, VRs ρ l vs → sub l o n = some r → o + n ≤ vs.length ∧ VRs ρ r ((vs.drop o).take n)
  | l, vs, 0, 0, r, _, h => by
    have : r = [] := by cases l <;> exact (Option.some.inj h).symm
    subst this
    exact ⟨Nat.zero_le _, by simp [VRs]⟩
  | [], _, 0, n + 1, r, _, h => by cases h
  | [], _, o + 1, n, r, _, h => by cases h
  | a :: l, _, 0, n + 1, r, ⟨v, vs, e, q, q'⟩, h => by
    simp only [Ev.sub] at h
    cases hs : Ev.sub l 0 n with
    | none => rw [hs] at h; cases h
    | some r' =>
      rw [hs] at h
      obtain rfl := Option.some.inj h
      obtain ⟨h1, h2⟩ := VRs.sub q' hs
      subst e
      refine ⟨by simp; omega, v, (vs.drop 0).take n, by simp, q, h2⟩
  | a :: l, _, o + 1, n, r, ⟨v, vs, e, q, q'⟩, h => by
    have h' : Ev.sub l o n = some r := by cases n <;> exact h
    obtain ⟨h1, h2⟩ := VRs.sub q' h'
    subst e
    exact ⟨by simp; omega, by simpa using h2⟩

/-- The cells of a value. -/
theorem VR.cells {ρ : Pm} {a : AV} {v : Value} (h : VR ρ a v) : VRs ρ a.cells v.cells.toList := by
  cases a with
  | agg l => obtain ⟨cs, rfl, q⟩ := h; exact q
  | fn f x y => have h' := h; obtain ⟨x', y', rfl, q, r⟩ := h; exact ⟨_, [], rfl, h', rfl⟩
  | iface t a => have h' := h; obtain ⟨u, rfl, q⟩ := h; exact ⟨_, [], rfl, h', rfl⟩
  | tuple l => have h' := h; obtain ⟨u, rfl, q⟩ := h; exact ⟨_, [], rfl, h', rfl⟩
  | ptr l o => have h' := h; obtain ⟨p, e, rfl⟩ := h; exact ⟨_, [], rfl, h', rfl⟩
  | slice l o n c sz ex => have h' := h; obtain ⟨p, a, c, e, rfl, _⟩ := h; exact ⟨_, [], rfl, h', rfl⟩
  | map l => have h' := h; obtain ⟨p, e, rfl⟩ := h; exact ⟨_, [], rfl, h', rfl⟩
  | _ => have h' := h; unfold VR at h; subst h; exact ⟨_, [], rfl, h', rfl⟩

theorem VR.cells_size {ρ : Pm} {a : AV} {v : Value} (h : VR ρ a v) : v.cells.size = a.cells.length := by
  have := h.cells.length
  simpa using this

/-- A cell's value is no row. -/
theorem VR.one {ρ : Pm} {a : AV} {v : Value} (h : VR ρ a v) (hf : a.flat = true) : v.oneCell' = true := by
  cases a with
  | agg l => cases hf
  | tuple l => cases hf
  | fn f x y => obtain ⟨x', y', rfl, q, r⟩ := h; rfl
  | iface t a => obtain ⟨u, rfl, q⟩ := h; rfl
  | ptr l o => obtain ⟨p, e, rfl⟩ := h; rfl
  | slice l o n c sz ex => obtain ⟨p, a, c, e, rfl, _⟩ := h; rfl
  | map l => obtain ⟨p, e, rfl⟩ := h; rfl
  | _ => unfold VR at h; subst h; rfl

theorem mapO_ok {α β : Type} {g : α → Option β} : ∀ {l : List α} {r : List β}, mapO g l = some r → r.length = l.length ∧ ∀ (i : Nat) (x : α), l[i]? = some x → ∃ y : β, r[i]? = some y ∧ g x = some y
  | [], r, h => by obtain rfl := Option.some.inj h; simp
  | a :: l, r, h => by
    simp only [mapO] at h
    cases ha : g a with
    | none => rw [ha] at h; cases h
    | some b =>
      rw [ha] at h
      cases hr : mapO g l with
      | none => rw [hr] at h; cases h
      | some r' =>
        rw [hr] at h
        obtain rfl := Option.some.inj h
        obtain ⟨h1, h2⟩ := mapO_ok hr
        refine ⟨by simp [h1], fun i x hx => ?_⟩
        cases i with
        | zero => obtain rfl := Option.some.inj hx; exact ⟨b, rfl, ha⟩
        | succ i => exact h2 i x hx

theorem ofV_ok {ρ : Pm} : ∀ (n : Nat) (v : Value) (a : AV), ofV n v = some a → VR ρ a v := by
  intro n
  induction n with
  | zero => intro v a h; cases h
  | succ n ih =>
    have list : ∀ (vs : List Value) (l : List AV), mapO (ofV n) vs = some l → VRs ρ l vs := by
      intro vs
      induction vs with
      | nil => intro l h; obtain rfl := Option.some.inj h; exact rfl
      | cons v vs ihv =>
        intro l h
        simp only [mapO] at h
        cases ha : ofV n v with
        | none => rw [ha] at h; cases h
        | some b =>
          rw [ha] at h
          cases hr : mapO (ofV n) vs with
          | none => rw [hr] at h; cases h
          | some r' =>
            rw [hr] at h
            obtain rfl := Option.some.inj h
            exact ⟨v, vs, rfl, ih v b ha, ihv r' hr⟩
    intro v a h
    unfold ofV at h
    split at h <;> first
      | (obtain rfl := Option.some.inj h; rfl)
      | skip
    · rename_i cs
      cases hr : mapO (ofV n) cs.toList with
      | none => rw [hr] at h; cases h
      | some l =>
        rw [hr] at h
        obtain rfl := Option.some.inj h
        exact ⟨cs, rfl, list _ _ hr⟩
    · rename_i cs
      cases hr : mapO (ofV n) cs.toList with
      | none => rw [hr] at h; cases h
      | some l =>
        rw [hr] at h
        obtain rfl := Option.some.inj h
        exact ⟨cs, rfl, list _ _ hr⟩
    · cases h

/-- What an object stands for. -/
def ERs (ρ : Pm) : List AE → List MapEntry → Prop
  | [], es => es = []
  | a :: l, es => ∃ e r, es = e :: r ∧ (VR ρ a.key e.key ∧ VR ρ a.val e.val ∧ e.born = a.born) ∧ ERs ρ l r

theorem ERs.mono {ρ ρ' : Pm} (h : ρ.le ρ') : ∀ {l : List AE} {es : List MapEntry}, ERs ρ l es → ERs ρ' l es
  | [], _, e => e
  | _ :: _, _, ⟨e, r, q, ⟨x, y, z⟩, q'⟩ => ⟨e, r, q, ⟨x.mono h, y.mono h, z⟩, ERs.mono h q'⟩

def CellsR (ρ : Pm) (p : Pl) (r : List AV) (c : Array Value) : Prop := ∀ i a, nth r i = some a → ∃ v, c[p.o + i]? = some v ∧ VR ρ a v

def ObjR (ρ : Pm) (p : Pl) : AObj → Obj → Prop
  | .cells r, o => ∃ c t fr, o = .cells c t fr ∧ c.size = p.n ∧ (∀ i, ¬ (fr.1 ≤ i ∧ i < fr.2)) ∧ CellsR ρ p r c
  | .ro r, o => ∃ c t fr, o = .cells c t fr ∧ c.size = p.n ∧ CellsR ρ p r c
  | .marked r, o => ∃ c t fr, o = .cells c t fr ∧ c.size = p.n ∧ CellsR ρ p r c
  | .map es k, o => ∃ es', o = .map es' k ∧ ERs ρ es es'.toList
  | .iter s i, o => o = .stringIter ⟨⟨s⟩⟩ i ∧ p.o = 0

theorem CellsR.mono {ρ ρ' : Pm} (h : ρ.le ρ') {p : Pl} {r : List AV} {c : Array Value} (q : CellsR ρ p r c) : CellsR ρ' p r c :=
  fun i a e => let ⟨v, x, y⟩ := q i a e; ⟨v, x, y.mono h⟩

theorem ObjR.mono {ρ ρ' : Pm} (h : ρ.le ρ') {p : Pl} {ob : AObj} {o : Obj} (q : ObjR ρ p ob o) : ObjR ρ' p ob o := by
  cases ob with
  | cells r => obtain ⟨c, t, fr, e, n, f, q⟩ := q; exact ⟨c, t, fr, e, n, f, q.mono h⟩
  | ro r => obtain ⟨c, t, fr, e, n, q⟩ := q; exact ⟨c, t, fr, e, n, q.mono h⟩
  | marked r => obtain ⟨c, t, fr, e, n, q⟩ := q; exact ⟨c, t, fr, e, n, q.mono h⟩
  | map es k => obtain ⟨es', e, q⟩ := q; exact ⟨es', e, q.mono h⟩
  | iter s i => exact q

/-- An abstract memory stands for a heap. -/
structure Sim (ρ : Pm) (g : Nat) (s : St) (h : Array Obj) : Prop where
  obj : ∀ l ob, s.look l = some ob → ∃ p o, ρ l = some p ∧ h[p.b]? = some o ∧ ObjR ρ p ob o
  sep : ∀ l l' ob ob' p p', s.look l = some ob → s.look l' = some ob' → ob.owned = true → l ≠ l' → ρ l = some p → ρ l' = some p' → p.b ≠ p'.b
  fresh : ∀ l, s.nx ≤ l → ρ l = none
  glob : ∀ i, i < g → ∃ n, ρ i = some ⟨i, 0, n⟩

/-- What becomes of a heap. -/
structure Ste (ρ : Pm) (s : St) (h : Array Obj) (ρ' : Pm) (s' : St) (h' : Array Obj) : Prop where
  nx : s.nx ≤ s'.nx
  agree : ∀ l, l < s.nx → ρ' l = ρ l
  size : h.size ≤ h'.size
  frame : ∀ b, b < h.size → (∀ l ob p, s.look l = some ob → ob.owned = true → ρ l = some p → p.b ≠ b) → h'[b]? = h[b]?
  own : ∀ l ob p, s'.look l = some ob → ρ' l = some p → h.size ≤ p.b ∨ ∃ l0 ob0 p0, s.look l0 = some ob0 ∧ (ob.owned = true → ob0.owned = true) ∧ ρ l0 = some p0 ∧ p0.b = p.b

theorem Sim.le {ρ ρ' : Pm} {g : Nat} {s : St} {h : Array Obj} (hs : Sim ρ g s h) (ha : ∀ l, l < s.nx → ρ' l = ρ l) : ρ.le ρ' := fun l p e => by
  rcases Nat.lt_or_ge l s.nx with hl | hl
  · rw [ha l hl, e]
  · rw [hs.fresh l hl] at e; cases e

theorem Ste.refl (ρ : Pm) (s : St) (h : Array Obj) : Ste ρ s h ρ s h :=
  ⟨Nat.le_refl _, fun _ _ => rfl, Nat.le_refl _, fun _ _ _ => rfl, fun l ob p a c => .inr ⟨l, ob, p, a, id, c, rfl⟩⟩

theorem Ste.trans {ρ ρ₁ ρ₂ : Pm} {s s₁ s₂ : St} {h h₁ h₂ : Array Obj} (a : Ste ρ s h ρ₁ s₁ h₁) (b : Ste ρ₁ s₁ h₁ ρ₂ s₂ h₂) : Ste ρ s h ρ₂ s₂ h₂ where
  nx := Nat.le_trans a.nx b.nx
  agree l hl := by rw [b.agree l (Nat.lt_of_lt_of_le hl a.nx), a.agree l hl]
  size := Nat.le_trans a.size b.size
  frame k hk hf := by
    rw [b.frame k (Nat.lt_of_lt_of_le hk a.size) ?_, a.frame k hk hf]
    intro l ob p h1 h2 h3 h4
    rcases a.own l ob p h1 h3 with h5 | ⟨l0, ob0, p0, h5, h6, h7, h8⟩
    · omega
    · exact hf l0 ob0 p0 h5 (h6 h2) h7 (h8.trans h4)
  own l ob p h1 h3 := by
    rcases b.own l ob p h1 h3 with h4 | ⟨l0, ob0, p0, h4, h5, h6, h7⟩
    · exact .inl (Nat.le_trans a.size h4)
    · rcases a.own l0 ob0 p0 h4 h6 with h8 | ⟨l1, ob1, p1, h8, h9, h10, h11⟩
      · exact .inl (by omega)
      · exact .inr ⟨l1, ob1, p1, h8, fun h => h9 (h5 h), h10, h11.trans h7⟩

/-- Two worlds with the same things outside the heap. -/
def Out (w w' : World) : Prop := w'.os = w.os ∧ w'.output = w.output
theorem Out.refl (w : World) : Out w w := ⟨rfl, rfl⟩
theorem Out.trans {a b c : World} (h : Out a b) (h' : Out b c) : Out a c := ⟨h'.1.trans h.1, h'.2.trans h.2⟩

end Go.Ev

/- An abstract evaluator over the model: the operations that look at no memory are right. -/
namespace Go.Ev
variable {P : Program} {ρ : Pm} {w : World}

/-- The run gives a value, and leaves the world as it was. -/
def PO (P : Program) (w : World) (ρ : Pm) (m : Sem Value) (a : AV) : Prop := ∃ v, m.run P w = .ok v w ∧ VR ρ a v

theorem PO.pure {v : Value} {a : AV} (h : VR ρ a v) : PO P w ρ (pure v) a := ⟨v, rfl, h⟩

theorem run_und {t : TypeId} {d : TypeDesc} (h : und P t = some d) : (underlying t).run P w = .ok d w := by
  simp [underlying, und_ok h]
theorem run_info {t : TypeId} {i : TypeInfo} (h : info P t = some i) : (typeInfo t).run P w = .ok i w := by
  simp [typeInfo, info_ok h]
theorem size_info {t : TypeId} {n : Nat} (h : size P t = some n) : ∃ i, info P t = some i ∧ i.size = n := by
  unfold size at h
  cases hi : info P t with
  | none => rw [hi] at h; cases h
  | some i => rw [hi] at h; exact ⟨i, rfl, Option.some.inj h⟩
theorem run_size {t : TypeId} {n : Nat} (h : size P t = some n) : (sizeOf t).run P w = .ok n w := by
  obtain ⟨i, hi, rfl⟩ := size_info h
  simp [Go.sizeOf, run_info hi]
theorem zero_info {t : TypeId} {z : AV} (h : zero P t = some z) : ∃ i v, info P t = some i ∧ i.zero = some v ∧ ofV 8 v = some z := by
  unfold zero at h
  cases hi : info P t with
  | none => rw [hi] at h; cases h
  | some i =>
    rw [hi] at h
    unfold zeroI at h
    cases hv : i.zero with
    | none => simp only [hv] at h; cases h
    | some v => simp only [hv] at h; exact ⟨i, v, rfl, hv, h⟩
theorem run_zero {t : TypeId} {z : AV} (h : zero P t = some z) : ∃ v, (zeroValue t).run P w = .ok v w ∧ VR ρ z v := by
  obtain ⟨i, v, hi, hv, hz⟩ := zero_info h
  exact ⟨v, by simp [zeroValue, run_info hi, hv], ofV_ok _ _ _ hz⟩

theorem run_isAgg {t : TypeId} {b : Bool} (h : isAgg P t = some b) : (Go.isAgg t).run P w = .ok b w := by
  unfold isAgg at h
  cases hu : und P t with
  | none => rw [hu] at h; cases h
  | some d =>
    rw [hu] at h
    cases d <;> (obtain rfl := Option.some.inj h; simp [Go.isAgg, run_und hu])

theorem aggO_ok {f : List AV → AV} {x : Option (List AV)} {a : AV} (h : aggO f x = some a) : ∃ l, x = some l ∧ a = f l := by
  cases x with
  | none => cases h
  | some l => exact ⟨l, rfl, (Option.some.inj h).symm⟩

theorem part_ok {t : TypeId} {l : List AV} {off : Nat} {a : AV} {cs : Array Value} (h : part P t l off = some a) (hl : VRs ρ l cs.toList) :
    PO P w ρ (Go.part t cs off) a := by
  unfold part at h
  split at h
  · rename_i ha
    split at h
    · rename_i n hn
      obtain ⟨r, hr, rfl⟩ := aggO_ok h
      obtain ⟨h1, h2⟩ := VRs.sub hl hr
      refine ⟨.agg (cs.extract off (off + n)), by simp [Go.part, run_isAgg ha, run_size hn], _, rfl, ?_⟩
      have e : (cs.extract off (off + n)).toList = (cs.toList.drop off).take n := by simp
      rw [e]
      exact h2
    · cases h
  · rename_i ha
    obtain ⟨v, hv, hq⟩ := VRs.nth hl h
    have hv' : cs[off]? = some v := by simpa using hv
    exact ⟨v, by simp [Go.part, run_isAgg ha, hv'], hq⟩
  · cases h

theorem mkI_ok {k : IntKind} {z : Int} {a : AV} (h : mkI k z = some a) : a = .int k z := by
  unfold mkI at h
  rw [fint_eq] at h
  exact (Option.some.inj h).symm

theorem intOp_ok {op : BinOp} {k k' : IntKind} {x y : Int} {a : AV} {t : TypeId} (h : intOp op k x y = some a) (hk : isShift op = true ∨ k = k') :
    PO P w ρ (Go.binOp op t (.int k x) (.int k' y)) a := by
  cases op with
  | shl =>
    simp only [intOp, shlI] at h
    split at h
    · cases h
    · rename_i hy
      rw [ilt_eq] at hy
      have hy : ¬ y < 0 := by simpa using hy
      obtain rfl := mkI_ok h
      exact ⟨_, by simp [Go.binOp, Op.shift, hy], rfl⟩
  | shr =>
    simp only [intOp, shrI] at h
    split at h
    · cases h
    · rename_i hy
      rw [ilt_eq] at hy
      have hy : ¬ y < 0 := by simpa using hy
      obtain rfl := mkI_ok h
      exact ⟨_, by simp [Go.binOp, Op.shift, hy], rfl⟩
  | quo =>
    obtain rfl : k = k' := by rcases hk with h | h; cases h; exact h
    simp only [intOp, quoI] at h
    split at h
    · cases h
    · rename_i hy
      rw [ieq_eq] at hy
      have hy : ¬ y = 0 := by simpa using hy
      obtain rfl := mkI_ok h
      exact ⟨_, by simp [Go.binOp, Op.intDiv, hy]; rfl, by rw [wrapF_eq]; rfl⟩
  | rem =>
    obtain rfl : k = k' := by rcases hk with h | h; cases h; exact h
    simp only [intOp, remI] at h
    split at h
    · cases h
    · rename_i hy
      rw [ieq_eq] at hy
      have hy : ¬ y = 0 := by simpa using hy
      obtain rfl := mkI_ok h
      exact ⟨_, by simp [Go.binOp, Op.intDiv, hy], rfl⟩
  | add | sub | mul =>
    obtain rfl : k = k' := by rcases hk with h | h; cases h; exact h
    obtain rfl := mkI_ok h
    exact ⟨_, by simp [Go.binOp, Op.intArith]; rfl, by rw [wrapF_eq]; rfl⟩
  | and | or | xor | andNot =>
    obtain rfl : k = k' := by rcases hk with h | h; cases h; exact h
    obtain rfl := mkI_ok h
    exact ⟨_, by simp only [Go.binOp, Op.intBits]; simp, rfl⟩
  | eql | neq =>
    obtain rfl : k = k' := by rcases hk with h | h; cases h; exact h
    obtain rfl := Option.some.inj h
    exact ⟨_, by simp [Go.binOp, Op.intCmp]; rfl, by rw [ieq_eq]; rfl⟩
  | lss | gtr =>
    obtain rfl : k = k' := by rcases hk with h | h; cases h; exact h
    obtain rfl := Option.some.inj h
    exact ⟨_, by simp [Go.binOp, Op.intCmp]; rfl, by rw [ilt_eq]; rfl⟩
  | leq | geq =>
    obtain rfl : k = k' := by rcases hk with h | h; cases h; exact h
    obtain rfl := Option.some.inj h
    refine ⟨_, by simp [Go.binOp, Op.intCmp]; rfl, ?_⟩
    rw [ilt_eq]
    simp only [VR]
    congr 1
    rw [Bool.eq_iff_iff]
    simp

theorem size_mk (s : List UInt8) : (⟨⟨s⟩⟩ : ByteArray).size = s.length := rfl
theorem toList_mk (s : List UInt8) : (⟨⟨s⟩⟩ : ByteArray).toList = s := ByteArray.toList_eq _
theorem append_mk (x y : List UInt8) : (⟨⟨x⟩⟩ : ByteArray) ++ ⟨⟨y⟩⟩ = ⟨⟨x ++ y⟩⟩ := by
  apply ByteArray.ext
  simp

theorem strOp_ok {op : BinOp} {x y : List UInt8} {a : AV} {t : TypeId} (h : strOp op x y = some a) :
    PO P w ρ (Go.binOp op t (.string ⟨⟨x⟩⟩) (.string ⟨⟨y⟩⟩)) a := by
  cases op with
  | add =>
    simp only [strOp, catS] at h
    split at h
    · rename_i hl
      obtain rfl := Option.some.inj h
      have hl : x.length + y.length ≤ maxText := Nat.le_of_ble_eq_true hl
      have hn : ¬ (((x.length + y.length : Nat) : Int) > IntKind.i64.max) := by
        have e : IntKind.i64.max = 9223372036854775807 := by decide
        rw [e]
        unfold maxText at hl
        omega
      refine ⟨.string (⟨⟨x⟩⟩ ++ ⟨⟨y⟩⟩), ?_, by rw [append_mk]; rfl⟩
      simp only [Go.binOp, Op.stringOp, size_mk, hn, if_false]
      rfl
    · cases h
  | eql | neq | lss | leq | gtr | geq =>
    obtain rfl := Option.some.inj h
    refine ⟨_, by simp only [Go.binOp, Op.stringOp]; rfl, ?_⟩
    simp only [toList_mk, bytesEq_eq]
    rfl
  | _ => cases h

theorem eqvB_ok {t : TypeId} {d : Nat} {a : Bool} {y : AV} {u : Value} {b : Bool} (h : eqvB (und P t) a y = some b) (hu : VR ρ y u) :
    (Op.equalIn (d + 1) t (.bool a) u).run P w = .ok b w := by
  unfold eqvB at h
  split at h
  · rename_i _ ht
    obtain rfl := Option.some.inj h
    obtain rfl := hu
    simp [Op.equalIn, run_und ht]
  · cases h
theorem eqvI_ok {t : TypeId} {d : Nat} {k : IntKind} {a : Int} {y : AV} {u : Value} {b : Bool} (h : eqvI (und P t) k a y = some b) (hu : VR ρ y u) :
    (Op.equalIn (d + 1) t (.int k a) u).run P w = .ok b w := by
  unfold eqvI at h
  split at h
  · rename_i ht
    split at h
    · rename_i hk
      obtain rfl := (kindEq_iff _ _).1 hk
      obtain rfl := Option.some.inj h
      obtain rfl := hu
      simp [Op.equalIn, run_und ht, ieq_eq]
    · cases h
  · cases h
theorem eqvS_ok {t : TypeId} {d : Nat} {a : List UInt8} {y : AV} {u : Value} {b : Bool} (h : eqvS (und P t) a y = some b) (hu : VR ρ y u) :
    (Op.equalIn (d + 1) t (.string ⟨⟨a⟩⟩) u).run P w = .ok b w := by
  unfold eqvS at h
  split at h
  · rename_i ht
    obtain rfl := Option.some.inj h
    obtain rfl := hu
    simp [Op.equalIn, run_und ht, bytesEq_eq]
    rw [Bool.eq_iff_iff, MapKept.bytes_beq, beq_iff_eq]
    constructor
    · intro e
      have := congrArg (fun s : ByteArray => s.data.toList) e
      simpa using this
    · intro e
      rw [e]
  · cases h
theorem eqvN_ok {t : TypeId} {d : Nat} {x y : AV} {v u : Value} {b : Bool} (h : eqvN (und P t) x y = some b) (hv : VR ρ x v) (hu : VR ρ y u) :
    (Op.equalIn (d + 1) t v u).run P w = .ok b w := by
  unfold eqvN at h
  split at h
  · rename_i ht
    split at h <;> first | cases h | skip
    · obtain rfl := hv; obtain rfl := hu; simp [Op.equalIn, run_und ht]
    · obtain rfl := hv; obtain ⟨p, _, rfl⟩ := hu; simp [Op.equalIn, run_und ht]
    · obtain rfl := hu; obtain ⟨p, _, rfl⟩ := hv; simp [Op.equalIn, run_und ht]
  · rename_i ht
    split at h <;> first | cases h | skip
    · obtain rfl := hv; obtain rfl := hu; simp [Op.equalIn, run_und ht]
    · obtain rfl := hv; obtain ⟨p, rfl, _⟩ := hu; simp [Op.equalIn, run_und ht]
    · obtain rfl := hu; obtain ⟨p, rfl, _⟩ := hv; simp [Op.equalIn, run_und ht]
  · rename_i ht
    split at h <;> first | cases h | skip
    · obtain rfl := hv; obtain rfl := hu; simp [Op.equalIn, run_und ht]
    · obtain rfl := hv; obtain ⟨p, a, c, _, rfl, _⟩ := hu; simp [Op.equalIn, run_und ht]
    · obtain rfl := hu; obtain ⟨p, a, c, _, rfl, _⟩ := hv; simp [Op.equalIn, run_und ht]
  · rename_i ht
    split at h <;> first | cases h | skip
    · obtain rfl := hv; obtain rfl := hu; simp [Op.equalIn, run_und ht]
    · obtain rfl := hv; obtain ⟨p, _, rfl⟩ := hu; simp [Op.equalIn, run_und ht]
    · obtain rfl := hu; obtain ⟨p, _, rfl⟩ := hv; simp [Op.equalIn, run_und ht]
  · rename_i ht
    split at h <;> first | cases h | skip
    · obtain rfl := hv; obtain rfl := hu; simp [Op.equalIn, run_und ht]
    · obtain rfl := hv; obtain ⟨p, a, rfl, _⟩ := hu; simp [Op.equalIn, run_und ht]
    · obtain rfl := hu; obtain ⟨p, a, rfl, _⟩ := hv; simp [Op.equalIn, run_und ht]
  · cases h

theorem fields_ok {q : TypeId → AV → AV → Option Bool} {d : Nat} {xs ys : List AV} {us vs : Array Value} (hx : VRs ρ xs us.toList) (hy : VRs ρ ys vs.toList)
    (hq : ∀ t x y u v b, q t x y = some b → VR ρ x u → VR ρ y v → (Op.equalIn d t u v).run P w = .ok b w) :
    ∀ (l : List Field) (b : Bool), fieldsEq P q xs ys l = some b →
      Sem.run P (forIn l ((none, ()) : Option Bool × Unit) fun f _ => if f.name = "_" then pure (ForInStep.yield (none, ())) else do
        let x ← Go.part f.type us f.offset
        let y ← Go.part f.type vs f.offset
        let e ← Op.equalIn d f.type x y
        if e = false then pure (ForInStep.done (some false, ())) else pure (ForInStep.yield (none, ()))) w = .ok (cond b (none, ()) (some false, ())) w := by
  intro l
  induction l with
  | nil => intro b h; obtain rfl := Option.some.inj h; simp
  | cons f l ih =>
    intro b h
    simp only [fieldsEq] at h
    rw [List.forIn_cons]
    by_cases hn : f.name = "_"
    · have e : (f.name != "_") = false := by simp [hn]
      rw [e] at h
      simp only [hn, if_true]
      simpa using ih b h
    · have e : (f.name != "_") = true := by simp [hn]
      rw [e] at h
      simp only [hn, if_false]
      simp only at h
      split at h
      · rename_i a c ha hc
        obtain ⟨u, hu, hru⟩ := part_ok (w := w) ha hx
        obtain ⟨v, hv, hrv⟩ := part_ok (w := w) hc hy
        split at h
        · rename_i hb
          have := hq _ _ _ _ _ _ hb hru hrv
          simp [hu, hv, this]
          simpa using ih b h
        · rename_i hb
          have := hq _ _ _ _ _ _ hb hru hrv
          obtain rfl := Option.some.inj h
          simp [hu, hv, this]
        · cases h
      · cases h

theorem cells_ok {q : AV → AV → Option Bool} {d n : Nat} {t : TypeId} {xs ys : List AV} {us vs : Array Value} (hx : VRs ρ xs us.toList) (hy : VRs ρ ys vs.toList)
    (hq : ∀ x y u v b, q x y = some b → VR ρ x u → VR ρ y v → (Op.equalIn d t u v).run P w = .ok b w) :
    ∀ (c i : Nat) (b : Bool), cellsEq P q t n xs ys c i = some b →
      Sem.run P (forIn (List.range' i c) ((none, ()) : Option Bool × Unit) fun i _ => do
        let x ← Go.part t us (i * n)
        let y ← Go.part t vs (i * n)
        let e ← Op.equalIn d t x y
        if e = false then pure (ForInStep.done (some false, ())) else pure (ForInStep.yield (none, ()))) w = .ok (cond b (none, ()) (some false, ())) w := by
  intro c
  induction c with
  | zero => intro i b h; obtain rfl := Option.some.inj h; simp
  | succ c ih =>
    intro i b h
    simp only [cellsEq] at h
    rw [List.range'_succ, List.forIn_cons]
    split at h
    · rename_i a c' ha hc
      obtain ⟨u, hu, hru⟩ := part_ok (w := w) (show part P t xs (i * n) = some a from ha) hx
      obtain ⟨v, hv, hrv⟩ := part_ok (w := w) (show part P t ys (i * n) = some c' from hc) hy
      split at h
      · rename_i hb
        have := hq _ _ _ _ _ hb hru hrv
        simp [hu, hv, this]
        simpa using ih _ b h
      · rename_i hb
        have := hq _ _ _ _ _ hb hru hrv
        obtain rfl := Option.some.inj h
        simp [hu, hv, this]
      · cases h
    · cases h

theorem eqvP_ok {t : TypeId} {d : Nat} {l o l' o' : Nat} {v u : Value} {b : Bool} (h : eqvP P (und P t) l o l' o' = some b) (hv : VR ρ (.ptr l o) v) (hu : VR ρ (.ptr l' o') u) :
    (Op.equalIn (d + 1) t v u).run P w = .ok b w := by
  unfold eqvP at h
  split at h
  · rename_i ht
    split at h
    · rename_i n hn
      split at h
      · rename_i hq
        simp only [Bool.and_eq_true, Nat.beq_eq] at hq
        obtain ⟨rfl, rfl⟩ := hq
        obtain ⟨p, hp, rfl⟩ := hv
        obtain ⟨p', hp', rfl⟩ := hu
        obtain rfl : p = p' := Option.some.inj (hp.symm.trans hp')
        obtain rfl := Option.some.inj h
        simp [Op.equalIn, run_und ht, run_size hn, sameAddr]
      · cases h
    · cases h
  · cases h

theorem eqv_ok : ∀ (d : Nat) {t : TypeId} {x y : AV} {u v : Value} {b : Bool} {D : Nat}, eqv P d t x y = some b → VR ρ x u → VR ρ y v → (Op.equalIn (D + d) t u v).run P w = .ok b w := by
  intro d
  induction d with
  | zero => intro t x y u v b D h; cases h
  | succ d ih =>
    intro t x y u v b D h hx hy
    cases x with
    | bool a => obtain rfl := hx; exact eqvB_ok h hy
    | int k a => obtain rfl := hx; exact eqvI_ok h hy
    | str a => obtain rfl := hx; exact eqvS_ok h hy
    | agg xs =>
      obtain ⟨us, rfl, hx⟩ := hx
      simp only [eqv] at h
      unfold eqvA at h
      split at h
      · rename_i fields ys ht
        obtain ⟨vs, rfl, hy⟩ := hy
        split at h
        · rename_i hs
          have := fields_ok (P := P) (w := w) hx hy (fun t x y u v b e => ih (D := D) e) _ _ h
          rw [Array.forIn_toList] at this
          show (Op.equalIn (D + d + 1) t (.agg us) (.agg vs)).run P w = .ok b w
          simp [Op.equalIn, run_und ht, hs, this]
          cases b <;> simp
        · cases h
      · rename_i len elem ys ht
        obtain ⟨vs, rfl, hy⟩ := hy
        split at h
        · rename_i n hn
          have := cells_ok (P := P) (w := w) hx hy (fun x y u v b e => ih (D := D) e) _ _ _ h
          show (Op.equalIn (D + d + 1) t (.agg us) (.agg vs)).run P w = .ok b w
          simp [Op.equalIn, run_und ht, run_size hn, this]
          cases b <;> simp
        · cases h
      · cases h
    | ptr l o =>
      simp only [eqv] at h
      split at h
      · exact eqvP_ok h hx hy
      · exact eqvN_ok h hx hy
    | _ => simp only [eqv] at h; exact eqvN_ok h hx hy

theorem equal_ok {t : TypeId} {x y : AV} {u v : Value} {b : Bool} (h : eqv P 20 t x y = some b) (hx : VR ρ x u) (hy : VR ρ y v) : (Op.equal t u v).run P w = .ok b w :=
  eqv_ok (D := 9980) 20 h hx hy

end Go.Ev

/- An abstract evaluator over the model: the operations that look at no memory are right (2). -/
namespace Go.Ev
variable {P : Program} {ρ : Pm} {w : World}

def guardB (P : Program) (t : TypeId) (x y : Operand) (u v : Value) : Bool := match u, v with
  | .nilIface, .nilIface => Bool.or (isConst x) (isConst y)
  | .agg _, .agg _ => !(P.eqGuardType P.depth t)
  | _, _ => true

theorem guardB_ok {op : BinOp} {t : TypeId} {x y : Operand} {u v : Value} (h : guardB P t x y u v = true) : (eqGuard op t x y u v).run P w = .ok () w := by
  unfold guardB at h
  cases op <;> first
    | rfl
    | (unfold eqGuard
       simp only [Bool.not_true, Bool.false_eq_true, if_false]
       split
       · simp only at h
         cases x <;> cases y <;> first | rfl | (simp [isConst] at h)
       · simp only at h
         have h' : P.eqGuardType P.depth t = false := by simpa using h
         simp [h']
       · rfl)

theorem guard_ok {op : BinOp} {t : TypeId} {x y : Operand} {a b : AV} {u v : Value} (h : eqFree P t x y a b = true) (hu : VR ρ a u) (hv : VR ρ b v) :
    (eqGuard op t x y u v).run P w = .ok () w := by
  refine guardB_ok ?_
  cases a with
  | nilIface =>
    obtain rfl := hu
    cases b with
    | nilIface => obtain rfl := hv; exact h
    | agg l => obtain ⟨cs, rfl, _⟩ := hv; rfl
    | tuple l => obtain ⟨cs, rfl, _⟩ := hv; rfl
    | fn f p q => obtain ⟨_, _, rfl, _⟩ := hv; rfl
    | iface t a => obtain ⟨_, rfl, _⟩ := hv; rfl
    | ptr l o => obtain ⟨_, _, rfl⟩ := hv; rfl
    | slice l o n c s e => obtain ⟨_, _, _, _, rfl, _⟩ := hv; rfl
    | map l => obtain ⟨_, _, rfl⟩ := hv; rfl
    | _ => unfold VR at hv; subst hv; rfl
  | agg l =>
    obtain ⟨us, rfl, _⟩ := hu
    cases b with
    | agg l => obtain ⟨cs, rfl, _⟩ := hv; exact h
    | tuple l => obtain ⟨cs, rfl, _⟩ := hv; rfl
    | fn f p q => obtain ⟨_, _, rfl, _⟩ := hv; rfl
    | iface t a => obtain ⟨_, rfl, _⟩ := hv; rfl
    | ptr l o => obtain ⟨_, _, rfl⟩ := hv; rfl
    | slice l o n c s e => obtain ⟨_, _, _, _, rfl, _⟩ := hv; rfl
    | map l => obtain ⟨_, _, rfl⟩ := hv; rfl
    | _ => unfold VR at hv; subst hv; rfl
  | tuple l => obtain ⟨cs, rfl, _⟩ := hu; rfl
  | fn f p q => obtain ⟨_, _, rfl, _⟩ := hu; rfl
  | iface t a => obtain ⟨_, rfl, _⟩ := hu; rfl
  | ptr l o => obtain ⟨_, _, rfl⟩ := hu; rfl
  | slice l o n c s e => obtain ⟨_, _, _, _, rfl, _⟩ := hu; rfl
  | map l => obtain ⟨_, _, rfl⟩ := hu; rfl
  | _ => unfold VR at hu; subst hu; rfl

/-- The operation gives a value, and leaves the world as it was. -/
def NO (P : Program) (w : World) (ρ : Pm) (e : Operand → Value) (o : Oper) (a : AV) : Prop := ∃ v, (execOp e o).run P w = .ok (.value v) w ∧ VR ρ a v

def Lks (ρ : Pm) (lk : Lk) (e : Operand → Value) : Prop := ∀ x a, lk x = some a → VR ρ a (e x)

variable {e : Operand → Value} {lk : Lk} {o : Oper}

theorem boolO_ok {n : Bool} {x : Option Bool} {a : AV} (h : boolO n x = some a) : ∃ b, x = some b ∧ a = .bool (Bool.xor b n) := by
  cases x with
  | none => cases h
  | some b => exact ⟨b, rfl, (Option.some.inj h).symm⟩

theorem binOp_eql {t : TypeId} {u v : Value} (h : ∀ k n, u ≠ .int k n) (h' : ∀ s, u ≠ .string s) (hf : ∀ k n, u ≠ .float k n) (hc : ∀ k n m, u ≠ .complex k n m) : Go.binOp .eql t u v = (do pure (.bool (← Op.equal t u v))) := by
  cases u <;> first | exact absurd rfl (h _ _) | exact absurd rfl (h' _) | exact absurd rfl (hf _ _) | exact absurd rfl (hc _ _ _) | (cases v <;> rfl)
theorem binOp_neq {t : TypeId} {u v : Value} (h : ∀ k n, u ≠ .int k n) (h' : ∀ s, u ≠ .string s) (hf : ∀ k n, u ≠ .float k n) (hc : ∀ k n m, u ≠ .complex k n m) : Go.binOp .neq t u v = (do pure (.bool (!(← Op.equal t u v)))) := by
  cases u <;> first | exact absurd rfl (h _ _) | exact absurd rfl (h' _) | exact absurd rfl (hf _ _) | exact absurd rfl (hc _ _ _) | (cases v <;> rfl)

theorem VR.other {a : AV} {u : Value} (h : VR ρ a u) (h1 : ∀ k n, a ≠ .int k n) (h2 : ∀ s, a ≠ .str s) :
    (∀ k n, u ≠ .int k n) ∧ (∀ s, u ≠ .string s) ∧ (∀ k n, u ≠ .float k n) ∧ (∀ k n m, u ≠ .complex k n m) := by
  cases a with
  | int k n => exact absurd rfl (h1 _ _)
  | str s => exact absurd rfl (h2 _)
  | agg l => obtain ⟨cs, rfl, _⟩ := h; simp
  | tuple l => obtain ⟨cs, rfl, _⟩ := h; simp
  | fn f p q => obtain ⟨_, _, rfl, _⟩ := h; simp
  | iface t a => obtain ⟨_, rfl, _⟩ := h; simp
  | ptr l o => obtain ⟨_, _, rfl⟩ := h; simp
  | slice l o n c s e => obtain ⟨_, _, _, _, rfl, _⟩ := h; simp
  | map l => obtain ⟨_, _, rfl⟩ := h; simp
  | _ => unfold VR at h; subst h; simp

theorem cmp_ok {op : BinOp} {t : TypeId} {x y : Operand} {a b r : AV} {u v : Value} (h : cmpOp P op t x y a b = some r) (hu : VR ρ a u) (hv : VR ρ b v)
    (h1 : ∀ k n, a ≠ .int k n) (h2 : ∀ s, a ≠ .str s) :
    PO P w ρ (do eqGuard op t x y u v; Go.binOp op t u v) r := by
  unfold cmpOp at h
  obtain ⟨i1, i2, i3, i4⟩ := hu.other h1 h2
  split at h
  · rename_i hf
    have hg := guard_ok (w := w) (op := op) hf hu hv
    split at h
    · obtain ⟨q, hq, rfl⟩ := boolO_ok h
      exact ⟨.bool q, by simp [hg, binOp_eql i1 i2 i3 i4, equal_ok hq hu hv], by simp [VR]⟩
    · obtain ⟨q, hq, rfl⟩ := boolO_ok h
      exact ⟨.bool !q, by simp [hg, binOp_neq i1 i2 i3 i4, equal_ok hq hu hv], by simp [VR]⟩
    · cases h
  · cases h

theorem bin_ok {op : BinOp} {t t' : TypeId} {x y : Operand} {r : AV} (ho : o.op = .binOp op t x y t') (hl : Lks ρ lk e) (h : binO P lk op t x y = some r) : NO P w ρ e o r := by
  unfold binO at h
  split at h
  · rename_i a ha
    split at h
    · rename_i b hb
      have hu := hl _ _ ha
      have hv := hl _ _ hb
      have key : PO P w ρ (do eqGuard op t x y (e x) (e y); Go.binOp op t (e x) (e y)) r := by
        unfold binOp at h
        split at h
        · split at h
          · split at h
            · rename_i _ k m _ k' n _ hk
              rw [VR.eq_2] at hu hv
              rw [hu, hv]
              obtain ⟨q, hq, hr⟩ := intOp_ok (P := P) (w := w) (ρ := ρ) (t := t) (k' := k') h (by
                cases hs : isShift op with
                | true => exact .inl rfl
                | false => rw [hs] at hk; exact .inr ((kindEq_iff _ _).1 hk))
              refine ⟨q, ?_, hr⟩
              have : (eqGuard op t x y (.int k m) (.int k' n)).run P w = .ok () w := by
                unfold eqGuard; split <;> rfl
              simp [this, hq]
            · cases h
          · cases h
        · split at h
          · rename_i m _ n
            rw [VR.eq_3] at hu hv
            rw [hu, hv]
            obtain ⟨q, hq, hr⟩ := strOp_ok (P := P) (w := w) (ρ := ρ) (t := t) h
            refine ⟨q, ?_, hr⟩
            have : (eqGuard op t x y (.string ⟨⟨m⟩⟩) (.string ⟨⟨n⟩⟩)).run P w = .ok () w := by
              unfold eqGuard; split <;> rfl
            simp [this, hq]
          · cases h
        · rename_i h1 h2
          exact cmp_ok h hu hv h1 h2
      obtain ⟨q, hq, hr⟩ := key
      refine ⟨q, ?_, hr⟩
      simp only [execOp, ho]
      simp only [Sem.run_bind] at hq ⊢
      rw [hq]
      rfl
    · cases h
  · cases h

theorem no_of {m : Sem Value} {a : AV} (h : PO P w ρ m a) (he : execOp e o = (do pure (.value (← m)))) : NO P w ρ e o a := by
  obtain ⟨v, hv, hr⟩ := h
  refine ⟨v, ?_, hr⟩
  rw [he]
  simp [hv]

theorem un_ok {op : UnOp} {t : TypeId} {x : Operand} {r : AV} (ho : o.op = .unOp op t x) (hl : Lks ρ lk e) (h : unO op (lk x) = some r) : NO P w ρ e o r := by
  unfold unO at h
  split at h
  · rename_i a ha
    have hu := hl _ _ ha
    refine no_of (m := Op.unary op (e x)) ?_ (by simp only [execOp, ho])
    unfold unOp at h
    split at h
    · rename_i k n
      rw [VR.eq_2] at hu
      rw [hu]
      split at h
      · obtain rfl := mkI_ok h
        exact ⟨.int k (k.wrap (0 - n)), by simp [Op.unary, Op.intArith], by rw [wrapF_eq]; rfl⟩
      · obtain rfl := mkI_ok h
        exact ⟨_, by simp only [Op.unary, Op.intBits]; simp, rfl⟩
      · cases h
    · rename_i b
      rw [VR.eq_1] at hu
      rw [hu]
      split at h
      · obtain rfl := Option.some.inj h
        exact ⟨_, by simp [Op.unary]; rfl, by cases b <;> rfl⟩
      · cases h
    · cases h
  · cases h

theorem move_ok {x : Operand} {r : AV} (ho : o.op = .move x ∨ o.op = .assign x) (hl : Lks ρ lk e) (h : lk x = some r) : NO P w ρ e o r := by
  refine ⟨e x, ?_, hl _ _ h⟩
  rcases ho with ho | ho <;> simp [execOp, ho]

theorem pick_ok {c a b : Operand} {r : AV} (ho : o.op = .pick c a b) (hl : Lks ρ lk e) (h : pickO lk a b (lk c) = some r) : NO P w ρ e o r := by
  unfold pickO at h
  split at h
  · rename_i hc
    have := hl _ _ hc
    rw [VR.eq_1] at this
    exact ⟨e a, by simp [execOp, ho, this, asBool], hl _ _ h⟩
  · rename_i hc
    have := hl _ _ hc
    rw [VR.eq_1] at this
    exact ⟨e b, by simp [execOp, ho, this, asBool], hl _ _ h⟩
  · cases h

theorem nil_ok {x : Operand} {r : AV} (ho : o.op = .nilCheck x) (hl : Lks ρ lk e) (h : nilO (lk x) = some r) : NO P w ρ e o r := by
  unfold nilO at h
  split at h
  · rename_i a off ha
    obtain rfl := Option.some.inj h
    have hu := hl _ _ ha
    have hu' := hu
    obtain ⟨p, _, hu'⟩ := hu'
    exact ⟨e x, by simp [execOp, ho, hu'], hu⟩
  · rename_i g a b ha
    obtain rfl := Option.some.inj h
    have hu := hl _ _ ha
    have hu' := hu
    obtain ⟨_, _, hu', _⟩ := hu'
    exact ⟨e x, by simp [execOp, ho, hu'], hu⟩
  · cases h

end Go.Ev

/- An abstract evaluator over the model: the operations that look at no memory are right (3). -/
namespace Go.Ev
variable {P : Program} {ρ : Pm} {w : World}

theorem nth_eq : ∀ (l : List AV) (i : Nat), nth l i = l[i]?
  | [], _ => by simp [nth]
  | _ :: _, 0 => rfl
  | _ :: r, i + 1 => by simpa [nth] using nth_eq r i

theorem setAt_ok : ∀ {l : List AV} {o : Nat} {vs l' : List AV}, setAt l o vs = some l' →
    (vs = [] ∨ o + vs.length ≤ l.length) ∧ l'.length = l.length ∧ ∀ i : Nat, nth l' i = if o ≤ i ∧ i < o + vs.length then nth vs (i - o) else nth l i
  | l, o, [], l', h => by
    have : l' = l := by cases l <;> exact (Option.some.inj h).symm
    subst this
    refine ⟨.inl rfl, rfl, fun i => ?_⟩
    rw [if_neg (by simp only [List.length_nil]; omega)]
  | [], o, v :: vs, l', h => by cases h
  | a :: r, 0, v :: vs, l', h => by
    simp only [setAt] at h
    split at h
    · rename_i r' hr
      obtain rfl := Option.some.inj h
      obtain ⟨h1, h2, h3⟩ := setAt_ok hr
      refine ⟨.inr ?_, by simp [h2], fun i => ?_⟩
      · rcases h1 with h1 | h1
        · subst h1; simp
        · simp at h1 ⊢; omega
      · cases i with
        | zero => simp [nth]
        | succ i =>
          have := h3 i
          simp only [Nat.zero_le, true_and, Nat.zero_add, Nat.sub_zero] at this
          simp only [nth, this, Nat.zero_le, true_and, Nat.zero_add, Nat.sub_zero, List.length_cons, Nat.add_lt_add_iff_right]
    · cases h
  | a :: r, o + 1, v :: vs, l', h => by
    simp only [setAt] at h
    split at h
    · rename_i r' hr
      obtain rfl := Option.some.inj h
      obtain ⟨h1, h2, h3⟩ := setAt_ok hr
      refine ⟨.inr ?_, by simp [h2], fun i => ?_⟩
      · rcases h1 with h1 | h1
        · cases h1
        · simp at h1 ⊢; omega
      · cases i with
        | zero => rw [if_neg (by omega)]; rfl
        | succ i =>
          have := h3 i
          simp only [nth, this]
          have e : i + 1 - (o + 1) = i - o := by omega
          rw [e]
          by_cases hc : o ≤ i ∧ i < o + (v :: vs).length
          · rw [if_pos hc, if_pos (by omega)]
          · rw [if_neg hc, if_neg (by omega)]
    · cases h

theorem VRs.of_nth : ∀ {l : List AV} {vs : List Value}, vs.length = l.length → (∀ i a, Ev.nth l i = some a → ∃ v, vs[i]? = some v ∧ VR ρ a v) → VRs ρ l vs
  | [], vs, h, _ => List.eq_nil_of_length_eq_zero h
  | a :: l, [], h, _ => by simp at h
  | a :: l, v :: vs, h, q => by
    refine ⟨v, vs, rfl, ?_, VRs.of_nth (by simpa using h) (fun i b e => ?_)⟩
    · obtain ⟨u, hu, hr⟩ := q 0 a rfl
      obtain rfl : v = u := by simpa using hu
      exact hr
    · simpa using q (i + 1) b e

/-- Some cells of an array written over. -/
def sets (c : Array Value) (o : Nat) : List Value → Array Value
  | [] => c
  | v :: r => sets (c.setIfInBounds o v) (o + 1) r

theorem sets_size : ∀ (vs : List Value) (c : Array Value) (o : Nat), (sets c o vs).size = c.size
  | [], _, _ => rfl
  | v :: r, c, o => by rw [sets, sets_size]; simp

theorem sets_get : ∀ (vs : List Value) (c : Array Value) (o : Nat), o + vs.length ≤ c.size → ∀ i : Nat, (sets c o vs)[i]? = if o ≤ i ∧ i < o + vs.length then vs[i - o]? else c[i]?
  | [], c, o, _, i => by rw [if_neg (by simp only [List.length_nil]; omega)]; rfl
  | v :: r, c, o, h, i => by
    simp at h
    rw [sets, sets_get r _ _ (by simp; omega)]
    by_cases h1 : i = o
    · subst h1
      have hi : i < c.size := by omega
      rw [if_neg (by omega), if_pos (by simp)]
      simp [hi]
    · by_cases h2 : o + 1 ≤ i ∧ i < o + 1 + r.length
      · rw [if_pos h2, if_pos (by simp; omega)]
        obtain ⟨j, hj⟩ : ∃ j, i - o = j + 1 := ⟨i - o - 1, by omega⟩
        have : i - (o + 1) = j := by omega
        rw [hj, this]
        rfl
      · rw [if_neg h2, if_neg (by simp; omega)]
        rw [Array.getElem?_setIfInBounds_ne (by omega)]

theorem foldl_sets (c : Array Value) (o : Nat) (vs : Array Value) : vs.zipIdx.foldl (fun cs p => cs.setIfInBounds (o + p.2) p.1) c = sets c o vs.toList := by
  have key : ∀ (l : List Value) (k : Nat) (c : Array Value), (l.zipIdx k).foldl (fun cs (p : Value × Nat) => cs.setIfInBounds (o + p.2) p.1) c = sets c (o + k) l := by
    intro l
    induction l with
    | nil => intro k c; rfl
    | cons v r ih =>
      intro k c
      simp only [List.zipIdx_cons, List.foldl_cons, sets]
      rw [ih]
      rfl
  have := key vs.toList 0 c
  rw [Nat.add_zero] at this
  rw [← this, ← Array.foldl_toList]
  simp

theorem VRs.sets {l l' vs : List AV} {c : Array Value} {us : List Value} {o : Nat} (hs : setAt l o vs = some l') (hl : VRs ρ l c.toList) (hv : VRs ρ vs us) :
    VRs ρ l' (Ev.sets c o us).toList := by
  obtain ⟨h1, h2, h3⟩ := setAt_ok hs
  have hc : c.size = l.length := by simpa using hl.length
  have hu := hv.length
  refine VRs.of_nth (by simp [sets_size, hc, h2]) (fun i a e => ?_)
  rw [h3] at e
  by_cases hvs : vs = []
  · subst hvs
    obtain rfl : us = [] := hv
    rw [if_neg (by simp only [List.length_nil]; omega)] at e
    exact VRs.nth hl e
  · have h1 := h1.resolve_left hvs
    have hget := sets_get us c o (by omega) i
    split at e
    · rename_i hi
      obtain ⟨v, hv', hr⟩ := VRs.nth hv e
      refine ⟨v, ?_, hr⟩
      rw [Array.getElem?_toList, hget, if_pos (by omega)]
      exact hv'
    · rename_i hi
      obtain ⟨v, hv', hr⟩ := VRs.nth hl e
      refine ⟨v, ?_, hr⟩
      rw [Array.getElem?_toList, hget, if_neg (by omega)]
      simpa using hv'

variable {e : Operand → Value} {lk : Lk} {o : Oper}

/-- Parts, one by one. -/
def PRs (ρ : Pm) : List (Nat × AV) → List (Nat × Value) → Prop
  | [], vs => vs = []
  | (i, a) :: l, vs => ∃ v r, vs = (i, v) :: r ∧ VR ρ a v ∧ PRs ρ l r

theorem parts_ok (hl : Lks ρ lk e) : ∀ {l : List (Nat × Operand)} {r : List (Nat × AV)}, parts lk l = some r → PRs ρ r (l.map fun (i, x) => (i, e x))
  | [], r, h => by obtain rfl := Option.some.inj h; exact rfl
  | (i, x) :: l, r, h => by
    simp only [parts] at h
    split at h
    · rename_i v hv
      split at h
      · rename_i q hq
        obtain rfl := Option.some.inj h
        exact ⟨e x, _, rfl, hl _ _ hv, parts_ok hl hq⟩
      · cases h
    · cases h

theorem fillA_ok {n : Nat} : ∀ {ps : List (Nat × AV)} {us : List (Nat × Value)} {cs r : List AV} {c : Array Value}, fillA n ps cs = some r → PRs ρ ps us → VRs ρ cs c.toList →
    ∃ c', Instr.fill (fun i => some (i * n, n)) c us = some c' ∧ VRs ρ r c'.toList
  | [], us, cs, r, c, h, hp, hc => by
    obtain rfl := Option.some.inj h
    obtain rfl : us = [] := hp
    exact ⟨c, rfl, hc⟩
  | (i, a) :: ps, us, cs, r, c, h, hp, hc => by
    obtain ⟨v, us, rfl, hv, hp⟩ := hp
    simp only [fillA] at h
    split at h
    · rename_i hn
      split at h
      · rename_i cs' hs
        have hn : a.cells.length = n := Nat.eq_of_beq_eq_true hn
        obtain ⟨h1, h2, h3⟩ := setAt_ok hs
        have hz := hv.cells_size
        have hcz : c.size = cs.length := by simpa using hc.length
        have hnew := VRs.sets hs hc hv.cells
        obtain ⟨c', hc', hr⟩ := fillA_ok h hp hnew
        refine ⟨c', ?_, hr⟩
        simp only [Instr.fill]
        have hbad : (v.cells.size ≠ n || i * n + v.cells.size > c.size) = false := by
          simp
          refine ⟨by omega, ?_⟩
          rcases h1 with h1 | h1
          · rw [h1] at hn hz
            simp at hn hz
            subst hn
            simp [hz]
          · have : i * n + a.cells.length ≤ cs.length := h1
            omega
        simp only [hbad]
        simp only [Bool.false_eq_true, if_false]
        rw [foldl_sets]
        exact hc'
      · cases h
    · cases h

theorem fillS_ok {fields : Array Field} {places : Array (Nat × Nat)} (hpl : ∀ (i : Nat) (f : Field), fields[i]? = some f → ∀ n, size P f.type = some n → places[i]? = some (f.offset, n)) :
    ∀ {ps : List (Nat × AV)} {us : List (Nat × Value)} {cs : List AV} {r : AV} {c : Array Value}, fillS P fields ps cs = some r → PRs ρ ps us → VRs ρ cs c.toList →
    ∃ c' l, Instr.fill (fun i => places[i]?) c us = some c' ∧ r = .agg l ∧ VRs ρ l c'.toList
  | [], us, cs, r, c, h, hp, hc => by
    obtain rfl := Option.some.inj h
    obtain rfl : us = [] := hp
    exact ⟨c, cs, rfl, rfl, hc⟩
  | (i, a) :: ps, us, cs, r, c, h, hp, hc => by
    obtain ⟨v, us, rfl, hv, hp⟩ := hp
    simp only [fillS] at h
    split at h
    · rename_i f hf
      split at h
      · rename_i n hsz
        split at h
        · rename_i hn
          split at h
          · rename_i cs' hs
            have hn : a.cells.length = n + 1 := Nat.eq_of_beq_eq_true hn
            obtain ⟨h1, h2, h3⟩ := setAt_ok hs
            have hz := hv.cells_size
            have hcz : c.size = cs.length := by simpa using hc.length
            have hnew := VRs.sets hs hc hv.cells
            obtain ⟨c', l, hc', hr⟩ := fillS_ok hpl h hp hnew
            refine ⟨c', l, ?_, hr⟩
            simp only [Instr.fill, hpl _ _ hf _ hsz]
            have hbad : (v.cells.size ≠ n + 1 || f.offset + v.cells.size > c.size) = false := by
              simp
              refine ⟨by omega, ?_⟩
              rcases h1 with h1 | h1
              · rw [h1] at hn; simp at hn
              · omega
            simp only [hbad]
            simp only [Bool.false_eq_true, if_false]
            rw [foldl_sets]
            exact hc'
          · cases h
        · cases h
      · cases h
    · cases h

end Go.Ev
