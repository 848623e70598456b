/- An abstract evaluator over the model: the operations that look at no memory. -/
import Derived.Test.YtcjcchidfinohaaGreatEv1
namespace Go.Ev
variable (P : Program)

def aggD : Option TypeDesc → Option Bool
  | some (.struct _) => some true
  | some (.array _ _) => some true
  | some _ => some false
  | none => none
noncomputable def isAgg (t : TypeId) : Option Bool := aggD (und P t)

def sizeI : Option TypeInfo → Option Nat
  | some i => some i.size
  | none => none
noncomputable def size (t : TypeId) : Option Nat := sizeI (info P t)

def zeroV : Option Value → Option AV
  | some v => ofV 8 v
  | none => none
def zeroI : Option TypeInfo → Option AV
  | some i => zeroV i.zero
  | none => none
/-- The zero value of a type. -/
noncomputable def zero (t : TypeId) : Option AV := zeroI (info P t)

/-- A part of a struct or an array. -/
noncomputable def part (t : TypeId) (l : List AV) (off : Nat) : Option AV :=
  match isAgg P t with
  | some true => match size P t with
    | some n => aggO .agg (sub l off n)
    | none => none
  | some false => nth l off
  | none => none

def mkI (k : IntKind) (z : Int) : Option AV := fint z fun z => some (.int k z)

def quoI (k : IntKind) (x y : Int) : Option AV := match ieq y 0 with
  | true => none
  | false => mkI k (wrapF k (x.tdiv y))
def remI (k : IntKind) (x y : Int) : Option AV := match ieq y 0 with
  | true => none
  | false => mkI k (x.tmod y)
def andI (k : IntKind) (x y : Int) : Option AV := mkI k (k.wrap (BitVec.ofInt k.bits x &&& BitVec.ofInt k.bits y).toNat)
def orI (k : IntKind) (x y : Int) : Option AV := mkI k (k.wrap (BitVec.ofInt k.bits x ||| BitVec.ofInt k.bits y).toNat)
def xorI (k : IntKind) (x y : Int) : Option AV := mkI k (k.wrap (BitVec.ofInt k.bits x ^^^ BitVec.ofInt k.bits y).toNat)
def andNotI (k : IntKind) (x y : Int) : Option AV := mkI k (k.wrap (BitVec.ofInt k.bits x &&& ~~~ BitVec.ofInt k.bits y).toNat)

def shlI (k : IntKind) (x y : Int) : Option AV := match ilt y 0 with
  | true => none
  | false => mkI k (k.wrap (x * 2 ^ (min y.toNat k.bits)))
def shrI (k : IntKind) (x y : Int) : Option AV := match ilt y 0 with
  | true => none
  | false => mkI k (x.fdiv (2 ^ (min y.toNat k.bits)))

/-- Operations on two integers. -/
def intOp (op : BinOp) (k : IntKind) (x y : Int) : Option AV := match op with
  | .add => mkI k (wrapF k (Int.add x y))
  | .sub => mkI k (wrapF k (Int.sub x y))
  | .mul => mkI k (wrapF k (Int.mul x y))
  | .quo => quoI k x y
  | .rem => remI k x y
  | .and => andI k x y
  | .or => orI k x y
  | .xor => xorI k x y
  | .andNot => andNotI k x y
  | .eql => some (.bool (ieq x y))
  | .neq => some (.bool (Bool.not (ieq x y)))
  | .lss => some (.bool (ilt x y))
  | .leq => some (.bool (Bool.not (ilt y x)))
  | .gtr => some (.bool (ilt y x))
  | .geq => some (.bool (Bool.not (ilt x y)))
  | .shl => shlI k x y
  | .shr => shrI k x y

def maxText : Nat := 9223372036854775807

def catS (x y : List UInt8) : Option AV := match Nat.ble (Nat.add x.length y.length) maxText with
  | true => some (.str (x ++ y))
  | false => none

def strOp (op : BinOp) (x y : List UInt8) : Option AV := match op with
  | .add => catS x y
  | .eql => some (.bool (bytesEq x y))
  | .neq => some (.bool (Bool.not (bytesEq x y)))
  | .lss => some (.bool (Op.bytesLess x y))
  | .leq => some (.bool (Bool.or (Op.bytesLess x y) (bytesEq x y)))
  | .gtr => some (.bool (Bool.not (Bool.or (Op.bytesLess x y) (bytesEq x y))))
  | .geq => some (.bool (Bool.not (Op.bytesLess x y)))
  | _ => none

def eqvB (t : Option TypeDesc) (a : Bool) (y : AV) : Option Bool := match t, y with
  | some .bool, .bool b => some (a == b)
  | _, _ => none
def eqvI (t : Option TypeDesc) (k : IntKind) (a : Int) (y : AV) : Option Bool := match t, y with
  | some (.int _), .int k' b => match kindEq k k' with
    | true => some (ieq a b)
    | false => none
  | _, _ => none
def eqvS (t : Option TypeDesc) (a : List UInt8) (y : AV) : Option Bool := match t, y with
  | some .string, .str b => some (bytesEq a b)
  | _, _ => none
/-- Against nil. -/
def eqvN (t : Option TypeDesc) (x y : AV) : Option Bool := match t with
  | some (.pointer _) => match x, y with
    | .nilPtr, .nilPtr => some true
    | .nilPtr, .ptr _ _ => some false
    | .ptr _ _, .nilPtr => some false
    | _, _ => none
  | some (.interface _) => match x, y with
    | .nilIface, .nilIface => some true
    | .nilIface, .iface _ _ => some false
    | .iface _ _, .nilIface => some false
    | _, _ => none
  | some (.slice _) => match x, y with
    | .nilSlice, .nilSlice => some true
    | .nilSlice, .slice .. => some false
    | .slice .., .nilSlice => some false
    | _, _ => none
  | some (.map _ _) => match x, y with
    | .nilMap, .nilMap => some true
    | .nilMap, .map _ => some false
    | .map _, .nilMap => some false
    | _, _ => none
  | some (.func _ _ _) => match x, y with
    | .nilFunc, .nilFunc => some true
    | .nilFunc, .fn .. => some false
    | .fn .., .nilFunc => some false
    | _, _ => none
  | _ => none

noncomputable def fieldsEq (eq : TypeId → AV → AV → Option Bool) (xs ys : List AV) : List Field → Option Bool
  | [] => some true
  | f :: r => match f.name != "_" with
    | true => match part P f.type xs f.offset, part P f.type ys f.offset with
      | some a, some b => match eq f.type a b with
        | some true => fieldsEq eq xs ys r
        | some false => some false
        | none => none
      | _, _ => none
    | false => fieldsEq eq xs ys r
noncomputable def cellsEq (eq : AV → AV → Option Bool) (elem : TypeId) (n : Nat) (xs ys : List AV) : Nat → Nat → Option Bool
  | 0, _ => some true
  | c + 1, i => match part P elem xs (Nat.mul i n), part P elem ys (Nat.mul i n) with
    | some a, some b => match eq a b with
      | some true => cellsEq eq elem n xs ys c (Nat.succ i)
      | some false => some false
      | none => none
    | _, _ => none

/-- Structs and arrays. -/
noncomputable def eqvA (eq : TypeId → AV → AV → Option Bool) (t : TypeId) (xs : List AV) (y : AV) : Option Bool := match und P t, y with
  | some (.struct fields), .agg ys => match P.stoodInHeld t with
    | false => fieldsEq P eq xs ys fields.toList
    | true => none
  | some (.array len elem), .agg ys => match size P elem with
    | some n => cellsEq P (eq elem) elem n xs ys len 0
    | none => none
  | _, _ => none

/-- One place, met twice. -/
noncomputable def eqvP (t : Option TypeDesc) (l o l' o' : Nat) : Option Bool := match t with
  | some (.pointer e) => match size P e with
    | some _ => match Bool.and (Nat.beq l l') (Nat.beq o o') with
      | true => some true
      | false => none
    | none => none
  | _ => none
/-- Equality at a type. -/
noncomputable def eqv : Nat → TypeId → AV → AV → Option Bool
  | 0, _, _, _ => none
  | d + 1, t, x, y => match x with
    | .bool a => eqvB (und P t) a y
    | .int k a => eqvI (und P t) k a y
    | .str a => eqvS (und P t) a y
    | .agg xs => eqvA P (eqv d) t xs y
    | .ptr l o => match y with
      | .ptr l' o' => eqvP P (und P t) l o l' o'
      | y => eqvN (und P t) (.ptr l o) y
    | x => eqvN (und P t) x y

def isConst : Operand → Bool
  | .const _ => true
  | _ => false

/-- What the model asks before it compares. -/
def eqFree (t : TypeId) (x y : Operand) (a b : AV) : Bool := match a, b with
  | .nilIface, .nilIface => Bool.or (isConst x) (isConst y)
  | .agg _, .agg _ => Bool.not (P.eqGuardType P.depth t)
  | _, _ => true

def boolO (neg : Bool) : Option Bool → Option AV
  | some b => some (.bool (Bool.xor b neg))
  | none => none

noncomputable def cmpOp (op : BinOp) (t : TypeId) (x y : Operand) (a b : AV) : Option AV := match eqFree P t x y a b with
  | true => match op with
    | .eql => boolO false (eqv P 20 t a b)
    | .neq => boolO true (eqv P 20 t a b)
    | _ => none
  | false => none

def isShift : BinOp → Bool
  | .shl | .shr => true
  | _ => false

noncomputable def binOp (op : BinOp) (t : TypeId) (x y : Operand) (a b : AV) : Option AV := match a with
  | .int k m => match b with
    | .int k' n => match Bool.or (isShift op) (kindEq k k') with
      | true => intOp op k m n
      | false => none
    | _ => none
  | .str m => match b with
    | .str n => strOp op m n
    | _ => none
  | a => cmpOp P op t x y a b

def notB : Bool → Bool
  | true => false
  | false => true

def unOp (op : UnOp) (x : AV) : Option AV := match x with
  | .int k n => match op with
    | .neg => intOp .sub k 0 n
    | .xor => intOp .xor k (if k.signed then -1 else k.max) n
    | _ => none
  | .bool b => match op with
    | .not => some (.bool (notB b))
    | _ => none
  | _ => none

def fieldD (i : Nat) : Option TypeDesc → Option Field
  | some (.struct fields) => fields[i]?
  | _ => none
noncomputable def fieldOf (s : TypeId) (i : Nat) : Option Field := fieldD i (und P s)

noncomputable def fillS (fields : Array Field) : List (Nat × AV) → List AV → Option AV
  | [], cs => some (.agg cs)
  | (i, v) :: r, cs => match fields[i]? with
    | some f => match size P f.type with
      | some (n + 1) => match Nat.beq v.cells.length (Nat.succ n) with
        | true => match setAt cs f.offset v.cells with
          | some cs' => fillS fields r cs'
          | none => none
        | false => none
      | _ => none
    | none => none
def fillA (n : Nat) : List (Nat × AV) → List AV → Option (List AV)
  | [], cs => some cs
  | (i, v) :: r, cs => match Nat.beq v.cells.length n with
    | true => match setAt cs (Nat.mul i n) v.cells with
      | some cs' => fillA n r cs'
      | none => none
    | false => none

noncomputable def build (t : TypeId) (ps : List (Nat × AV)) : Option AV := match zero P t with
  | some z => match und P t with
    | some (.struct fields) => match mapO (fun f => size P f.type) fields.toList with
      | some _ => fillS P fields ps z.cells
      | none => none
    | some (.array _ elem) => match size P elem with
      | some n => aggO .agg (fillA n ps z.cells)
      | none => none
    | _ => none
  | none => none

/-- So many copies of some cells. -/
def copies (z : List AV) : Nat → List AV
  | 0 => []
  | n + 1 => z ++ copies z n

/-- An index, or a bound: at most so much. -/
def bound (x : AV) (y : Nat) : Option Nat := match x with
  | .int _ (.ofNat n) => match Nat.ble n y with
    | true => some n
    | false => none
  | _ => none
def boundO (x : Option AV) (d y : Nat) : Option Nat := match x with
  | some x => bound x y
  | none => some d

def cut (a off len cap sz : Nat) (ex : Bool) (lo hi mx : Option AV) : Option AV := match mx with
  | none => match boundO hi len cap with
    | some h => match boundO lo 0 h with
      | some l => fnat (Nat.add off (Nat.mul l sz)) fun o => fnat (Nat.sub h l) fun n => fnat (Nat.sub cap l) fun c => some (.slice a o n c sz ex)
      | none => none
    | none => none
  | some m => match bound m cap, hi with
    | some m, some v => match bound v m with
      | some h => match boundO lo 0 h with
        | some l => fnat (Nat.add off (Nat.mul l sz)) fun o => fnat (Nat.sub h l) fun n => fnat (Nat.sub m l) fun c => some (.slice a o n c sz true)
        | none => none
      | none => none
    | _, _ => none

def cutNil (lo hi mx : Option AV) : Option AV := match boundO mx 0 0, boundO hi 0 0, boundO lo 0 0 with
  | some _, some _, some _ => match mx, hi with
    | some _, none => none
    | _, _ => some .nilSlice
  | _, _, _ => none

def cutS (s : List UInt8) (lo hi mx : Option AV) : Option AV := match mx with
  | some _ => none
  | none => match boundO hi s.length s.length with
    | some h => match boundO lo 0 h with
      | some l => some (.str ((s.take h).drop l))
      | none => none
    | none => none


noncomputable def slice (t : TypeId) (x : AV) (lo hi mx : Option AV) : Option AV := match und P t with
  | some .string => match x with
    | .str s => cutS s lo hi mx
    | _ => none
  | some (.slice elem) => match size P elem with
    | some n => match x with
      | .slice a off len cap sz ex => match Nat.beq n sz with
        | true => cut a off len cap sz ex lo hi mx
        | false => none
      | .nilSlice => cutNil lo hi mx
      | _ => none
    | none => none
  | _ => none

def idx (x : AV) (len : Nat) : Option Nat := match x with
  | .int _ (.ofNat n) => match Nat.blt n len with
    | true => some n
    | false => none
  | _ => none

def ptrO (a off n : Nat) : Option Nat → Option AV
  | some sz => fnat (Nat.add off (Nat.mul n sz)) fun o => some (.ptr a o)
  | none => none

noncomputable def indexAddr (t : TypeId) (x i : AV) : Option AV := match und P t with
  | some (.array len elem) => match x with
    | .ptr a off => match idx i len with
      | some n => ptrO a off n (size P elem)
      | none => none
    | _ => none
  | some (.slice elem) => match x with
    | .slice a off len _ sz _ => match idx i len with
      | some n => match size P elem with
        | some s => match Nat.beq s sz with
          | true => ptrO a off n (some sz)
          | false => none
        | none => none
      | none => none
    | _ => none
  | _ => none

def byteO : Option UInt8 → Option AV
  | some b => mkI .u8 (Int.ofNat b.toNat)
  | none => none
def nthB : List UInt8 → Nat → Option UInt8
  | [], _ => none
  | a :: _, 0 => some a
  | _ :: r, n + 1 => nthB r n

noncomputable def index (t : TypeId) (x i : AV) : Option AV := match und P t with
  | some (.array len elem) => match x with
    | .agg cs => match idx i len with
      | some n => match size P elem with
        | some sz => part P elem cs (Nat.mul n sz)
        | none => none
      | none => none
    | _ => none
  | some .string => match x with
    | .str s => match i with
      | .int _ (.ofNat n) => byteO (nthB s n)
      | _ => none
    | _ => none
  | _ => none

noncomputable def lenOf (t : TypeId) (x : AV) : Option AV := match und P t with
  | some .string => match x with
    | .str s => mkI .i64 (Int.ofNat s.length)
    | _ => none
  | some (.array n _) => some (.int .i64 (Int.ofNat n))
  | some (.pointer arr) => match und P arr with
    | some (.array n _) => some (.int .i64 (Int.ofNat n))
    | _ => none
  | some (.slice _) => match x with
    | .slice _ _ len _ _ _ => some (.int .i64 (Int.ofNat len))
    | .nilSlice => some (.int .i64 0)
    | _ => none
  | some (.map _ _) => match x with
    | .nilMap => some (.int .i64 0)
    | _ => none
  | _ => none

/-- The operand of an operation. -/
abbrev Lk := Operand → Option AV

def parts (lk : Lk) : List (Nat × Operand) → Option (List (Nat × AV))
  | [] => some []
  | (i, x) :: r => match lk x with
    | some v => match parts lk r with
      | some l => some ((i, v) :: l)
      | none => none
    | none => none

def opt (lk : Lk) : Option Operand → Option (Option AV)
  | none => some none
  | some x => match lk x with
    | some v => some (some v)
    | none => none

def pickO (lk : Lk) (a b : Operand) : Option AV → Option AV
  | some (.bool true) => lk a
  | some (.bool false) => lk b
  | _ => none
noncomputable def buildO (t : TypeId) : Option (List (Nat × AV)) → Option AV
  | some l => build P t l
  | none => none
def nilO : Option AV → Option AV
  | some (.ptr a o) => some (.ptr a o)
  | some (.fn (.func g) a b) => some (.fn (.func g) a b)
  | _ => none
noncomputable def binO (lk : Lk) (op : BinOp) (t : TypeId) (x y : Operand) : Option AV := match lk x with
  | some a => match lk y with
    | some b => binOp P op t x y a b
    | none => none
  | none => none
def unO (op : UnOp) : Option AV → Option AV
  | some a => unOp op a
  | none => none
noncomputable def convO (src dst : TypeId) : Option AV → Option AV
  | some (.int _ n) => match und P src, und P dst with
    | some _, some (.int k) => mkI k (wrapF k n)
    | _, _ => none
  | some (.str s) => match und P src, und P dst with
    | some _, some .string => some (.str s)
    | _, _ => none
  | _ => none
noncomputable def ifaceO (t : TypeId) (v : Option AV) : Option AV := match und P t with
  | some (.interface _) => none
  | some _ => match v with
    | some v => some (.iface t v)
    | none => none
  | none => none
def funcO (fn : Fn) : Option (List AV) → Option (List AV) → Option AV
  | some a, some b => some (.fn fn a b)
  | _, _ => none
noncomputable def sliceO (t : TypeId) (x : Option AV) (lo hi mx : Option (Option AV)) : Option AV := match x, lo, hi, mx with
  | some v, some a, some b, some c => slice P t v a b c
  | _, _, _, _ => none
noncomputable def fieldAddrO (x : Option AV) (f : Option Field) : Option AV := match x with
  | some (.ptr a off) => match f with
    | some f => match size P f.type with
      | some (_ + 1) => fnat (Nat.add off f.offset) fun o => some (.ptr a o)
      | _ => none
    | none => none
  | _ => none
noncomputable def fieldO (x : Option AV) (f : Option Field) : Option AV := match x with
  | some (.agg cs) => match f with
    | some f => part P f.type cs f.offset
    | none => none
  | _ => none
noncomputable def indexAddrO (t : TypeId) (x i : Option AV) : Option AV := match x, i with
  | some a, some b => indexAddr P t a b
  | _, _ => none
noncomputable def indexO (t : TypeId) (x i : Option AV) : Option AV := match x, i with
  | some a, some b => index P t a b
  | _, _ => none
def extractO (i : Nat) : Option AV → Option AV
  | some (.tuple l) => nth l i
  | _ => none
noncomputable def lenO (lk : Lk) (t : Option TypeId) : List Operand → Option AV
  | [x] => match t with
    | some t => match lk x with
      | some v => lenOf P t v
      | none => none
    | none => none
  | _ => none
noncomputable def callO (lk : Lk) (c : Call) : Option AV := match c.callee with
  | .builtin .len => lenO P lk c.argTypes[0]? c.args.toList
  | _ => none

/-- Operations that look at no memory and change none. -/
noncomputable def pure1 (lk : Lk) (o : Op) : Option AV := match o with
  | .move x => lk x
  | .assign x => lk x
  | .pick c a b => pickO lk a b (lk c)
  | .build t ps => buildO P t (parts lk ps.toList)
  | .nilCheck x => nilO (lk x)
  | .binOp op t x y _ => binO P lk op t x y
  | .unOp op _ x => unO op (lk x)
  | .convert src dst x => convO P src dst (lk x)
  | .makeInterface t x => ifaceO P t (lk x)
  | .makeFunc fn first captured => funcO fn (mapO lk first.toList) (mapO lk captured.toList)
  | .slice t x lo hi mx => sliceO P t (lk x) (opt lk lo) (opt lk hi) (opt lk mx)
  | .fieldAddr s x i => fieldAddrO P (lk x) (fieldOf P s i)
  | .field t x i => fieldO P (lk x) (fieldOf P t i)
  | .indexAddr t x i => indexAddrO P t (lk x) (lk i)
  | .index t x i => indexO P t (lk x) (lk i)
  | .extract x i => extractO i (lk x)
  | .call c => callO P lk c
  | _ => none

end Go.Ev
