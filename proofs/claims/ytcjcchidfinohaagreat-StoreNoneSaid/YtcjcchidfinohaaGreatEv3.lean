/- An abstract evaluator over the model: memory. -/
import Derived.Test.YtcjcchidfinohaaGreatEv2
namespace Go.Ev

mutual
def AV.beq : AV → AV → Bool
  | .bool a, b => match b with
    | .bool b => a == b
    | _ => false
  | .int k a, b => match b with
    | .int k' b => Bool.and (kindEq k k') (ieq a b)
    | _ => false
  | .str a, b => match b with
    | .str b => bytesEq a b
    | _ => false
  | .nilPtr, b => match b with
    | .nilPtr => true
    | _ => false
  | .nilSlice, b => match b with
    | .nilSlice => true
    | _ => false
  | .nilMap, b => match b with
    | .nilMap => true
    | _ => false
  | .nilFunc, b => match b with
    | .nilFunc => true
    | _ => false
  | .nilIface, b => match b with
    | .nilIface => true
    | _ => false
  | .ptr a o, b => match b with
    | .ptr a' o' => Bool.and (Nat.beq a a') (Nat.beq o o')
    | _ => false
  | .slice a o c d e f, b => match b with
    | .slice a' o' c' d' e' f' => Bool.and (Nat.beq a a') (Bool.and (Nat.beq o o') (Bool.and (Nat.beq c c') (Bool.and (Nat.beq d d') (Bool.and (Nat.beq e e') (f == f')))))
    | _ => false
  | .map a, b => match b with
    | .map b => Nat.beq a b
    | _ => false
  | .fn f a c, b => match b with
    | .fn g a' c' => Bool.and (decide (f = g)) (Bool.and (beqs a a') (beqs c c'))
    | _ => false
  | .iface t a, b => match b with
    | .iface u b => Bool.and (Nat.beq t u) (AV.beq a b)
    | _ => false
  | .agg a, b => match b with
    | .agg b => beqs a b
    | _ => false
  | .tuple a, b => match b with
    | .tuple b => beqs a b
    | _ => false
def beqs : List AV → List AV → Bool
  | [], b => match b with
    | [] => true
    | _ => false
  | a :: l, b => match b with
    | b :: r => Bool.and (AV.beq a b) (beqs l r)
    | _ => false
end

variable (P : Program)

def rowO : Option AObj → Option (List AV)
  | some (.cells r) => some r
  | some (.ro r) => some r
  | some (.marked r) => some r
  | _ => none
noncomputable def rowOf (s : St) (l : Nat) : Option (List AV) := rowO (s.look l)

def mapO' : Option AObj → Option (List AE)
  | some (.map es _) => some es
  | _ => none
noncomputable def mapOf (s : St) (x : AV) : Option (List AE) := match x with
  | .map l => mapO' (s.look l)
  | .nilMap => some []
  | _ => none

/-- The entry of a key. -/
def find (eq : AV → Option Bool) : List AE → Nat → Option (Option (Nat × AE))
  | [], _ => some none
  | e :: r, i => match eq e.key with
    | some true => some (some (i, e))
    | some false => find eq r (Nat.succ i)
    | none => none

noncomputable def chkA (c : AV → Bool) (elem : TypeId) (n : Nat) (cs : List AV) : Nat → Nat → Bool
  | 0, _ => true
  | k + 1, i => match part P elem cs (Nat.mul i n) with
    | some v => Bool.and (c v) (chkA c elem n cs k (Nat.succ i))
    | none => false
noncomputable def chkF (c : TypeId → AV → Bool) (cs : List AV) : List Field → Bool
  | [] => true
  | f :: r => match f.name != "_" with
    | true => match part P f.type cs f.offset with
      | some v => Bool.and (c f.type v) (chkF c cs r)
      | none => false
    | false => chkF c cs r
noncomputable def chkC (c : TypeId → AV → Bool) (v : AV) : Option TypeDesc → Bool
  | some (.array len elem) => match v with
    | .agg cs => match size P elem with
      | some n => chkA P (c elem) elem n cs len 0
      | none => false
    | _ => false
  | some (.struct fields) => match v with
    | .agg cs => chkF P c cs fields.toList
    | _ => false
  | some .bool => true
  | some (.int _) => true
  | some .string => true
  | some (.pointer _) => true
  | _ => false
/-- May the value be a key? -/
noncomputable def chk : Nat → TypeId → AV → Bool
  | 0, _, _ => false
  | d + 1, t, v => chkC P (chk d) v (und P t)

def sames (q : AV → AV → Bool) : List AV → List AV → Bool
  | [], [] => true
  | a :: l, b :: r => Bool.and (q a b) (sames q l r)
  | _, _ => false
/-- Values that are the same to the bit. -/
def sameB : Nat → AV → AV → Bool
  | 0, _, _ => false
  | n + 1, a, b => match a, b with
    | .bool a, .bool b => a == b
    | .int j a, .int k b => Bool.and (kindEq j k) (ieq a b)
    | .str a, .str b => bytesEq a b
    | .agg a, .agg b => sames (sameB n) a b
    | _, _ => false

noncomputable def loadR (t : TypeId) (s : St) : Option AV → Option AV
  | some (.ptr l off) => match rowOf s l with
    | some r => part P t r off
    | none => none
  | _ => none

noncomputable def found (ok : Bool) (et : TypeId) : Option (Option (Nat × AE)) → Option AV
  | some (some (_, e)) => match ok with
    | true => some (.tuple [e.val, .bool true])
    | false => some e.val
  | some none => match zero P et with
    | some z => match ok with
      | true => some (.tuple [z, .bool false])
      | false => some z
    | none => none
  | none => none

noncomputable def lookR (t : TypeId) (ok : Bool) (s : St) (m k : Option AV) : Option AV := match und P t with
  | some (.map kt et) => match m with
    | some m => match k with
      | some k => match mapOf s m with
        | some es => match chk P 20 kt k with
          | true => found P ok et (find (eqv P 20 kt k) es 0)
          | false => none
        | none => none
      | none => none
    | none => none
  | _ => none

def bytesOf : List AV → Option (List UInt8)
  | [] => some []
  | a :: r => match a with
    | .int .u8 n => match bytesOf r with
      | some l => some (UInt8.ofNat n.toNat :: l)
      | none => none
    | _ => none
def strO : Option (List UInt8) → Option AV
  | some b => some (.str b)
  | none => none
def strB : Option (List AV) → Option AV
  | some cs => strO (bytesOf cs)
  | none => none

def isByteSlice (e s : Option TypeDesc) : Bool := match e with
  | some (.int .u8) => match s with
    | some .string => true
    | _ => false
  | _ => false
def elemD : Option TypeDesc → Option TypeId
  | some (.slice e) => some e
  | _ => none

noncomputable def convR (src dst : TypeId) (s : St) (x : Option AV) : Option AV := match elemD (und P src) with
  | some e => match isByteSlice (und P e) (und P dst) with
    | true => match x with
      | some .nilSlice => some (.str [])
      | some (.slice l off n _ 1 _) => match rowOf s l with
        | some r => strB (sub r off n)
        | none => none
      | _ => none
    | false => none
  | none => none

noncomputable def lenR (lk : Lk) (s : St) (t : Option TypeId) : List Operand → Option AV
  | [x] => match t with
    | some t => match und P t with
      | some (.map _ _) => match lk x with
        | some m => match mapOf s m with
          | some es => some (.int .i64 (Int.ofNat es.length))
          | none => none
        | none => none
      | _ => none
    | none => none
  | _ => none
noncomputable def callR (lk : Lk) (s : St) (c : Call) : Option AV := match c.callee with
  | .builtin .len => lenR P lk s c.argTypes[0]? c.args.toList
  | _ => none

noncomputable def cutR (arr : Option TypeDesc) (s : St) (x : AV) (lo hi mx : Option AV) : Option AV := match arr with
  | some (.array n elem) => match x with
    | .ptr a off => match size P elem with
      | some (sz + 1) => match rowOf s a with
        | some r => match Nat.ble (Nat.add off (Nat.mul n (Nat.succ sz))) r.length with
          | true => cut a off n n (Nat.succ sz) true lo hi mx
          | false => none
        | none => none
      | _ => none
    | _ => none
  | _ => none

noncomputable def sliceR (t : TypeId) (s : St) (x : Option AV) (lo hi mx : Option (Option AV)) : Option AV := match x, lo, hi, mx with
  | some v, some a, some b, some c => match und P t with
    | some (.array n elem) => cutR P (some (.array n elem)) s v a b c
    | some (.pointer arr) => cutR P (und P arr) s v a b c
    | _ => none
  | _, _, _, _ => none

/-- Operations that look at memory and change none. -/
noncomputable def read1 (lk : Lk) (o : Op) (s : St) : Option AV := match o with
  | .load t a => loadR P t s (lk a)
  | .lookup t m k ok => lookR P t ok s (lk m) (lk k)
  | .convert src dst x => convR P src dst s (lk x)
  | .slice t x lo hi mx => sliceR P t s (lk x) (opt lk lo) (opt lk hi) (opt lk mx)
  | .call c => callR P lk s c
  | _ => none

def bytesAV : List UInt8 → List AV
  | [] => []
  | b :: r => .int .u8 (Int.ofNat b.toNat) :: bytesAV r

abbrev Lay := Option (AObj × (Nat → AV))

def allocA : Option AV → Lay
  | some z => some (.cells z.cells, fun l => .ptr l 0)
  | none => none

noncomputable def buildSliceA (t : TypeId) (len : Nat) (ps : Option (List (Nat × AV))) : Lay := match elemD (und P t) with
  | some elem => match ps with
    | some l => match size P elem with
      | some n => match zero P elem with
        | some z => match Bool.and (Nat.ble (Nat.mul len n) 16777216) (Nat.beq z.cells.length n) with
          | true => match fillA n l (copies z.cells len) with
            | some r => some (.cells r, fun a => .slice a 0 len len n true)
            | none => none
          | false => none
        | none => none
      | none => none
    | none => none
  | none => none

def makeMapA (lk : Lk) (d : Option TypeDesc) : Option Operand → Lay
  | none => some (.map [] 0, fun l => .map l)
  | some x => match d with
    | some (.map _ _) => match lk x with
      | some (.int _ _) => some (.map [] 0, fun l => .map l)
      | _ => none
    | _ => none

noncomputable def makeSliceA (t : TypeId) (a b : Option AV) : Lay := match elemD (und P t) with
  | some elem => match a with
    | some (.int _ (.ofNat l)) => match b with
      | some (.int _ (.ofNat c)) => match info P elem with
        | some i => match zero P elem with
          | some z => match Bool.and (Nat.ble l c) (Bool.and (Nat.ble c maxText) (Bool.and (Nat.ble (Nat.mul i.bytes c) 281474976710656) (Nat.beq z.cells.length i.size))) with
            | true => fnat l fun l => fnat c fun c => some (.cells (copies z.cells c), fun a => .slice a 0 l c i.size true)
            | false => none
          | none => none
        | none => none
      | _ => none
    | _ => none
  | none => none

noncomputable def convA (src dst : TypeId) (x : Option AV) : Lay := match x with
  | some (.str s) => match und P src with
    | some _ => match elemD (und P dst) with
      | some e => match isByteSlice (und P e) (some .string) with
        | true => fnat s.length fun n => some (.marked (bytesAV s), fun a => .slice a 0 n n 1 false)
        | false => none
      | none => none
    | none => none
  | _ => none

noncomputable def rangeA (t : TypeId) (x : Option AV) : Lay := match und P t with
  | some .string => match x with
    | some (.str s) => some (.iter s 0, fun l => .ptr l 0)
    | _ => none
  | _ => none

/-- Operations that lay one new block. -/
noncomputable def alloc1 (lk : Lk) (o : Op) : Lay := match o with
  | .alloc t => allocA (zero P t)
  | .box _ x => allocA (lk x)
  | .buildSlice t len ps => buildSliceA P t len (parts lk ps.toList)
  | .makeMap t r => makeMapA lk (und P t) r
  | .makeSlice t a b => makeSliceA P t (lk a) (lk b)
  | .convert src dst x => convA P src dst (lk x)
  | .range t x => rangeA P t (lk x)
  | _ => none

/-- The cells of what is appended or copied: so many elements of a size. -/
noncomputable def firstCells (s : St) (sz n : Nat) : AV → Option (List AV)
  | .slice l off _ _ sz' _ => match Nat.beq sz sz' with
    | true => match rowOf s l with
      | some r => sub r off (Nat.mul n sz)
      | none => none
    | false => none
  | .nilSlice => some []
  | .str b => match Nat.beq sz 1 with
    | true => some (bytesAV (b.take n))
    | false => none
  | _ => none

def lenAV : AV → Option Nat
  | .slice _ _ n _ _ _ => some n
  | .nilSlice => some 0
  | .str s => some s.length
  | _ => none

def modE (g : AE → AE) : List AE → Nat → List AE
  | [], _ => []
  | e :: r, 0 => g e :: r
  | e :: r, i + 1 => e :: modE g r i

def eraseE : List AE → Nat → List AE
  | [], _ => []
  | _ :: r, 0 => r
  | e :: r, i + 1 => e :: eraseE r i

/-- Is there room for so many elements, and as many again as an append may add? -/
def roomy (n bytes : Nat) : Bool := Bool.and (Nat.ble n maxText) (Nat.ble (Nat.mul (Nat.add (Nat.mul 4 n) 4000) bytes) 281474976710656)

abbrev Res := Option (AV × St)

noncomputable def putO (s : St) (l : Nat) (v : AV) : Option (List AV) → Res
  | some r => some (v, s.put l (.cells r))
  | none => none
noncomputable def growO (s : St) (len sz : Nat) (new : List AV) : Option (List AV) → Res
  | some old => fnat len fun len => some (.slice s.nx 0 len len sz false, s.add (.cells (old ++ new)))
  | none => none

def flats : List AV → Bool
  | [] => true
  | a :: r => Bool.and a.flat (flats r)
noncomputable def putF (s : St) (l : Nat) (v : AV) (new : List AV) (r : Option (List AV)) : Res := match flats new with
  | true => putO s l v r
  | false => none
noncomputable def growF (s : St) (len sz : Nat) (new : List AV) (r : Option (List AV)) : Res := match flats new with
  | true => growO s len sz new r
  | false => none

/-- Append to a slice that is not nil, at least one element. -/
noncomputable def appendS (s : St) (l off len cap sz : Nat) (ex : Bool) (n bytes : Nat) (new : List AV) : Res :=
  match Nat.ble (Nat.add len n) cap with
  | true => match s.look l with
    | some (.cells r) => fnat (Nat.add len n) fun m => putF s l (.slice l off m cap sz ex) new (setAt r (Nat.add off (Nat.mul len sz)) new)
    | _ => none
  | false => match roomy (Nat.add len n) bytes with
    | true => match s.look l with
      | some (.cells r) => match ex with
        | true => growO s (Nat.add len n) sz new (sub r off (Nat.mul len sz))
        | false => growF (s.kill l) (Nat.add len n) sz new (sub r off (Nat.mul len sz))
      | some (.ro r) => match ex with
        | true => growO s (Nat.add len n) sz new (sub r off (Nat.mul len sz))
        | false => none
      | _ => none
    | false => none

/-- Does the zero value have the type's size? -/
def zeroFits (i : TypeInfo) : Bool := match i.zero with
  | some v => Nat.beq v.cells.size i.size
  | none => false
def fitI : Option TypeInfo → Option TypeInfo
  | some i => match zeroFits i with
    | true => some i
    | false => none
  | none => none

noncomputable def append (s : St) (t : TypeId) (x y : AV) : Res := match elemD (und P t) with
  | some elem => match fitI (info P elem) with
    | some i => match lenAV y with
      | some n => match firstCells s i.size n y with
        | some new => match x with
          | .nilSlice => match n with
            | 0 => some (.nilSlice, s)
            | n + 1 => match roomy (Nat.succ n) i.bytes with
              | true => growO s (Nat.succ n) i.size new (some [])
              | false => none
          | .slice l off len cap sz ex => match Nat.beq sz i.size with
            | true => match n with
              | 0 => some (.slice l off len cap sz ex, s)
              | n + 1 => appendS s l off len cap sz ex (Nat.succ n) i.bytes new
            | false => none
          | _ => none
        | none => none
      | none => none
    | none => none
  | none => none

noncomputable def storeL (s : St) (a x : Option AV) (n : Option Nat) : Res := match a with
  | some (.ptr l off) => match x with
    | some v => match n with
      | some n => match Bool.and (Nat.beq v.cells.length n) (flats v.cells) with
        | true => match s.look l with
          | some (.cells r) => putO s l .undef (setAt r off v.cells)
          | _ => none
        | false => none
      | none => none
    | none => none
  | _ => none

noncomputable def updateE (s : St) (l : Nat) (es : List AE) (c : Nat) (k v : AV) : Option (Option (Nat × AE)) → Res
  | some (some (i, e)) => match sameB 20 e.key k with
    | true => some (.undef, s.put l (.map (modE (fun e => ⟨k, v, e.born⟩) es i) c))
    | false => none
  | some none => some (.undef, s.put l (.map (es ++ [⟨k, v, c⟩]) (Nat.succ c)))
  | none => none

noncomputable def updateL (s : St) (t : TypeId) (m k v : Option AV) : Res := match und P t with
  | some (.map kt _) => match m with
    | some (.map l) => match k with
      | some k => match v with
        | some v => match s.look l with
          | some (.map es c) => match chk P 20 kt k with
            | true => updateE s l es c k v (find (eqv P 20 kt k) es 0)
            | false => none
          | _ => none
        | none => none
      | none => none
    | _ => none
  | _ => none

noncomputable def deleteE (s : St) (l : Nat) (es : List AE) (c : Nat) : Option (Option (Nat × AE)) → Res
  | some (some (i, _)) => some (.tuple [], s.put l (.map (eraseE es i) c))
  | some none => some (.tuple [], s.put l (.map es c))
  | none => none

noncomputable def deleteL (s : St) (t : TypeId) (m k : Option AV) : Res := match und P t with
  | some (.map kt _) => match m with
    | some (.map l) => match k with
      | some k => match s.look l with
        | some (.map es c) => match chk P 20 kt k with
          | true => deleteE s l es c (find (eqv P 20 kt k) es 0)
          | false => none
        | _ => none
      | none => none
    | _ => none
  | _ => none

def nextT (b : List UInt8) (p : Nat) : Nat × Nat := Utf8.decode ⟨⟨b⟩⟩ p

noncomputable def nextL (s : St) (str : Bool) : Option AV → Res
  | some (.ptr l 0) => match str with
    | true => match s.look l with
      | some (.iter b p) => match Nat.blt p b.length with
        | true => match nextT b p with
          | (c, w) => fnat (Nat.add p w) fun q => some (.tuple [.bool true, .int .i64 (Int.ofNat p), .int .i32 (Int.ofNat c)], s.put l (.iter b q))
        | false => some (.tuple [.bool false], s)
      | _ => none
    | false => none
  | _ => none

def notInt : Option TypeDesc → Bool
  | some (.int _) => false
  | some _ => true
  | none => false
noncomputable def plainAppend : List TypeId → Bool
  | [] => true
  | u :: _ => notInt (und P u)

noncomputable def appendL (lk : Lk) (s : St) : List Operand → List TypeId → Res
  | [x, y], t :: ts => match plainAppend P ts with
    | true => match lk x with
      | some x => match lk y with
        | some y => append P s t x y
        | none => none
      | none => none
    | false => none
  | _, _ => none

noncomputable def copyS (s : St) (sz : Nat) (x y : AV) (n : Nat) : Res := match x with
  | .nilSlice => some (.int .i64 0, s)
  | .slice l off len _ sz' _ => match Nat.beq sz sz' with
    | true => match firstCells s sz (Nat.min n len) y with
      | some new => match s.look l with
        | some (.cells r) => fnat (Nat.min n len) fun m => putF s l (.int .i64 (Int.ofNat m)) new (setAt r off new)
        | _ => none
      | none => none
    | false => none
  | _ => none

noncomputable def copyL (lk : Lk) (s : St) : List Operand → List TypeId → Res
  | [x, y], t :: _ => match lk x with
    | some x => match lk y with
      | some y => match elemD (und P t) with
        | some elem => match size P elem with
          | some sz => match lenAV y with
            | some n => copyS s sz x y n
            | none => none
          | none => none
        | none => none
      | none => none
    | none => none
  | _, _ => none

noncomputable def clearL (lk : Lk) (s : St) : List Operand → List TypeId → Res
  | [x], t :: _ => match lk x with
    | some (.slice l off (len + 1) _ sz _) => match elemD (und P t) with
      | some elem => match zero P elem with
        | some z => match s.look l with
          | some (.cells r) => match Nat.beq z.cells.length sz with
            | true => putF s l (.tuple []) (copies z.cells (Nat.succ len)) (setAt r off (copies z.cells (Nat.succ len)))
            | false => none
          | _ => none
        | none => none
      | none => none
    | some (.slice _ _ 0 _ _ _) => match und P t with
      | some _ => some (.tuple [], s)
      | none => none
    | some .nilSlice => match und P t with
      | some _ => some (.tuple [], s)
      | none => none
    | _ => none
  | _, _ => none

def pickI (lss : Bool) (x y : Int) : Int := match lss with
  | true => match ilt y x with
    | true => y
    | false => x
  | false => match ilt x y with
    | true => y
    | false => x
def minMax (lss : Bool) (k : IntKind) : Int → List AV → Option AV
  | x, [] => mkI k x
  | x, .int k' y :: r => match kindEq k k' with
    | true => minMax lss k (pickI lss x y) r
    | false => none
  | _, _ => none
def minMaxL (lss : Bool) (s : St) : Option (List AV) → Res
  | some (.int k x :: r) => match minMax lss k x r with
    | some v => some (v, s)
    | none => none
  | _ => none

noncomputable def callL (lk : Lk) (s : St) (c : Call) : Res := match c.callee with
  | .builtin .append => appendL P lk s c.args.toList c.argTypes.toList
  | .builtin .copy => copyL P lk s c.args.toList c.argTypes.toList
  | .builtin .clear => clearL P lk s c.args.toList c.argTypes.toList
  | .builtin .delete => match c.args.toList, c.argTypes.toList with
    | [m, k], t :: _ => deleteL P s t (lk m) (lk k)
    | _, _ => none
  | .builtin .min => minMaxL true s (mapO lk c.args.toList)
  | .builtin .max => minMaxL false s (mapO lk c.args.toList)
  | _ => none

/-- Operations that change memory. -/
noncomputable def loud1 (lk : Lk) (o : Op) (s : St) : Res := match o with
  | .store t a x => storeL s (lk a) (lk x) (size P t)
  | .mapUpdate t m k v => updateL P s t (lk m) (lk k) (lk v)
  | .insert t m k v => updateL P s t (lk m) (lk k) (lk v)
  | .next it str => nextL s str (lk it)
  | .call c => callL P lk s c
  | _ => none

def clsConv : Option TypeDesc → Option TypeDesc → Nat
  | some (.slice _), some .string => 1
  | some _, some (.slice _) => 2
  | _, _ => 0
def clsSlice : Option TypeDesc → Nat
  | some (.array _ _) => 1
  | some (.pointer _) => 1
  | _ => 0
def clsLen : Option TypeDesc → Nat
  | some (.map _ _) => 1
  | _ => 0
noncomputable def clsCall (c : Call) : Nat := match c.callee with
  | .builtin .len => match c.argTypes[0]? with
    | some t => clsLen (und P t)
    | none => 0
  | _ => 3

/-- 0: looks at no memory; 1: looks; 2: lays a block; 3: changes memory, or calls. -/
noncomputable def cls (o : Op) : Nat := match o with
  | .move _ | .assign _ | .pick .. | .build .. | .nilCheck _ | .binOp .. | .unOp .. | .makeInterface .. | .makeFunc .. | .fieldAddr .. | .field .. | .indexAddr .. | .index .. | .extract .. => 0
  | .load .. | .lookup .. => 1
  | .alloc _ | .box .. | .buildSlice .. | .makeMap .. | .makeSlice .. | .range .. => 2
  | .slice t .. => clsSlice (und P t)
  | .convert src dst _ => clsConv (und P src) (und P dst)
  | .call c => clsCall P c
  | _ => 3

end Go.Ev
