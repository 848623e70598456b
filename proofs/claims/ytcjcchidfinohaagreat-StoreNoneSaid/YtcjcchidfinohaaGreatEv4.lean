/- An abstract evaluator over the model: code. -/
import Derived.Test.YtcjcchidfinohaaGreatEv3
namespace Go.Ev

/-- A contract: what a call does, as a transformer. -/
abbrev Spec (R : Type) := List AV → (AV → St → R) → St → R

structure Env (R : Type) where
  P : Program
  g : Nat
  no : Nat → R
  spec : FuncId → Option (Spec R)

inductive Ex where
  | normal
  | exit (id : Nat)
  | ret

variable {R : Type} (E : Env R)

def undefO : Option AV → Option AV
  | some v => some v
  | none => some .undef
def globO (i g : Nat) : Option AV := match Nat.blt i g with
  | true => some (.ptr i 0)
  | false => none
noncomputable def AF.lk (f : AF) (g : Nat) : Lk := fun x => match x with
  | .tmp t => undefO (f.t.get (key t))
  | .const v => ofV 8 v
  | .global i => globO i g
  | .func i => some (.fn (.func i) [] [])

def opdTmps : List Operand → List Nat
  | [] => []
  | .tmp t :: r => t :: opdTmps r
  | _ :: r => opdTmps r
def memN (t : Nat) : List Nat → Bool
  | [] => false
  | a :: r => match Nat.beq a t with
    | true => true
    | false => memN t r
/-- The operand of an operation, for the slots that it names alone. -/
noncomputable def AF.lkT (f : AF) (g : Nat) (ts : List Nat) : Lk := fun x => match x with
  | .tmp t => match memN t ts with
    | true => undefO (f.t.get (key t))
    | false => none
  | .const v => ofV 8 v
  | .global i => globO i g
  | .func i => some (.fn (.func i) [] [])

def isB (want : Bool) : AV → Bool
  | .bool b => b == want
  | _ => false
noncomputable def wantD (f : AF) (want : Bool) : Option (Option Nat) → Bool
  | some (some d) => isB want (f.look d)
  | _ => false
def dstO : Option Oper → Option (Option Nat)
  | some o => some o.dst
  | none => none
noncomputable def wanted (ops : Array Oper) (f : AF) (o : Oper) : Bool := match o.guard with
  | none => true
  | some (j, want) => wantD f want (dstO ops[j]?)

def withS (s : St) : Option AV → Res
  | some v => some (v, s)
  | none => none
noncomputable def layS (s : St) : Lay → Res
  | some (ob, mk) => some (mk s.nx, s.add ob)
  | none => none

/-- An operation that is no call of a function. -/
noncomputable def plainOp (lk : Lk) (o : Op) (s : St) : Res := match cls E.P o with
  | 0 => withS s (pure1 E.P lk o)
  | 1 => withS s (read1 E.P lk o s)
  | 2 => layS s (alloc1 E.P lk o)
  | _ => loud1 E.P lk o s

def calleeO (f : Option AV) (l : Option (List AV)) : Option (Option (FuncId × List AV)) := match f with
  | some (.fn (.func g) first captured) => match l with
    | some l => some (some (g, first ++ (l ++ captured)))
    | none => none
  | _ => none
/-- What is called, and with what. -/
def callee (lk : Lk) (o : Op) : Option (Option (FuncId × List AV)) := match o with
  | .call c => match c.callee with
    | .value x => calleeO (lk x) (mapO lk c.args.toList)
    | .builtin _ => some none
    | .invoke _ _ => none
  | _ => some none

/-- A number for a kind of operation (to find what is not served). -/
def opc (o : Op) : Nat := match o with
  | .move _ => 1 | .assign _ => 2 | .pick .. => 3 | .alloc _ => 4 | .box .. => 5 | .build .. => 6 | .buildSlice .. => 7 | .insert .. => 8
  | .load .. => 9 | .store .. => 10 | .nilCheck _ => 11 | .binOp .. => 12 | .unOp .. => 13 | .convert .. => 14 | .makeInterface .. => 15
  | .makeFunc .. => 16 | .makeMap .. => 17 | .makeSlice .. => 18 | .slice .. => 19 | .fieldAddr .. => 20 | .field .. => 21
  | .indexAddr .. => 22 | .index .. => 23 | .lookup .. => 24 | .mapUpdate .. => 25 | .mapEntry .. => 26 | .entryStore .. => 27
  | .range .. => 28 | .next .. => 29 | .typeAssert .. => 30 | .extract .. => 31 | .defer _ => 32 | .panic _ => 33
  | .call c => (match c.callee with
    | .builtin .len => 40 | .builtin .append => 41 | .builtin .copy => 42 | .builtin .cap => 43 | .builtin .clear => 44 | .builtin .delete => 45
    | .builtin .min => 46 | .builtin .max => 47 | .builtin _ => 48 | .value _ => 49 | .invoke _ _ => 50)
  | _ => 34

abbrev CallR (R : Type) := FuncId → List AV → (AV → St → R) → St → R

def resK (o : Op) (K : AV → St → R) : Res → R
  | some (v, s') => K v s'
  | none => E.no (Nat.add 200 (opc o))

noncomputable def stepOp (call : CallR R) (lk : Lk) (o : Op) (s : St) (K : AV → St → R) : R :=
  match callee lk o with
  | none => E.no (Nat.add 100 (opc o))
  | some (some (g, l)) => call g l K s
  | some none => resK E o K (plainOp E lk o s)

noncomputable def seq1 (call : CallR R) (ops : Array Oper) (o : Oper) (K : AF → St → R) (f : AF) (s : St) : R :=
  match f.fits o.dst with
  | true => match wanted ops f o with
    | true => stepOp E call (f.lk E.g) o.op s fun v s' => K (f.put o.dst v) s'
    | false => K (f.put o.dst .undef) s
  | false => E.no 3

noncomputable def seqOps (call : CallR R) (ops : Array Oper) (K : AF → St → R) : List Oper → AF → St → R
  | [], f, s => K f s
  | o :: r, f, s => seq1 E call ops o (fun f s => seqOps call ops K r f s) f s

/-- An operation that looked at memory: what it was, what it saw, what it gave. -/
structure Rec where
  i : Nat
  o : Op
  f : AF
  v : AV

/-- A block that was laid, and that no call has needed so far. -/
structure Pend where
  i : Nat
  l : Nat
  o : AObj

abbrev QK (R : Type) := AF → St → List Rec → List Pend → R

noncomputable def AF.lkO (f : AF) (g : Nat) (o : Op) : Lk := f.lkT g (opdTmps o.operands.toList)

noncomputable def quietC (i : Nat) (o : Oper) (K : QK R) (f : AF) (s : St) (rs : List Rec) (ps : List Pend) : Nat → R
  | 0 => match pure1 E.P (f.lkO E.g o.op) o.op with
    | some v => K (f.put o.dst v) s rs ps
    | none => E.no (Nat.add 300 (opc o.op))
  | 1 => match read1 E.P (f.lkO E.g o.op) o.op s with
    | some v => K (f.put o.dst v) s (⟨i, o.op, f, v⟩ :: rs) ps
    | none => E.no (Nat.add 400 (opc o.op))
  | 2 => match alloc1 E.P (f.lkO E.g o.op) o.op with
    | some (ob, mk) => K (f.put o.dst (mk s.nx)) ⟨s.h, Nat.succ s.nx⟩ rs (⟨i, s.nx, ob⟩ :: ps)
    | none => E.no (Nat.add 500 (opc o.op))
  | _ => E.no 8

noncomputable def quiet1 (ops : Array Oper) (i : Nat) (K : QK R) (f : AF) (s : St) (rs : List Rec) (ps : List Pend) : Option Oper → R
  | none => E.no 4
  | some o => match f.fits o.dst with
    | true => match wanted ops f o with
      | true => quietC E i o K f s rs ps (cls E.P o.op)
      | false => K (f.put o.dst .undef) s rs ps
    | false => E.no 9

/-- Operations that change no memory that was there, in the order of the text. -/
noncomputable def quietOps (ops : Array Oper) (K : QK R) : List Nat → QK R
  | [], f, s, rs, ps => K f s rs ps
  | i :: r, f, s, rs, ps => quiet1 E ops i (fun f s rs ps => quietOps ops K r f s rs ps) f s rs ps ops[i]?

/-- The blocks that some operations have laid. -/
noncomputable def layP (D : Nat → Bool) : List Pend → St → St
  | [], s => s
  | p :: r, s => match D p.i with
    | true => (layP D r s).put p.l p.o
    | false => layP D r s

/-- The blocks that no operation has needed. -/
def rest (D : Nat → Bool) : List Pend → List Pend
  | [] => []
  | p :: r => match D p.i with
    | true => rest D r
    | false => p :: rest D r

noncomputable def still (D : Nat → Bool) (s : St) : List Rec → Bool
  | [] => true
  | c :: r => match D c.i with
    | true => still D s r
    | false => match read1 E.P (c.f.lkO E.g c.o) c.o s with
      | some v => Bool.and (AV.beq v c.v) (still D s r)
      | none => false

def bit (b i : Nat) : Bool := Nat.testBit b i

noncomputable def draw1 (call : CallR R) (ops : Array Oper) (before : Nat) (K : QK R) (o : Option Oper) : QK R := fun f s rs ps => match o with
  | none => E.no 10
  | some o => match f.fits o.dst with
    | true => match wanted ops f o with
      | true => stepOp E call (f.lkO E.g o.op) o.op (layP (bit before) ps s) fun v s' => match still E (bit before) s' rs with
          | true => K (f.put o.dst v) s' rs (rest (bit before) ps)
          | false => E.no 11
      | false => K (f.put o.dst .undef) s rs ps
    | false => E.no 12

noncomputable def drawOps (call : CallR R) (ops : Array Oper) (bef : Array Nat) (last : List Nat) (K : AF → St → R) : List (List Nat × Nat) → QK R
  | [], f, s, rs, ps => quietOps E ops (fun f s _ ps => K f (layP (fun _ => true) ps s)) last f s rs ps
  | (ns, l) :: r, f, s, rs, ps => quietOps E ops (draw1 E call ops (bef.getD l 0) (fun f s rs ps => drawOps call ops bef last K r f s rs ps) ops[l]?) ns f s rs ps

noncomputable def isLoud (o : Option Oper) : Bool := match o with
  | some o => Nat.ble 3 (cls E.P o.op)
  | none => false

/-- The operations of a region that change memory or call. -/
noncomputable def louds (ops : Array Oper) : List Nat := (List.range ops.size).filter fun i => isLoud E ops[i]?

/-- How many of some operations stand before one. -/
def phase (ls : List Nat) (before : Nat) : Nat := (ls.filter fun l => bit before l).length

def quiets (n : Nat) (bef : Array Nat) (ls : List Nat) (k : Nat) : List Nat :=
  (List.range n).filter fun i => Bool.and (Bool.not (memN i ls)) (Nat.beq (phase ls (bef.getD i 0)) k)

def phasesFrom (n : Nat) (bef : Array Nat) (ls : List Nat) : List Nat → Nat → List (List Nat × Nat)
  | [], _ => []
  | l :: r, k => (quiets n bef ls k, l) :: phasesFrom n bef ls r (Nat.succ k)

/-- What an operation's edges say stands before it. -/
def cover (bef : Array Nat) : List Edge → Nat → Nat
  | [], c => c
  | e :: r, c => match Region.binds .any e with
    | true => cover bef r (Nat.lor c (Nat.lor (2 ^ e.on) (bef.getD e.on 0)))
    | false => cover bef r c
def edgesOk (bef : Array Nat) (i : Nat) : Option Oper → Bool
  | some o => Bool.and (o.after.toList.all fun e => Bool.or (Bool.not (Region.binds .any e)) (Nat.blt e.on i)) (Nat.beq (bef.getD i 0) (cover bef o.after.toList 0))
  | none => false

def guardTmp (ops : Array Oper) : Option (Nat × Bool) → List Nat
  | some (j, _) => match dstO ops[j]? with
    | some (some d) => [d]
    | _ => []
  | none => []
/-- The slots that an operation reads. -/
def readsOf (ops : Array Oper) (o : Oper) : List Nat := guardTmp ops o.guard ++ opdTmps o.op.operands.toList
def clashes (d : Option Nat) (d' : Option Nat) (reads : List Nat) : Bool := match d with
  | none => false
  | some d => Bool.or (memN d reads) (match d' with | some d' => Nat.beq d d' | none => false)
/-- Of two operations that meet at a slot one stands before the other. -/
def apart (ops : Array Oper) (bef : Array Nat) (i j : Nat) : Bool := match ops[i]?, ops[j]? with
  | some a, some b => Bool.or (bit (bef.getD j 0) i) (Bool.not (Bool.or (clashes a.dst b.dst (readsOf ops b)) (clashes b.dst a.dst (readsOf ops a))))
  | _, _ => false
def apartAll (ops : Array Oper) (bef : Array Nat) : List Nat → Bool
  | [] => true
  | j :: r => Bool.and ((List.range j).all fun i => apart ops bef i j) (apartAll ops bef r)

def prevOk (before : Nat) : Option Nat → Bool
  | none => true
  | some l => bit before l
def within (before done : Nat) : Bool := Nat.beq (Nat.land before done) before
/-- Some operations, one by one: each one behind what stands before it. -/
noncomputable def quietsOk (ops : Array Oper) (bef : Array Nat) (prev : Option Nat) : List Nat → Nat → Option Nat
  | [], done => some done
  | i :: r, done => match Bool.and (Bool.not (bit done i)) (Bool.and (within (bef.getD i 0) done) (Bool.and (prevOk (bef.getD i 0) prev) (Bool.not (isLoud E ops[i]?)))) with
    | true => quietsOk ops bef prev r (Nat.lor done (2 ^ i))
    | false => none
noncomputable def phasesOk (ops : Array Oper) (bef : Array Nat) (last : List Nat) : List (List Nat × Nat) → Option Nat → Nat → Bool
  | [], prev, done => match quietsOk E ops bef prev last done with
    | some done => Nat.beq done (2 ^ ops.size - 1)
    | none => false
  | (ns, l) :: r, prev, done => match quietsOk E ops bef prev ns done with
    | some done => match Bool.and (Bool.not (bit done l)) (Bool.and (within (bef.getD l 0) done) (Bool.and (prevOk (bef.getD l 0) prev) (isLoud E ops[l]?))) with
      | true => phasesOk ops bef last r (some l) (Nat.lor done (2 ^ l))
      | false => false
    | none => false

/-- May the region be carried out in whatever order? -/
noncomputable def drawOk (ops : Array Oper) (bef : Array Nat) (ph : List (List Nat × Nat)) (last : List Nat) : Bool :=
  Bool.and ((List.range ops.size).all fun i => edgesOk bef i ops[i]?) (Bool.and (apartAll ops bef (List.range ops.size)) (phasesOk E ops bef last ph none 0))

abbrev Plan := Array Nat × List (List Nat × Nat) × List Nat

noncomputable def plan0 (ops : Array Oper) : Plan :=
  (Region.before ops, phasesFrom ops.size (Region.before ops) (louds E ops) (louds E ops) 0, quiets ops.size (Region.before ops) (louds E ops) (louds E ops).length)

/-- How a region is carried out that draws its order. -/
noncomputable def planned (ops : Array Oper) : Plan → Option Plan
  | (bef, ph, last) => match drawOk E ops bef ph last with
    | true => some (bef, ph, last)
    | false => none
noncomputable def plan (ops : Array Oper) : Option Plan := planned E ops (plan0 E ops)

noncomputable def drawPlan (call : CallR R) (ops : Array Oper) (K : AF → St → R) (f : AF) (s : St) : Option Plan → R
  | some (bef, ph, last) => drawOps E call ops bef last K ph f s [] []
  | none => E.no 13

noncomputable def region (call : CallR R) (ops : Array Oper) (draw : Bool) (K : AF → St → R) (f : AF) (s : St) : R :=
  match draw with
  | false => seqOps E call ops K ops.toList f s
  | true => drawPlan E call ops K f s (plan E ops)

abbrev CK (R : Type) := Ex → AF → St → R

def thenK (next : AF → St → R) (K : CK R) : CK R := fun e f s => match e with
  | .normal => next f s
  | e => K e f s
def blockK (id : Nat) (K : CK R) : CK R := fun e f s => match e with
  | .exit j => match Nat.beq j id with
    | true => K .normal f s
    | false => K (.exit j) f s
  | e => K e f s

def condK (no : R) (a b : AF → St → R) (f : AF) (s : St) : Option AV → R
  | some (.bool true) => a f s
  | some (.bool false) => b f s
  | _ => no

noncomputable def codeR (call : CallR R) (loop : Code → CK R → AF → St → R) : Code → CK R → AF → St → R
  | .skip, K, f, s => K .normal f s
  | .label _, K, f, s => K .normal f s
  | .ret, K, f, s => K .ret f s
  | .exit id, K, f, s => K (.exit id) f s
  | .seq a b, K, f, s => codeR call loop a (thenK (fun f s => codeR call loop b K f s) K) f s
  | .cond c a b, K, f, s => condK (E.no 14) (fun f s => codeR call loop a K f s) (fun f s => codeR call loop b K f s) f s (f.lk E.g c)
  | .block id a, K, f, s => codeR call loop a (blockK id K) f s
  | .loop a, K, f, s => codeR call loop a (thenK (fun f s => loop (.loop a) K f s) K) f s
  | .region _ ops draw, K, f, s => region E call ops draw (fun f s => K .normal f s) f s
  | _, _, _, _ => E.no 15

noncomputable def cellO (s : St) (t : TypeId) : Option AV → Option AV
  | some (.ptr l off) => match rowOf s l with
    | some row => part E.P t row off
    | none => none
  | _ => none
noncomputable def resultAV (f : AF) (s : St) : ResultVar → Option AV
  | .tmp t => f.lk 0 (.tmp t)
  | .cell a t => cellO E s t (f.lk 0 (.tmp a))

def oneOf : List AV → AV
  | [v] => v
  | l => .tuple l

noncomputable def frame (n : Nat) : List AV → Nat → T AV → AF
  | [], _, t => ⟨n, t⟩
  | a :: r, i, t => frame n r (Nat.succ i) (t.set (key i) (some a))

def retK (K : AV → St → R) (s : St) : Option (List AV) → R
  | some r => K (oneOf r) s
  | none => E.no 21
noncomputable def endK (rs : Array ResultVar) (K : AV → St → R) : CK R := fun e f s => match e with
  | .exit _ => E.no 20
  | _ => retK E K s (mapO (resultAV E f s) rs.toList)

noncomputable def enter (code : Code → CK R → AF → St → R) (fn : Func) (l : List AV) (K : AV → St → R) (s : St) : Option Code → R
  | none => E.no 19
  | some c => match Nat.ble l.length fn.ntmps with
    | true => code c (endK E fn.results K) (frame fn.ntmps l 0 .e) s
    | false => E.no 22
noncomputable def call1 (code : Code → CK R → AF → St → R) (l : List AV) (K : AV → St → R) (s : St) : Option Func → R
  | none => E.no 18
  | some fn => enter E code fn l K s fn.body
noncomputable def callS (code : Code → CK R → AF → St → R) (g : FuncId) (l : List AV) (K : AV → St → R) (s : St) : Option (Spec R) → R
  | some q => q l K s
  | none => call1 E code l K s ((fnT E.P).get (key g))

mutual
noncomputable def codeN : Nat → Code → CK R → AF → St → R
  | 0, _, _, _, _ => E.no 16
  | n + 1, c, K, f, s => codeR E (callN n) (codeN n) c K f s
noncomputable def callN : Nat → FuncId → List AV → (AV → St → R) → St → R
  | 0, _, _, _, _ => E.no 17
  | n + 1, g, l, K, s => callS E (codeN n) g l K s (E.spec g)
end

end Go.Ev
