/- AbF Ab1 Ab10 Ab11 Ab12 Ab13 Ab14 Ab15 Ab16 -/
import Derived.Test.YtookoagcmejkpaaGreatDoorJ0
import Derived.IntWalk
import Derived.KernelRfl
import Derived.OrdersIn
import Derived.Defers
namespace Go.Proofs.YtookoagcmejkpaaGreatDoor.Ab
open Go
noncomputable section
def oF_move (_P : Program) (T : Tr AV) (_A : AW) (x : Operand) : Option AR :=
  some (.val (ev T x))
def oF_pick (_P : Program) (T : Tr AV) (_A : AW) (c : Operand) (a : Operand) (b : Operand) : Option AR :=
  (boolOf? (ev T c)).map fun t => .val (if t then ev T a else ev T b)
def oF_alloc (P : Program) (_T : Tr AV) (A : AW) (t : TypeId) : Option AR :=
  match zeroA P t with | some z => some (.new (.ptr A.next 0) (.cells z.cells t)) | none => none
def oF_box (_P : Program) (T : Tr AV) (A : AW) (t : TypeId) (x : Operand) : Option AR :=
  some (.new (.ptr A.next 0) (.cells (ev T x).cells t))
def oF_build (P : Program) (T : Tr AV) (_A : AW) (t : TypeId) (parts : Array (Nat × Operand)) : Option AR :=
  (buildA P t (parts.toList.map fun (i, x) => (i, ev T x))).map .val
def oF_buildSlice (P : Program) (T : Tr AV) (A : AW) (t : TypeId) (len : Nat) (parts : Array (Nat × Operand)) : Option AR :=
  match P.underlying t with
    | some (.slice elem) =>
      match P.info? elem with
      | some i =>
        match i.zero with
        | some z =>
          if z.cells.size = i.size && i.size ≠ 0 && len * i.size <= 1000000 then
            match fillA (fun j => some (j * i.size, i.size)) (zerosA (fromV z).cells len) (parts.toList.map fun (i, x) => (i, ev T x)) with
            | some l => some (.new (.sl A.next 0 len len false) (.cells l elem))
            | none => none
          else none
        | none => none
      | none => none
    | _ => none
def oF_load (P : Program) (T : Tr AV) (A : AW) (t : TypeId) (a : Operand) : Option AR :=
  match ev T a with | .ptr n k => (loadA P A t n k).map .val | _ => none
def oF_store (P : Program) (T : Tr AV) (A : AW) (t : TypeId) (a : Operand) (x : Operand) : Option AR :=
  match ev T a with | .ptr n k => (storeA P A t n k (ev T x)).map (.chg undefA) | _ => none
def oF_nilCheck (_P : Program) (T : Tr AV) (_A : AW) (x : Operand) : Option AR :=
  match ev T x with
    | .ptr n o => some (.val (.ptr n o))
    | .fn f a b => some (.val (.fn f a b))
    | .yld n => some (.val (.yld n))
    | _ => none
def inI64 (c : Int) : Bool := decide (-9223372036854775808 <= c) && decide (c <= 9223372036854775807)
def someI64 (c : Int) : Option Value := match inI64 c with | true => some (.int .i64 c) | false => none
def fastI (op : BinOp) (a b : Int) : Option Value :=
  match op with
  | .add => someI64 (a + b)
  | .sub => someI64 (a - b)
  | .eql => some (.bool (a == b))
  | .neq => some (.bool (a != b))
  | .lss => some (.bool (a < b))
  | .leq => some (.bool (a <= b))
  | .gtr => some (.bool (a > b))
  | .geq => some (.bool (a ≥ b))
  | _ => none
def binF (P : Program) (op : BinOp) (t : TypeId) (xo yo : Operand) (x y : AV) : Option AV :=
  match x, y with
  | .flat (.int .i64 a), .flat (.int .i64 b) =>
    match fastI op a b with
    | some v => some (.flat v)
    | none => binA P op t xo yo x y
  | _, _ => binA P op t xo yo x y
theorem binF_eq (P : Program) (op : BinOp) (t : TypeId) (xo yo : Operand) (x y : AV) : binF P op t xo yo x y = binA P op t xo yo x y := by
  unfold binF
  split
  · rename_i a b
    split
    · rename_i v h
      have hg : pureRun P (eqGuard op t xo yo (.int .i64 a) (.int .i64 b)) = some () := by
        unfold eqGuard; cases op <;> rfl
      have key : ∀ s : Sem Value, pureRun P s = some v -> pureRun P (do eqGuard op t xo yo (.int .i64 a) (.int .i64 b); s) = some v := fun s hs => by
        rw [pureRun_bind, hg]; exact hs
      have hv : fromV v = .flat v := by
        cases op <;> simp only [fastI, someI64] at h <;> first
          | (cases h; done)
          | (cases h; rfl)
          | (split at h <;> cases h; rfl)
      have hb : pureRun P (binOp op t (.int .i64 a) (.int .i64 b)) = some v := by
        cases op <;> simp only [fastI, someI64] at h <;> first
          | (cases h; done)
          | (cases h; rfl)
          | (split at h
             · rename_i hin
               cases h
               simp only [inI64, Bool.and_eq_true, decide_eq_true_eq] at hin
               have := IntWalk.i64_in _ hin
               simp only [binOp, Op.intArith, this, ne_eq, not_true_eq_false, if_false]
               rfl
             · cases h)
      simp only [binA, toV]
      rw [key _ hb]
      simp [hv]
    · rfl
  · rfl
def oF_binOp (P : Program) (T : Tr AV) (_A : AW) (op : BinOp) (t : TypeId) (x : Operand) (y : Operand) : Option AR :=
  (binF P op t x y (ev T x) (ev T y)).map .val
def oF_unOp (P : Program) (T : Tr AV) (_A : AW) (op : UnOp) (x : Operand) : Option AR :=
  match ev T x with | .flat v => ((pureRun P (Op.unary op v)).map fromV).map .val | _ => none
def oF_convert (P : Program) (T : Tr AV) (A : AW) (src : TypeId) (dst : TypeId) (x : Operand) : Option AR :=
  convA P A src dst (ev T x)
def oF_makeSlice (P : Program) (T : Tr AV) (A : AW) (t : TypeId) (len : Operand) (cap : Operand) : Option AR :=
  match P.underlying t with
    | some (.slice elem) =>
      match P.info? elem, natOf? (ev T len), natOf? (ev T cap) with
      | some i, some l, some c =>
        match i.zero with
        | some z =>
          if l <= c && i.bytes * c <= 1000000000 && c <= 1000000000 && z.cells.size = i.size && i.size ≠ 0 then
            some (.new (.sl A.next 0 l c false) (.cells (zerosA (fromV z).cells c) elem))
          else none
        | none => none
      | _, _, _ => none
    | _ => none
def oF_slice (P : Program) (T : Tr AV) (_A : AW) (t : TypeId) (x : Operand) (lo : Option Operand) (hi : Option Operand) (mx : Option Operand) : Option AR :=
  (sliceA P t (ev T x) (lo.map (ev T)) (hi.map (ev T)) (mx.map (ev T))).map .val
def oF_fieldAddr (P : Program) (T : Tr AV) (_A : AW) (t : TypeId) (x : Operand) (f : Nat) : Option AR :=
  match P.underlying t, ev T x with
    | some (.struct fs), .ptr n k =>
      match fs[f]? with
      | some f => match sizeA P f.type with
        | some s => if s = 0 then none else some (.val (.ptr n (k + f.offset)))
        | none => none
      | none => none
    | _, _ => none
def oF_field (P : Program) (T : Tr AV) (_A : AW) (t : TypeId) (x : Operand) (f : Nat) : Option AR :=
  match P.underlying t, ev T x with
    | some (.struct fs), .agg l =>
      match fs[f]? with
      | some f => (partA P f.type l f.offset).map .val
      | none => none
    | _, _ => none
def oF_indexAddr (P : Program) (T : Tr AV) (_A : AW) (t : TypeId) (x : Operand) (ix : Operand) : Option AR :=
  match P.underlying t, ev T x, natOf? (ev T ix) with
    | some (.array len elem), .ptr n k, some i => match sizeA P elem with
      | some s => if i < len then some (.val (.ptr n (k + i * s))) else none
      | none => none
    | some (.slice elem), .sl n k len _ _, some i => match sizeA P elem with
      | some s => if i < len then some (.val (.ptr n (k + i * s))) else none
      | none => none
    | _, _, _ => none
def oF_index (P : Program) (T : Tr AV) (_A : AW) (t : TypeId) (x : Operand) (ix : Operand) : Option AR :=
  match P.underlying t, ev T x, natOf? (ev T ix) with
    | some (.array len elem), .agg l, some i => match sizeA P elem with
      | some s => if i < len then (partA P elem l (i * s)).map .val else none
      | none => none
    | some .string, .flat (.string s), some i => match s[i]? with
      | some b => some (.val (.flat (.int .u8 b.toNat)))
      | none => none
    | _, _, _ => none
def oF_lookup (P : Program) (T : Tr AV) (A : AW) (t : TypeId) (x : Operand) (ix : Operand) (ok : Bool) : Option AR :=
  (lookupA P A t (ev T x) (ev T ix) ok).map .val
def oF_mapUpdate (P : Program) (T : Tr AV) (A : AW) (t : TypeId) (m : Operand) (k : Operand) (x : Operand) : Option AR :=
  (updateA P A t (ev T m) (ev T k) (ev T x)).map (.chg undefA)
def oF_range (P : Program) (T : Tr AV) (A : AW) (t : TypeId) (x : Operand) : Option AR :=
  match P.underlying t, ev T x with
    | some .string, .flat (.string s) => some (.new (.ptr A.next 0) (.siter s 0))
    | some (.map _ _), .flat (.map none) => some (.new (.ptr A.next 0) (.miter none 0 [] [] 0))
    | some (.map _ _), .mp m => match A.get m with | some (.map es clock) => some (.new (.ptr A.next 0) (.miter (some m) clock [] (es.map (·.2.2)) clock)) | _ => none
    | _, _ => none
def oF_next (_P : Program) (T : Tr AV) (A : AW) (it : Operand) (isString : Bool) : Option AR :=
  nextA A (ev T it) isString
def oF_entry (_P : Program) (T : Tr AV) (A : AW) (it : Operand) : Option AR :=
  (entryOfA A (ev T it)).map .val
def oF_makeInterface (P : Program) (T : Tr AV) (_A : AW) (t : TypeId) (x : Operand) : Option AR :=
  match P.underlying t with
    | some (.interface _) => none
    | some _ => some (.val (.ifc t (ev T x)))
    | none => none
def oF_typeAssert (P : Program) (T : Tr AV) (_A : AW) (x : Operand) (t : TypeId) (ok : Bool) : Option AR :=
  match P.underlying t, ev T x with
    | some (.interface _), _ => none
    | some _, .ifc u v => if u = t then some (.val (if ok then .tup [v, .flat (.bool true)] else v)) else none
    | _, _ => none
def oF_extract (_P : Program) (T : Tr AV) (_A : AW) (t : Operand) (ix : Nat) : Option AR :=
  match ev T t with | .tup l => l[ix]?.map .val | _ => none
def oF_defer (_P : Program) (T : Tr AV) (_A : AW) (c : Call) : Option AR :=
  match c.callee with
    | .value f =>
      match ev T f with
      | .fn g fst cap => some (.dfr g (fst ++ c.args.toList.map (ev T)) cap)
      | _ => none
    | _ => none

def opF (P : Program) (T : Tr AV) (A : AW) (o : Oper) : Option AR :=
  match o.op with
  | .move x | .assign x => oF_move P T A x
  | .pick c a b => oF_pick P T A c a b
  | .alloc t => oF_alloc P T A t
  | .box t x => oF_box P T A t x
  | .build t parts => oF_build P T A t parts
  | .buildSlice t len parts => oF_buildSlice P T A t len parts
  | .load t a => oF_load P T A t a
  | .store t a x => oF_store P T A t a x
  | .nilCheck x => oF_nilCheck P T A x
  | .binOp op t x y _ => oF_binOp P T A op t x y
  | .unOp op _ x => oF_unOp P T A op x
  | .convert src dst x => oF_convert P T A src dst x
  | .makeFunc (.func f) a b => some (.val (.fn f (a.toList.map (ev T)) (b.toList.map (ev T))))
  | .makeMap _ none => some (.new (.mp A.next) (.map [] 0))
  | .makeMap t (some r) => match intOf? (ev T r), P.underlying t with | some _, some (.map _ _) => some (.new (.mp A.next) (.map [] 0)) | _, _ => none
  | .makeSlice t len cap => oF_makeSlice P T A t len cap
  | .slice t x lo hi mx => oF_slice P T A t x lo hi mx
  | .fieldAddr t x f => oF_fieldAddr P T A t x f
  | .field t x f => oF_field P T A t x f
  | .indexAddr t x ix => oF_indexAddr P T A t x ix
  | .index t x ix => oF_index P T A t x ix
  | .lookup t x ix ok => oF_lookup P T A t x ix ok
  | .mapUpdate t m k x | .insert t m k x => oF_mapUpdate P T A t m k x
  | .range t x => oF_range P T A t x
  | .next it isString => oF_next P T A it isString
  | .entry it => oF_entry P T A it
  | .makeInterface t x => oF_makeInterface P T A t x
  | .typeAssert x _ t ok => oF_typeAssert P T A x t ok
  | .extract t ix => oF_extract P T A t ix
  | .call c => callA P A c o.type T
  | .defer c => oF_defer P T A c
  | _ => none

theorem opF_eq (P : Program) (T : Tr AV) (A : AW) (o : Oper) : opF P T A o = opA P T A o := by
  obtain ⟨dst, op, ty, pos, after, gd⟩ := o
  cases op <;> first | rfl | (simp only [opF, oF_binOp, binF_eq]; rfl) | (rename_i f a b; cases f <;> rfl) | (rename_i f a b; cases f <;> cases a <;> cases b <;> rfl) | (rename_i f; cases f <;> rfl)
end
noncomputable section
inductive Req where
 | enter (f : FuncId) (args : List AV)
 | round (n : Nat) (args : List AV)
  | dfr (f : FuncId) (args : List AV)
 deriving Inhabited

inductive Def where
 | mark (r : Nat)
 | call (f : FuncId) (args cap : List AV)

abbrev Rec := Req -> AW -> Option (AV × AW)

def wantA (ops : Array Oper) (T : Tr AV) (o : Oper) : Option Bool :=
 match o.guard with
 | none => some true
 | some (j, want) =>
  match (ops[j]?).bind (·.dst) with
  | none => some false
  | some d =>
   match (T.get d).getD undefA with
   | .flat (.bool b) => some (b == want)
   | .flat _ => some false
   | _ => none

def setT (T : Tr AV) (d : Option Tmp) (v : AV) : Tr AV := match d with | some d => T.set d v | none => T

def dstOk (nt : Nat) (d : Option Tmp) : Bool := match d with | some d => Nat.blt d nt | none => true

def calledA (rec : Rec) (r : Req) (A : AW) : Option (Bool × AV × AW) :=
 match rec r A with
 | some (v, A') => if Nat.ble A.next A'.next then some (true, v, A') else none
 | none => none

def stepA (P : Program) (rec : Rec) (ops : Array Oper) (o : Oper) (T : Tr AV) (A : AW) : Option (Bool × AV × AW) :=
 match wantA ops T o with
 | none => none
 | some false => some (false, undefA, A)
 | some true =>
  match opF P T A o with
  | none => none
  | some (.val v) => some (false, v, A)
  | some (.new v ob) => some (true, v, A.new ob)
  | some (.chg v A') => if Nat.ble A.next A'.next then some (true, v, A') else none
  | some (.enter f args) => calledA rec (.enter f args) A
  | some (.round n args) => calledA rec (.round n args) A
  | some (.dfr _ _ _) => none

def deferA (P : Program) (ops : Array Oper) (o : Oper) (T : Tr AV) (A : AW) : Option Def :=
 match o.op with
 | .defer _ =>
  match wantA ops T o with
  | some true => match opF P T A o with
   | some (.dfr f args cap) => some (.call f args cap)
   | _ => none
  | _ => none
 | _ => none

abbrev OpsOut := Option (Tr AV × AW × List Def)
def opsPut (nt : Nat) (rnd : Bool) (o : Oper) (x : Def) (ih : Tr AV -> AW -> OpsOut) (T : Tr AV) (A : AW) : OpsOut :=
 match rnd with
 | true => none
 | false => if dstOk nt o.dst then
   match ih (setT T o.dst undefA) A with
   | some (T, A, xs) => some (T, A, xs ++ [x])
   | none => none
  else none
def opsGo (P : Program) (rec : Rec) (nt : Nat) (ops : Array Oper) (o : Oper) (ih : Tr AV -> AW -> OpsOut) (T : Tr AV) (A : AW) : OpsOut :=
 match stepA P rec ops o T A with
 | some (_, v, A) => if dstOk nt o.dst then ih (setT T o.dst v) A else none
 | none => none
def opsStep (P : Program) (rec : Rec) (nt : Nat) (rnd : Bool) (ops : Array Oper) (o : Oper) (ih : Tr AV -> AW -> OpsOut) (T : Tr AV) (A : AW) : OpsOut :=
 match deferA P ops o T A with
 | some x => opsPut nt rnd o x ih T A
 | none => opsGo P rec nt ops o ih T A
def opsA (P : Program) (rec : Rec) (nt : Nat) (rnd : Bool) (ops : Array Oper) (l : List Oper) : Tr AV -> AW -> OpsOut :=
 List.rec (motive := fun _ => Tr AV -> AW -> OpsOut) (fun T A => some (T, A, [])) (fun o _ ih => opsStep P rec nt rnd ops o ih) l

/-! ### Regions that draw their order -/

def bytesSame (a b : List UInt8) : Bool := decide (a = b)

def vSame : Value -> Value -> Bool
 | .int k n, .int k' n' => decide (k = k') && decide (n = n')
 | .bool b, .bool b' => b == b'
 | .string s, .string s' => bytesSame s.data.toList s'.data.toList
 | .pointer none, .pointer none => true
 | .slice none a b, .slice none a' b' => Nat.beq a a' && Nat.beq b b'
 | .map none, .map none => true
 | .nilFunc, .nilFunc => true
 | .nilIface, .nilIface => true
 | .tuple a, .tuple b => a.toList.isEmpty && b.toList.isEmpty
 | _, _ => false

mutual
def aSame : AV -> AV -> Bool
 | .flat v, .flat w => vSame v w
 | .ptr n o, .ptr n' o' => Nat.beq n n' && Nat.beq o o'
 | .sl n o l c b, .sl n' o' l' c' b' => Nat.beq n n' && Nat.beq o o' && Nat.beq l l' && Nat.beq c c' && b == b'
 | .sle n o p, .sle n' o' p' => Nat.beq n n' && Nat.beq o o' && Nat.beq p p'
 | .mp n, .mp n' => Nat.beq n n'
 | .fn f a b, .fn f' a' b' => Nat.beq f f' && asSame a a' && asSame b b'
 | .yld n, .yld n' => Nat.beq n n'
 | .ifc t v, .ifc t' v' => Nat.beq t t' && aSame v v'
 | .agg l, .agg l' => asSame l l'
 | .tup l, .tup l' => asSame l l'
 | .pick n i l, .pick n' i' l' => Nat.beq n n' && Nat.beq i i' && asSame l l'
 | .any, .any => true
 | .rng a b, .rng a' b' => decide (a = a') && decide (b = b')
 | _, _ => false
def asSame : List AV -> List AV -> Bool
 | [], [] => true
 | a :: l, b :: m => aSame a b && asSame l m
 | _, _ => false
end
structure Done where
 i : Nat
 o : Oper
 kind : Nat
 want : Bool
 v : AV
 T : Tr AV
 C : AW
 ab : Nat
 C' : AW
 ab' : Nat
 s : Nat
 e : Nat
 ob : AO
 mask : Nat

def addP : List Done -> Nat -> Nat -> AW -> AW
 | [], _, _, A => A
 | d :: l, m, ab, A =>
  match Nat.testBit m d.i && !Nat.testBit ab d.i with
  | true => addP l m ab (A.set d.s d.ob)
  | false => addP l m ab A
def runA (fs : List Done) (m ab s : Nat) (C : AW) : AW := { addP fs m ab C with next := s }

def again (P : Program) (q : Done) (A : AW) : Bool :=
 match opF P q.T A q.o with
 | some (.val v) => aSame v q.v
 | _ => false

def pairOk (P : Program) (fs : List Done) (x y : Done) : Bool :=
 match x.kind, y.kind with
 | 3, 3 => false
 | 3, 2 => again P y (runA fs y.mask x.ab y.s x.C) && again P y (runA fs y.mask x.ab' y.s x.C')
 | 2, 3 => again P x (runA fs x.mask y.ab x.s y.C) && again P x (runA fs x.mask y.ab' x.s y.C')
 | _, _ => true

def rowOk (P : Program) (fs : List Done) (y : Done) : List Done -> Bool
 | [] => true
 | x :: l => (Nat.testBit y.mask x.i || pairOk P fs x y) && rowOk P fs y l

def pairsOk (P : Program) (fs : List Done) : List Done -> Bool
 | [] => true
 | y :: l => match Nat.ble 2 y.kind with
  | true => rowOk P fs y l && pairsOk P fs l
  | false => pairsOk P fs l

def gone (A : AW) (n : Nat) : Bool := match A.get n with | none => true | some _ => false

def namesOk (A0 : AW) (fs all : List Done) : Bool :=
 fs.all fun f => gone A0 f.s && all.all fun l => match Nat.beq l.kind 3 with
  | true => (Nat.testBit l.ab f.i || gone l.C f.s) && (Nat.testBit l.ab' f.i || gone l.C' f.s)
  | false => true

def maskOf (ms : Tr Nat) (o : Oper) : Nat :=
 o.after.toList.foldl (fun s e => if Region.binds .any e then s ||| 2 ^ e.on ||| (ms.get e.on).getD 0 else s) 0
def masksL : Nat -> List Oper -> Tr Nat -> List (Oper × Nat)
 | _, [], _ => []
 | i, o :: l, ms => (o, maskOf ms o) :: masksL (i + 1) l (ms.set i (maskOf ms o))

def edgesOk (i : Nat) (o : Oper) : Bool := o.after.toList.all fun e => !Region.binds .any e || Nat.blt e.on i
def apartRow (ops : Array Oper) (x : Oper) (i : Nat) : List (Oper × Nat) -> Bool
 | [] => true
 | y :: l => (Nat.testBit y.2 i || x.apart ops y.1) && apartRow ops x i l
def apartAll (ops : Array Oper) (nt : Nat) : Nat -> List (Oper × Nat) -> Bool
 | _, [] => true
 | i, x :: l => edgesOk i x.1 && dstOk nt x.1.dst && apartRow ops x.1 i l && apartAll ops nt (i + 1) l
def staticOk (nt : Nat) (ops : Array Oper) : Bool := apartAll ops nt 0 (masksL 0 ops.toList .lf)

def notDead : AO -> Bool | .dead => false | _ => true

def asksNone : Op -> Bool
 | .load .. | .store .. | .lookup .. | .mapUpdate .. | .insert .. | .next .. | .entry .. | .call .. | .range .. => false
 | _ => true

def quietD (i : Nat) (o : Oper) (mask kind : Nat) (want : Bool) (v : AV) (T : Tr AV) (C : AW) (ab s : Nat) : Done :=
 { i, o, kind, want, v, T, C, ab, C' := C, ab' := ab, s, e := s, ob := .dead, mask }
def freshD (i : Nat) (o : Oper) (mask : Nat) (v : AV) (ob : AO) (T : Tr AV) (C : AW) (ab s : Nat) : Done :=
 { i, o, kind := 1, want := true, v, T, C, ab, C' := C, ab' := ab, s, e := s + 1, ob, mask }
def loudD (i : Nat) (o : Oper) (mask : Nat) (v : AV) (T : Tr AV) (C : AW) (ab s : Nat) (A' : AW) : Done :=
 { i, o, kind := 3, want := true, v, T, C, ab, C' := A', ab' := ab ||| mask, s, e := A'.next, ob := .dead, mask }

def askA (P : Program) (rec : Rec) (ops : Array Oper) (i : Nat) (o : Oper) (mask : Nat) (fs : List Done) (T : Tr AV) (C : AW) (ab s : Nat) : Option Done :=
 match stepA P rec ops o T (runA fs mask ab s C) with
 | some (false, v, _) => some (quietD i o mask 2 true v T C ab s)
 | some (true, v, A') => some (loudD i o mask v T C ab s A')
 | none => none

def pureA (P : Program) (rec : Rec) (ops : Array Oper) (i : Nat) (o : Oper) (mask : Nat) (fs : List Done) (T : Tr AV) (C : AW) (ab s : Nat) : Option Done :=
 match opF P T ⟨.lf, s⟩ o with
 | some (.val v) => some (quietD i o mask 0 true v T C ab s)
 | some (.new v ob) => match notDead ob with
  | true => some (freshD i o mask v ob T C ab s)
  | false => none
 | _ => askA P rec ops i o mask fs T C ab s

def oneA (P : Program) (rec : Rec) (ops : Array Oper) (i : Nat) (o : Oper) (mask : Nat) (fs : List Done) (T : Tr AV) (C : AW) (ab s : Nat) : Option Done :=
 match wantA ops T o with
 | none => none
 | some false => some (quietD i o mask 0 false undefA T C ab s)
 | some true =>
  match asksNone o.op with
  | true => pureA P rec ops i o mask fs T C ab s
  | false => askA P rec ops i o mask fs T C ab s

def moreF (d : Done) (fs : List Done) : List Done := match Nat.beq d.kind 1 with | true => d :: fs | false => fs

abbrev TrOut := Option (List Done × List Done × Tr AV × AW × Nat × Nat)
abbrev TrSelf := Nat -> List Done -> List Done -> Tr AV -> AW -> Nat -> Nat -> TrOut
def traceStep (P : Program) (rec : Rec) (ops : Array Oper) (x : Oper × Nat) (ih : TrSelf) (i : Nat) (ds fs : List Done) (T : Tr AV) (C : AW) (ab s : Nat) : TrOut :=
 match oneA P rec ops i x.1 x.2 fs T C ab s with
 | none => none
 | some d => ih (i + 1) (d :: ds) (moreF d fs) (setT T x.1.dst d.v) d.C' d.ab' d.e
def traceA (P : Program) (rec : Rec) (ops : Array Oper) (l : List (Oper × Nat)) : TrSelf :=
 List.rec (motive := fun _ => TrSelf) (fun _ ds fs T C ab s => some (ds, fs, T, C, ab, s)) (fun x _ ih => traceStep P rec ops x ih) l

def endA (P : Program) (n : Nat) (A : AW) : List Done × List Done × Tr AV × AW × Nat × Nat -> Option (Tr AV × AW)
 | (ds, fs, T', C, ab, s) =>
  match pairsOk P fs ds && namesOk A fs ds with
  | true => some (T', runA fs (2 ^ n - 1) ab s C)
  | false => none

def drawA (P : Program) (rec : Rec) (nt : Nat) (ops : Array Oper) (T : Tr AV) (A : AW) : Option (Tr AV × AW) :=
 match staticOk nt ops with
 | true =>
  match traceA P rec ops (masksL 0 ops.toList .lf) 0 [] [] T A 0 A.next with
  | none => none
  | some r => endA P ops.size A r
 | false => none

def regionA (P : Program) (rec : Rec) (nt : Nat) (rnd : Bool) (ops : Array Oper) (draw : Bool) (T : Tr AV) (A : AW) : Option (Tr AV × AW × List Def) :=
 match draw with
 | false => opsA P rec nt rnd ops ops.toList T A
 | true => match drawA P rec nt ops T A with
  | some (T, A) => some (T, A, [])
  | none => none

/-! ### Frames -/

structure Fr where
 fn : FuncId
 nt : Nat
 rnd : Option Nat
 T : Tr AV
 defs : List Def

inductive Jump where | ret | jump (c : Code)

abbrev Out := Option (Jump × Fr × AW)
abbrev Self := Fr -> List Item -> AW -> Out

def itRet (fr : Fr) (A : AW) : Out := match fr.rnd with | some _ => some (.jump .ret, fr, A) | none => some (.ret, fr, A)
def itCond (self : Self) (fr : Fr) (c : Operand) (a b : Code) (k : List Item) (A : AW) : Out :=
 match boolOf? (ev fr.T c) with
 | some true => self fr (.code a :: k) A
 | some false => self fr (.code b :: k) A
 | none => none
def itExit (self : Self) (fr : Fr) (id : Nat) (k : List Item) (A : AW) : Out :=
 match exitTo id k with
 | some k => self fr k A
 | none => match fr.rnd with | some _ => some (.jump (.exit id), fr, A) | none => none
def itGoto (self : Self) (fr : Fr) (l : Nat) (k : List Item) (A : AW) : Out :=
 match gotoIn l k with
 | some k => self fr k A
 | none => match fr.rnd with | some _ => some (.jump (.goto l), fr, A) | none => none
def itRegion (P : Program) (rec : Rec) (self : Self) (fr : Fr) (ops : Array Oper) (draw : Bool) (k : List Item) (A : AW) : Out :=
 match regionA P rec fr.nt fr.rnd.isSome ops draw fr.T A with
 | some (T, A, xs) => self { fr with T, defs := xs ++ fr.defs } k A
 | none => none
def beginA (fr : Fr) (A : AW) : Option (Nat × List Def × AW) :=
 match fr.rnd with
 | some l => match A.get l with
  | some (.loop _ _ _ _ _ _ _ _ d) => some (d, fr.defs, A)
  | _ => none
 | none => some (A.next, .mark A.next :: fr.defs, A.new (.deferred false))
def itAfter (self : Self) (fr : Fr) (defs : List Def) (k : List Item) (l : Nat) (A3 : AW) : Out :=
 match A3.get l with
 | some (.loop st pend _ _ _ _ _ _ _) =>
  if st == .busy then none
  else self { fr with defs } ((pend.map Item.code).toList ++ k) (A3.set l .dead)
 | _ => none
def itCall (P : Program) (rec : Rec) (self : Self) (fr : Fr) (defs : List Def) (k : List Item) (g : FuncId) (args : List AV) (l : Nat) (A2 : AW) : Out :=
 match (P.funcs[g]?).bind (·.body) with
 | none => none
 | some _ =>
  match rec (.enter g args) A2 with
  | some (_, A3) => if Nat.ble (l + 1) A3.next then itAfter self fr defs k l A3 else none
  | none => none
def itRange (P : Program) (rec : Rec) (self : Self) (fr : Fr) (f : Operand) (ps : Array Tmp) (as body : Code) (k : List Item) (A : AW) : Out :=
 match beginA fr A with
 | none => none
 | some (d, defs, A1) =>
  match ev fr.T f with
  | .fn g fst cap => itCall P rec self fr defs k g (fst ++ [.yld A1.next] ++ cap) A1.next (A1.new (.loop .ready none fr.fn fr.nt fr.T ps.toList as body d))
  | _ => none
def itBegin (self : Self) (fr : Fr) (k : List Item) (A : AW) : Out :=
 match fr.rnd with
 | some l => match A.get l with
  | some (.loop .ready pend f nt T0 ps as b d) => self fr k (A.set l (.loop .busy pend f nt T0 ps as b d))
  | _ => none
 | none => none
def itCode (P : Program) (rec : Rec) (self : Self) (fr : Fr) (c : Code) (k : List Item) (A : AW) : Out :=
 match c with
 | .ret => itRet fr A
 | .skip => self fr k A
 | .label _ => self fr k A
 | .seq a b => self fr (.code a :: .code b :: k) A
 | .cond c a b => itCond self fr c a b k A
 | .block id body => self fr (.code body :: .inBlock id :: k) A
 | .loop body => self fr (.code body :: .inLoop body :: k) A
 | .scope body => self fr (.code body :: .inScope body :: k) A
 | .exit id => itExit self fr id k A
 | .goto l => itGoto self fr l k A
 | .region _ ops draw => itRegion P rec self fr ops draw k A
 | .rangeFunc f ps as body => itRange P rec self fr f ps as body k A
 | _ => none
def itItem (P : Program) (rec : Rec) (self : Self) (fr : Fr) (it : Item) (k : List Item) (A : AW) : Out :=
 match it with
 | .code c => itCode P rec self fr c k A
 | .inBlock _ => self fr k A
 | .inScope _ => self fr k A
 | .inLoop body => self fr (.code body :: .inLoop body :: k) A
 | .beginRound => itBegin self fr k A
 | _ => none
def itStep (P : Program) (rec : Rec) (ih : Self) (fr : Fr) (todo : List Item) (A : AW) : Out :=
 match todo with
 | [] => some (.ret, fr, A)
 | it :: k => itItem P rec ih fr it k A
def itemsA (P : Program) (rec : Rec) (m : Nat) : Self :=
 Nat.rec (motive := fun _ => Self) (fun _ _ _ => none) (fun _ ih => itStep P rec ih) m

def resultsA (P : Program) (fn : Func) (T : Tr AV) (A : AW) : Option AV :=
 match fn.results.toList.mapM fun
   | .tmp t => some ((T.get t).getD undefA)
   | .cell a t => match T.get a with
    | some (.ptr n o) => loadA P A t n o
    | _ => none with
 | some [v] => some v
 | some vs => some (.tup vs)
 | none => none

def args0 : Nat -> List AV -> Tr AV -> Tr AV
 | _, [], T => T
 | i, v :: l, T => args0 (i + 1) l (T.set i v)

def argsAt (nt : Nat) : List Tmp -> List AV -> Tr AV -> Option (Tr AV)
 | [], [], T => some T
 | t :: ps, v :: l, T => if Nat.blt t nt then argsAt nt ps l (T.set t v) else none
 | _, _, _ => none

def takeA (rec : Rec) : List Def -> AW -> Option AW
 | [], A => some A
 | .mark r :: l, A => match A.get r with
  | some (.deferred false) => takeA rec l (A.set r .dead)
  | _ => none
 | .call f args cap :: l, A => match rec (.dfr f (args ++ cap)) A with
  | some (_, A') => if Nat.ble A.next A'.next then takeA rec l A' else none
  | none => none

/-! ### A sort of a row of picks: every order of them -/

def inserts {α : Type} (x : α) : List α -> List (List α)
 | [] => [[x]]
 | y :: l => (x :: y :: l) :: (inserts x l).map (y :: ·)
def perms {α : Type} : List α -> List (List α)
 | [] => [[]]
 | x :: l => (perms l).flatMap (inserts x)

def allPicks (i : Nat) (keys : List AV) : List Nat -> List AV -> Bool
 | [], [] => true
 | n :: ns, .pick m j l :: r => Nat.beq m n && Nat.beq j i && asSame l keys && allPicks i keys ns r
 | _, _ => false

def orders (rec : Rec) (f : FuncId) (args : List AV) (n next : Nat) (t : TypeId) : List (List AV) -> Option (AV × List AV)
 | [] => none
 | [l] => match rec (.enter f args) ⟨Tr.lf.set n (.cells l t), next⟩ with
  | some (v, A) => match A.get n with
   | some (.cells r t') => if Nat.beq A.next next && Nat.beq t t' then some (v, r) else none
   | _ => none
  | none => none
 | l :: m => match rec (.enter f args) ⟨Tr.lf.set n (.cells l t), next⟩ with
  | some (v, A) => match A.get n with
   | some (.cells r t') =>
    match orders rec f args n next t m with
    | some (v', r') => if Nat.beq A.next next && Nat.beq t t' && aSame v v' && asSame r r' then some (v', r') else none
    | none => none
   | _ => none
  | none => none

def sortA (_P : Program) (rec : Rec) (f : FuncId) (args : List AV) (A : AW) : Option (AV × AW) :=
 match args with
 | [.sl n o len cap opn] =>
  match A.get n with
  | some (.cells (.pick m i keys :: r) t) =>
   match A.get i with
   | some (.miter _ _ seen bs _) =>
    if allPicks i keys seen (.pick m i keys :: r) && Nat.beq seen.length bs.length && Nat.beq keys.length bs.length && keys.all AV.one then
     match orders rec f [.sl n o len cap opn] n A.next t (perms keys) with
     | some (v, r) => some (v, A.set n (.cells r t))
     | none => none
    else none
   | _ => none
  | _ => none
 | _ => none

def isPicks (args : List AV) (A : AW) : Bool :=
 match args with
 | [.sl n _ _ _ _] => match A.get n with
  | some (.cells (.pick _ _ _ :: _ :: _) _) => true
  | _ => false
 | _ => false

def callsOk (P : Program) : List Def -> Bool
 | [] => true
 | .mark _ :: l => callsOk P l
 | .call f _ _ :: l => (match P.funcs[f]? with | some fn => fn.body.isSome | none => false) && callsOk P l

def bodyA (P : Program) (rec : Rec) (m : Nat) (f : FuncId) (args : List AV) (A : AW) : Option (AV × AW) :=
 match P.funcs[f]? with
 | none => none
 | some fn =>
  match fn.body with
  | none => none
  | some body =>
   if Nat.ble args.length fn.ntmps then
    match itemsA P rec m { fn := f, nt := fn.ntmps, rnd := none, T := args0 0 args .lf, defs := [] } [.code body] A with
    | some (.ret, fr, A) => match (if callsOk P fr.defs then takeA rec fr.defs A else none) with
     | some A => match resultsA P fn fr.T A with
      | some v => some (v, A)
      | none => none
     | none => none
    | _ => none
   else none

def roundA (P : Program) (rec : Rec) (m : Nat) (n : Nat) (args : List AV) (A : AW) : Option (AV × AW) :=
 match A.get n with
 | some (.loop _ _ f nt T ps as body _) =>
  match argsAt nt ps args T with
  | none => none
  | some T =>
   match itemsA P rec m { fn := f, nt, rnd := some n, T, defs := [] } [.code as, .beginRound, .code body] A with
   | some (j, _, A) =>
    match A.get n with
    | some (.loop _ _ f nt T0 ps as b d) =>
     match j with
     | .ret => some (.flat (.bool true), A.set n (.loop .ready none f nt T0 ps as b d))
     | .jump c => some (.flat (.bool false), A.set n (.loop .done (some c) f nt T0 ps as b d))
    | _ => none
   | none => none
 | _ => none

def reqA (P : Program) (hk : FuncId -> Bool) (m : Nat) : Nat -> Req -> AW -> Option (AV × AW)
 | 0, _, _ => none
 | d + 1, .enter f args, A =>
  match hk f && args.isEmpty with
  | true => some (.flat (.bool true), A)
  | false =>
   match isPicks args A with
   | true => sortA P (reqA P hk m d) f args A
   | false => bodyA P (reqA P hk m d) m f args A
 | d + 1, .round n args, A => roundA P (reqA P hk m d) m n args A
 | d + 1, .dfr f args, A => bodyA P (reqA P hk m d) m f args A

def isTrue : Option (AV × AW) -> Bool
 | some (.flat (.bool b), _) => b
 | _ => false

def noHook : FuncId -> Bool := fun _ => false
end
section
variable {P : Program} {ρ : Rn} {A : AW} {w : World}
theorem str_bytes_made {e : TypeId} (s : ByteArray) (w : World) :
  ∃ obj w' room, (Conv.stringToBytes e s).run P w = .ok (.slice (some ⟨w.heap.size, 0, none⟩) s.size (s.size + room)) w' /\ Pushed w obj w' ∧
   ∀ ρ', P.cellsOf e = 1 -> OR P ρ' ⟨w.heap.size, 0, room⟩ (.cells (s.data.toList.map fun b => .flat (.int .u8 b.toNat)) e) obj := by
 have hge : s.size <= (Question.appendCap s.size 0 e).cut (w.tape w.drawn (.appendCap s.size 0 e)) := by simp [Question.cut]
 generalize hcap : (Question.appendCap s.size 0 e).cut (w.tape w.drawn (.appendCap s.size 0 e)) = cap at hge
 let C : Array Value := (s.data.map fun b => Value.int .u8 b.toNat) ++ Array.replicate (cap - s.size) (.int .u8 0)
 have hC : C.size = cap := by
  have : s.data.size = s.size := rfl
  simp [C, this]; omega
 let w1 : World := { w with heap := w.heap.push (.cells C e), drawn := w.drawn + 1 }
 have h1 : w1.shape? w.heap.size = some (e, cap) := by
  simp [w1, World.shape?, hC]
 have hrow : (newRow e C).run P { w with drawn := w.drawn + 1 } = .ok ⟨w.heap.size, 0, none⟩ w1 := rfl
 have hfz : ∀ j : Nat, (w1.freeze ⟨w.heap.size, cap, none⟩ 1).heap[j]? = (w.heap.push (.cells C e (cap, cap + 1)))[j]? := by
  intro j
  unfold World.freeze
  simp only [Nat.one_ne_zero, if_false]
  simp only [Array.getElem?_modify, w1, Array.getElem?_push]
  by_cases hj : j = w.heap.size
  ·subst hj; simp
  ·have : ¬ w.heap.size = j := fun h => hj h.symm
   simp [hj, this]
 have hfr := freeze_rest w1 ⟨w.heap.size, cap, none⟩ 1
 refine ⟨.cells C e (cap, cap + 1), w1.freeze ⟨w.heap.size, cap, none⟩ 1, cap - s.size, ?_, ⟨Array.ext_getElem? hfz, hfr.2.2.1, hfr.2.2.2.1, hfr.2.2.2.2⟩, fun ρ' hc => ?_⟩
 ·have e1 : s.size + (cap - s.size) = cap := by omega
  rw [e1]
  simp only [Conv.stringToBytes, Sem.run_bind, run_choose, Question.forced, hcap, if_false, Bool.false_eq_true, Result.andThen_ok]
  rw [show (newRow e ((s.data.map fun b => Value.int .u8 b.toNat) ++ Array.replicate (cap - s.size) (.int .u8 0))).run P { w with drawn := w.drawn + 1 } = .ok ⟨w.heap.size, 0, none⟩ w1 from hrow]
  simp [markStringish, h1]
 ·refine ⟨C, (cap, cap + 1), rfl, ?_, ?_, fun i a hi => ?_⟩
  ·simp [hC, hc]
   have : s.data.size = s.size := rfl
   omega
  ·right; simp [hC]
  ·have := bytes_flats (ρ := ρ') s.data.toList
   obtain ⟨v, v1, v2⟩ := this.get hi
   refine ⟨v, ?_, v2⟩
   have hl : i < s.data.size := by have := (List.getElem?_eq_some_iff.1 v1).1; simpa using this
   simp only [Nat.zero_add, C]
   rw [Array.getElem?_append_left (by simpa using hl)]
   simp at v1 ⊢
   exact v1

theorem conv_sound (hs : Sim P ρ A.live w) {src dst : TypeId} {x : AV} {r : AR} {v : Value} (h : convA P A src dst x = some r) (hv : VR ρ x v) : ArOk P ρ A w ((vOf (convert src dst v)).run P w) r := by
 unfold convA at h
 split at h
 ·rename_i ds e s hu1 hu2
  split at h
  ·rename_i he
   split at h
   ·rename_i hc
    simp only [Bool.and_eq_true, decide_eq_true_eq] at hc
    cases h; cases hv
    obtain ⟨obj, w', room, g1, g2, g3⟩ := str_bytes_made (P := P) (e := e) s w
    refine ⟨_, obj, w', room, gives_v (by simp [convert, run_und hu1, run_und hu2, run_und he]; exact g1), g2, fun ρ' hsub hat => ⟨VR.sl (l := ⟨w.heap.size, 0, room⟩) 0 s.size s.size true hat, g3 ρ' (size_of_sizeA hc.1)⟩⟩
   ·cases h
  ·cases h
 ·rename_i e0 e n o l c b hu1 hu2
  split at h
  ·rename_i hsd he
   split at h
   ·rename_i xs e' hc
    cases h
    intro _
    cases hv with
    | sl _ _ _ _ hl =>
    rename_i lo
    obtain ⟨C, fz, b1, b2, b3, b4⟩ := hs.block (cellsOf_live hc) hl
    obtain ⟨f1, f2, f3, f4, f5⟩ := freeze_rest w ⟨lo.blk, C.size, none⟩ 1
    have hsd' : src = dst := by simpa using hsd
    refine ⟨_, w.freeze ⟨lo.blk, C.size, none⟩ 1, ρ, gives_v (by
      simp [convert, run_und hu2, run_und he, hsd', markStringish, World.shape?, b1]), .sl _ _ _ _ hl, ?_, Ext.setAt (cellsOf_live hc) hl f1 f2 f3 f4 f5⟩
    refine hs.setAt (cellsOf_live hc) hl (o' := .cells C e' (if fz.1 == fz.2 then (C.size, C.size + 1) else (min fz.1 C.size, max fz.2 (C.size + 1)))) ?_ ⟨C, _, rfl, b2, ?_, b4⟩ f1
    ·unfold World.freeze
     simp [Array.getElem?_modify, b1]
    ·split
     ·right; simp
     ·rename_i hne
      rcases b3 with b3 | b3
      ·exact absurd (by simpa using b3) hne
      ·right; simp; omega
   ·cases h
  ·cases h
 ·rename_i e hu1 hu2
  split at h
  ·rename_i he
   cases h; cases hv
   exact ⟨_, gives_v (by simp [convert, run_und hu1, run_und hu2, run_und he, Conv.bytesToString]), .flat _⟩
  ·cases h
 ·rename_i e n o len _ _ hu1 hu2
  split at h
  ·rename_i l t he hc
   split at h
   ·rename_i row hcut
    split at h
    ·rename_i ns hns
     cases h
     cases hv with
     | sl _ _ _ _ hl =>
     obtain ⟨vs, v1, v2, v3⟩ := hs.row (cellsOf_live hc) hl hcut
     have hvs := u8s_spec hns v1
     have hload := run_loadCells_list (P := P) w _ vs v3
     rw [v2, hvs] at hload
     exact ⟨_, gives_v ((run_convert_bytes_string (P := P) w src dst e _ len _ hu1 he hu2).trans (run_bytesToString (P := P) w _ len _ ns hload)), .flat _⟩
    ·cases h
   ·cases h
  ·cases h
 ·rename_i lo hi hu1 hu2
  split at h
  ·rename_i hb
   cases h
   cases hv with
   | rng h1 h2 =>
   rename_i n
   refine ⟨.int .i64 n, gives_v ?_, .rng h1 h2⟩
   have hw : IntKind.i64.wrap n = n := IntWalk.i64_in n (by omega)
   simp [convert, run_und hu1, run_und hu2, Conv.intToInt, hw]
  ·cases h
 ·rename_i v0 hu1 hu2
  split at h
  ·rename_i r' hr
   cases h; cases hv
   exact ⟨_, gives_v (pureRun_spec _ _ hr w), VR.fromV _⟩
  ·cases h
 ·cases h
end
section
variable {P : Program} {ρ : Rn} {A : AW} {w : World}
theorem Sim.iterAt (hs : Sim P ρ A.live w) {n : Nat} {l : Loc} {ao : AO} (h : A.get n = some ao) (hd : ao ≠ .dead) (hl : ρ n = some l) : ∃ o, w.heap[l.blk]? = some o /\ OR P ρ l ao o := by
 obtain ⟨l', o, h1, h2, h3⟩ := hs.obj n _ (live_of_get h hd)
 rw [hl] at h1; cases h1
 exact ⟨o, h2, h3⟩

theorem ERs.all {l : List (AV × AV × Nat)} {cs : List MapEntry} (h : ERs ρ l cs) (p : Nat -> Bool) : cs.all (fun c => p c.born) = l.all fun x => p x.2.2 := by
 induction h with
 | nil => rfl
 | cons a b c _ ih => simp only [List.all_cons, c, ih]

theorem setObj_iter {r : Nat} {o o' : Obj} (h : w.heap[r]? = some o) (hn : ∀ c t f, o ≠ .cells c t f) :
  ∃ w', (setObj r o').run P w = .ok () w' /\ w'.heap[r]? = some o' /\ (∀ b, b ≠ r -> w'.heap[b]? = w.heap[b]?) /\ w'.heap.size = w.heap.size /\ w'.os = w.os /\ w'.tape = w.tape /\ w'.output = w.output := by
 refine ⟨{ w with heap := w.heap.setIfInBounds r o' }, ?_, ?_, ?_, by simp, rfl, rfl, rfl⟩
 ·cases o with
  | cells c t f => exact absurd rfl (hn c t f)
  | _ => simp [setObj, Sem.run, h]
 ·have := (Array.getElem?_eq_some_iff.1 h).1
  simp [this]
 ·intro b hb
  simp [Ne.symm hb]

theorem run_get {r : Nat} {o : Obj} (h : w.heap[r]? = some o) (hn : ∀ c t f, o ≠ .cells c t f) : (getObj r).run P w = .ok o w := by
 cases o with
 | cells c t f => exact absurd rfl (hn c t f)
 | _ => simp [getObj, Sem.run, h]

theorem run_next_map {r m since last clock : Nat} {sp : Option Nat} {cs : List MapEntry} {seen : List Nat} {ty : TypeId} (h1 : w.heap[r]? = some (.mapIter (some m) since seen.toArray last)) (h2 : w.heap[m]? = some (.map cs.toArray clock))
  (hok : (!seen.isEmpty && !cs.isEmpty && cs.all fun c => decide (c.born ≥ last)) = false) {L : List MapEntry} (hL : cs.filter (fun c => !seen.contains c.born) = L) (hall : ∀ c ∈ L, c.born < since) :
  (L = [] -> (Instr.next (.pointer (some ⟨r, 0, sp⟩)) false ty).run P w = .ok (.tuple #[.bool false]) w) ∧
  (L ≠ [] -> ∃ (i : Nat) (c : MapEntry) (wd : World), L[i]? = some c /\ (wd = w \/ wd = { w with drawn := w.drawn + 1 }) ∧
   (Instr.next (.pointer (some ⟨r, 0, sp⟩)) false ty).run P w = ((setObj r (.mapIter (some m) since (seen ++ [c.born]).toArray clock)).run P wd).andThen fun _ w' => .ok (.tuple #[.bool true, c.key, c.val]) w') := by
 have g1 := run_get (P := P) h1 (by simp)
 have g2 := run_get (P := P) h2 (by simp)
 have e1 : (cs.toArray.filter fun e => !seen.toArray.contains e.born) = L.toArray := by
  rw [<- hL]; simp
 have e2 : (L.toArray.filter fun e => decide (e.born < since)) = L.toArray := by
  simp
  intro c hc; exact hall c hc
 have e3 : (L.toArray.filter fun e => decide (e.born ≥ since)) = #[] := by
  simp
  intro c hc; have := hall c hc; omega
 have hok' : (!seen.toArray.isEmpty && !cs.toArray.isEmpty && cs.toArray.all fun c => decide (c.born ≥ last)) = false := by
  simpa using hok
 constructor
 ·rintro rfl
  simp only [Instr.next, Sem.run_bind, g1, Result.andThen_ok, g2, hok', e1, e2, e3]
  simp [Question.forced]
 ·intro hne
  have hem : L.toArray.isEmpty = false := by cases L <;> simp at hne ⊢
  have hc : ((if L.toArray.isEmpty then #[none] else #[]) ++ (L.toArray ++ #[]).map some : Array (Option MapEntry)) = (L.map some).toArray := by
   simp [hem]
  have hpos : 0 < L.length := by cases L with | nil => exact absurd rfl hne | cons => simp
  by_cases hone : L.length <= 1
  ·obtain ⟨c, h0⟩ : ∃ c, L[0]? = some c := ⟨L[0], List.getElem?_eq_getElem hpos⟩
   refine ⟨0, c, w, h0, .inl rfl, ?_⟩
   simp only [Instr.next, Sem.run_bind, g1, Result.andThen_ok, g2, hok', e1, e2, e3, hc]
   simp [Question.forced, hone, h0]
  ·have hlt : (w.tape w.drawn (.mapNext L.length)) % L.length < L.length := Nat.mod_lt _ hpos
   obtain ⟨c, h0⟩ : ∃ c, L[(w.tape w.drawn (.mapNext L.length)) % L.length]? = some c := ⟨_, List.getElem?_eq_getElem hlt⟩
   refine ⟨(w.tape w.drawn (.mapNext L.length)) % L.length, c, { w with drawn := w.drawn + 1 }, h0, .inr rfl, ?_⟩
   simp only [Instr.next, Sem.run_bind, g1, Result.andThen_ok, g2, hok', e1, e2, e3, hc]
   simp [Question.forced, hone, Question.cut, h0]

theorem sameNats_spec : ∀ {a b : List Nat}, sameNats a b = true -> a = b
 | [], [], _ => rfl
 | [], _ :: _, h | _ :: _, [], h => by simp [sameNats] at h
 | a :: l, b :: m, h => by
  simp only [sameNats, Bool.and_eq_true] at h
  rw [Nat.eq_of_beq_eq_true h.1, sameNats_spec h.2]

theorem rising_spec : ∀ {l : List Nat}, rising l = true -> l.Pairwise (· < ·)
 | [], _ => .nil
 | [a], _ => by simp
 | a :: b :: l, h => by
  simp only [rising, Bool.and_eq_true] at h
  have h1 : a < b := by simpa [Nat.blt_eq] using h.1
  have h2 := rising_spec h.2
  rw [List.pairwise_cons]
  refine ⟨fun c hc => ?_, h2⟩
  rcases List.mem_cons.1 hc with rfl | hc
  ·exact h1
  ·exact Nat.lt_trans h1 ((List.pairwise_cons.1 h2).1 c hc)

theorem rising_inj {l : List Nat} (h : rising l = true) {i j : Nat} (hi : i < l.length) (hj : j < l.length) (e : l.getD i 0 = l.getD j 0) : i = j := by
 have hp := List.pairwise_iff_getElem.1 (rising_spec h)
 simp only [List.getD_eq_getElem?_getD, List.getElem?_eq_getElem hi, List.getElem?_eq_getElem hj, Option.getD_some] at e
 rcases Nat.lt_trichotomy i j with k | k | k
 ·have := hp i j hi hj k; omega
 ·exact k
 ·have := hp j i hj hi k; omega

theorem nodup_le : ∀ (l m : List Nat), l.Nodup -> (∀ x ∈ l, x ∈ m) -> l.length <= m.length
 | [], _, _, _ => Nat.zero_le _
 | a :: l, m, h, k => by
  have ha := k a (by simp)
  have hn := List.nodup_cons.1 h
  have := nodup_le l (m.erase a) hn.2 fun x hx => (List.mem_erase_of_ne (by rintro rfl; exact hn.1 hx)).2 (k x (by simp [hx]))
  have h0 : 0 < m.length := List.length_pos_of_mem ha
  rw [List.length_erase_of_mem ha] at this
  simp only [List.length_cons]; omega

theorem nodup_full {l : List Nat} {n : Nat} (h : l.Nodup) (hl : ∀ i ∈ l, i < n) (he : l.length = n) (j : Nat) (hj : j < n) : j ∈ l := by
 apply Classical.byContradiction
 intro hn
 have := nodup_le (j :: l) (List.range n) (List.nodup_cons.2 ⟨hn, h⟩) fun x hx => by
  rcases List.mem_cons.1 hx with rfl | hx
  ·simpa using hj
  ·simpa using hl x hx
 simp at this; omega

theorem nodup_hole {l : List Nat} {n : Nat} (he : l.length < n) : ∃ j, j < n /\ j ∉ l := by
 apply Classical.byContradiction
 intro hn
 have hall : ∀ j, j < n -> j ∈ l := fun j hj => Classical.byContradiction fun h => hn ⟨j, hj, h⟩
 have := nodup_le (List.range n) l List.nodup_range fun x hx => hall x (by simpa using hx)
 simp at this; omega

theorem Sim.sub {H : Nat -> Option AO} {ρ' : Rn} (hs : Sim P ρ H w) (s : Sub ρ ρ') : Sim P ρ' H w where
 obj n ao h := by obtain ⟨l, o, a, b, c⟩ := hs.obj n ao h; exact ⟨l, o, s _ _ a, b, c.mono s⟩
 inj n m a b l l' h1 h2 e1 e2 he := by
  obtain ⟨l1, _, a1, _⟩ := hs.obj n a h1
  obtain ⟨l2, _, a2, _⟩ := hs.obj m b h2
  have := s _ _ a1; rw [e1] at this; cases this
  have := s _ _ a2; rw [e2] at this; cases this
  exact hs.inj n m a b l l' h1 h2 a1 a2 he

theorem Ext.name (hs : Sim P ρ A.live w) (c : Loc) (hf : ρ A.next = none) : Ext ρ w A (upd ρ A.next c) w { A with next := A.next + 1 } where
 sub := upd_sub hf
 fresh m e k := by
  by_cases h : m = A.next
  ·subst h; exact ⟨Nat.le_refl _, Nat.lt_succ_self _⟩
  ·simp only [upd, if_neg h] at k; exact absurd e k
 next := Nat.le_succ _
 dom m ao h := .inl ⟨ao, h⟩
 back m ao l h e := by
  refine .inr ⟨m, ao, l, h, ?_, rfl⟩
  obtain ⟨l2, _, e2, _⟩ := hs.obj m ao h
  have := upd_sub (l := c) hf _ _ e2
  rw [e] at this; cases this; exact e2
 keep _ _ _ := rfl
 size := Nat.le_refl _
 os := rfl
 tape := rfl
 output := rfl

theorem pickOf_sound {n i : Nat} {es : List (AV × AV × Nat)} {cs : List MapEntry} {k : AV} {l : List AV} {c : Loc} {ce : MapEntry} (h : pickOf n i es = some (k, l)) (he : ERs ρ es cs) (hn : ρ n = some c) (hc : cs[c.blk]? = some ce) :
  VR ρ k ce.key /\ ((∃ x, l = [x] /\ VR ρ x ce.val) \/ l = []) := by
 have hlt : c.blk < es.length := by have := he.length; have := (List.getElem?_eq_some_iff.1 hc).1; omega
 obtain ⟨c', g1, g2, g3, g4⟩ := he.get (List.getElem?_eq_getElem hlt)
 rw [hc] at g1; cases g1
 unfold pickOf at h
 split at h
 ·cases h
  have : c.blk = 0 := by simpa using hlt
  simp [this] at g2 g3
  exact ⟨g2, .inl ⟨_, rfl, g3⟩⟩
 ·split at h
  ·rename_i hone
   cases h
   have ho := List.all_eq_true.1 hone _ (List.getElem_mem hlt)
   refine ⟨.pick i hn (by rw [List.getElem?_map, List.getElem?_eq_getElem hlt]; rfl) ho g2, ?_⟩
   split
   ·rename_i hv
    have hv' := List.all_eq_true.1 hv _ (List.getElem_mem hlt)
    exact .inl ⟨_, rfl, .pick i hn (by rw [List.getElem?_map, List.getElem?_eq_getElem hlt]; rfl) hv' g3⟩
   ·exact .inr rfl
  ·cases h

theorem ERs.births {l : List (AV × AV × Nat)} {cs : List MapEntry} (h : ERs ρ l cs) : cs.map (·.born) = l.map (·.2.2) := by
 induction h with
 | nil => rfl
 | cons _ _ e _ ih => simp [ih, e]

theorem next_sound (hs : Sim P ρ A.live w) {it : AV} {b : Bool} {ty : TypeId} {r : AR} {v : Value} (h : nextA A it b = some r) (hv : VR ρ it v) : ArOk P ρ A w ((vOf (Instr.next v b ty)).run P w) r := by
 unfold nextA at h
 split at h
 ·rename_i n
  cases hv with
  | ptr _ hl =>
  rename_i l
  obtain ⟨lb, lbase, lroom⟩ := l
  split at h
  ·-- a text
   rename_i s pos hg
   obtain ⟨o, h1, h2, h3⟩ := hs.iterAt hg (by simp) hl
   simp only at h1 h2
   subst h2
   subst h3
   have hgo := run_get (P := P) h1 (by simp)
   split at h
   ·rename_i hp
    cases h
    intro _
    obtain ⟨w', s1, s2, s3, s4, s5, s6, s7⟩ := setObj_iter (P := P) (o' := .stringIter s (pos + (Utf8.decode s pos).2)) h1 (by simp)
    refine ⟨_, w', ρ, gives_v (x := .tuple #[.bool true, goInt pos, .int .i32 (Utf8.decode s pos).1]) ?_, ?_, hs.setAt (live_of_get hg (by simp)) hl s2 ⟨rfl, rfl⟩ s3, Ext.setAt (live_of_get hg (by simp)) hl s3 s4 s5 s6 s7⟩
    ·simp [Instr.next, hgo, hp, s1]
    ·exact .tup (.cons (.flat _) (.cons (.flat _) (.cons (.flat _) .nil)))
   ·rename_i hp
    cases h
    refine ⟨_, gives_v (x := .tuple #[.bool false]) ?_, .tup (.cons (.flat _) .nil)⟩
    simp [Instr.next, hgo, hp]
  ·rename_i _ _ _ _ hg
   obtain ⟨o, h1, h2, mr, sn, h3, h4, -⟩ := hs.iterAt hg (by simp) hl
   simp only at h1 h2 h4
   subst h2; subst h3; subst h4
   have hgo := run_get (P := P) h1 (by simp)
   cases h
   refine ⟨_, gives_v (x := .tuple #[.bool false]) ?_, .tup (.cons (.flat _) .nil)⟩
   simp [Instr.next, hgo]
  ·rename_i m since seen bs last hg
   obtain ⟨o, h1, h2, mr, sn, h3, ⟨lm, h4, h5⟩, idx, d1, d2, d3, d4⟩ := hs.iterAt hg (by simp) hl
   simp only at h1 h2
   subst h2; subst h3; subst h5
   split at h
   ·rename_i es clock hgm
    obtain ⟨cs, m1, m2⟩ := hs.mapAt hgm h4
    split at h
    ·cases h
    ·rename_i hok
     have hsl : sn.length = seen.length := by rw [d4, List.length_map, d1.length]
     have hokc : (!sn.isEmpty && !cs.isEmpty && cs.all fun c => decide (c.born ≥ last)) = false := by
      have e1 : cs.isEmpty = es.isEmpty := by
       have := m2.length
       cases es <;> cases cs <;> simp at this ⊢
      have e2 : sn.isEmpty = seen.isEmpty := by cases sn <;> cases seen <;> simp at hsl ⊢
      rw [m2.all (fun b => decide (b ≥ last)), e1, e2]
      simpa using hok
     split at h
     ·rename_i hb
      simp only [Bool.and_eq_true] at hb
      obtain ⟨⟨hb1, hb2⟩, hb3⟩ := hb
      have hbs : cs.map (·.born) = bs := m2.births.trans (sameNats_spec hb1)
      have hbl : bs.length = cs.length := by rw [<- hbs, List.length_map]
      have hborn : ∀ j c, cs[j]? = some c -> bs.getD j 0 = c.born := fun j c e => by
       rw [<- hbs, List.getD_eq_getElem?_getD, List.getElem?_map, e]; rfl
      have hall : ∀ c ∈ cs, c.born < since := fun c hc => by
       have : c.born ∈ bs := by rw [<- hbs]; exact List.mem_map.2 ⟨c, hc, rfl⟩
       simpa using List.all_eq_true.1 hb3 _ this
      generalize hL : cs.filter (fun c => !sn.contains c.born) = L
      have hallL : ∀ c ∈ L, c.born < since := fun c hc => hall c (by rw [<- hL] at hc; exact (List.mem_filter.1 hc).1)
      obtain ⟨r1, r2⟩ := run_next_map (P := P) (sp := none) (ty := ty) h1 m1 hokc hL hallL
      split at h
      ·rename_i hlen
       cases h
       have hlen' : idx.length = bs.length := by rw [d1.length]; simpa using hlen
       have hnil : L = [] := by
        rw [<- hL, List.filter_eq_nil_iff]
        intro c hc
        obtain ⟨j, hj⟩ := List.mem_iff_getElem?.1 hc
        have hjl : j < bs.length := by rw [hbl]; exact (List.getElem?_eq_some_iff.1 hj).1
        have hm := nodup_full d2 d3 hlen' j hjl
        have : c.born ∈ sn := by rw [d4, <- hborn j c hj]; exact List.mem_map.2 ⟨j, hm, rfl⟩
        simp [this]
       exact ⟨_, gives_v (by simpa using r1 hnil), .tup (.cons (.flat _) .nil)⟩
      ·split at h
       ·rename_i hlt
        split at h
        ·rename_i k l hp
         cases h
         intro hfree
         have hf : ρ A.next = none := hfree A.next (Nat.le_refl _) (Nat.lt_succ_self _)
         have hne : L ≠ [] := by
          obtain ⟨j, j1, j2⟩ := nodup_hole (l := idx) (n := bs.length) (by rw [d1.length]; exact hlt)
          intro hnil
          have hjc : cs[j]? = some (cs[j]'(by omega)) := List.getElem?_eq_getElem (by omega)
          have hmem : cs[j]'(by omega) ∈ L := by
           rw [<- hL, List.mem_filter]
           refine ⟨List.getElem_mem _, ?_⟩
           have : (cs[j]'(by omega)).born ∉ sn := by
            rw [d4, <- hborn j _ hjc]
            intro hm
            obtain ⟨i, i1, i2⟩ := List.mem_map.1 hm
            exact j2 (rising_inj hb2 (d3 i i1) j1 i2 ▸ i1)
           simp [this]
          rw [hnil] at hmem; cases hmem
         obtain ⟨i, c, wd, i1, i2, i3⟩ := r2 hne
         have hcL : c ∈ L := List.mem_of_getElem? i1
         rw [<- hL, List.mem_filter] at hcL
         obtain ⟨hc1, hc2⟩ := hcL
         obtain ⟨j, hj⟩ := List.mem_iff_getElem?.1 hc1
         have hjl : j < bs.length := by rw [hbl]; exact (List.getElem?_eq_some_iff.1 hj).1
         have hjn : j ∉ idx := fun hm => by
          have : c.born ∈ sn := by rw [d4, <- hborn j c hj]; exact List.mem_map.2 ⟨j, hm, rfl⟩
          simp [this] at hc2
         have hsub := upd_sub (l := ⟨j, 0, 0⟩) hf
         have hs' : Sim P (upd ρ A.next ⟨j, 0, 0⟩) ({ A with next := A.next + 1 } : AW).live w := hs.sub hsub
         obtain ⟨q1, q2⟩ := pickOf_sound hp (m2.mono hsub) (upd_at (ρ := ρ) (n := A.next) (l := ⟨j, 0, 0⟩)) hj
         have hwd : wd.heap = w.heap /\ wd.os = w.os /\ wd.tape = w.tape /\ wd.output = w.output := by
          rcases i2 with rfl | rfl <;> exact ⟨rfl, rfl, rfl, rfl⟩
         obtain ⟨w', s1, s2, s3, s4, s5, s6, s7⟩ := setObj_iter (P := P) (w := wd) (o' := .mapIter (some lm.blk) since (sn ++ [c.born]).toArray clock) (by rw [hwd.1]; exact h1) (by simp)
         rw [hwd.1] at s3 s4
         have hlive : ({ A with next := A.next + 1 } : AW).live n = some (.miter (some m) since seen bs last) := live_of_get hg (by simp)
         refine ⟨.tuple #[.bool true, c.key, c.val], w', upd ρ A.next ⟨j, 0, 0⟩, gives_v ?_, ?_,
          hs'.setAt (ao := .miter (some m) since (seen ++ [A.next]) bs clock) hlive (hsub _ _ hl) s2 ⟨rfl, _, sn ++ [c.born], rfl, ⟨lm, hsub _ _ h4, rfl⟩, idx ++ [j], (d1.mono hsub).snoc upd_at, ?_, ?_, ?_⟩ s3,
          (Ext.name hs ⟨j, 0, 0⟩ hf).trans (Ext.setAt hlive (hsub _ _ hl) s3 s4 (s5.trans hwd.2.1) (s6.trans hwd.2.2.1) (s7.trans hwd.2.2.2))⟩
         ·have := i3
          rw [s1] at this
          simpa using this
         ·rcases q2 with ⟨x, rfl, q2⟩ | rfl
          ·exact .tup (.cons (.flat _) (.cons q1 (.cons q2 .nil)))
          ·exact VR.tupx (vs := [.bool true, c.key]) (ws := [c.val]) (.cons (.flat _) (.cons q1 .nil))
         ·rw [List.nodup_append]
          refine ⟨d2, by simp, ?_⟩
          intro a ha b hb e
          simp at hb; subst hb; subst e; exact hjn ha
         ·intro a ha
          rcases List.mem_append.1 ha with ha | ha
          ·exact d3 a ha
          ·simp at ha; subst ha; exact hjl
         ·rw [List.map_append, <- d4]; simp only [List.map_cons, List.map_nil]; rw [hborn j c hj]
        ·cases h
       ·cases h
     ·cases h
   ·cases h
  ·cases h
 ·cases h

theorem entry_sound (hs : Sim P ρ A.live w) {it x : AV} {v : Value} (h : entryOfA A it = some x) (hv : VR ρ it v) : ∃ y, (Instr.entry v).run P w = .ok y w /\ VR ρ x y := by
 unfold entryOfA at h
 split at h
 ·rename_i n
  cases hv with
  | ptr _ hl =>
  rename_i l
  obtain ⟨lb, lbase, lroom⟩ := l
  split at h
  ·rename_i m _ seen bs stepped hg
   obtain ⟨o, h1, h2, mr, sn, h3, ⟨lm, h4, h5⟩, idx, d1, d2, d3, d4⟩ := hs.iterAt hg (by simp) hl
   simp only at h1 h2
   subst h2; subst h3; subst h5
   split at h
   ·rename_i es clock b hgm hb
    obtain ⟨cs, m1, m2⟩ := hs.mapAt hgm h4
    split at h
    ·rename_i hck
     simp only [Bool.and_eq_true] at hck
     obtain ⟨⟨hck, hb1⟩, hb2⟩ := hck
     have hck := Nat.eq_of_beq_eq_true hck
     subst hck
     split at h
     ·rename_i k l hp
      cases h
      have hbs : cs.map (·.born) = bs := m2.births.trans (sameNats_spec hb1)
      have hbl : bs.length = cs.length := by rw [<- hbs, List.length_map]
      obtain ⟨c, j, e1, e2, e3⟩ : ∃ (c : Loc) (j : Nat), ρ b = some c /\ c.blk = j /\ idx.getLast? = some j := by
       clear d2 d3 d4 hp hg h1
       induction d1 with
       | nil => simp at hb
       | @cons n0 c0 ns is hc hd ih =>
        cases hd with
        | nil => simp at hb; subst hb; exact ⟨_, _, hc, rfl, rfl⟩
        | cons hc2 hd2 =>
         rw [List.getLast?_cons_cons] at hb
         obtain ⟨c, j, a1, a2, a3⟩ := ih hb
         exact ⟨c, j, a1, a2, by rw [List.getLast?_cons_cons]; exact a3⟩
      have hjl : j < bs.length := d3 j (List.mem_of_getLast? e3)
      have hj : cs[j]? = some (cs[j]'(by omega)) := List.getElem?_eq_getElem (by omega)
      generalize cs[j]'(by omega) = ce at hj
      subst e2
      obtain ⟨q1, q2⟩ := pickOf_sound hp m2 e1 hj
      have hborn : ∀ j c, cs[j]? = some c -> bs.getD j 0 = c.born := fun j c e => by
       rw [<- hbs, List.getD_eq_getElem?_getD, List.getElem?_map, e]; rfl
      have g1 := run_get (P := P) h1 (by simp)
      have g2 := run_get (P := P) m1 (by simp)
      have hb' : sn.toArray.back? = some ce.born := by
       rw [d4, <- hborn _ _ hj]; simp [e3]
      have hfind : cs.find? (fun x => x.born == ce.born) = some ce := by
       rw [List.find?_eq_some_iff_getElem]
       refine ⟨by simp, c.blk, by omega, ?_, ?_⟩
       ·exact (List.getElem?_eq_some_iff.1 hj).2
       ·intro i hi
        have hic : cs[i]? = some (cs[i]'(by omega)) := List.getElem?_eq_getElem (by omega)
        have n1 := hborn i _ hic
        have n2 := hborn _ _ hj
        have : ¬ (cs[i]'(by omega)).born = ce.born := fun e => by
         have := rising_inj hb2 (i := i) (j := c.blk) (by omega) hjl (by rw [n1, n2, e])
         omega
        simpa using this
      refine ⟨.tuple #[ce.key, ce.val], ?_, ?_⟩
      ·simp [Instr.entry, g1, g2, hb', hfind]
      ·rcases q2 with ⟨x, rfl, q2⟩ | rfl
       ·exact .tup (.cons q1 (.cons q2 .nil))
       ·exact VR.tupx (vs := [ce.key]) (ws := [ce.val]) (.cons q1 .nil)
     ·cases h
    ·cases h
   ·cases h
  ·cases h
 ·cases h

theorem range_sound {t : TypeId} {x : AV} {v : Value} (hs : Sim P ρ A.live w) (hv : VR ρ x v) :
  (∀ s, P.underlying t = some .string -> x = .flat (.string s) -> ∃ w', (Instr.range t v).run P w = .ok (.pointer (some ⟨w.heap.size, 0, none⟩)) w' /\ Pushed w (.stringIter s 0) w') ∧
  (∀ k e, P.underlying t = some (.map k e) -> x = .flat (.map none) -> ∃ w', (Instr.range t v).run P w = .ok (.pointer (some ⟨w.heap.size, 0, none⟩)) w' /\ Pushed w (.mapIter none 0 #[] 0) w') ∧
  (∀ k e m es clock, P.underlying t = some (.map k e) -> x = .mp m -> A.get m = some (.map es clock) -> ∃ w' l, ρ m = some l /\ (Instr.range t v).run P w = .ok (.pointer (some ⟨w.heap.size, 0, none⟩)) w' /\ Pushed w (.mapIter (some l.blk) clock #[] clock) w') := by
 refine ⟨?_, ?_, ?_⟩
 ·rintro s hu rfl; cases hv
  exact ⟨w.alloc (.stringIter s 0), by simp [Instr.range, run_und hu], ⟨rfl, rfl, rfl, rfl⟩⟩
 ·rintro k e hu rfl; cases hv
  exact ⟨w.alloc (.mapIter none 0 #[] 0), by simp [Instr.range, run_und hu], ⟨rfl, rfl, rfl, rfl⟩⟩
 ·rintro k e m es clock hu rfl hg
  cases hv with
  | mp hl =>
  rename_i l
  obtain ⟨cs, m1, m2⟩ := hs.mapAt hg hl
  have g2 := run_get (P := P) m1 (by simp)
  exact ⟨w.alloc (.mapIter (some l.blk) clock #[] clock), l, hl, by simp [Instr.range, run_und hu, g2], ⟨rfl, rfl, rfl, rfl⟩⟩
end
section
variable {P : Program} {ρ : Rn} {A : AW} {w : World}
theorem find_clone (fn : Func) (hn : fn.name = "maps.clone") (ho : fn.origin = "") : Extern.findNext fn = none /\ Extern.find fn = some Extern.MapsClone.clone := by
 have h1 : Extern.allNextRows.lookup "maps.clone" = none := by kernel_rfl
 have h2 : Extern.allNextRows.lookup "" = none := by kernel_rfl
 have h3 : Extern.allGenericRows.lookup "maps.clone" = none := by kernel_rfl
 have h4 : Extern.allTypedRows.lookup "maps.clone" = none := by kernel_rfl
 have h5 : Extern.allRows.lookup "maps.clone" = some Extern.MapsClone.clone := by kernel_rfl
 constructor
 ·simp [Extern.findNext, hn, ho, h1, h2]
 ·simp [Extern.find, hn, ho, h3, h4, h5]

def add64 : Array Value -> Sem Value := fun args => do
 let (x, y, c) <- Extern.MathBitsCarry.three "Add64" args
 pure (Extern.MathBitsCarry.pair ((x + y + c) % Extern.MathBitsCarry.m64) ((x + y + c) / Extern.MathBitsCarry.m64))

theorem find_add (fn : Func) (hn : fn.name = "math/bits.Add64") (ho : fn.origin = "") : Extern.findNext fn = none /\ Extern.find fn = some add64 := by
 have h1 : Extern.allNextRows.lookup "math/bits.Add64" = none := by kernel_rfl
 have h2 : Extern.allNextRows.lookup "" = none := by kernel_rfl
 have h3 : Extern.allGenericRows.lookup "math/bits.Add64" = none := by kernel_rfl
 have h4 : Extern.allTypedRows.lookup "math/bits.Add64" = none := by kernel_rfl
 have h5 : Extern.allRows.lookup "math/bits.Add64" = some add64 := by kernel_rfl
 constructor
 ·simp [Extern.findNext, hn, ho, h1, h2]
 ·simp [Extern.find, hn, ho, h3, h4, h5]

theorem add64_run (x y c : Nat) (hc : c <= 1) (w : World) : (add64 #[.int .u64 (.ofNat x), .int .u64 (.ofNat y), .int .u64 (.ofNat c)]).run P w = .ok (.tuple #[.int .u64 (((x + y + c) % 18446744073709551616 : Nat) : Int), .int .u64 (((x + y + c) / 18446744073709551616 : Nat) : Int)]) w := by
 rcases (show c = 0 \/ c = 1 by omega) with e | e <;> subst e <;> rfl

theorem callFunc_body {f : FuncId} {fn : Func} {c : Code} (hf : P.funcs[f]? = some fn) (hb : fn.body = some c) (hn : (fn.name == "runtime.NumGoroutine") = false) (args : Array Value) (w : World) : (callFunc f args).run P w = .ok (.enter f args) w := by
 simp [callFunc, hf, hb]
 intro h; simp [h] at hn

theorem callFunc_ext {f : FuncId} {fn : Func} {e : Array Value -> Sem Value} (hf : P.funcs[f]? = some fn) (hb : fn.body = none) (hn : (fn.name == "runtime.NumGoroutine") = false) (h1 : Extern.findNext fn = none) (h2 : Extern.find fn = some e) (args : Array Value) (w : World) :
  (callFunc f args).run P w = (vOf (e args)).run P w := by
 unfold vOf
 simp [callFunc, hf, hb, h1, h2]
 intro h; simp [h] at hn

def Named (P : Program) : Prop := ∀ (f : FuncId) (fn : Func), P.funcs[f]? = some fn -> (fn.name == "runtime.NumGoroutine") = false

theorem extern_sound (hs : Sim P ρ A.live w) (hN : Named P) {f : FuncId} {fn : Func} {args : List AV} {vs : List Value} {r : AR} (hf : P.funcs[f]? = some fn) (hb : fn.body = none) (ho : fn.origin = "") (h : externA A fn.name args = some r) (hv : VRs ρ args vs) :
  ArOk P ρ A w ((callFunc f vs.toArray).run P w) r := by
 unfold externA at h
 split at h
 ·rename_i tt nn hname
  obtain ⟨e1, e2⟩ := find_clone fn hname ho
  rw [callFunc_ext hf hb (hN _ _ hf) e1 e2]
  split at h
  ·rename_i es clock hg
   cases h
   cases hv with
   | cons h1 h2 =>
   cases h2
   cases h1 with
   | ifc _ h1 =>
   cases h1 with
   | mp hl =>
   rename_i l
   obtain ⟨cs, m1, m2⟩ := hs.mapAt hg hl
   have g2 := run_get (P := P) m1 (by simp)
   have hcl : ∀ (t : TypeId) (b : Nat), Extern.MapsClone.clone #[.iface t (.map (some b))] = (do
     let .map entries next <- getObj b | stuck "maps.clone: a map expected"
     pure (.iface t (.map (some (<- newObj (.map entries next)))))) := fun _ _ => rfl
   refine ⟨_, .map cs.toArray clock, w.alloc (.map cs.toArray clock), 0, gives_v (x := .iface tt (.map (some w.heap.size))) ?_, ⟨rfl, rfl, rfl, rfl⟩, fun ρ' hsub hat => ⟨?_, cs, rfl, m2.mono hsub⟩⟩
   ·simp [hcl, g2]
   ·exact .ifc tt (VR.mp (l := ⟨w.heap.size, 0, 0⟩) hat)
  ·cases h
 ·rename_i x y c hname
  obtain ⟨e1, e2⟩ := find_add fn hname ho
  rw [callFunc_ext hf hb (hN _ _ hf) e1 e2]
  split at h
  ·rename_i hc
   cases h
   cases hv with
   | cons h1 h2 =>
   cases h2 with
   | cons h2 h3 =>
   cases h3 with
   | cons h3 h4 =>
   cases h4; cases h1; cases h2; cases h3
   exact ⟨_, gives_v (add64_run x y c hc w), .tup (.cons (.flat _) (.cons (.flat _) .nil))⟩
  ·cases h
 ·cases h
end
section
variable {P : Program} {ρ : Rn} {A : AW} {w : World}
theorem bind_some {α β : Type} {x : Option α} {f : α -> Option β} {b : β} (h : x.bind f = some b) : ∃ a, x = some a /\ f a = some b := by
 cases x with
 | none => cases h
 | some a => exact ⟨a, rfl, h⟩
theorem map_some {α β : Type} {x : Option α} {f : α -> β} {b : β} (h : x.map f = some b) : ∃ a, x = some a /\ f a = b := by
 cases x with
 | none => cases h
 | some a => exact ⟨a, rfl, by simpa using h⟩

theorem argOk {s : Sem Value} {v : AV} (h : ∃ x, s.run P w = .ok x w /\ VR ρ v x) : ArOk P ρ A w ((vOf s).run P w) (.val v) := by
 obtain ⟨x, e, k⟩ := h
 exact ⟨x, gives_v e, k⟩
theorem nextOk {x : Value} {v : AV} (h : VR ρ v x) : ArOk P ρ A w ((pure (.value x) : Sem Next).run P w) (.val v) := ⟨x, .inl rfl, h⟩

theorem len_sound (hs : Sim P ρ A.live w) {t : TypeId} {ats : Array TypeId} {ty : TypeId} {x : AV} {n : Nat} {v : Value} (ht : ats[0]? = some t) (h : lenA P A t x = some n) (hv : VR ρ x v) :
  (Builtin.len_ ats ty #[v]).run P w = .ok (goInt n) w := by
 unfold lenA at h
 split at h
 ·rename_i s hu; cases h; cases hv; simp [Builtin.len_, ht, run_und hu]
 ·rename_i k hu; cases h; simp [Builtin.len_, ht, run_und hu]
 ·rename_i hu; cases h; cases hv; simp [Builtin.len_, ht, run_und hu]
 ·rename_i hu; cases h; cases hv; simp [Builtin.len_, ht, run_und hu]
 ·rename_i hu; cases h; cases hv; simp [Builtin.len_, ht, run_und hu]
 ·rename_i hu; cases h; cases hv; simp [Builtin.len_, ht, run_und hu]
 ·rename_i m hu
  split at h
  ·rename_i es cl hg
   cases h
   cases hv with
   | mp hl =>
   obtain ⟨cs, m1, m2⟩ := hs.mapAt hg hl
   simp [Builtin.len_, ht, run_und hu, run_get (P := P) m1 (by simp), m2.length]
  ·cases h
 ·cases h

theorem builtin_sound (hs : Sim P ρ A.live w) {b : Builtin} {ats : Array TypeId} {ty : TypeId} {consts : Array Bool} {args : List AV} {vs : List Value} {r : AR} (h : builtinA P A b ats ty args = some r) (hv : VRs ρ args vs) :
  ArOk P ρ A w ((builtin b ats ty consts vs.toArray).run P w) r := by
 unfold builtinA at h
 split at h
 ·rename_i x
  cases hv with
  | cons h1 h2 =>
  cases h2
  split at h
  ·rename_i t ht
   obtain ⟨n, e, rfl⟩ := map_some h
   exact argOk ⟨_, len_sound hs ht e h1, .flat _⟩
  ·cases h
 ·cases hv with
  | cons h1 h2 =>
  cases h2 with
  | cons h2 h3 =>
  cases h3
  exact append_sound hs h h1 h2
 ·cases hv with
  | cons h1 h2 =>
  cases h2
  split at h
  ·rename_i t ht
   exact clear_sound (ats := ats) (ty := ty) hs ht h h1
  ·cases h
 ·cases hv with
  | cons h1 h2 =>
  cases h2 with
  | cons h2 h3 =>
  cases h3
  split at h
  ·rename_i t ht
   obtain ⟨A', e, rfl⟩ := map_some h
   obtain ⟨w', d1, d2, d3⟩ := delete_sound (ats := ats) (ty := ty) hs ht e h1 h2
   exact fun _ => ⟨_, w', ρ, gives_v d1, .flat _, d2, d3⟩
  ·cases h
 ·cases hv with
  | cons h1 h2 =>
  cases h2 with
  | cons h2 h3 =>
  cases h3
  exact copy_sound hs h h1 h2
 ·rename_i p n
  cases hv with
  | cons h1 h2 =>
  cases h2 with
  | cons h2 h3 =>
  cases h3
  cases h2
  split at h
  ·rename_i pt it b o hats
   cases h1 with
   | ptr _ hl =>
   split at h
   ·rename_i u l e hu hc
    split at h
    ·rename_i r' hcut
     split at h
     ·rename_i bs hb
      split at h
      ·rename_i hk
       cases h
       simp only [Bool.and_eq_true, decide_eq_true_eq] at hk
       obtain ⟨⟨⟨k1, k2⟩, k3⟩, k4⟩ := hk
       obtain ⟨w', e1, e2, e3⟩ := unsafeString_sound (it := it) (ty := ty) hs hu hc hl hcut hb k1 k2 k3 k4
       have hats' : ats = #[pt, it] := by rw [<- Array.toList_inj]; simpa using hats
       subst hats'
       exact fun _ => ⟨_, w', ρ, gives_v e1, .flat _, e2, e3⟩
      ·cases h
     ·cases h
    ·cases h
   ·cases h
  ·cases h
 ·split at h
  ·rename_i us hus
   unfold wholeFlat at hus
   obtain ⟨us', hus', rfl⟩ := map_some hus
   rw [toVs_spec hus' hv]
   split at h
   ·rename_i v hp
    cases h
    have := pureRun_spec _ _ hp w
    exact ⟨v, .inl this, VR.fromV v⟩
   ·cases h
  ·cases h
 ·split at h
  ·rename_i us hus
   unfold wholeFlat at hus
   obtain ⟨us', hus', rfl⟩ := map_some hus
   rw [toVs_spec hus' hv]
   split at h
   ·rename_i v hp
    cases h
    have := pureRun_spec _ _ hp w
    exact ⟨v, .inl this, VR.fromV v⟩
   ·cases h
  ·cases h
 ·cases h

theorem VRs.evs {T : Tr AV} {c : Operand -> Value} {l : List Operand} (h : ∀ x ∈ l, VR ρ (ev T x) (c x)) : VRs ρ (l.map (ev T)) (l.map c) := by
 induction l with
 | nil => exact .nil
 | cons a l ih => exact .cons (h a (by simp)) (ih fun x hx => h x (by simp [hx]))

theorem PRs.evs {T : Tr AV} {c : Operand -> Value} {l : List (Nat × Operand)} (h : ∀ x ∈ l.map (·.2), VR ρ (ev T x) (c x)) : PRs ρ (l.map fun (i, x) => (i, ev T x)) (l.map fun (i, x) => (i, c x)) := by
 induction l with
 | nil => exact .nil
 | cons a l ih => exact .cons (h a.2 (by simp)) (ih fun x hx => h x (by simp at hx ⊢; exact .inr hx))

theorem call_sound (hs : Sim P ρ A.live w) (hN : Named P) {T : Tr AV} {c : Operand -> Value} {k : Call} {ty : TypeId} {r : AR} (h : callA P A k ty T = some r) (hv : ∀ x ∈ k.operands.toList, VR ρ (ev T x) (c x)) :
  ArOk P ρ A w ((do let d <- resolve c k ty; invoke d.target d.args : Sem Next).run P w) r := by
 unfold callA at h
 have hargs : VRs ρ (k.args.toList.map (ev T)) (k.args.toList.map c) := VRs.evs fun x hx => hv x (by
  cases hc : k.callee <;> simp_all [Call.operands])
 split at h
 ·rename_i b hb
  have e : ((do let d <- resolve c k ty; invoke d.target d.args : Sem Next).run P w) = (builtin b k.argTypes ty (k.args.map fun | .const _ => true | _ => false) (k.args.toList.map c).toArray).run P w := by
   have : (k.args.toList.map c).toArray = k.args.map c := Array.ext' (by simp)
   rw [this]
   simp [resolve, hb, invoke]
   rfl
  rw [e]
  exact builtin_sound hs h hargs
 ·rename_i f hf
  have hfv := hv f (by simp [Call.operands, hf])
  split at h
  ·rename_i g fst cap hg
   rw [hg] at hfv
   generalize hcf : c f = cf at hfv
   cases hfv with
   | fn _ ha hb =>
   rename_i as bs
   have hall : VRs ρ (fst ++ k.args.toList.map (ev T) ++ cap) (as ++ k.args.toList.map c ++ bs) := (ha.append hargs).append hb
   have e : ((do let d <- resolve c k ty; invoke d.target d.args : Sem Next).run P w) = (callFunc g (as ++ k.args.toList.map c ++ bs).toArray).run P w := by
    have : (as ++ k.args.toList.map c ++ bs).toArray = as.toArray ++ k.args.map c ++ bs.toArray := by simp
    rw [this]
    simp [resolve, hf, hcf, Deferred.ofValue, invoke]
   rw [e]
   split at h
   ·rename_i fn hfn
    split at h
    ·rename_i body hbody
     cases h
     exact ⟨_, callFunc_body hfn hbody (hN _ _ hfn) _ w, hall⟩
    ·rename_i hbody
     split at h
     ·rename_i ho
      cases hb
      simp only [List.append_nil] at hall ⊢
      exact extern_sound hs hN hfn hbody ho h hall
     ·cases h
   ·cases h
  ·rename_i n hg
   rw [hg] at hfv
   generalize hcf : c f = cf at hfv
   cases hfv with
   | yld hl =>
   cases h
   refine ⟨_, _, hl, ?_, hargs⟩
   have : (k.args.toList.map c).toArray = k.args.map c := Array.ext' (by simp)
   rw [this]
   simp [resolve, hf, hcf, Deferred.ofValue, invoke]
  ·cases h
 ·cases h
end
section
variable {P : Program} {ρ : Rn} {A : AW} {w : World}
theorem newOk {s : Sem Value} {v : AV} {ob : AO} (h : ∃ x obj w' room, s.run P w = .ok x w' /\ Pushed w obj w' /\ ∀ ρ', Sub ρ ρ' -> ρ' A.next = some ⟨w.heap.size, 0, room⟩ -> VR ρ' v x /\ OR P ρ' ⟨w.heap.size, 0, room⟩ ob obj) :
  ArOk P ρ A w ((vOf s).run P w) (.new v ob) := by
 obtain ⟨x, obj, w', room, e, p, k⟩ := h
 exact ⟨x, obj, w', room, gives_v e, p, k⟩

theorem sliceOpd {T : Tr AV} {c : Operand -> Value} {x : Operand} {lo hi mx : Option Operand} (hv : ∀ y ∈ (#[x] ++ lo.toArray ++ hi.toArray ++ mx.toArray).toList, VR ρ (ev T y) (c y)) :
  VR ρ (ev T x) (c x) /\ (∀ y, lo = some y -> VR ρ (ev T y) (c y)) /\ (∀ y, hi = some y -> VR ρ (ev T y) (c y)) /\ (∀ y, mx = some y -> VR ρ (ev T y) (c y)) := by
 refine ⟨hv _ (by simp), ?_, ?_, ?_⟩
 ·rintro y rfl; exact hv _ (by simp)
 ·rintro y rfl; exact hv _ (by simp)
 ·rintro y rfl; exact hv _ (by simp)

theorem op_sound (hs : Sim P ρ A.live w) (hN : Named P) {T : Tr AV} {c : Operand -> Value} {o : Oper} {r : AR} (h : opA P T A o = some r) (hv : ∀ x ∈ o.op.operands.toList, VR ρ (ev T x) (c x)) :
  ArOk P ρ A w ((execOp c o).run P w) r := by
 obtain ⟨dst, op, ty, pos, after, gd⟩ := o
 cases op with
 | move x => cases h; exact nextOk (hv x (by simp [Op.operands]))
 | assign x => cases h; exact nextOk (hv x (by simp [Op.operands]))
 | pick b x y =>
  obtain ⟨t, e, rfl⟩ := map_some h
  have e1 := boolOf?_spec e (hv b (by simp [Op.operands]))
  cases t
  ·exact ⟨c y, by simp [execOp, e1, asBool, Gives], hv y (by simp [Op.operands])⟩
  ·exact ⟨c x, by simp [execOp, e1, asBool, Gives], hv x (by simp [Op.operands])⟩
 | alloc t =>
  simp only [opA] at h
  split at h
  ·rename_i z hz
   cases h
   obtain ⟨v, rfl, hr⟩ := run_zero hz
   obtain ⟨obj, w', h1, h2, h3⟩ := box_sound (P := P) (w := w) (t := t) (VR.fromV (ρ := ρ) v)
   have hrun : (Instr.alloc t true (.tuple #[])).run P w = .ok (.pointer (some ⟨w.heap.size, 0, none⟩)) w' := by simp [Instr.alloc, hr, h1]
   refine newOk ⟨_, obj, w', 0, hrun, h2, fun ρ' hsub hat => ⟨?_, h3 ρ' hsub _ rfl rfl⟩⟩
   exact VR.ptr (l := ⟨w.heap.size, 0, 0⟩) 0 hat
  ·cases h
 | box t x =>
  cases h
  obtain ⟨obj, w', h1, h2, h3⟩ := box_sound (P := P) (w := w) (t := t) (hv x (by simp [Op.operands]))
  have hrun : (Instr.box t (c x)).run P w = .ok (.pointer (some ⟨w.heap.size, 0, none⟩)) w' := by simp [Instr.box, h1]
  refine newOk ⟨_, obj, w', 0, hrun, h2, fun ρ' hsub hat => ⟨?_, h3 ρ' hsub _ rfl rfl⟩⟩
  exact VR.ptr (l := ⟨w.heap.size, 0, 0⟩) 0 hat
 | build t parts =>
  obtain ⟨v, e, rfl⟩ := map_some h
  have hp : PRs ρ (parts.toList.map fun (i, x) => (i, ev T x)) (parts.toList.map fun (i, x) => (i, c x)) := PRs.evs fun x hx => hv x (by simpa [Op.operands] using hx)
  have he : (parts.toList.map fun (i, x) => (i, c x)).toArray = parts.map fun (i, x) => (i, c x) := Array.ext' (by simp)
  have := build_sound e hp w
  rw [he] at this
  exact argOk this
 | buildSlice t len parts =>
  simp only [opA] at h
  split at h
  ·rename_i elem hu
   split at h
   ·rename_i i hi
    split at h
    ·rename_i z hz
     split at h
     ·rename_i hk
      simp only [Bool.and_eq_true, decide_eq_true_eq, ne_eq] at hk
      obtain ⟨⟨k1, k2⟩, k3⟩ := hk
      split at h
      ·rename_i l hl
       cases h
       have hp : PRs ρ (parts.toList.map fun (i, x) => (i, ev T x)) (parts.toList.map fun (i, x) => (i, c x)) := PRs.evs fun x hx => hv x (by simpa [Op.operands] using hx)
       have he : (parts.toList.map fun (i, x) => (i, c x)).toArray = parts.map fun (i, x) => (i, c x) := Array.ext' (by simp)
       obtain ⟨obj, w', h1, h2, h3⟩ := buildSlice_sound (w := w) hu hi hz k1 k2 k3 hl hp
       rw [he] at h1
       refine newOk ⟨_, obj, w', 0, h1, h2, fun ρ' hsub hat => ⟨?_, h3 ρ' hsub⟩⟩
       have := VR.sl (ρ := ρ') (l := ⟨w.heap.size, 0, 0⟩) 0 len len false hat
       simpa using this
      ·cases h
     ·cases h
    ·cases h
   ·cases h
  ·cases h
 | load t a =>
  have hx := hv a (by simp [Op.operands])
  simp only [opA] at h
  split at h
  ·rename_i n k e
   obtain ⟨v, e1, rfl⟩ := map_some h
   rw [e] at hx
   generalize hc : c a = ca at hx
   cases hx with
   | ptr _ hl =>
   have := load_sound hs e1 hl
   rw [<- hc] at this
   exact argOk this
  ·cases h
 | store t a x =>
  have hx := hv a (by simp [Op.operands])
  have hy := hv x (by simp [Op.operands])
  simp only [opA] at h
  split at h
  ·rename_i n k e
   obtain ⟨A', e1, rfl⟩ := map_some h
   rw [e] at hx
   generalize hc : c a = ca at hx
   cases hx with
   | ptr _ hl =>
   obtain ⟨w', h1, h2, h3⟩ := store_sound hs e1 hl hy
   rw [<- hc] at h1
   exact fun _ => ⟨_, w', ρ, gives_u h1, .flat _, h2, h3⟩
  ·cases h
 | nilCheck x =>
  have hx := hv x (by simp [Op.operands])
  simp only [opA] at h
  split at h
  ·rename_i n o e
   cases h
   rw [e] at hx
   generalize hc : c x = cx at hx
   cases hx with
   | ptr _ hl => exact ⟨_, by simp [execOp, hc, Gives], .ptr o hl⟩
  ·rename_i f a b e
   cases h
   rw [e] at hx
   generalize hc : c x = cx at hx
   cases hx with
   | fn _ h1 h2 => exact ⟨_, by simp [execOp, hc, Gives], .fn f h1 h2⟩
  ·rename_i n e
   cases h
   rw [e] at hx
   generalize hc : c x = cx at hx
   cases hx with
   | yld hl => exact ⟨_, by simp [execOp, hc, Gives], .yld hl⟩
  ·cases h
 | binOp op t x y yt =>
  obtain ⟨v, e, rfl⟩ := map_some h
  exact argOk (bin_sound e (hv x (by simp [Op.operands])) (hv y (by simp [Op.operands])) w)
 | unOp op t x =>
  have hx := hv x (by simp [Op.operands])
  simp only [opA] at h
  split at h
  ·rename_i v e
   obtain ⟨u, e1, rfl⟩ := map_some h
   obtain ⟨z, e2, rfl⟩ := map_some e1
   rw [e] at hx
   generalize hc : c x = cx at hx
   cases hx
   refine argOk ⟨z, ?_, VR.fromV z⟩
   rw [hc]
   exact pureRun_spec _ _ e2 w
  ·cases h
 | convert src dst x => exact conv_sound hs h (hv x (by simp [Op.operands]))
 | makeFunc f a b =>
  cases f with
  | func f =>
   cases h
   have h1 : VRs ρ (a.toList.map (ev T)) (a.toList.map c) := VRs.evs fun x hx => hv x (by simp [Op.operands] at hx ⊢; exact .inl hx)
   have h2 : VRs ρ (b.toList.map (ev T)) (b.toList.map c) := VRs.evs fun x hx => hv x (by simp [Op.operands] at hx ⊢; exact .inr hx)
   have e1 : (a.toList.map c).toArray = a.map c := Array.ext' (by simp)
   have e2 : (b.toList.map c).toArray = b.map c := Array.ext' (by simp)
   have := VR.fn f h1 h2
   rw [e1, e2] at this
   exact argOk ⟨_, rfl, this⟩
  | _ => simp [opA] at h
 | makeMap t r' =>
  have hnew : (newObj (.map #[] 0)).run P w = .ok w.heap.size (w.alloc (.map #[] 0)) := by simp
  cases r' with
  | none =>
   cases h
   have hrun : (Instr.makeMap t (Option.map c none)).run P w = .ok (.map (some w.heap.size)) (w.alloc (.map #[] 0)) := by simp [Instr.makeMap, hnew]
   refine newOk ⟨_, _, _, 0, hrun, ⟨rfl, rfl, rfl, rfl⟩, fun ρ' hsub hat => ⟨VR.mp (l := ⟨w.heap.size, 0, 0⟩) hat, [], rfl, .nil⟩⟩
  | some x =>
   simp only [opA] at h
   split at h
   ·rename_i n k e hn hu
    cases h
    obtain ⟨ik, hc⟩ := intOf?_spec hn (hv x (by simp [Op.operands]))
    have hrun : (Instr.makeMap t (Option.map c (some x))).run P w = .ok (.map (some w.heap.size)) (w.alloc (.map #[] 0)) := by simp [Instr.makeMap, hnew, hc, run_und hu, asInt, asIntOf]
    refine newOk ⟨_, _, _, 0, hrun, ⟨rfl, rfl, rfl, rfl⟩, fun ρ' hsub hat => ⟨VR.mp (l := ⟨w.heap.size, 0, 0⟩) hat, [], rfl, .nil⟩⟩
   ·cases h
 | makeSlice t l' c' =>
  simp only [opA] at h
  split at h
  ·rename_i elem hu
   split at h
   ·rename_i i l k hi hl hk
    split at h
    ·rename_i z hz
     split at h
     ·rename_i hb
      cases h
      simp only [Bool.and_eq_true, decide_eq_true_eq, ne_eq] at hb
      obtain ⟨⟨⟨⟨k1, k2⟩, k3⟩, k4⟩, k5⟩ := hb
      obtain ⟨i1, e1⟩ := natOf?_spec hl (hv l' (by simp [Op.operands]))
      obtain ⟨i2, e2⟩ := natOf?_spec hk (hv c' (by simp [Op.operands]))
      obtain ⟨obj, w', h1, h2, h3⟩ := makeSlice_sound (P := P) (ρ := ρ) (w := w) (kl := i1) (kc := i2) hu hi hz k1 k2 k3 k4 k5
      rw [<- e1, <- e2] at h1
      refine newOk ⟨_, obj, w', 0, h1, h2, fun ρ' hsub hat => ⟨?_, h3 ρ' hsub⟩⟩
      have := VR.sl (ρ := ρ') (l := ⟨w.heap.size, 0, 0⟩) 0 l k false hat
      simpa using this
     ·cases h
    ·cases h
   ·cases h
  ·cases h
 | slice t x lo hi mx =>
  obtain ⟨v, e, rfl⟩ := map_some h
  obtain ⟨h1, h2, h3, h4⟩ := sliceOpd hv
  exact argOk (slice_sound e h1 h2 h3 h4 w)
 | fieldAddr t x f =>
  have hx := hv x (by simp [Op.operands])
  simp only [opA] at h
  split at h
  ·rename_i fs n k hu e
   rw [e] at hx
   generalize hc : c x = cx at hx
   cases hx with
   | ptr _ hl =>
   split at h
   ·rename_i fd hf
    split at h
    ·rename_i s hz
     split at h
     ·cases h
     ·rename_i h0
      cases h
      refine argOk ⟨_, ?_, VR.ptr (k + fd.offset) hl⟩
      rw [hc]
      exact fieldAt_sound hu hf hz h0 w
    ·cases h
   ·cases h
  ·cases h
 | field t x f =>
  have hx := hv x (by simp [Op.operands])
  simp only [opA] at h
  split at h
  ·rename_i fs l hu e
   rw [e] at hx
   generalize hc : c x = cx at hx
   cases hx with
   | agg hl =>
   split at h
   ·rename_i fd hf
    obtain ⟨v, e1, rfl⟩ := map_some h
    obtain ⟨y, h1, h2⟩ := part_sound e1 hl w
    refine argOk ⟨y, ?_, h2⟩
    rw [hc]
    simp [Instr.field, run_und hu, hf, asAgg, h1]
   ·cases h
  ·cases h
 | indexAddr t x ix =>
  have hx := hv x (by simp [Op.operands])
  have hi := hv ix (by simp [Op.operands])
  simp only [opA] at h
  split at h
  ·rename_i len elem n k i hu e ei
   rw [e] at hx
   generalize hc : c x = cx at hx
   obtain ⟨ik, ec⟩ := natOf?_spec ei hi
   cases hx with
   | ptr _ hl =>
   split at h
   ·rename_i s hz
    split at h
    ·rename_i hlt
     cases h
     refine argOk ⟨_, ?_, VR.ptr (k + i * s) hl⟩
     rw [hc, ec]
     exact indexAt_arr hu hz hlt w
    ·cases h
   ·cases h
  ·rename_i elem n k len cap b i hu e ei
   rw [e] at hx
   generalize hc : c x = cx at hx
   obtain ⟨ik, ec⟩ := natOf?_spec ei hi
   cases hx with
   | sl _ _ _ _ hl =>
   split at h
   ·rename_i s hz
    split at h
    ·rename_i hlt
     cases h
     refine argOk ⟨_, ?_, VR.ptr (k + i * s) hl⟩
     rw [hc, ec]
     exact indexAt_sl hu hz hlt w
    ·cases h
   ·cases h
  ·cases h
 | index t x ix =>
  have hx := hv x (by simp [Op.operands])
  have hi := hv ix (by simp [Op.operands])
  simp only [opA] at h
  split at h
  ·rename_i len elem l i hu e ei
   rw [e] at hx
   generalize hc : c x = cx at hx
   obtain ⟨ik, ec⟩ := natOf?_spec ei hi
   cases hx with
   | agg hl =>
   split at h
   ·rename_i s hz
    split at h
    ·rename_i hlt
     obtain ⟨v, e1, rfl⟩ := map_some h
     have := index_arr (k := ik) hu hz hlt e1 hl w
     rw [<- hc, <- ec] at this
     exact argOk this
    ·cases h
   ·cases h
  ·rename_i s i hu e ei
   rw [e] at hx
   generalize hc : c x = cx at hx
   obtain ⟨ik, ec⟩ := natOf?_spec ei hi
   cases hx
   split at h
   ·rename_i b hb
    cases h
    refine argOk ⟨_, ?_, .flat _⟩
    rw [hc, ec]
    exact index_str hu hb w
   ·cases h
  ·cases h
 | lookup t x ix ok =>
  obtain ⟨v, e, rfl⟩ := map_some h
  exact argOk (lookup_sound hs e (hv x (by simp [Op.operands])) (hv ix (by simp [Op.operands])))
 | mapUpdate t m k x =>
  obtain ⟨A', e, rfl⟩ := map_some h
  obtain ⟨w', h1, h2, h3⟩ := update_sound hs e (hv m (by simp [Op.operands])) (hv k (by simp [Op.operands])) (hv x (by simp [Op.operands]))
  exact fun _ => ⟨_, w', ρ, gives_u h1, .flat _, h2, h3⟩
 | insert t m k x =>
  obtain ⟨A', e, rfl⟩ := map_some h
  obtain ⟨w', h1, h2, h3⟩ := update_sound hs e (hv m (by simp [Op.operands])) (hv k (by simp [Op.operands])) (hv x (by simp [Op.operands]))
  exact fun _ => ⟨_, w', ρ, gives_u h1, .flat _, h2, h3⟩
 | range t x =>
  obtain ⟨r1, r2, r3⟩ := range_sound (t := t) hs (hv x (by simp [Op.operands]))
  simp only [opA] at h
  split at h
  ·rename_i s hu e
   cases h
   obtain ⟨w', h1, h2⟩ := r1 s hu e
   exact newOk ⟨_, _, w', 0, h1, h2, fun ρ' hsub hat => ⟨VR.ptr (l := ⟨w.heap.size, 0, 0⟩) 0 hat, rfl, rfl⟩⟩
  ·rename_i k el hu e
   cases h
   obtain ⟨w', h1, h2⟩ := r2 _ _ hu e
   exact newOk ⟨_, _, w', 0, h1, h2, fun ρ' hsub hat => ⟨VR.ptr (l := ⟨w.heap.size, 0, 0⟩) 0 hat, rfl, _, [], rfl, rfl, [], .nil, List.nodup_nil, (fun _ h => by cases h), rfl⟩⟩
  ·rename_i k el m hu e
   split at h
   ·rename_i es clock hg
    cases h
    obtain ⟨w', l, hl, h1, h2⟩ := r3 _ _ m es clock hu e hg
    exact newOk ⟨_, _, w', 0, h1, h2, fun ρ' hsub hat => ⟨VR.ptr (l := ⟨w.heap.size, 0, 0⟩) 0 hat, rfl, _, [], rfl, ⟨l, hsub _ _ hl, rfl⟩, [], .nil, List.nodup_nil, (fun _ h => by cases h), rfl⟩⟩
   ·cases h
  ·cases h
 | next it b => exact next_sound hs h (hv it (by simp [Op.operands]))
 | entry it =>
  obtain ⟨x, e, rfl⟩ := map_some h
  exact argOk (entry_sound hs e (hv it (by simp [Op.operands])))
 | makeInterface t x =>
  have hx := hv x (by simp [Op.operands])
  simp only [opA] at h
  split at h
  ·cases h
  ·rename_i d hd hu
   cases h
   refine argOk ⟨_, ?_, VR.ifc t hx⟩
   rw [Instr.makeInterface, Sem.run_bind, run_und hu, Result.andThen_ok]
   cases d <;> first | rfl | exact (hd _ rfl).elim
  ·cases h
 | typeAssert x xt t ok =>
  have hx := hv x (by simp [Op.operands])
  simp only [opA] at h
  split at h
  ·cases h
  ·rename_i d u v hd hu e
   rw [e] at hx
   generalize hc : c x = cx at hx
   cases hx with
   | ifc _ hl =>
   rename_i y
   split at h
   ·rename_i hut
    cases h
    subst hut
    have hrun : (Instr.typeAssert (.iface u y) xt u ok).run P w = .ok (if ok = true then .tuple #[y, .bool true] else y) w := by
     rw [Instr.typeAssert, Sem.run_bind, run_und hu, Result.andThen_ok]
     cases d <;> first | (simp; done) | exact (hd _ rfl).elim
    refine argOk ⟨if ok = true then .tuple #[y, .bool true] else y, ?_, ?_⟩
    ·rw [hc]; exact hrun
    ·cases ok
     ·exact hl
     ·exact .tup (.cons hl (.cons (.flat _) .nil))
   ·cases h
  ·cases h
 | extract t ix =>
  have hx := hv t (by simp [Op.operands])
  simp only [opA] at h
  split at h
  ·rename_i l e
   rw [e] at hx
   generalize hc : c t = ct at hx
   cases hx with
   | tup hl =>
    obtain ⟨v, e1, rfl⟩ := map_some h
    obtain ⟨y, h1, h2⟩ := hl.get e1
    refine argOk ⟨y, ?_, h2⟩
    rw [hc]
    simp [Instr.extract, h1]
   | tupx hl =>
    obtain ⟨v, e1, rfl⟩ := map_some h
    obtain ⟨y, h1, h2⟩ := hl.get e1
    refine argOk ⟨y, ?_, h2⟩
    rename_i vs ws
    have h3 : (vs ++ ws)[ix]? = some y := by rw [List.getElem?_append_left (List.getElem?_eq_some_iff.1 h1).1]; exact h1
    rw [hc]
    simp only [Instr.extract, List.getElem?_toArray]
    rw [h3]; rfl
  ·cases h
 | call k => exact call_sound hs hN h (by simpa [Op.operands] using hv)
 | defer k =>
  simp only [opA] at h
  split at h
  ·rename_i f hf
   have hargs : VRs ρ (k.args.toList.map (Ab.ev T)) (k.args.toList.map c) := VRs.evs fun x hx => hv x (by simp_all [Op.operands, Call.operands])
   have hfv := hv f (by simp [Op.operands, Call.operands, hf])
   split at h
   ·rename_i g fst cap hg
    cases h
    rw [hg] at hfv
    generalize hcf : c f = cf at hfv
    cases hfv with
    | fn _ ha hb =>
    rename_i as bs
    refine ⟨as ++ k.args.toList.map c, bs, ?_, ha.append hargs, hb⟩
    simp [execOp, resolve, hf, hcf, Deferred.ofValue]
   ·cases h
  ·cases h
 | _ => simp [opA] at h
end
section
variable {P : Program} {ρ : Rn} {A : AW} {w : World}
def Fw (ro : Option Nat) : Fence := { fn := fun _ => True, depth := none, alive := false, round := ro }

theorem calls_fw {ro : Option Nat} {n : Nat} {f : FuncId} {args : Array Value} {R : Ending -> World -> Prop} (h : Calls P f args w R) : CallsIn (Fw ro) n P f args w R :=
  (callsIn_wide.2 h : CallsIn Fence.wide n P f args w R)

def Outc (P : Program) (ρ : Rn) (w : World) (A : AW) (v : AV) (A' : AW) : Ending -> World -> Prop := fun e w' =>
  ∃ x ρ', e = .returned x /\ VR ρ' v x /\ Sim P ρ' A'.live w' /\ Ext ρ w A ρ' w' A'

inductive DefsR (ρ : Rn) : List Def -> List Deferred -> Prop
  | nil : DefsR ρ [] []
  | mark {r : Nat} {l : Loc} {rs : List Def} {ds : List Deferred} : ρ r = some l -> DefsR ρ rs ds -> DefsR ρ (.mark r :: rs) ({ target := .collected l.blk, args := #[] } :: ds)
  | call (f : FuncId) {args cap : List AV} {xs cs : List Value} {rs : List Def} {ds : List Deferred} : VRs ρ args xs -> VRs ρ cap cs -> DefsR ρ rs ds -> DefsR ρ (.call f args cap :: rs) ({ target := .fn (.func f) cs.toArray, args := xs.toArray } :: ds)
theorem DefsR.mono {ρ ρ' : Rn} (s : Sub ρ ρ') {rs : List Def} {ds : List Deferred} (h : DefsR ρ rs ds) : DefsR ρ' rs ds := by
  induction h with
  | nil => exact .nil
  | mark a _ ih => exact .mark (s _ _ a) ih
  | call f a b _ ih => exact .call f (a.mono s) (b.mono s) ih
theorem DefsR.append {ρ : Rn} {rs rs' : List Def} {ds ds' : List Deferred} (h : DefsR ρ rs ds) (k : DefsR ρ rs' ds') : DefsR ρ (rs ++ rs') (ds ++ ds') := by
  induction h with
  | nil => exact k
  | mark a _ ih => exact .mark a ih
  | call f a b _ ih => exact .call f a b ih

def ReqOk (P : Program) (rq : Req) (ρ : Rn) (w : World) (A : AW) (v : AV) (A' : AW) : Prop :=
  match rq with
  | .enter f args => ∀ xs, VRs ρ args xs -> Calls P f xs.toArray w (Outc P ρ w A v A')
  | .dfr f args => ∀ xs, VRs ρ args xs -> CallsD P f xs.toArray .returning w (fun e u' w' => u' = .returning /\ Outc P ρ w A v A' e w')
  | .round n args => ∀ xs l, ρ n = some l -> VRs ρ args xs -> ∃ f tmps as body, (Instr.yield l.blk xs.toArray).run P w = .ok (.round l.blk f tmps as body) w ∧
      RoundIn Fence.wide 0 P l.blk f tmps as body w (Outc P ρ w A v A')

def RecOk (P : Program) (rec : Rec) : Prop := ∀ rq A v A', rec rq A = some (v, A') -> ∀ ρ w, Sim P ρ A.live w -> Free ρ A.next A'.next -> ReqOk P rq ρ w A v A'

theorem TR.ev {nt : Nat} {T : Tr AV} {a : Act} (h : TR ρ nt T a.tmps) (x : Operand) : VR ρ (Ab.ev T x) (a.eval x) := by
  cases x with
  | tmp t => exact h.2 t
  | const v => exact VR.fromV v
  | global g => exact .flat _
  | func f => exact VR.fn f .nil .nil

theorem setT_get (T : Tr AV) (d : Option Tmp) (v : AV) (t : Nat) : (setT T d v).get t = if d = some t then some v else T.get t := by
  cases d with
  | none => simp [setT]
  | some d =>
    simp only [setT, Tr.get_set]
    by_cases h : t = d
    · simp [h]
    · rw [if_neg h, if_neg (by simpa using fun e => h e.symm)]

theorem put_getD (a : Act) {nt : Nat} (hn : a.tmps.size = nt) (d : Option Tmp) (x : Value) (hd : dstOk nt d = true) (t : Nat) : (a.put d x).tmps.getD t undef = if d = some t then x else a.tmps.getD t undef := by
  cases d with
  | none => simp [Act.put]
  | some d =>
    have hlt : d < a.tmps.size := by simpa [dstOk, hn] using hd
    simp only [Act.put]
    by_cases h : d = t
    · subst h
      simp [Array.getD_eq_getD_getElem?, hlt]
    · rw [if_neg (by simpa using h)]
      simp [Array.getD_eq_getD_getElem?, Array.getElem?_setIfInBounds_ne h]

theorem put_size (a : Act) (d : Option Tmp) (x : Value) : (a.put d x).tmps.size = a.tmps.size := by
  cases d <;> simp [Act.put]
theorem put_defers (a : Act) (d : Option Tmp) (x : Value) : (a.put d x).defers = a.defers := by
  cases d <;> rfl

theorem TR.put {nt : Nat} {T : Tr AV} {a : Act} {d : Option Tmp} {v : AV} {x : Value} (h : TR ρ nt T a.tmps) (hd : dstOk nt d = true) (hx : VR ρ v x) : TR ρ nt (setT T d v) (a.put d x).tmps := by
  refine ⟨(put_size a d x).trans h.1, fun t => ?_⟩
  rw [setT_get, put_getD a h.1 d x hd]
  by_cases e : d = some t
  · rw [if_pos e, if_pos e]; exact hx
  · rw [if_neg e, if_neg e]; exact h.2 t

theorem TR.congr {nt : Nat} {T T' : Tr AV} {tmps : Array Value} (h : TR ρ nt T tmps) (e : ∀ t, T'.get t = T.get t) : TR ρ nt T' tmps := ⟨h.1, fun t => by rw [e]; exact h.2 t⟩

theorem want_sound' {ops : Array Oper} {T : Tr AV} {o : Oper} {b : Bool} {tmps : Array Value}
    (h : ∀ j w, o.guard = some (j, w) -> ∀ d, (ops[j]?).bind (·.dst) = some d -> VR ρ ((T.get d).getD undefA) (tmps.getD d undef)) (hw : wantA ops T o = some b) : Region.wanted o (yielded ops tmps) = b := by
  unfold wantA at hw
  unfold Region.wanted
  split at hw
  · rename_i hg; rw [hg]; cases hw; rfl
  · rename_i j want hg
    rw [hg]
    simp only
    split at hw
    · rename_i hd
      cases hw
      simp [yielded, hd]
    · rename_i d hd
      have hv := h j want hg d hd
      split at hw
      · rename_i b' e
        cases hw
        rw [e] at hv
        generalize hx : tmps.getD d undef = x at hv
        cases hv
        have : tmps[d]? = some (.bool b') := by
          rw [Array.getD_eq_getD_getElem?] at hx
          cases ht : tmps[d]? with
          | none => rw [ht] at hx; simp [undef] at hx
          | some y => rw [ht] at hx; simp at hx; rw [hx]
        simp [yielded, hd, this]
      · rename_i v hnb e
        cases hw
        rw [e] at hv
        generalize hx : tmps.getD d undef = x at hv
        cases hv
        have : ∀ b, tmps[d]? ≠ some (.bool b) := by
          intro b hb
          rw [Array.getD_eq_getD_getElem?, hb] at hx
          simp at hx
          try exact hnb b hx.symm
        have hy : yielded ops tmps j = none := by
          unfold yielded
          rw [hd]
          simp only [Option.bind_some]
          all_goals (split <;> first | rfl | (rename_i b hb; exact absurd hb (this b)))
        rw [hy]
        try rfl
      · cases hw

theorem want_sound {ops : Array Oper} {nt : Nat} {T : Tr AV} {o : Oper} {b : Bool} {a : Act} (h : TR ρ nt T a.tmps) (hw : wantA ops T o = some b) : Region.wanted o (yielded ops a.tmps) = b :=
  want_sound' (fun _ _ _ d _ => h.2 d) hw

section wp
variable {ro : Option Nat} {n : Nat} {o : Oper} {a : Act} {next : Act -> World -> Prop} {Q : Exit -> Act -> World -> Prop}
theorem gives_upon {res : Result Next} {x : Value} {w' : World} (h : Gives res x w') (k : next (a.put o.dst x) w') : o.uponIn (Fw ro) n P a next Q res := by
  rcases h with rfl | ⟨rfl, rfl⟩
  · exact k
  · exact k

theorem sem_of {T : Tr AV} {r : AR} (h : opA P T A o = some r) (hr : ∀ f x y, r ≠ .dfr f x y) (e : Operand -> Value) : o.semAt (Fw ro).round e = execOp e o :=
  Oper.semAt_eq _ _ _ fun c hc => by
    simp only [opA, hc] at h
    split at h
    · split at h
      · cases h; exact hr _ _ _ rfl
      · cases h
    · cases h

theorem val_wp (hs : Sim P ρ A.live w) (hN : Named P) {T : Tr AV} {v : AV} (h : opA P T A o = some (.val v)) (hv : ∀ x ∈ o.op.operands.toList, VR ρ (Ab.ev T x) (a.eval x))
    (hnext : ∀ x, VR ρ v x -> next (a.put o.dst x) w) : o.wpIn (Fw ro) n P a w next Q := by
  refine ⟨fun _ _ => trivial, ?_⟩
  rw [sem_of h (by intros; simp)]
  obtain ⟨x, g, k⟩ := op_sound hs hN h hv
  exact gives_upon g (hnext x k)

theorem step_wp {rec : Rec} (hrec : RecOk P rec) (hs : Sim P ρ A.live w) (hN : Named P) {ops : Array Oper} {T : Tr AV} {loud : Bool} {v : AV} {A' : AW} (h : stepA P rec ops o T A = some (loud, v, A')) (hw : wantA ops T o = some true)
    (hf : Free ρ A.next A'.next) (hv : ∀ x ∈ o.op.operands.toList, VR ρ (Ab.ev T x) (a.eval x))
    (hnext : ∀ x ρ' w', VR ρ' v x -> Sim P ρ' A'.live w' -> Ext ρ w A ρ' w' A' -> next (a.put o.dst x) w') : o.wpIn (Fw ro) n P a w next Q := by
  unfold stepA at h
  rw [hw] at h
  simp only [opF_eq] at h
  split at h
  · cases h
  · rename_i v' hop
    cases h
    exact val_wp hs hN hop hv fun x hx => hnext x ρ w hx hs (Ext.refl _ _ _)
  · rename_i v' ob hop
    cases h
    refine ⟨fun _ _ => trivial, ?_⟩
    rw [sem_of hop (by intros; simp)]
    obtain ⟨x, obj, w', room, g, p, k⟩ := op_sound hs hN hop hv
    have hfr : ρ A.next = none := hf A.next (Nat.le_refl _) (by simp [AW.new])
    obtain ⟨k1, k2⟩ := k (upd ρ A.next ⟨w.heap.size, 0, room⟩) (upd_sub hfr) upd_at
    obtain ⟨s1, s2⟩ := hs.push p hfr k2
    exact gives_upon g (hnext x _ w' k1 s1 s2)
  · rename_i v' A1 hop
    split at h
    · cases h
      refine ⟨fun _ _ => trivial, ?_⟩
      rw [sem_of hop (by intros; simp)]
      obtain ⟨x, w', ρ', g, k1, k2, k3⟩ := op_sound hs hN hop hv hf
      exact gives_upon g (hnext x _ w' k1 k2 k3)
    · cases h
  · rename_i f args hop
    unfold calledA at h
    split at h
    · rename_i v1 A1 hr
      split at h
      · cases h
        refine ⟨fun _ _ => trivial, ?_⟩
        rw [sem_of hop (by intros; simp)]
        obtain ⟨xs, e, k⟩ := op_sound hs hN hop hv
        have e' := e
        unfold ArOk at *
        rw [e', Oper.uponIn_enter]
        refine ⟨fun hd => by simp [Fw] at hd, (calls_fw (hrec _ _ _ _ hr ρ w hs hf xs k)).mono ?_⟩
        rintro e w' ⟨x, ρ', rfl, h1, h2, h3⟩
        exact hnext x ρ' w' h1 h2 h3
      · cases h
    · cases h
  · rename_i m args hop
    unfold calledA at h
    split at h
    · rename_i v1 A1 hr
      split at h
      · cases h
        refine ⟨fun _ _ => trivial, ?_⟩
        rw [sem_of hop (by intros; simp)]
        obtain ⟨xs, l, hl, e, k⟩ := op_sound hs hN hop hv
        obtain ⟨f, tmps, as, body, y1, y2⟩ := hrec _ _ _ _ hr ρ w hs hf xs l hl k
        rw [e, y1, Oper.uponIn_round]
        refine ⟨fun hd => by simp [Fw] at hd, RoundIn.mono (F := Fw ro) (n := n - 1) (R := Outc P ρ w A v A') ⟨trivial, fun c cs _ => y2.2 c cs (room_wide _)⟩ ?_⟩
        rintro e w' ⟨x, ρ', rfl, h1, h2, h3⟩
        exact hnext x ρ' w' h1 h2 h3
      · cases h
    · cases h
  · cases h
end wp
theorem step_next {rec : Rec} {ops : Array Oper} {o : Oper} {T : Tr AV} {loud : Bool} {v : AV} {A' : AW} (h : stepA P rec ops o T A = some (loud, v, A')) : A.next <= A'.next /\ (loud = false -> A' = A) := by
  unfold stepA at h
  split at h
  · cases h
  · cases h; exact ⟨Nat.le_refl _, fun _ => rfl⟩
  · split at h
    · cases h
    · cases h; exact ⟨Nat.le_refl _, fun _ => rfl⟩
    · cases h; exact ⟨by simp [AW.new], fun e => by cases e⟩
    · split at h
      · rename_i hb; cases h; exact ⟨Nat.le_of_ble_eq_true hb, fun e => by cases e⟩
      · cases h
    all_goals first
      | (cases h; done)
      | (unfold calledA at h
         split at h
         · split at h
           · rename_i hb; cases h; exact ⟨Nat.le_of_ble_eq_true hb, fun e => by cases e⟩
           · cases h
         · cases h)

theorem opsA_cons {rec : Rec} {nt : Nat} {rnd : Bool} {ops : Array Oper} (o : Oper) (l : List Oper) (T : Tr AV) (A : AW) : opsA P rec nt rnd ops (o :: l) T A = opsStep P rec nt rnd ops o (opsA P rec nt rnd ops l) T A := rfl
theorem ops_next {rec : Rec} {nt : Nat} {rnd : Bool} {ops : Array Oper} : ∀ {l : List Oper} {T : Tr AV} {A : AW} {T' : Tr AV} {A' : AW} {xs : List Def}, opsA P rec nt rnd ops l T A = some (T', A', xs) -> A.next <= A'.next
  | [], _, _, _, _, _, h => by cases h; exact Nat.le_refl _
  | o :: l, T, A, T', A', xs, h => by
    rw [opsA_cons] at h
    unfold opsStep at h
    split at h
    · unfold opsPut at h
      split at h
      · cases h
      · split at h
        · split at h
          · rename_i hr; cases h; exact ops_next hr
          · cases h
        · cases h
    · unfold opsGo at h
      split at h
      · rename_i b v A1 hst
        split at h
        · exact Nat.le_trans (step_next hst).1 (ops_next h)
        · cases h
      · cases h

theorem Free.first {ρ : Rn} {a b c : Nat} (h : Free ρ a c) (hb : b <= c) : Free ρ a b := fun n h1 h2 => h n h1 (by omega)

theorem skip_about {ro : Option Nat} {w : World} {o : Oper} {a : Act} : ∀ f, o.about P w a.eval = some f -> (Fw ro).fn f := fun _ _ => trivial

theorem ops_sound {rec : Rec} (hrec : RecOk P rec) (hN : Named P) {ro : Option Nat} {n nt : Nat} {rnd : Bool} (hro : rnd = false -> ro = none) {ops : Array Oper} {Q : Exit -> Act -> World -> Prop} : ∀ (l : List Oper) (i : Nat) (T : Tr AV) (A : AW) (T' : Tr AV) (A' : AW) (xs : List Def) (ρ : Rn) (w : World) (a : Act),
    opsA P rec nt rnd ops l T A = some (T', A', xs) -> ops.toList.drop i = l -> Sim P ρ A.live w -> Free ρ A.next A'.next -> TR ρ nt T a.tmps →
    (∀ a' w' ρ' nd, a'.defers = nd ++ a.defers -> DefsR ρ' xs nd -> TR ρ' nt T' a'.tmps -> Sim P ρ' A'.live w' -> Ext ρ w A ρ' w' A' -> Q .normal a' w') →
    wpOpsIn (Fw ro) n P ops Q (List.range' i l.length) a w
  | [], i, T, A, T', A', xs, ρ, w, a, h, _, hs, hf, ht, hQ => by
    cases h
    exact hQ a w ρ [] rfl .nil ht hs (Ext.refl _ _ _)
  | o :: l, i, T, A, T', A', xs, ρ, w, a, h, hdr, hs, hf, ht, hQ => by
    have hi : ops[i]? = some o := by
      have : (ops.toList.drop i)[0]? = some o := by rw [hdr]; rfl
      simpa [List.getElem?_drop] using this
    have hdr' : ops.toList.drop (i + 1) = l := by
      have : (ops.toList.drop i).drop 1 = l := by rw [hdr]; rfl
      simpa [List.drop_drop] using this
    rw [opsA_cons] at h
    unfold opsStep at h
    split at h
    · rename_i x hx
      unfold opsPut at h
      split at h
      · cases h
      · split at h
        · rename_i hdst
          split at h
          · rename_i T1 A1 xs1 hr
            cases h
            unfold deferA at hx
            simp only [opF_eq] at hx
            split at hx
            · rename_i c hc
              split at hx
              · rename_i hw
                split at hx
                · rename_i f args cap hop
                  cases hx
                  rw [List.length_cons, List.range'_succ]
                  simp only [wpOpsIn, hi]
                  rw [want_sound ht hw]
                  simp only [if_true]
                  refine ⟨fun _ _ => trivial, ?_⟩
                  obtain ⟨ys, cs, e, k1, k2⟩ := op_sound hs hN hop (c := a.eval) (fun x _ => ht.ev x)
                  have hr0 := hro rfl
                  subst hr0
                  have e2 : o.semAt (Fw none).round a.eval = execOp a.eval o := rfl
                  rw [e2, e, Oper.uponIn_defer]
                  refine ops_sound hrec hN hro l (i + 1) _ A T' A' xs1 ρ w _ hr hdr' hs hf (TR.put (a := { a with defers := _ }) ht hdst (.flat _)) fun a' w' ρ' nd d1 d2 d3 d4 d5 => ?_
                  refine hQ a' w' ρ' (nd ++ [{ target := .fn (.func f) cs.toArray, args := ys.toArray }]) ?_ (d2.append (.call f (k1.mono d5.sub) (k2.mono d5.sub) .nil)) d3 d4 d5
                  rw [d1, put_defers]; simp
                · cases hx
              · cases hx
            · cases hx
          · cases h
        · cases h
    · unfold opsGo at h
      split at h
      · rename_i b v A1 hst
        split at h
        · rename_i hdst
          have n1 := (step_next hst).1
          have n2 := ops_next h
          have key : ∀ x ρ' w', VR ρ' v x -> Sim P ρ' A1.live w' -> Ext ρ w A ρ' w' A1 -> wpOpsIn (Fw ro) n P ops Q (List.range' (i + 1) l.length) (a.put o.dst x) w' := by
            intro x ρ' w' hx hs' he
            exact ops_sound hrec hN hro l (i + 1) _ A1 T' A' xs ρ' w' _ h hdr' hs' (hf.later he) ((ht.mono he.sub).put hdst hx)
              fun a' w'' ρ'' nd d1 d2 d3 d4 d5 => hQ a' w'' ρ'' nd (by rw [d1, put_defers]) d2 d3 d4 (he.trans d5)
          rw [List.length_cons, List.range'_succ]
          simp only [wpOpsIn, hi]
          cases hw : wantA ops T o with
          | none => simp [stepA, hw] at hst
          | some b' =>
            rw [want_sound ht hw]
            cases b' with
            | false =>
              simp only [stepA, hw] at hst
              cases hst
              simp only [Bool.false_eq_true, if_false]
              exact ⟨skip_about, key undef ρ w (.flat _) hs (Ext.refl _ _ _)⟩
            | true =>
              simp only [if_true]
              exact step_wp hrec hs hN hst hw (hf.first n2) (fun x _ => ht.ev x) key
        · cases h
      · cases h
end
noncomputable section
def slotsAll (l : List Done) (T : Tr AV) : Tr AV := l.foldl (fun T d => setT T d.o.dst d.v) T
def nxt (d : Done) (X : AW × Nat) : AW × Nat := if d.kind = 3 then (d.C', d.ab') else X
def memAll (l : List Done) (X : AW × Nat) : AW × Nat := l.foldl (fun X d => nxt d X) X
def slotsD : Nat -> List Done -> (Nat -> Bool) -> Tr AV -> Tr AV
 | _, [], _, T => T
 | s, d :: l, D, T => slotsD (s + 1) l D (if D s then setT T d.o.dst d.v else T)
def memD : Nat -> List Done -> (Nat -> Bool) -> AW × Nat -> AW × Nat
 | _, [], _, X => X
 | s, d :: l, D, X => memD (s + 1) l D (if D s then nxt d X else X)

theorem nxt_quiet {d : Done} (h : d.kind ≠ 3) (X : AW × Nat) : nxt d X = X := if_neg h
theorem nxt_loud {d : Done} (h : d.kind = 3) (X : AW × Nat) : nxt d X = (d.C', d.ab') := if_pos h

theorem memD_eq : ∀ (l : List Done) (s : Nat) (D D' : Nat -> Bool) (X : AW × Nat), (∀ j d, l[j]? = some d -> d.kind = 3 -> D (s + j) = D' (s + j)) -> memD s l D X = memD s l D' X
 | [], _, _, _, _, _ => rfl
 | d :: l, s, D, D', X, h => by
  have h0 : (if D s = true then nxt d X else X) = (if D' s = true then nxt d X else X) := by
   by_cases hl : d.kind = 3
   ·have := h 0 d rfl hl; simp at this; simp [this]
   ·rw [nxt_quiet hl]; simp
  simp only [memD, h0]
  exact memD_eq l (s + 1) D D' _ fun j e he hl => by
   have := h (j + 1) e (by simpa using he) hl
   have e2 : s + 1 + j = s + (j + 1) := by omega
   rw [e2]; exact this

theorem memD_lt : ∀ (l : List Done) (s k : Nat) (X : AW × Nat), memD s l (fun j => decide (j < s + k)) X = memAll (l.take k) X
 | [], _, _, _ => by simp [memD, memAll]
 | d :: l, s, 0, X => by
  have h0 : decide (s < s + 0) = false := by simp
  simp only [memD, h0, Bool.false_eq_true, if_false, List.take_zero]
  have := memD_lt l (s + 1) 0 X
  rw [List.take_zero] at this
  rw [<- this]
  exact memD_eq l (s + 1) _ _ X fun j e _ _ => by simp; omega
 | d :: l, s, k + 1, X => by
  have h0 : decide (s < s + (k + 1)) = true := by simp
  simp only [memD, h0, if_true, List.take_succ_cons, memAll, List.foldl_cons]
  have := memD_lt l (s + 1) k (nxt d X)
  simp only [memAll] at this
  rw [<- this]
  have e : s + 1 + k = s + (k + 1) := by omega
  rw [e]

theorem slotsD_get : ∀ (l : List Done) (s : Nat) (D D' : Nat -> Bool) (T T' : Tr AV) (t : Nat), T.get t = T'.get t -> (∀ j d, l[j]? = some d -> d.o.dst = some t -> D (s + j) = D' (s + j)) →
  (slotsD s l D T).get t = (slotsD s l D' T').get t
 | [], _, _, _, _, _, _, e, _ => e
 | d :: l, s, D, D', T, T', t, e, h => by
  simp only [slotsD]
  refine slotsD_get l (s + 1) D D' _ _ t ?_ fun j d' he hd => by
   have := h (j + 1) d' (by simpa using he) hd
   have e2 : s + 1 + j = s + (j + 1) := by omega
   rw [e2]; exact this
  by_cases hd : d.o.dst = some t
  ·have h0 := h 0 d rfl hd
   simp only [Nat.add_zero] at h0
   rw [h0]
   cases D' s <;> simp [setT_get, e]
  ·cases D s <;> cases D' s <;> simp [setT_get, e, hd]

theorem slotsD_lt : ∀ (l : List Done) (s k : Nat) (T : Tr AV) (t : Nat), (slotsD s l (fun j => decide (j < s + k)) T).get t = (slotsAll (l.take k) T).get t
 | [], _, _, _, _ => by simp [slotsD, slotsAll]
 | d :: l, s, 0, T, t => by
  have h0 : decide (s < s + 0) = false := by simp
  simp only [slotsD, h0, Bool.false_eq_true, if_false, List.take_zero]
  have := slotsD_lt l (s + 1) 0 T t
  rw [List.take_zero] at this
  rw [<- this]
  exact slotsD_get l (s + 1) _ _ T T t rfl fun j e _ _ => by simp; omega
 | d :: l, s, k + 1, T, t => by
  have h0 : decide (s < s + (k + 1)) = true := by simp
  simp only [slotsD, h0, if_true, List.take_succ_cons, slotsAll, List.foldl_cons]
  have := slotsD_lt l (s + 1) k (setT T d.o.dst d.v) t
  simp only [slotsAll] at this
  rw [<- this]
  have e : s + 1 + k = s + (k + 1) := by omega
  rw [e]

theorem slotsD_last : ∀ (l : List Done) (s i : Nat) (D : Nat -> Bool) (T : Tr AV) (t : Nat) (d : Done), l[i]? = some d -> d.o.dst = some t -> D (s + i) = true →
  (∀ j d', i < j -> l[j]? = some d' -> d'.o.dst = some t -> D (s + j) = false) -> (slotsD s l D T).get t = some d.v
 | [], _, _, _, _, _, _, h, _, _, _ => by simp at h
 | d0 :: l, s, 0, D, T, t, d, h, hd, hD, hj => by
  simp at h; subst h
  simp only [Nat.add_zero] at hD
  simp only [slotsD, hD, if_true]
  have : (slotsD (s + 1) l D (setT T d0.o.dst d0.v)).get t = (slotsD (s + 1) l (fun _ => false) (setT T d0.o.dst d0.v)).get t :=
   slotsD_get l (s + 1) _ _ _ _ t rfl fun j d' he hd' => by
    have := hj (j + 1) d' (by omega) (by simpa using he) hd'
    have e2 : s + 1 + j = s + (j + 1) := by omega
    rw [e2]; exact this
  rw [this]
  have nil : ∀ (l : List Done) (s : Nat) (T : Tr AV), slotsD s l (fun _ => false) T = T := by
   intro l
   induction l with
   | nil => intros; rfl
   | cons d l ih => intro s T; simp [slotsD, ih]
  rw [nil, setT_get, if_pos hd]
 | d0 :: l, s, i + 1, D, T, t, d, h, hd, hD, hj => by
  simp only [slotsD]
  have e2 : s + 1 + i = s + (i + 1) := by omega
  refine slotsD_last l (s + 1) i D _ t d (by simpa using h) hd (by rw [e2]; exact hD) fun j d' hlt he hd' => ?_
  have := hj (j + 1) d' (by omega) (by simpa using he) hd'
  have e3 : s + 1 + j = s + (j + 1) := by omega
  rw [e3]; exact this

theorem least (p : Nat -> Prop) : ∀ n, ∃ k, k <= n /\ (∀ j, j < k -> ¬ p j) /\ (k = n \/ p k)
 | 0 => ⟨0, Nat.le_refl _, fun j h => absurd h (Nat.not_lt_zero _), .inl rfl⟩
 | n + 1 => by
  obtain ⟨k, h1, h2, h3⟩ := least p n
  rcases h3 with rfl | h3
  ·rcases Classical.em (p k) with h | h
   ·exact ⟨k, by omega, h2, .inr h⟩
   ·refine ⟨k + 1, by omega, fun j hj => ?_, .inl rfl⟩
    rcases Nat.lt_succ_iff_lt_or_eq.1 hj with h' | rfl
    ·exact h2 j h'
    ·exact h
  ·exact ⟨k, by omega, h2, .inr h3⟩

theorem lastBelow (p : Nat -> Prop) (i : Nat) : ∀ k, i <= k -> ∃ m, i <= m /\ m <= k /\ (∀ j, m <= j -> j < k -> ¬ p j) /\ (m = i \/ ∃ l, m = l + 1 /\ i <= l /\ p l) := by
 intro k hk
 induction k with
 | zero => exact ⟨0, by omega, Nat.le_refl _, fun j _ h => absurd h (Nat.not_lt_zero _), .inl (by omega)⟩
 | succ k ih =>
  rcases Nat.lt_or_ge k i with h | h
  ·have : i = k + 1 := by omega
   subst this
   exact ⟨k + 1, Nat.le_refl _, Nat.le_refl _, fun j h1 h2 => absurd h2 (by omega), .inl rfl⟩
  ·rcases Classical.em (p k) with hp | hp
   ·exact ⟨k + 1, hk, Nat.le_refl _, fun j h1 h2 => absurd h2 (by omega), .inr ⟨k, rfl, h, hp⟩⟩
   ·obtain ⟨m, h1, h2, h3, h4⟩ := ih h
    refine ⟨m, h1, by omega, fun j a b => ?_, h4⟩
    rcases Nat.lt_succ_iff_lt_or_eq.1 b with h' | rfl
    ·exact h3 j a h'
    ·exact hp

structure GoodD (P : Program) (rec : Rec) (ops : Array Oper) (T0 : Tr AV) (X0 : AW × Nat) (s0 : Nat) (tr : List Done) (k : Nat) (d : Done) : Prop where
 op : ops[k]? = some d.o
 pos : d.i = k
 want : wantA ops d.T d.o = some d.want
 off : d.want = false -> d.kind = 0 /\ d.v = undefA
 on0 : d.want = true -> d.kind = 0 -> opA P d.T ⟨.lf, d.s⟩ d.o = some (.val d.v)
 on1 : d.kind = 1 -> d.want = true /\ opA P d.T ⟨.lf, d.s⟩ d.o = some (.new d.v d.ob) /\ d.e = d.s + 1 /\ notDead d.ob = true
 on2 : d.kind = 2 -> d.want = true /\ ∃ fs M, (∀ f ∈ fs, f ∈ tr.take k /\ f.kind = 1) /\ stepA P rec ops d.o d.T (runA fs d.mask d.ab d.s d.C) = some (false, d.v, M)
 on3 : d.kind = 3 -> d.want = true /\ ∃ fs, (∀ f ∈ fs, f ∈ tr.take k /\ f.kind = 1) /\ stepA P rec ops d.o d.T (runA fs d.mask d.ab d.s d.C) = some (true, d.v, d.C') /\ d.e = d.C'.next /\ d.ab' = d.ab ||| d.mask
 kinds : d.kind = 0 \/ d.kind = 1 \/ d.kind = 2 \/ d.kind = 3
 slots : d.T = slotsAll (tr.take k) T0
 mem : (d.C, d.ab) = memAll (tr.take k) X0
 mask : ∀ j, d.mask.testBit j = true -> ∃ e ∈ d.o.after, Region.binds .any e = true /\ (j = e.on \/ ∃ d', tr[e.on]? = some d' /\ d'.mask.testBit j = true)
 names : s0 <= d.s /\ d.s <= d.e /\ ∀ j d', j < k -> tr[j]? = some d' -> d'.e <= d.s

def Good (P : Program) (rec : Rec) (ops : Array Oper) (T0 : Tr AV) (X0 : AW × Nat) (s0 : Nat) (tr : List Done) : Prop := ∀ k d, tr[k]? = some d -> GoodD P rec ops T0 X0 s0 tr k d

section
variable {P : Program} {rec : Rec} {ops : Array Oper} {T0 : Tr AV} {X0 : AW × Nat} {s0 : Nat}
theorem GoodD.snoc {tr : List Done} {k : Nat} {d x : Done} (h : GoodD P rec ops T0 X0 s0 tr k d) (hk : k <= tr.length) : GoodD P rec ops T0 X0 s0 (tr ++ [x]) k d where
 op := h.op
 pos := h.pos
 want := h.want
 off := h.off
 on0 := h.on0
 on1 := h.on1
 on2 := by rw [List.take_append_of_le_length hk]; exact h.on2
 on3 := by rw [List.take_append_of_le_length hk]; exact h.on3
 kinds := h.kinds
 slots := by rw [List.take_append_of_le_length hk]; exact h.slots
 mem := by rw [List.take_append_of_le_length hk]; exact h.mem
 mask j hj := by
  obtain ⟨e, e1, e2, e3⟩ := h.mask j hj
  refine ⟨e, e1, e2, e3.imp id fun ⟨d', a, b⟩ => ⟨d', ?_, b⟩⟩
  rw [List.getElem?_append_left (List.getElem?_eq_some_iff.1 a).1]; exact a
 names := ⟨h.names.1, h.names.2.1, fun j d' hj he => by
  rw [List.getElem?_append_left (by omega)] at he
  exact h.names.2.2 j d' hj he⟩

theorem mask_bit (ms : Tr Nat) (j : Nat) : ∀ (es : List Edge) (s : Nat), (es.foldl (fun s e => if Region.binds .any e then s ||| 2 ^ e.on ||| (ms.get e.on).getD 0 else s) s).testBit j = true →
  s.testBit j = true \/ ∃ e ∈ es, Region.binds .any e = true /\ (j = e.on \/ ((ms.get e.on).getD 0).testBit j = true)
 | [], s, h => .inl h
 | e :: es, s, h => by
  rw [List.foldl_cons] at h
  rcases mask_bit ms j es _ h with h1 | ⟨e', a, b⟩
  ·split at h1
   ·rename_i hb
    rw [Nat.testBit_or, Nat.testBit_or, Bool.or_eq_true, Bool.or_eq_true, Nat.testBit_two_pow] at h1
    rcases h1 with (h1 | h1) | h1
    ·exact .inl h1
    ·exact .inr ⟨e, by simp, hb, .inl (by simpa using (of_decide_eq_true h1).symm)⟩
    ·exact .inr ⟨e, by simp, hb, .inr h1⟩
   ·exact .inl h1
  ·exact .inr ⟨e', by simp [a], b⟩

structure One (P : Program) (rec : Rec) (ops : Array Oper) (i : Nat) (o : Oper) (mask : Nat) (fs : List Done) (T : Tr AV) (C : AW) (ab s : Nat) (d : Done) : Prop where
 qi : d.i = i
 qo : d.o = o
 qT : d.T = T
 qC : d.C = C
 qab : d.ab = ab
 qs : d.s = s
 qmask : d.mask = mask
 qe : s <= d.e
 want : wantA ops T o = some d.want
 off : d.want = false -> d.kind = 0 /\ d.v = undefA
 on0 : d.want = true -> d.kind = 0 -> opA P T ⟨.lf, s⟩ o = some (.val d.v)
 on1 : d.kind = 1 -> d.want = true /\ opA P T ⟨.lf, s⟩ o = some (.new d.v d.ob) /\ d.e = s + 1 /\ notDead d.ob = true
 on2 : d.kind = 2 -> d.want = true /\ ∃ M, stepA P rec ops o T (runA fs mask ab s C) = some (false, d.v, M)
 on3 : d.kind = 3 -> d.want = true /\ stepA P rec ops o T (runA fs mask ab s C) = some (true, d.v, d.C') /\ d.e = d.C'.next /\ d.ab' = ab ||| mask
 kinds : d.kind = 0 \/ d.kind = 1 \/ d.kind = 2 \/ d.kind = 3
 quiet : d.kind ≠ 3 -> d.C' = C /\ d.ab' = ab

theorem oneA_spec {i : Nat} {o : Oper} {mask : Nat} {fs : List Done} {T : Tr AV} {C : AW} {ab s : Nat} {d : Done} (h : oneA P rec ops i o mask fs T C ab s = some d) : One P rec ops i o mask fs T C ab s d := by
 have ask : ∀ d, wantA ops T o = some true -> askA P rec ops i o mask fs T C ab s = some d -> One P rec ops i o mask fs T C ab s d := by
  intro d hw h
  unfold askA at h
  split at h
  ·rename_i v M hst; cases h
   exact ⟨rfl, rfl, rfl, rfl, rfl, rfl, rfl, Nat.le_refl _, hw, (fun e => by cases e), (fun _ e => by cases e), (fun e => by cases e), (fun _ => ⟨rfl, M, hst⟩), (fun e => by cases e), by simp [quietD], fun _ => ⟨rfl, rfl⟩⟩
  ·rename_i v A' hst; cases h
   have := (step_next hst).1
   simp only [runA] at this
   exact ⟨rfl, rfl, rfl, rfl, rfl, rfl, rfl, this, hw, (fun e => by cases e), (fun _ e => by cases e), (fun e => by cases e), (fun e => by cases e), (fun _ => ⟨rfl, hst, rfl, rfl⟩), by simp [loudD], fun e => absurd rfl e⟩
  ·cases h
 unfold oneA at h
 split at h
 ·cases h
 ·rename_i hw; cases h
  exact ⟨rfl, rfl, rfl, rfl, rfl, rfl, rfl, Nat.le_refl _, hw, (fun _ => ⟨rfl, rfl⟩), (fun e => by cases e), (fun e => by cases e), (fun e => by cases e), (fun e => by cases e), by simp [quietD], fun _ => ⟨rfl, rfl⟩⟩
 ·rename_i hw
  split at h
  ·unfold pureA at h
   rw [opF_eq] at h
   split at h
   ·rename_i v hop; cases h
    exact ⟨rfl, rfl, rfl, rfl, rfl, rfl, rfl, Nat.le_refl _, hw, (fun e => by cases e), (fun _ _ => hop), (fun e => by cases e), (fun e => by cases e), (fun e => by cases e), by simp [quietD], fun _ => ⟨rfl, rfl⟩⟩
   ·rename_i v ob hop
    split at h
    ·rename_i hnd; cases h
     exact ⟨rfl, rfl, rfl, rfl, rfl, rfl, rfl, Nat.le_succ _, hw, (fun e => by cases e), (fun _ e => by cases e), (fun _ => ⟨rfl, hop, rfl, hnd⟩), (fun e => by cases e), (fun e => by cases e), by simp [freshD], fun _ => ⟨rfl, rfl⟩⟩
    ·cases h
   ·exact ask d hw h
  ·exact ask d hw h

theorem traceA_cons (x : Oper × Nat) (l : List (Oper × Nat)) (i : Nat) (ds fs : List Done) (T : Tr AV) (C : AW) (ab s : Nat) : traceA P rec ops (x :: l) i ds fs T C ab s = traceStep P rec ops x (traceA P rec ops l) i ds fs T C ab s := rfl

theorem draw_trace : ∀ (l : List Oper) (i : Nat) (ms : Tr Nat) (ds fs : List Done) (T : Tr AV) (C : AW) (ab s : Nat) (ds' fs' : List Done) (T' : Tr AV) (C' : AW) (ab' s' : Nat), traceA P rec ops (masksL i l ms) i ds fs T C ab s = some (ds', fs', T', C', ab', s') →
  Good P rec ops T0 X0 s0 ds.reverse -> ds.length = i -> (∀ k, ms.get k = (ds.reverse[k]?).map (·.mask)) -> ops.toList = ds.reverse.map (·.o) ++ l →
  T = slotsAll ds.reverse T0 -> (C, ab) = memAll ds.reverse X0 -> (∀ d ∈ ds, d.e <= s) -> s0 <= s -> (∀ f, f ∈ fs ↔ f ∈ ds /\ f.kind = 1) →
  Good P rec ops T0 X0 s0 ds'.reverse /\ ds'.reverse.map (·.o) = ops.toList /\ T' = slotsAll ds'.reverse T0 /\ (C', ab') = memAll ds'.reverse X0 /\ (∀ d ∈ ds', d.e <= s') /\ s0 <= s' /\ (∀ f, f ∈ fs' ↔ f ∈ ds' /\ f.kind = 1) ∧
  ds'.reverse.map (fun d => (d.o, d.mask)) = ds.reverse.map (fun d => (d.o, d.mask)) ++ masksL i l ms
 | [], i, ms, ds, fs, T, C, ab, s, ds', fs', T', C', ab', s', h, hg, hi, hm, ho, hT, hC, hn, hs, hf => by
  cases h
  exact ⟨hg, by simpa using ho.symm, hT, hC, hn, hs, hf, by simp [masksL]⟩
 | o :: l, i, ms, ds, fs, T, C, ab, s, ds', fs', T', C', ab', s', h, hg, hi, hm, ho, hT, hC, hn, hs, hf => by
  simp only [masksL] at h
  rw [traceA_cons] at h
  unfold traceStep at h
  split at h
  ·cases h
  ·rename_i d hone
   have z := oneA_spec hone
   have hlen : ds.reverse.length = i := by simpa using hi
   have hrev : ∀ d : Done, (d :: ds).reverse = ds.reverse ++ [d] := fun d => List.reverse_cons
   have htake : (ds.reverse ++ [d]).take i = ds.reverse := by rw [List.take_append_of_le_length (by omega), List.take_of_length_le (by omega)]
   refine (fun r => ⟨r.1, r.2.1, r.2.2.1, r.2.2.2.1, r.2.2.2.2.1, r.2.2.2.2.2.1, r.2.2.2.2.2.2.1, ?_⟩) (draw_trace l (i + 1) (ms.set i (maskOf ms o)) (d :: ds) (moreF d fs) (setT T o.dst d.v) d.C' d.ab' d.e ds' fs' T' C' ab' s' h ?_ (by simp [hi]) ?_ ?_ ?_ ?_ ?_ (by have := z.qe; omega) ?_)
   ·rw [hrev]
    intro k d0 hd
    by_cases hk : k < ds.reverse.length
    ·rw [List.getElem?_append_left hk] at hd
     exact (hg k d0 hd).snoc (by omega)
    ·have hk' : k = i := by
      have := (List.getElem?_eq_some_iff.1 hd).1
      simp at this hk; omega
     subst hk'
     rw [List.getElem?_append_right (by omega), hlen, Nat.sub_self] at hd
     simp at hd
     subst hd
     have hfs : ∀ f ∈ fs, f ∈ ds.reverse /\ f.kind = 1 := fun f hh => by
      have := (hf f).1 hh
      exact ⟨by simpa using this.1, this.2⟩
     refine ⟨?_, z.qi, by rw [z.qT, z.qo]; exact z.want, z.off, by rw [z.qT, z.qo, z.qs]; exact z.on0, by rw [z.qT, z.qo, z.qs]; exact z.on1, ?_, ?_, z.kinds, ?_, ?_, ?_, ?_⟩
     ·have : ops.toList[k]? = some o := by
       rw [ho, List.getElem?_append_right (by simp [hi]), List.length_map, hlen, Nat.sub_self]; rfl
      rw [z.qo]; simpa using this
     ·rw [htake, z.qo, z.qT, z.qC, z.qab, z.qs, z.qmask]
      intro hk2
      obtain ⟨q1, M, q2⟩ := z.on2 hk2
      exact ⟨q1, fs, M, hfs, q2⟩
     ·rw [htake, z.qo, z.qT, z.qC, z.qab, z.qs, z.qmask]
      intro hk2
      obtain ⟨q1, q2, q3, q4⟩ := z.on3 hk2
      exact ⟨q1, fs, hfs, q2, q3, q4⟩
     ·rw [htake, z.qT]; exact hT
     ·rw [htake, z.qC, z.qab]; exact hC
     ·intro j hj
      rw [z.qmask] at hj
      simp only [maskOf] at hj
      rcases mask_bit ms j _ _ hj with h0 | ⟨e, e1, e2, e3⟩
      ·simp at h0
      ·refine ⟨e, by rw [z.qo]; simpa using e1, e2, e3.imp id fun h3 => ?_⟩
       rw [hm] at h3
       cases hq : ds.reverse[e.on]? with
       | none => rw [hq] at h3; simp at h3
       | some d' =>
        rw [hq] at h3
        exact ⟨d', by rw [List.getElem?_append_left (List.getElem?_eq_some_iff.1 hq).1]; exact hq, by simpa using h3⟩
     ·have := z.qe; have := z.qs
      refine ⟨by omega, by omega, fun j d' hj he => ?_⟩
      rw [List.getElem?_append_left (by omega)] at he
      rw [z.qs]
      exact hn d' (by simpa using List.mem_of_getElem? he)
   ·intro k
    rw [Tr.get_set, hrev]
    by_cases hk : k = i
    ·subst hk
     rw [if_pos rfl, List.getElem?_append_right (by omega), hlen, Nat.sub_self]
     simp [z.qmask]
    ·rw [if_neg hk, hm]
     by_cases hk2 : k < ds.reverse.length
     ·rw [List.getElem?_append_left hk2]
     ·rw [List.getElem?_eq_none (by omega), List.getElem?_eq_none (by simp at hk2 ⊢; omega)]
   ·rw [hrev, ho]; simp [z.qo]
   ·rw [hrev, slotsAll, List.foldl_append, hT]; simp only [List.foldl_cons, List.foldl_nil, z.qo]; rfl
   ·rw [hrev, memAll, List.foldl_append]
    have : (C, ab) = List.foldl (fun X d => nxt d X) X0 ds.reverse := hC
    rw [<- this]
    simp only [List.foldl_cons, List.foldl_nil]
    by_cases hl : d.kind = 3
    ·rw [nxt_loud hl]
    ·rw [nxt_quiet hl, (z.quiet hl).1, (z.quiet hl).2]
   ·intro d0 hd0
    rcases List.mem_cons.1 hd0 with rfl | hd0
    ·exact Nat.le_refl _
    ·have := hn d0 hd0; have := z.qe; omega
   ·intro f
    unfold moreF
    by_cases hk1 : d.kind = 1
    ·rw [hk1]
     simp only [List.mem_cons]
     constructor
     ·rintro (rfl | h')
      ·exact ⟨.inl rfl, hk1⟩
      ·exact ⟨.inr ((hf f).1 h').1, ((hf f).1 h').2⟩
     ·rintro ⟨rfl | h', h2⟩
      ·exact .inl rfl
      ·exact .inr ((hf f).2 ⟨h', h2⟩)
    ·have hb : Nat.beq d.kind 1 = false := by
      cases hb : Nat.beq d.kind 1 with
      | false => rfl
      | true => exact absurd (Nat.eq_of_beq_eq_true hb) hk1
     rw [hb]
     simp only [List.mem_cons]
     rw [hf]
     constructor
     ·rintro ⟨h1, h2⟩; exact ⟨.inr h1, h2⟩
     ·rintro ⟨rfl | h1, h2⟩
      ·exact absurd h2 hk1
      ·exact ⟨h1, h2⟩
   ·rw [r.2.2.2.2.2.2.2, hrev, masksL]
    simp [z.qo, z.qmask]

theorem apart_spec' {nt : Nat} : ∀ {L : List (Oper × Nat)} {s : Nat}, apartAll ops nt s L = true -> ∀ (i : Nat) (x : Oper × Nat), L[i]? = some x →
  edgesOk (s + i) x.1 = true /\ dstOk nt x.1.dst = true /\ ∀ (j : Nat) (y : Oper × Nat), i < j -> L[j]? = some y -> y.2.testBit (s + i) = true \/ x.1.apart ops y.1 = true
 | [], _, _, i, x, h => by simp at h
 | z :: L, s, h, i, x, hi => by
  simp only [apartAll, Bool.and_eq_true] at h
  obtain ⟨⟨⟨h1, h2⟩, h3⟩, h4⟩ := h
  cases i with
  | zero =>
   simp at hi; subst hi
   refine ⟨h1, h2, fun j y hj hy => ?_⟩
   cases j with
   | zero => omega
   | succ j =>
    simp at hy
    have row : ∀ {l : List (Oper × Nat)}, apartRow ops z.1 s l = true -> ∀ y ∈ l, y.2.testBit s = true \/ z.1.apart ops y.1 = true := by
     intro l
     induction l with
     | nil => intro _ y hy; cases hy
     | cons w l ih =>
      intro hr y hy
      simp only [apartRow, Bool.and_eq_true, Bool.or_eq_true] at hr
      rcases List.mem_cons.1 hy with rfl | hy
      ·exact hr.1
      ·exact ih hr.2 y hy
    exact row h3 y (List.mem_of_getElem? hy)
  | succ i =>
   simp at hi
   obtain ⟨q1, q2, q3⟩ := apart_spec' h4 i x hi
   have e : s + 1 + i = s + (i + 1) := by omega
   rw [e] at q1 q3
   refine ⟨q1, q2, fun j y hj hy => ?_⟩
   cases j with
   | zero => omega
   | succ j => exact q3 j y (by omega) (by simpa using hy)
end
theorem vSame_spec {a b : Value} (h : vSame a b = true) : a = b := by
 unfold vSame at h
 split at h
 ·simp only [Bool.and_eq_true, decide_eq_true_eq] at h; rw [h.1, h.2]
 ·simp at h; rw [h]
 ·simp only [bytesSame, decide_eq_true_eq] at h
  rename_i s t
  have : s.data = t.data := Array.ext' h
  obtain ⟨s⟩ := s; obtain ⟨t⟩ := t
  simp at this; rw [this]
 ·rfl
 ·simp only [Bool.and_eq_true] at h; rw [Nat.eq_of_beq_eq_true h.1, Nat.eq_of_beq_eq_true h.2]
 ·rfl
 ·rfl
 ·rfl
 ·rename_i a b
  simp only [Bool.and_eq_true, List.isEmpty_iff] at h
  have : a = b := Array.ext' (by rw [h.1, h.2])
  rw [this]
 ·cases h

mutual
theorem aSame_spec : ∀ {a b : AV}, aSame a b = true -> a = b
 | .flat v, b, h => by cases b <;> simp only [aSame, Bool.false_eq_true] at h; rw [vSame_spec h]
 | .ptr n o, b, h => by
  cases b <;> simp only [aSame, Bool.false_eq_true, Bool.and_eq_true] at h; rw [Nat.eq_of_beq_eq_true h.1, Nat.eq_of_beq_eq_true h.2]
 | .sl n o l c bb, b, h => by
  cases b <;> simp only [aSame, Bool.false_eq_true, Bool.and_eq_true, beq_iff_eq] at h
  obtain ⟨⟨⟨⟨h1, h2⟩, h3⟩, h4⟩, h5⟩ := h
  rw [Nat.eq_of_beq_eq_true h1, Nat.eq_of_beq_eq_true h2, Nat.eq_of_beq_eq_true h3, Nat.eq_of_beq_eq_true h4, h5]
 | .sle n o p, b, h => by
  cases b <;> simp only [aSame, Bool.false_eq_true, Bool.and_eq_true] at h
  obtain ⟨⟨h1, h2⟩, h3⟩ := h
  rw [Nat.eq_of_beq_eq_true h1, Nat.eq_of_beq_eq_true h2, Nat.eq_of_beq_eq_true h3]
 | .mp n, b, h => by cases b <;> simp only [aSame, Bool.false_eq_true] at h; rw [Nat.eq_of_beq_eq_true h]
 | .fn f x y, b, h => by
  cases b <;> simp only [aSame, Bool.false_eq_true, Bool.and_eq_true] at h
  obtain ⟨⟨h1, h2⟩, h3⟩ := h
  rw [Nat.eq_of_beq_eq_true h1, asSame_spec h2, asSame_spec h3]
 | .yld n, b, h => by cases b <;> simp only [aSame, Bool.false_eq_true] at h; rw [Nat.eq_of_beq_eq_true h]
 | .ifc t v, b, h => by
  cases b <;> simp only [aSame, Bool.false_eq_true, Bool.and_eq_true] at h; rw [Nat.eq_of_beq_eq_true h.1, aSame_spec h.2]
 | .agg l, b, h => by cases b <;> simp only [aSame, Bool.false_eq_true] at h; rw [asSame_spec h]
 | .tup l, b, h => by cases b <;> simp only [aSame, Bool.false_eq_true] at h; rw [asSame_spec h]
 | .any, b, h => by cases b <;> simp only [aSame, Bool.false_eq_true] at h; rfl
 | .rng x y, b, h => by
  cases b <;> simp only [aSame, Bool.false_eq_true, Bool.and_eq_true, decide_eq_true_eq] at h
  rw [h.1, h.2]
 | .pick n i l, b, h => by
  cases b <;> simp only [aSame, Bool.false_eq_true, Bool.and_eq_true] at h
  obtain ⟨⟨h1, h2⟩, h3⟩ := h
  rw [Nat.eq_of_beq_eq_true h1, Nat.eq_of_beq_eq_true h2, asSame_spec h3]
theorem asSame_spec : ∀ {a b : List AV}, asSame a b = true -> a = b
 | [], [], _ => rfl
 | [], _ :: _, h | _ :: _, [], h => by simp [asSame] at h
 | a :: l, b :: m, h => by
  simp only [asSame, Bool.and_eq_true] at h
  rw [aSame_spec h.1, asSame_spec h.2]
end
end
end Go.Proofs.YtookoagcmejkpaaGreatDoor.Ab
