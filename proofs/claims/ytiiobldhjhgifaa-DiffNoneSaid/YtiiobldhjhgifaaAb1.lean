/-
  A run of closed code over an abstract memory: regions, frames, calls.
-/
import Derived.Test.YtiiobldhjhgifaaAb0
namespace Go.Proofs.Ytiiobldhjhgifaa.Ab
open Go

inductive Req where
  | enter (f : FuncId) (args : List AV)
  | round (n : Nat) (args : List AV)
  deriving Inhabited

abbrev Rec := Req → AW → Option (AV × AW)

/-- is the operation wanted? (none: it isn't known) -/
def wantA (ops : Array Oper) (T : Tr AV) (o : Oper) : Option Bool :=
  match o.guard with
  | none => some true
  | some (j, want) =>
    match (ops[j]?).bind (·.dst) with
    | none => some false
    | some d =>
      match (T.get d).getD undefA with
      | .flat (.bool b) => some (b == want)
      | .flat _ => some false
      | _ => none

def setT (T : Tr AV) (d : Option Tmp) (v : AV) : Tr AV := match d with | some d => T.set d v | none => T

def dstOk (nt : Nat) (d : Option Tmp) : Bool := match d with | some d => Nat.blt d nt | none => true

/-- what is called, with the memory ahead of it -/
def calledA (rec : Rec) (r : Req) (A : AW) : Option (Bool × AV × AW) :=
  match rec r A with
  | some (v, A') => if Nat.ble A.next A'.next then some (true, v, A') else none
  | none => none

/-- one operation: is it loud, its value, the memory behind it -/
def stepA (P : Program) (rec : Rec) (ops : Array Oper) (o : Oper) (T : Tr AV) (A : AW) : Option (Bool × AV × AW) :=
  match wantA ops T o with
  | none => none
  | some false => some (false, undefA, A)
  | some true =>
    match opA P T A o with
    | none => none
    | some (.val v) => some (false, v, A)
    | some (.new v ob) => some (true, v, A.new ob)
    | some (.chg v A') => if Nat.ble A.next A'.next then some (true, v, A') else none
    | some (.enter f args) => calledA rec (.enter f args) A
    | some (.round n args) => calledA rec (.round n args) A

/-- operations one behind the other -/
def opsA (P : Program) (rec : Rec) (nt : Nat) (ops : Array Oper) : List Oper → Tr AV → AW → Option (Tr AV × AW)
  | [], T, A => some (T, A)
  | o :: l, T, A => match stepA P rec ops o T A with
    | some (_, v, A) => if dstOk nt o.dst then opsA P rec nt ops l (setT T o.dst v) A else none
    | none => none

/-! ### Regions that draw their order -/

def bytesSame (a b : List UInt8) : Bool := decide (a = b)

def vSame : Value → Value → Bool
  | .int k n, .int k' n' => decide (k = k') && decide (n = n')
  | .bool b, .bool b' => b == b'
  | .string s, .string s' => bytesSame s.data.toList s'.data.toList
  | .pointer none, .pointer none => true
  | .slice none a b, .slice none a' b' => Nat.beq a a' && Nat.beq b b'
  | .map none, .map none => true
  | .nilFunc, .nilFunc => true
  | .nilIface, .nilIface => true
  | .tuple a, .tuple b => a.toList.isEmpty && b.toList.isEmpty
  | _, _ => false

mutual
def aSame : AV → AV → Bool
  | .flat v, .flat w => vSame v w
  | .ptr n o, .ptr n' o' => Nat.beq n n' && Nat.beq o o'
  | .sl n o l c b, .sl n' o' l' c' b' => Nat.beq n n' && Nat.beq o o' && Nat.beq l l' && Nat.beq c c' && b == b'
  | .sle n o p, .sle n' o' p' => Nat.beq n n' && Nat.beq o o' && Nat.beq p p'
  | .mp n, .mp n' => Nat.beq n n'
  | .fn f a b, .fn f' a' b' => Nat.beq f f' && asSame a a' && asSame b b'
  | .yld n, .yld n' => Nat.beq n n'
  | .ifc t v, .ifc t' v' => Nat.beq t t' && aSame v v'
  | .agg l, .agg l' => asSame l l'
  | .tup l, .tup l' => asSame l l'
  | .pick n i l, .pick n' i' l' => Nat.beq n n' && Nat.beq i i' && asSame l l'
  | .any, .any => true
  | _, _ => false
def asSame : List AV → List AV → Bool
  | [], [] => true
  | a :: l, b :: m => aSame a b && asSame l m
  | _, _ => false
end

/-- what has been done: the operation's place, the operation, what it was, the memory ahead of it, the slots ahead of it, what it waits for -/
structure Done where
  i : Nat
  o : Oper
  loud : Bool
  want : Bool
  v : AV
  T : Tr AV
  A : AW
  A' : AW
  mask : Nat

def again (P : Program) (q : Done) (A : AW) : Bool :=
  match q.want with
  | false => true
  | true => match opA P q.T A q.o with
    | some (.val v) => aSame v q.v
    | _ => false

/-- two operations of which none waits for the other one -/
def pairOk (P : Program) (ops : Array Oper) (x y : Done) : Bool :=
  x.o.apart ops y.o &&
  match x.loud, y.loud with
  | false, false => true
  | true, true => false
  | true, false => again P y x.A && again P y x.A'
  | false, true => again P x y.A && again P x y.A'

def rowOk (P : Program) (ops : Array Oper) (x : Done) : List Done → Bool
  | [] => true
  | y :: l => (Nat.testBit x.mask y.i || pairOk P ops y x) && rowOk P ops x l

/-- what an operation waits for -/
def maskOf (ms : Tr Nat) (o : Oper) : Nat :=
  o.after.toList.foldl (fun s e => if Region.binds .any e then s ||| 2 ^ e.on ||| (ms.get e.on).getD 0 else s) 0

def edgesOk (i : Nat) (o : Oper) : Bool := o.after.toList.all fun e => !Region.binds .any e || Nat.blt e.on i

def drawA (P : Program) (rec : Rec) (nt : Nat) (ops : Array Oper) : Nat → List Oper → Tr Nat → List Done → Tr AV → AW → Option (Tr AV × AW)
  | _, [], _, _, T, A => some (T, A)
  | i, o :: l, ms, ds, T, A =>
    match wantA ops T o with
    | none => none
    | some w =>
      match stepA P rec ops o T A with
      | some (loud, v, A') =>
        let m := maskOf ms o
        let d : Done := { i, o, loud, want := w, v, T, A, A', mask := m }
        if edgesOk i o && dstOk nt o.dst && rowOk P ops d ds then drawA P rec nt ops (i + 1) l (ms.set i m) (d :: ds) (setT T o.dst v) A'
        else none
      | none => none

def regionA (P : Program) (rec : Rec) (nt : Nat) (ops : Array Oper) (draw : Bool) (T : Tr AV) (A : AW) : Option (Tr AV × AW) :=
  match draw with
  | false => opsA P rec nt ops ops.toList T A
  | true => drawA P rec nt ops 0 ops.toList .lf [] T A

/-! ### Frames -/

structure Fr where
  fn : FuncId
  nt : Nat
  rnd : Option Nat
  T : Tr AV
  defs : List Nat

inductive Jump where | ret | jump (c : Code)

def itemsA (P : Program) (rec : Rec) : Nat → Fr → List Item → AW → Option (Jump × Fr × AW)
  | 0, _, _, _ => none
  | m + 1, fr, todo, A =>
    match todo with
    | [] => some (.ret, fr, A)
    | .code .ret :: _ => match fr.rnd with | some _ => some (.jump .ret, fr, A) | none => some (.ret, fr, A)
    | .code .skip :: k | .code (.label _) :: k | .inBlock _ :: k | .inScope _ :: k => itemsA P rec m fr k A
    | .code (.seq a b) :: k => itemsA P rec m fr (.code a :: .code b :: k) A
    | .code (.cond c a b) :: k =>
      match boolOf? (ev fr.T c) with
      | some true => itemsA P rec m fr (.code a :: k) A
      | some false => itemsA P rec m fr (.code b :: k) A
      | none => none
    | .code (.block id body) :: k => itemsA P rec m fr (.code body :: .inBlock id :: k) A
    | .code (.loop body) :: k | .inLoop body :: k => itemsA P rec m fr (.code body :: .inLoop body :: k) A
    | .code (.scope body) :: k => itemsA P rec m fr (.code body :: .inScope body :: k) A
    | .code (.exit id) :: k => match exitTo id k with
      | some k => itemsA P rec m fr k A
      | none => match fr.rnd with | some _ => some (.jump (.exit id), fr, A) | none => none
    | .code (.goto l) :: k => match gotoIn l k with
      | some k => itemsA P rec m fr k A
      | none => match fr.rnd with | some _ => some (.jump (.goto l), fr, A) | none => none
    | .code (.region _ ops draw) :: k =>
      match regionA P rec fr.nt ops draw fr.T A with
      | some (T, A) => itemsA P rec m { fr with T } k A
      | none => none
    | .code (.rangeFunc f ps as body) :: k =>
      match (match fr.rnd with
        | some l => match A.get l with
          | some (.loop _ _ _ _ _ _ _ _ d) => some (d, fr.defs, A)
          | _ => none
        | none => some (A.next, A.next :: fr.defs, A.new (.deferred false)) : Option (Nat × List Nat × AW)) with
      | none => none
      | some (d, defs, A1) =>
        match ev fr.T f with
        | .fn g fst cap =>
          match (P.funcs[g]?).bind (·.body) with
          | none => none
          | some _ =>
            match rec (.enter g (fst ++ [.yld A1.next] ++ cap)) (A1.new (.loop .ready none fr.fn fr.nt fr.T ps.toList as body d)) with
            | some (_, A3) =>
              if Nat.ble (A1.next + 1) A3.next then
              match A3.get A1.next with
              | some (.loop st pend _ _ _ _ _ _ _) =>
                if st == .busy then none
                else itemsA P rec m { fr with defs } ((pend.map Item.code).toList ++ k) (A3.set A1.next .dead)
              | _ => none
              else none
            | none => none
        | _ => none
    | .beginRound :: k =>
      match fr.rnd with
      | some l => match A.get l with
        | some (.loop .ready pend f nt T0 ps as b d) => itemsA P rec m fr k (A.set l (.loop .busy pend f nt T0 ps as b d))
        | _ => none
      | none => none
    | _ => none

def resultsA (P : Program) (fn : Func) (T : Tr AV) (A : AW) : Option AV :=
  match fn.results.toList.mapM fun
      | .tmp t => some ((T.get t).getD undefA)
      | .cell a t => match T.get a with
        | some (.ptr n o) => loadA P A t n o
        | _ => none with
  | some [v] => some v
  | some vs => some (.tup vs)
  | none => none

def args0 : Nat → List AV → Tr AV → Tr AV
  | _, [], T => T
  | i, v :: l, T => args0 (i + 1) l (T.set i v)

def argsAt (nt : Nat) : List Tmp → List AV → Tr AV → Option (Tr AV)
  | [], [], T => some T
  | t :: ps, v :: l, T => if Nat.blt t nt then argsAt nt ps l (T.set t v) else none
  | _, _, _ => none

/-- the rounds' deferred calls, of which there are none, are taken -/
def takeA : List Nat → AW → Option AW
  | [], A => some A
  | r :: l, A => match A.get r with
    | some (.deferred false) => takeA l (A.set r .dead)
    | _ => none

/-! ### A sort of a row of picks: every order of them -/

def inserts {α : Type} (x : α) : List α → List (List α)
  | [] => [[x]]
  | y :: l => (x :: y :: l) :: (inserts x l).map (y :: ·)
def perms {α : Type} : List α → List (List α)
  | [] => [[]]
  | x :: l => (perms l).flatMap (inserts x)

/-- the picks of a going-through, all of them, in the order in which they came -/
def allPicks (i : Nat) (keys : List AV) : List Nat → List AV → Bool
  | [], [] => true
  | n :: ns, .pick m j l :: r => Nat.beq m n && Nat.beq j i && asSame l keys && allPicks i keys ns r
  | _, _ => false

/-- a call on one row of which all orders are looked at -/
def orders (rec : Rec) (f : FuncId) (args : List AV) (n next : Nat) (t : TypeId) : List (List AV) → Option (AV × List AV)
  | [] => none
  | [l] => match rec (.enter f args) ⟨Tr.lf.set n (.cells l t), next⟩ with
    | some (v, A) => match A.get n with
      | some (.cells r t') => if Nat.beq A.next next && Nat.beq t t' then some (v, r) else none
      | _ => none
    | none => none
  | l :: m => match rec (.enter f args) ⟨Tr.lf.set n (.cells l t), next⟩ with
    | some (v, A) => match A.get n with
      | some (.cells r t') =>
        match orders rec f args n next t m with
        | some (v', r') => if Nat.beq A.next next && Nat.beq t t' && aSame v v' && asSame r r' then some (v', r') else none
        | none => none
      | _ => none
    | none => none

def sortA (P : Program) (rec : Rec) (f : FuncId) (args : List AV) (A : AW) : Option (AV × AW) :=
  match args with
  | [.sl n o len cap opn] =>
    match A.get n with
    | some (.cells (.pick m i keys :: r) t) =>
      match A.get i with
      | some (.miter _ _ seen bs _) =>
        if allPicks i keys seen (.pick m i keys :: r) && Nat.beq seen.length bs.length && Nat.beq keys.length bs.length && keys.all AV.one then
          match orders rec f [.sl n o len cap opn] n A.next t (perms keys) with
          | some (v, r) => some (v, A.set n (.cells r t))
          | none => none
        else none
      | _ => none
    | _ => none
  | _ => none

def isPicks (args : List AV) (A : AW) : Bool :=
  match args with
  | [.sl n _ _ _ _] => match A.get n with
    | some (.cells (.pick _ _ _ :: _ :: _) _) => true
    | _ => false
  | _ => false

def bodyA (P : Program) (rec : Rec) (m : Nat) (f : FuncId) (args : List AV) (A : AW) : Option (AV × AW) :=
  match P.funcs[f]? with
  | none => none
  | some fn =>
    match fn.body with
    | none => none
    | some body =>
      if Nat.ble args.length fn.ntmps then
        match itemsA P rec m { fn := f, nt := fn.ntmps, rnd := none, T := args0 0 args .lf, defs := [] } [.code body] A with
        | some (.ret, fr, A) => match takeA fr.defs A with
          | some A => match resultsA P fn fr.T A with
            | some v => some (v, A)
            | none => none
          | none => none
        | _ => none
      else none

def roundA (P : Program) (rec : Rec) (m : Nat) (n : Nat) (args : List AV) (A : AW) : Option (AV × AW) :=
  match A.get n with
  | some (.loop _ _ f nt T ps as body _) =>
    match argsAt nt ps args T with
    | none => none
    | some T =>
      match itemsA P rec m { fn := f, nt, rnd := some n, T, defs := [] } [.code as, .beginRound, .code body] A with
      | some (j, _, A) =>
        match A.get n with
        | some (.loop _ _ f nt T0 ps as b d) =>
          match j with
          | .ret => some (.flat (.bool true), A.set n (.loop .ready none f nt T0 ps as b d))
          | .jump c => some (.flat (.bool false), A.set n (.loop .done (some c) f nt T0 ps as b d))
        | _ => none
      | none => none
  | _ => none

def reqA (P : Program) (m : Nat) : Nat → Req → AW → Option (AV × AW)
  | 0, _, _ => none
  | d + 1, .enter f args, A =>
    match isPicks args A with
    | true => sortA P (reqA P m d) f args A
    | false => bodyA P (reqA P m d) m f args A
  | d + 1, .round n args, A => roundA P (reqA P m d) m n args A

def isTrue : Option (AV × AW) → Bool
  | some (.flat (.bool b), _) => b
  | _ => false

def topA (P : Program) (m d : Nat) (f : FuncId) (args : List AV) : Bool := isTrue (reqA P m d (.enter f args) ⟨.lf, 0⟩)
end Go.Proofs.Ytiiobldhjhgifaa.Ab
