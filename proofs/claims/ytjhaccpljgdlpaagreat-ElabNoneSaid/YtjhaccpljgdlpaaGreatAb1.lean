/-
  A run of closed code over an abstract memory: regions, frames, calls.
-/
import Derived.Test.YtjhaccpljgdlpaaGreatAbF
namespace Go.Proofs.YtjhaccpljgdlpaaGreat.Ab
open Go
noncomputable section

inductive Req where
  | enter (f : FuncId) (args : List AV)
  | round (n : Nat) (args : List AV)
  /-- a call that was put off -/
  | dfr (f : FuncId) (args : List AV)
  deriving Inhabited

/-- what a frame does when it is left -/
inductive Def where
  | mark (r : Nat)
  | call (f : FuncId) (args cap : List AV)

abbrev Rec := Req → AW → Option (AV × AW)

/-- is the operation wanted? (none: it isn't known) -/
def wantA (ops : Array Oper) (T : Tr AV) (o : Oper) : Option Bool :=
  match o.guard with
  | none => some true
  | some (j, want) =>
    match (ops[j]?).bind (·.dst) with
    | none => some false
    | some d =>
      match (T.get d).getD undefA with
      | .flat (.bool b) => some (b == want)
      | .flat _ => some false
      | _ => none

def setT (T : Tr AV) (d : Option Tmp) (v : AV) : Tr AV := match d with | some d => T.set d v | none => T

def dstOk (nt : Nat) (d : Option Tmp) : Bool := match d with | some d => Nat.blt d nt | none => true

/-- what is called, with the memory ahead of it -/
def calledA (rec : Rec) (r : Req) (A : AW) : Option (Bool × AV × AW) :=
  match rec r A with
  | some (v, A') => if Nat.ble A.next A'.next then some (true, v, A') else none
  | none => none

/-- one operation: is it loud, its value, the memory behind it -/
def stepA (P : Program) (rec : Rec) (ops : Array Oper) (o : Oper) (T : Tr AV) (A : AW) : Option (Bool × AV × AW) :=
  match wantA ops T o with
  | none => none
  | some false => some (false, undefA, A)
  | some true =>
    match opF P T A o with
    | none => none
    | some (.val v) => some (false, v, A)
    | some (.new v ob) => some (true, v, A.new ob)
    | some (.chg v A') => if Nat.ble A.next A'.next then some (true, v, A') else none
    | some (.enter f args) => calledA rec (.enter f args) A
    | some (.round n args) => calledA rec (.round n args) A
    | some (.dfr _ _ _) => none

/-- is the operation one that puts a call off? -/
def deferA (P : Program) (ops : Array Oper) (o : Oper) (T : Tr AV) (A : AW) : Option Def :=
  match o.op with
  | .defer _ =>
    match wantA ops T o with
    | some true => match opF P T A o with
      | some (.dfr f args cap) => some (.call f args cap)
      | _ => none
    | _ => none
  | _ => none

abbrev OpsOut := Option (Tr AV × AW × List Def)
def opsPut (nt : Nat) (rnd : Bool) (o : Oper) (x : Def) (ih : Tr AV → AW → OpsOut) (T : Tr AV) (A : AW) : OpsOut :=
  match rnd with
  | true => none
  | false => if dstOk nt o.dst then
      match ih (setT T o.dst undefA) A with
      | some (T, A, xs) => some (T, A, xs ++ [x])
      | none => none
    else none
def opsGo (P : Program) (rec : Rec) (nt : Nat) (ops : Array Oper) (o : Oper) (ih : Tr AV → AW → OpsOut) (T : Tr AV) (A : AW) : OpsOut :=
  match stepA P rec ops o T A with
  | some (_, v, A) => if dstOk nt o.dst then ih (setT T o.dst v) A else none
  | none => none
def opsStep (P : Program) (rec : Rec) (nt : Nat) (rnd : Bool) (ops : Array Oper) (o : Oper) (ih : Tr AV → AW → OpsOut) (T : Tr AV) (A : AW) : OpsOut :=
  match deferA P ops o T A with
  | some x => opsPut nt rnd o x ih T A
  | none => opsGo P rec nt ops o ih T A
/-- operations one behind the other; what was put off, the last one first -/
def opsA (P : Program) (rec : Rec) (nt : Nat) (rnd : Bool) (ops : Array Oper) (l : List Oper) : Tr AV → AW → OpsOut :=
  List.rec (motive := fun _ => Tr AV → AW → OpsOut) (fun T A => some (T, A, [])) (fun o _ ih => opsStep P rec nt rnd ops o ih) l

/-! ### Regions that draw their order -/

def bytesSame (a b : List UInt8) : Bool := decide (a = b)

def vSame : Value → Value → Bool
  | .int k n, .int k' n' => decide (k = k') && decide (n = n')
  | .bool b, .bool b' => b == b'
  | .string s, .string s' => bytesSame s.data.toList s'.data.toList
  | .pointer none, .pointer none => true
  | .slice none a b, .slice none a' b' => Nat.beq a a' && Nat.beq b b'
  | .map none, .map none => true
  | .nilFunc, .nilFunc => true
  | .nilIface, .nilIface => true
  | .tuple a, .tuple b => a.toList.isEmpty && b.toList.isEmpty
  | _, _ => false

mutual
def aSame : AV → AV → Bool
  | .flat v, .flat w => vSame v w
  | .ptr n o, .ptr n' o' => Nat.beq n n' && Nat.beq o o'
  | .sl n o l c b, .sl n' o' l' c' b' => Nat.beq n n' && Nat.beq o o' && Nat.beq l l' && Nat.beq c c' && b == b'
  | .sle n o p, .sle n' o' p' => Nat.beq n n' && Nat.beq o o' && Nat.beq p p'
  | .mp n, .mp n' => Nat.beq n n'
  | .fn f a b, .fn f' a' b' => Nat.beq f f' && asSame a a' && asSame b b'
  | .yld n, .yld n' => Nat.beq n n'
  | .ifc t v, .ifc t' v' => Nat.beq t t' && aSame v v'
  | .agg l, .agg l' => asSame l l'
  | .tup l, .tup l' => asSame l l'
  | .pick n i l, .pick n' i' l' => Nat.beq n n' && Nat.beq i i' && asSame l l'
  | .any, .any => true
  | .rng a b, .rng a' b' => decide (a = a') && decide (b = b')
  | _, _ => false
def asSame : List AV → List AV → Bool
  | [], [] => true
  | a :: l, b :: m => aSame a b && asSame l m
  | _, _ => false
end

/-- what has been done: the operation's place; its kind (0: it asks no memory; 1: a new block, and it asks no memory; 2: it reads; 3: any other); its value; the slots ahead of it;
the chain's memory ahead of it and behind it, and which new blocks are in it; its names; its block; what it waits for -/
structure Done where
  i : Nat
  o : Oper
  kind : Nat
  want : Bool
  v : AV
  T : Tr AV
  C : AW
  ab : Nat
  C' : AW
  ab' : Nat
  s : Nat
  e : Nat
  ob : AO
  mask : Nat

/-- the new blocks of a mask, but those that are in already -/
def addP : List Done → Nat → Nat → AW → AW
  | [], _, _, A => A
  | d :: l, m, ab, A =>
    match Nat.testBit m d.i && !Nat.testBit ab d.i with
    | true => addP l m ab (A.set d.s d.ob)
    | false => addP l m ab A
def runA (fs : List Done) (m ab s : Nat) (C : AW) : AW := { addP fs m ab C with next := s }

def again (P : Program) (q : Done) (A : AW) : Bool :=
  match opF P q.T A q.o with
  | some (.val v) => aSame v q.v
  | _ => false

/-- two operations of which none waits for the other one: their outcomes -/
def pairOk (P : Program) (fs : List Done) (x y : Done) : Bool :=
  match x.kind, y.kind with
  | 3, 3 => false
  | 3, 2 => again P y (runA fs y.mask x.ab y.s x.C) && again P y (runA fs y.mask x.ab' y.s x.C')
  | 2, 3 => again P x (runA fs x.mask y.ab x.s y.C) && again P x (runA fs x.mask y.ab' x.s y.C')
  | _, _ => true

def rowOk (P : Program) (fs : List Done) (y : Done) : List Done → Bool
  | [] => true
  | x :: l => (Nat.testBit y.mask x.i || pairOk P fs x y) && rowOk P fs y l

def pairsOk (P : Program) (fs : List Done) : List Done → Bool
  | [] => true
  | y :: l => match Nat.ble 2 y.kind with
    | true => rowOk P fs y l && pairsOk P fs l
    | false => pairsOk P fs l

def gone (A : AW) (n : Nat) : Bool := match A.get n with | none => true | some _ => false

def namesOk (A0 : AW) (fs all : List Done) : Bool :=
  fs.all fun f => gone A0 f.s && all.all fun l => match Nat.beq l.kind 3 with
    | true => (Nat.testBit l.ab f.i || gone l.C f.s) && (Nat.testBit l.ab' f.i || gone l.C' f.s)
    | false => true

/-- what an operation waits for -/
def maskOf (ms : Tr Nat) (o : Oper) : Nat :=
  o.after.toList.foldl (fun s e => if Region.binds .any e then s ||| 2 ^ e.on ||| (ms.get e.on).getD 0 else s) 0
/-- of each operation what it waits for: the region's own, whatever memory there is -/
def masksL : Nat → List Oper → Tr Nat → List (Oper × Nat)
  | _, [], _ => []
  | i, o :: l, ms => (o, maskOf ms o) :: masksL (i + 1) l (ms.set i (maskOf ms o))

def edgesOk (i : Nat) (o : Oper) : Bool := o.after.toList.all fun e => !Region.binds .any e || Nat.blt e.on i
def apartRow (ops : Array Oper) (x : Oper) (i : Nat) : List (Oper × Nat) → Bool
  | [] => true
  | y :: l => (Nat.testBit y.2 i || x.apart ops y.1) && apartRow ops x i l
def apartAll (ops : Array Oper) (nt : Nat) : Nat → List (Oper × Nat) → Bool
  | _, [] => true
  | i, x :: l => edgesOk i x.1 && dstOk nt x.1.dst && apartRow ops x.1 i l && apartAll ops nt (i + 1) l
/-- what a region's text says by itself -/
def staticOk (nt : Nat) (ops : Array Oper) : Bool := apartAll ops nt 0 (masksL 0 ops.toList .lf)

def notDead : AO → Bool | .dead => false | _ => true

/-- does it ask no memory, most likely? -/
def asksNone : Op → Bool
  | .load .. | .store .. | .lookup .. | .mapUpdate .. | .insert .. | .next .. | .entry .. | .call .. | .range .. => false
  | _ => true

def quietD (i : Nat) (o : Oper) (mask kind : Nat) (want : Bool) (v : AV) (T : Tr AV) (C : AW) (ab s : Nat) : Done :=
  { i, o, kind, want, v, T, C, ab, C' := C, ab' := ab, s, e := s, ob := .dead, mask }
def freshD (i : Nat) (o : Oper) (mask : Nat) (v : AV) (ob : AO) (T : Tr AV) (C : AW) (ab s : Nat) : Done :=
  { i, o, kind := 1, want := true, v, T, C, ab, C' := C, ab' := ab, s, e := s + 1, ob, mask }
def loudD (i : Nat) (o : Oper) (mask : Nat) (v : AV) (T : Tr AV) (C : AW) (ab s : Nat) (A' : AW) : Done :=
  { i, o, kind := 3, want := true, v, T, C, ab, C' := A', ab' := ab ||| mask, s, e := A'.next, ob := .dead, mask }

def askA (P : Program) (rec : Rec) (ops : Array Oper) (i : Nat) (o : Oper) (mask : Nat) (fs : List Done) (T : Tr AV) (C : AW) (ab s : Nat) : Option Done :=
  match stepA P rec ops o T (runA fs mask ab s C) with
  | some (false, v, _) => some (quietD i o mask 2 true v T C ab s)
  | some (true, v, A') => some (loudD i o mask v T C ab s A')
  | none => none

def pureA (P : Program) (rec : Rec) (ops : Array Oper) (i : Nat) (o : Oper) (mask : Nat) (fs : List Done) (T : Tr AV) (C : AW) (ab s : Nat) : Option Done :=
  match opF P T ⟨.lf, s⟩ o with
  | some (.val v) => some (quietD i o mask 0 true v T C ab s)
  | some (.new v ob) => match notDead ob with
    | true => some (freshD i o mask v ob T C ab s)
    | false => none
  | _ => askA P rec ops i o mask fs T C ab s

def oneA (P : Program) (rec : Rec) (ops : Array Oper) (i : Nat) (o : Oper) (mask : Nat) (fs : List Done) (T : Tr AV) (C : AW) (ab s : Nat) : Option Done :=
  match wantA ops T o with
  | none => none
  | some false => some (quietD i o mask 0 false undefA T C ab s)
  | some true =>
    match asksNone o.op with
    | true => pureA P rec ops i o mask fs T C ab s
    | false => askA P rec ops i o mask fs T C ab s

def moreF (d : Done) (fs : List Done) : List Done := match Nat.beq d.kind 1 with | true => d :: fs | false => fs

abbrev TrOut := Option (List Done × List Done × Tr AV × AW × Nat × Nat)
abbrev TrSelf := Nat → List Done → List Done → Tr AV → AW → Nat → Nat → TrOut
def traceStep (P : Program) (rec : Rec) (ops : Array Oper) (x : Oper × Nat) (ih : TrSelf) (i : Nat) (ds fs : List Done) (T : Tr AV) (C : AW) (ab s : Nat) : TrOut :=
  match oneA P rec ops i x.1 x.2 fs T C ab s with
  | none => none
  | some d => ih (i + 1) (d :: ds) (moreF d fs) (setT T x.1.dst d.v) d.C' d.ab' d.e
def traceA (P : Program) (rec : Rec) (ops : Array Oper) (l : List (Oper × Nat)) : TrSelf :=
  List.rec (motive := fun _ => TrSelf) (fun _ ds fs T C ab s => some (ds, fs, T, C, ab, s)) (fun x _ ih => traceStep P rec ops x ih) l

def endA (P : Program) (n : Nat) (A : AW) : List Done × List Done × Tr AV × AW × Nat × Nat → Option (Tr AV × AW)
  | (ds, fs, T', C, ab, s) =>
    match pairsOk P fs ds && namesOk A fs ds with
    | true => some (T', runA fs (2 ^ n - 1) ab s C)
    | false => none

def drawA (P : Program) (rec : Rec) (nt : Nat) (ops : Array Oper) (T : Tr AV) (A : AW) : Option (Tr AV × AW) :=
  match staticOk nt ops with
  | true =>
    match traceA P rec ops (masksL 0 ops.toList .lf) 0 [] [] T A 0 A.next with
    | none => none
    | some r => endA P ops.size A r
  | false => none

def regionA (P : Program) (rec : Rec) (nt : Nat) (rnd : Bool) (ops : Array Oper) (draw : Bool) (T : Tr AV) (A : AW) : Option (Tr AV × AW × List Def) :=
  match draw with
  | false => opsA P rec nt rnd ops ops.toList T A
  | true => match drawA P rec nt ops T A with
    | some (T, A) => some (T, A, [])
    | none => none

/-! ### Frames -/

structure Fr where
  fn : FuncId
  nt : Nat
  rnd : Option Nat
  T : Tr AV
  defs : List Def

inductive Jump where | ret | jump (c : Code)

abbrev Out := Option (Jump × Fr × AW)
abbrev Self := Fr → List Item → AW → Out

def itRet (fr : Fr) (A : AW) : Out := match fr.rnd with | some _ => some (.jump .ret, fr, A) | none => some (.ret, fr, A)
def itCond (self : Self) (fr : Fr) (c : Operand) (a b : Code) (k : List Item) (A : AW) : Out :=
  match boolOf? (ev fr.T c) with
  | some true => self fr (.code a :: k) A
  | some false => self fr (.code b :: k) A
  | none => none
def itExit (self : Self) (fr : Fr) (id : Nat) (k : List Item) (A : AW) : Out :=
  match exitTo id k with
  | some k => self fr k A
  | none => match fr.rnd with | some _ => some (.jump (.exit id), fr, A) | none => none
def itGoto (self : Self) (fr : Fr) (l : Nat) (k : List Item) (A : AW) : Out :=
  match gotoIn l k with
  | some k => self fr k A
  | none => match fr.rnd with | some _ => some (.jump (.goto l), fr, A) | none => none
def itRegion (P : Program) (rec : Rec) (self : Self) (fr : Fr) (ops : Array Oper) (draw : Bool) (k : List Item) (A : AW) : Out :=
  match regionA P rec fr.nt fr.rnd.isSome ops draw fr.T A with
  | some (T, A, xs) => self { fr with T, defs := xs ++ fr.defs } k A
  | none => none
/-- how a range over a function begins, over the abstract memory -/
def beginA (fr : Fr) (A : AW) : Option (Nat × List Def × AW) :=
  match fr.rnd with
  | some l => match A.get l with
    | some (.loop _ _ _ _ _ _ _ _ d) => some (d, fr.defs, A)
    | _ => none
  | none => some (A.next, .mark A.next :: fr.defs, A.new (.deferred false))
def itAfter (self : Self) (fr : Fr) (defs : List Def) (k : List Item) (l : Nat) (A3 : AW) : Out :=
  match A3.get l with
  | some (.loop st pend _ _ _ _ _ _ _) =>
    if st == .busy then none
    else self { fr with defs } ((pend.map Item.code).toList ++ k) (A3.set l .dead)
  | _ => none
def itCall (P : Program) (rec : Rec) (self : Self) (fr : Fr) (defs : List Def) (k : List Item) (g : FuncId) (args : List AV) (l : Nat) (A2 : AW) : Out :=
  match (P.funcs[g]?).bind (·.body) with
  | none => none
  | some _ =>
    match rec (.enter g args) A2 with
    | some (_, A3) => if Nat.ble (l + 1) A3.next then itAfter self fr defs k l A3 else none
    | none => none
def itRange (P : Program) (rec : Rec) (self : Self) (fr : Fr) (f : Operand) (ps : Array Tmp) (as body : Code) (k : List Item) (A : AW) : Out :=
  match beginA fr A with
  | none => none
  | some (d, defs, A1) =>
    match ev fr.T f with
    | .fn g fst cap => itCall P rec self fr defs k g (fst ++ [.yld A1.next] ++ cap) A1.next (A1.new (.loop .ready none fr.fn fr.nt fr.T ps.toList as body d))
    | _ => none
def itBegin (self : Self) (fr : Fr) (k : List Item) (A : AW) : Out :=
  match fr.rnd with
  | some l => match A.get l with
    | some (.loop .ready pend f nt T0 ps as b d) => self fr k (A.set l (.loop .busy pend f nt T0 ps as b d))
    | _ => none
  | none => none
def itCode (P : Program) (rec : Rec) (self : Self) (fr : Fr) (c : Code) (k : List Item) (A : AW) : Out :=
  match c with
  | .ret => itRet fr A
  | .skip => self fr k A
  | .label _ => self fr k A
  | .seq a b => self fr (.code a :: .code b :: k) A
  | .cond c a b => itCond self fr c a b k A
  | .block id body => self fr (.code body :: .inBlock id :: k) A
  | .loop body => self fr (.code body :: .inLoop body :: k) A
  | .scope body => self fr (.code body :: .inScope body :: k) A
  | .exit id => itExit self fr id k A
  | .goto l => itGoto self fr l k A
  | .region _ ops draw => itRegion P rec self fr ops draw k A
  | .rangeFunc f ps as body => itRange P rec self fr f ps as body k A
  | _ => none
def itItem (P : Program) (rec : Rec) (self : Self) (fr : Fr) (it : Item) (k : List Item) (A : AW) : Out :=
  match it with
  | .code c => itCode P rec self fr c k A
  | .inBlock _ => self fr k A
  | .inScope _ => self fr k A
  | .inLoop body => self fr (.code body :: .inLoop body :: k) A
  | .beginRound => itBegin self fr k A
  | _ => none
def itStep (P : Program) (rec : Rec) (ih : Self) (fr : Fr) (todo : List Item) (A : AW) : Out :=
  match todo with
  | [] => some (.ret, fr, A)
  | it :: k => itItem P rec ih fr it k A
def itemsA (P : Program) (rec : Rec) (m : Nat) : Self :=
  Nat.rec (motive := fun _ => Self) (fun _ _ _ => none) (fun _ ih => itStep P rec ih) m

def resultsA (P : Program) (fn : Func) (T : Tr AV) (A : AW) : Option AV :=
  match fn.results.toList.mapM fun
      | .tmp t => some ((T.get t).getD undefA)
      | .cell a t => match T.get a with
        | some (.ptr n o) => loadA P A t n o
        | _ => none with
  | some [v] => some v
  | some vs => some (.tup vs)
  | none => none

def args0 : Nat → List AV → Tr AV → Tr AV
  | _, [], T => T
  | i, v :: l, T => args0 (i + 1) l (T.set i v)

def argsAt (nt : Nat) : List Tmp → List AV → Tr AV → Option (Tr AV)
  | [], [], T => some T
  | t :: ps, v :: l, T => if Nat.blt t nt then argsAt nt ps l (T.set t v) else none
  | _, _, _ => none

/-- what was put off is done; the rounds' deferred calls, of which there are none, are taken -/
def takeA (rec : Rec) : List Def → AW → Option AW
  | [], A => some A
  | .mark r :: l, A => match A.get r with
    | some (.deferred false) => takeA rec l (A.set r .dead)
    | _ => none
  | .call f args cap :: l, A => match rec (.dfr f (args ++ cap)) A with
    | some (_, A') => if Nat.ble A.next A'.next then takeA rec l A' else none
    | none => none

/-! ### A sort of a row of picks: every order of them -/

def inserts {α : Type} (x : α) : List α → List (List α)
  | [] => [[x]]
  | y :: l => (x :: y :: l) :: (inserts x l).map (y :: ·)
def perms {α : Type} : List α → List (List α)
  | [] => [[]]
  | x :: l => (perms l).flatMap (inserts x)

/-- the picks of a going-through, all of them, in the order in which they came -/
def allPicks (i : Nat) (keys : List AV) : List Nat → List AV → Bool
  | [], [] => true
  | n :: ns, .pick m j l :: r => Nat.beq m n && Nat.beq j i && asSame l keys && allPicks i keys ns r
  | _, _ => false

/-- a call on one row of which all orders are looked at -/
def orders (rec : Rec) (f : FuncId) (args : List AV) (n next : Nat) (t : TypeId) : List (List AV) → Option (AV × List AV)
  | [] => none
  | [l] => match rec (.enter f args) ⟨Tr.lf.set n (.cells l t), next⟩ with
    | some (v, A) => match A.get n with
      | some (.cells r t') => if Nat.beq A.next next && Nat.beq t t' then some (v, r) else none
      | _ => none
    | none => none
  | l :: m => match rec (.enter f args) ⟨Tr.lf.set n (.cells l t), next⟩ with
    | some (v, A) => match A.get n with
      | some (.cells r t') =>
        match orders rec f args n next t m with
        | some (v', r') => if Nat.beq A.next next && Nat.beq t t' && aSame v v' && asSame r r' then some (v', r') else none
        | none => none
      | _ => none
    | none => none

def sortA (_P : Program) (rec : Rec) (f : FuncId) (args : List AV) (A : AW) : Option (AV × AW) :=
  match args with
  | [.sl n o len cap opn] =>
    match A.get n with
    | some (.cells (.pick m i keys :: r) t) =>
      match A.get i with
      | some (.miter _ _ seen bs _) =>
        if allPicks i keys seen (.pick m i keys :: r) && Nat.beq seen.length bs.length && Nat.beq keys.length bs.length && keys.all AV.one then
          match orders rec f [.sl n o len cap opn] n A.next t (perms keys) with
          | some (v, r) => some (v, A.set n (.cells r t))
          | none => none
        else none
      | _ => none
    | _ => none
  | _ => none

def isPicks (args : List AV) (A : AW) : Bool :=
  match args with
  | [.sl n _ _ _ _] => match A.get n with
    | some (.cells (.pick _ _ _ :: _ :: _) _) => true
    | _ => false
  | _ => false

/-- what was put off has a body -/
def callsOk (P : Program) : List Def → Bool
  | [] => true
  | .mark _ :: l => callsOk P l
  | .call f _ _ :: l => (match P.funcs[f]? with | some fn => fn.body.isSome | none => false) && callsOk P l

def bodyA (P : Program) (rec : Rec) (m : Nat) (f : FuncId) (args : List AV) (A : AW) : Option (AV × AW) :=
  match P.funcs[f]? with
  | none => none
  | some fn =>
    match fn.body with
    | none => none
    | some body =>
      if Nat.ble args.length fn.ntmps then
        match itemsA P rec m { fn := f, nt := fn.ntmps, rnd := none, T := args0 0 args .lf, defs := [] } [.code body] A with
        | some (.ret, fr, A) => match (if callsOk P fr.defs then takeA rec fr.defs A else none) with
          | some A => match resultsA P fn fr.T A with
            | some v => some (v, A)
            | none => none
          | none => none
        | _ => none
      else none

def roundA (P : Program) (rec : Rec) (m : Nat) (n : Nat) (args : List AV) (A : AW) : Option (AV × AW) :=
  match A.get n with
  | some (.loop _ _ f nt T ps as body _) =>
    match argsAt nt ps args T with
    | none => none
    | some T =>
      match itemsA P rec m { fn := f, nt, rnd := some n, T, defs := [] } [.code as, .beginRound, .code body] A with
      | some (j, _, A) =>
        match A.get n with
        | some (.loop _ _ f nt T0 ps as b d) =>
          match j with
          | .ret => some (.flat (.bool true), A.set n (.loop .ready none f nt T0 ps as b d))
          | .jump c => some (.flat (.bool false), A.set n (.loop .done (some c) f nt T0 ps as b d))
        | _ => none
      | none => none
  | _ => none

/-- hk: closed functions of which it is known that they are true -/
def reqA (P : Program) (hk : FuncId → Bool) (m : Nat) : Nat → Req → AW → Option (AV × AW)
  | 0, _, _ => none
  | d + 1, .enter f args, A =>
    match hk f && args.isEmpty with
    | true => some (.flat (.bool true), A)
    | false =>
      match isPicks args A with
      | true => sortA P (reqA P hk m d) f args A
      | false => bodyA P (reqA P hk m d) m f args A
  | d + 1, .round n args, A => roundA P (reqA P hk m d) m n args A
  | d + 1, .dfr f args, A => bodyA P (reqA P hk m d) m f args A

def isTrue : Option (AV × AW) → Bool
  | some (.flat (.bool b), _) => b
  | _ => false

def topA (P : Program) (hk : FuncId → Bool) (m d : Nat) (f : FuncId) (args : List AV) : Bool := isTrue (reqA P hk m d (.enter f args) ⟨.lf, 0⟩)
def noHook : FuncId → Bool := fun _ => false
def hook (f : FuncId) : FuncId → Bool := fun g => Nat.beq g f
end
end Go.Proofs.YtjhaccpljgdlpaaGreat.Ab
