/- Ab0 Ab2 Ab3 Ab4 Ab5 Ab6 Ab7 -/
import GoSem.Step
import Derived.Orders
import Derived.Below
import Derived.Deep.AppendSrc
import Derived.Laws.MakeOwn
namespace Go.Proofs.YtookoagcmejkpaaGreatDoor.Ab
open Go
noncomputable section
inductive Tr (α : Type) where
 | lf
 | nd (v : Option α) (l r : Tr α)
 deriving Inhabited
namespace Tr
def bitStep (ih : Nat → List Bool) (k : Nat) : List Bool :=
 match Nat.beq k 0 with
 | true => []
 | false => Nat.beq (k % 2) 1 :: ih ((k - 1) / 2)
noncomputable def bitsN (f : Nat) : Nat → List Bool := Nat.rec (motive := fun _ => Nat → List Bool) (fun _ => []) (fun _ ih => bitStep ih) f
noncomputable def bits (k : Nat) : List Bool := bitsN k k
noncomputable def getB {α : Type} (bs : List Bool) : Tr α → Option α :=
 List.rec (motive := fun _ => Tr α → Option α) (fun t => match t with | .lf => none | .nd v _ _ => v)
  (fun b _ ih t => match t with
  | .lf => none
  | .nd _ l r => match b with | true => ih l | false => ih r) bs
noncomputable def putB {α : Type} (bs : List Bool) : Tr α → α → Tr α :=
 List.rec (motive := fun _ => Tr α → α → Tr α) (fun t x => match t with | .lf => .nd (some x) .lf .lf | .nd _ l r => .nd (some x) l r)
  (fun b _ ih t x => match t with
  | .lf => (match b with | true => .nd none (ih .lf x) .lf | false => .nd none .lf (ih .lf x))
  | .nd v l r => (match b with | true => .nd v (ih l x) r | false => .nd v l (ih r x))) bs
noncomputable def get {α : Type} (t : Tr α) (k : Nat) : Option α := getB (bits k) t
noncomputable def set {α : Type} (t : Tr α) (k : Nat) (x : α) : Tr α := putB (bits k) t x
end Tr
inductive AV where
 | flat (v : Value)
 | ptr (n o : Nat)
 | sl (n o len cap : Nat) (opn : Bool)
  | sle (n o1 o2 : Nat)
 | mp (n : Nat)
 | fn (f : FuncId) (fst cap : List AV)
 | yld (n : Nat)
 | ifc (t : TypeId) (v : AV)
 | agg (l : List AV)
 | tup (l : List AV)
  | pick (n i : Nat) (l : List AV)
  | any
  | rng (lo hi : Int)
 deriving Inhabited

inductive AO where
 | dead
 | cells (l : List AV) (elem : TypeId)
 | map (es : List (AV × AV × Nat)) (clock : Nat)
 | loop (st : LoopState) (pend : Option Code) (f : FuncId) (nt : Nat) (tmps : Tr AV) (params : List Tmp) (assign body : Code) (defers : Nat)
 | deferred (taken : Bool)
 | siter (s : ByteArray) (pos : Nat)
  | miter (m : Option Nat) (since : Nat) (seen bs : List Nat) (stepped : Nat)
 deriving Inhabited

structure AW where
 h : Tr AO
 next : Nat
 deriving Inhabited

def AW.get (A : AW) (n : Nat) : Option AO := A.h.get n
def AW.set (A : AW) (n : Nat) (o : AO) : AW := { A with h := A.h.set n o }
def AW.new (A : AW) (o : AO) : AW := { h := A.h.set A.next o, next := A.next + 1 }

def cellsOf (A : AW) (n : Nat) : Option (List AV × TypeId) :=
 match A.get n with
 | some (.cells l t) => some (l, t)
 | _ => none

def pureRun {α : Type} (P : Program) : Sem α → Option α
 | .pure a => some a
 | .program k => pureRun P (k P)
 | .mark _ k => pureRun P k
 | _ => none

mutual
def toV : AV → Option Value
 | .flat v => some v
 | .agg l => match toVs l with | some vs => some (.agg vs.toArray) | none => none
 | _ => none
def toVs : List AV → Option (List Value)
 | [] => some []
 | a :: l => match toV a, toVs l with | some v, some vs => some (v :: vs) | _, _ => none
end
def fromV1 : Value → AV
 | .agg cs => .agg (cs.toList.map .flat)
 | v => .flat v
def fromV : Value → AV
 | .tuple vs => .tup (vs.toList.map fromV1)
 | v => fromV1 v

def AV.cells : AV → List AV
 | .agg l => l
 | .flat (.agg cs) => cs.toList.map .flat
 | v => [v]

def AV.one : AV → Bool
 | .agg _ | .tup _ => false
 | .flat v => match v with | .agg _ | .tuple _ => false | _ => true
 | _ => true

def undefA : AV := .flat (.tuple #[])

def ev (T : Tr AV) : Operand → AV
 | .tmp t => (T.get t).getD undefA
 | .const v => fromV v
 | .global g => .flat (.pointer (some ⟨g, 0, none⟩))
 | .func f => .fn f [] []

inductive AR where
  | val (v : AV)
  | new (v : AV) (o : AO)
  | chg (v : AV) (A : AW)
 | enter (f : FuncId) (args : List AV)
 | round (n : Nat) (args : List AV)
  | dfr (f : FuncId) (args cap : List AV)
 deriving Inhabited

def intOf? : AV → Option Int
 | .flat (.int _ n) => some n
 | _ => none
def byteOf? : AV → Option UInt8
 | .flat (.int .u8 n) => some n.toNat.toUInt8
 | _ => none
def bytesOf? : List AV → Option (List UInt8)
 | [] => some []
 | .flat (.int .u8 n) :: l => match bytesOf? l with
  | some r => if (n.toNat.toUInt8.toNat : Int) = n then some (n.toNat.toUInt8 :: r) else none
  | none => none
 | _ => none
def u8sOf? : List AV → Option (List Int)
 | [] => some []
 | .flat (.int .u8 n) :: l => match u8sOf? l with
  | some r => some (n :: r)
  | none => none
 | _ => none
def natOf? (a : AV) : Option Nat :=
 match intOf? a with
 | some n => if 0 ≤ n then some n.toNat else none
 | none => none
def boolOf? : AV → Option Bool
 | .flat (.bool b) => some b
 | _ => none

def sizeA (P : Program) (t : TypeId) : Option Nat := (P.info? t).map (·.size)
def isAggA (P : Program) (t : TypeId) : Option Bool :=
 match P.underlying t with
 | some (.struct _) | some (.array _ _) => some true
 | some _ => some false
 | none => none
def zeroA (P : Program) (t : TypeId) : Option AV :=
 match P.info? t with
 | some i => match i.zero with | some v => some (fromV v) | none => none
 | none => none

def cut (l : List AV) (o n : Nat) : Option (List AV) :=
 let r := (l.drop o).take n
 if r.length = n then some r else none

def putAt : List AV → Nat → List AV → Option (List AV)
 | l, 0, [] => some l
 | _ :: l, 0, x :: xs => match putAt l 0 xs with | some r => some (x :: r) | none => none
 | [], 0, _ :: _ => none
 | [], _ + 1, _ => none
 | y :: l, o + 1, xs => match putAt l o xs with | some r => some (y :: r) | none => none

def loadA (P : Program) (A : AW) (t : TypeId) (n o : Nat) : Option AV :=
 match cellsOf A n, isAggA P t, sizeA P t with
 | some (l, _), some true, some s => (cut l o s).map .agg
 | some (l, _), some false, _ => l[o]?
 | _, _, _ => none

def storeA (P : Program) (A : AW) (t : TypeId) (n o : Nat) (v : AV) : Option AW :=
 match cellsOf A n, sizeA P t with
 | some (l, e), some s =>
  if v.cells.length = s && v.cells.all AV.one then
   match putAt l o v.cells with
   | some l' => some (A.set n (.cells l' e))
   | none => none
  else none
 | _, _ => none

def partA (P : Program) (t : TypeId) (l : List AV) (off : Nat) : Option AV :=
 match isAggA P t, sizeA P t with
 | some true, some s => (cut l off s).map .agg
 | some false, _ => l[off]?
 | _, _ => none

def fillA (place : Nat → Option (Nat × Nat)) : List AV → List (Nat × AV) → Option (List AV)
 | cells, [] => some cells
 | cells, (i, v) :: rest =>
  match place i with
  | none => none
  | some (off, size) =>
   if v.cells.length = size then
    match putAt cells off v.cells with
    | some c => fillA place c rest
    | none => none
   else none

def placesA (P : Program) (fields : List Field) : Option (List (Nat × Nat)) :=
 fields.mapM fun f => (sizeA P f.type).map fun s => (f.offset, s)

def buildA (P : Program) (t : TypeId) (parts : List (Nat × AV)) : Option AV :=
 match zeroA P t, P.underlying t with
 | some z, some (.struct fields) =>
  match placesA P fields.toList with
  | some ps => (fillA (fun i => ps[i]?) z.cells parts).map .agg
  | none => none
 | some z, some (.array _ elem) =>
  match sizeA P elem with
  | some s => (fillA (fun i => some (i * s, s)) z.cells parts).map .agg
  | none => none
 | _, _ => none

def zerosA (z : List AV) : Nat → List AV
 | 0 => []
 | n + 1 => z ++ zerosA z n

def bareEntries : List (AV × AV × Nat) → Option (List MapEntry)
 | [] => some []
 | e :: l => match toV e.1, bareEntries l with
  | some v, some r => some ({ key := v, val := .bool false, born := e.2.2 } :: r)
  | _, _ => none

def findA (P : Program) (kt : TypeId) (k : Value) (es : List (AV × AV × Nat)) : Option (Option Nat) :=
 match bareEntries es with
 | some l =>
  match pureRun P (Instr.findKey kt k l) with
  | some (some (i, _)) => some (some i)
  | some none => some none
  | none => none
 | none => none

def keyOk (P : Program) (empty : Bool) (kt : TypeId) (k : Value) : Bool := (pureRun P (Instr.checkKey empty 10000 kt k)).isSome

def lookupA (P : Program) (A : AW) (t : TypeId) (m k : AV) (ok : Bool) : Option AV :=
 match P.underlying t, toV k with
 | some (.map kt elem), some kv =>
  match (match m with
   | .flat (.map none) => some []
   | .mp n => match A.get n with | some (.map es _) => some es | _ => none
   | _ => none : Option (List (AV × AV × Nat))) with
  | some es =>
   if keyOk P es.isEmpty kt kv then
    match findA P kt kv es with
    | some (some i) => match es[i]? with
     | some e => some (if ok then .tup [e.2.1, .flat (.bool true)] else e.2.1)
     | none => none
    | some none => match zeroA P elem with
     | some z => some (if ok then .tup [z, .flat (.bool false)] else z)
     | none => none
    | none => none
   else none
  | none => none
 | _, _ => none

def updateA (P : Program) (A : AW) (t : TypeId) (m k x : AV) : Option AW :=
 match P.underlying t, toV k, m with
 | some (.map kt _), some kv, .mp n =>
  match A.get n with
  | some (.map es clock) =>
   if keyOk P false kt kv then
    match findA P kt kv es with
    | some (some i) => match es[i]? with
     | some e => match toV e.1 with
      | some ev => if Instr.sameBits 10000 ev kv then some (A.set n (.map (es.modify i fun e => (k, x, e.2.2)) clock)) else none
      | none => none
     | none => none
    | some none => some (A.set n (.map (es ++ [(k, x, clock)]) (clock + 1)))
    | none => none
   else none
  | _ => none
 | _, _, _ => none

def deleteA (P : Program) (A : AW) (t : TypeId) (m k : AV) : Option AW :=
 match P.underlying t, toV k, m with
 | some (.map kt _), some kv, .mp n =>
  match A.get n with
  | some (.map es clock) =>
   if keyOk P es.isEmpty kt kv then
    match findA P kt kv es with
    | some (some i) => some (A.set n (.map (es.eraseIdx i) clock))
    | some none => some (A.set n (.map es clock))
    | none => none
   else none
  | _ => none
 | _, _, _ => none

def boundA (x : Option AV) (d y : Nat) : Option Nat :=
 match x with
 | none => some d
 | some a => match natOf? a with | some i => if i ≤ y then some i else none | none => none

def sliceA (P : Program) (t : TypeId) (x : AV) (lo hi mx : Option AV) : Option AV :=
 match P.underlying t, x, mx with
 | some .string, .flat (.string s), none =>
  match boundA hi s.size s.size with
  | some h => match boundA lo 0 h with
   | some l => some (.flat (.string (s.extract l h)))
   | none => none
  | none => none
 | some (.slice e), .flat (.slice none 0 0), none =>
  match boundA hi 0 0, boundA lo 0 0, sizeA P e with
  | some _, some _, some _ => some (.flat (.slice none 0 0))
  | _, _, _ => none
 | some (.slice e), .sle n o1 o2, none =>
  match boundA hi 0 0, boundA lo 0 0, sizeA P e with
  | some _, some _, some _ => some (.sle n o1 o2)
  | _, _, _ => none
 | some (.slice e), .sl n o len cap opn, none =>
  match boundA hi len cap, sizeA P e with
  | some h, some s =>
   match boundA lo 0 h with
   | some l =>
    if cap < len then none else
    if l = cap then (match opn with | true => some (.sle n o (o + l * s)) | false => some (.sl n o (h - l) 0 false))
    else some (.sl n (o + l * s) (h - l) (cap - l) opn)
   | none => none
  | _, _ => none
 | some (.slice e), .sl n o _ cap _, some mv =>
  match boundA (some mv) 0 cap, hi, sizeA P e with
  | some m, some hv, some s =>
   match boundA (some hv) 0 m with
   | some h => match boundA lo 0 h with
    | some l => some (.sl n (if m = l then o else o + l * s) (h - l) (m - l) false)
    | none => none
   | none => none
  | _, _, _ => none
 | some (.array k e), .ptr n o, none =>
  match boundA hi k k, sizeA P e with
  | some h, some s =>
   match boundA lo 0 h with
   | some l => some (.sl n (if k = l then o else o + l * s) (h - l) (k - l) false)
   | none => none
  | _, _ => none
 | _, _, _ => none

def lenA (P : Program) (A : AW) (t : TypeId) (x : AV) : Option Nat :=
 match P.underlying t, x with
 | some .string, .flat (.string s) => some s.size
 | some (.array n _), _ => some n
 | some (.slice _), .flat (.slice _ n _) => some n
 | some (.slice _), .sl _ _ n _ _ => some n
 | some (.slice _), .sle .. => some 0
 | some (.map _ _), .flat (.map none) => some 0
 | some (.map _ _), .mp n => match A.get n with | some (.map es _) => some es.length | _ => none
 | _, _ => none

def rowOf (_P : Program) (A : AW) (s : Nat) (x : AV) (n : Nat) : Option (List AV) :=
 match x with
 | .flat (.slice none _ _) => some []
 | .sl b o _ _ _ => match cellsOf A b with | some (l, _) => cut l o (n * s) | none => none
 | .flat (.string st) => some ((st.extract 0 n).data.toList.map fun b => .flat (.int .u8 b.toNat))
 | _ => none

def slLen : AV → Option Nat
 | .flat (.slice none n _) => some n
 | .sl _ _ n _ _ => some n
 | .sle .. => some 0
 | .flat (.string s) => some s.size
 | _ => none

def srcA (P : Program) (A : AW) (size : Nat) (tx : TypeId) (x : AV) : Option (Nat × List AV) :=
 match P.underlying tx, x with
 | some (.slice _), .flat (.slice none 0 _) => some (0, [])
 | some (.slice _), .sle .. => some (0, [])
 | some (.slice _), .sl b o n _ _ =>
  match cellsOf A b with
  | some (l, _) => match cut l o (n * size) with
   | some r => if r.all AV.one then some (n, r) else none
   | none => none
  | none => none
 | some .string, .flat (.string s) => if size = 1 then some (s.size, s.data.toList.map fun b => .flat (.int .u8 b.toNat)) else none
 | _, _ => none

def appendA (P : Program) (A : AW) (ats : Array TypeId) (s x : AV) : Option AR :=
 match ats.toList with
 | [t, tx] =>
  match P.underlying t with
  | some (.slice e) =>
   match P.info? e with
   | some i =>
    match i.zero, srcA P A i.size tx x with
    | some z, some (n, new) =>
     if i.size = 0 || i.bytes = 0 || i.bytes > 1000000 || n > 1000000 || z.cells.size ≠ i.size then none else
     match s with
     | .flat (.slice none 0 0) => if n = 0 then some (.val s) else some (.new (.sl A.next 0 n n true) (.cells new e))
     | .sle b _ o2 =>
      if n = 0 then some (.val s) else
      match cellsOf A b with
      | some (l, e') => if e' = e && l.length = o2 then some (.chg (.sl A.next 0 n n true) ((A.set b .dead).new (.cells new e))) else none
      | none => none
     | .sl b o len cap opn =>
      if len > 1000000 || cap > 1000000 || cap < len then none else
      match cellsOf A b with
      | some (l, e') =>
       match cut l o (len * i.size) with
       | some old =>
        if e' ≠ e then none else
        if n = 0 then some (.val s) else
        match opn with
        | true =>
         if len + n ≤ cap then
          match putAt l (o + len * i.size) new with
          | some l' => some (.chg (.sl b o (len + n) cap true) (A.set b (.cells l' e)))
          | none => none
         else
         if l.length = o + cap * i.size then some (.chg (.sl A.next 0 (len + n) (len + n) true) ((A.set b .dead).new (.cells (old ++ new) e)))
         else none
        | false =>
         if len + n ≤ cap then
          match putAt l (o + len * i.size) new with
          | some l' => some (.chg (.sl b o (len + n) cap false) (A.set b (.cells l' e)))
          | none => none
         else some (.new (.sl A.next 0 (len + n) (len + n) true) (.cells (old ++ new) e))
       | none => none
      | none => none
     | _ => none
    | _, _ => none
   | none => none
  | _ => none
 | _ => none

def copyA (P : Program) (A : AW) (ats : Array TypeId) (d x : AV) : Option AR :=
 match ats.toList with
 | t :: _ =>
  match P.underlying t with
  | some (.slice e) =>
   match sizeA P e, slLen x, d with
   | some size, some n, .sl b o m _ _ =>
    match rowOf P A size x (Nat.min n m), cellsOf A b with
    | some row, some (l, e') =>
     if row.all AV.one then
      match putAt l o row with
      | some l' => some (.chg (.flat (goInt (Nat.min n m))) (A.set b (.cells l' e')))
      | none => none
     else none
    | _, _ => none
   | _, _, _ => none
  | _ => none
 | _ => none

def clearA (P : Program) (A : AW) (t : TypeId) (x : AV) : Option AR :=
 match P.underlying t, x with
 | some (.slice _), .flat (.slice none _ _) => some (.val undefA)
 | some (.slice e), .sl n o len _ _ =>
  match P.info? e, cellsOf A n with
  | some i, some (l, e') =>
   match i.zero with
   | some z =>
    if z.cells.size = i.size && i.size ≠ 0 && len ≠ 0 && (fromV z).cells.all AV.one then
     match putAt l o (zerosA (fromV z).cells len) with
     | some l' => some (.chg undefA (A.set n (.cells l' e')))
     | none => none
    else if len = 0 then some (.val undefA) else none
   | none => none
  | _, _ => none
 | some (.map _ _), .mp n =>
  match A.get n with
  | some (.map _ clock) => some (.chg undefA (A.set n (.map [] clock)))
  | _ => none
 | _, _ => none

def wholeFlat (l : List AV) : Option (Array Value) := (toVs l).map (·.toArray)

def builtinA (P : Program) (A : AW) (b : Builtin) (ats : Array TypeId) (ty : TypeId) (args : List AV) : Option AR :=
 match b, args with
 | .len, [x] => match ats[0]? with
  | some t => (lenA P A t x).map fun (n : Nat) => .val (.flat (goInt (n : Int)))
  | none => none
 | .append, [s, x] => appendA P A ats s x
 | .clear, [x] => match ats[0]? with
  | some t => clearA P A t x
  | none => none
 | .delete, [m, k] => match ats[0]? with
  | some t => (deleteA P A t m k).map (.chg undefA)
  | none => none
 | .copy, [d, x] => copyA P A ats d x
 | .unsafeString, [p, .flat (.int .i64 (.ofNat n))] =>
  match ats.toList, p with
  | [pt, _], .ptr b o =>
   match P.underlying pt, cellsOf A b with
   | some (.pointer u), some (l, e) =>
    match cut l o n with
    | some r =>
     match bytesOf? r with
     | some bs =>
      if u = e && sizeA P e = some 1 && n ≠ 0 && n ≤ 1000000 then some (.chg (.flat (.string ⟨bs.toArray⟩)) (A.set b .dead)) else none
     | none => none
    | none => none
   | _, _ => none
  | _, _ => none
 | .max, _ | .min, _ =>
  match wholeFlat args with
  | some vs => match pureRun P (builtin b ats ty #[] vs) with
   | some (.value v) => some (.val (fromV v))
   | _ => none
  | none => none
 | _, _ => none

def eqlA (P : Program) (t : TypeId) (x y : AV) : Option Bool :=
 match P.underlying t, x, y with
 | some (.pointer _), .flat (.pointer none), .ptr .. => some false
 | some (.pointer _), .ptr .., .flat (.pointer none) => some false
 | some (.pointer el), .ptr n o, .ptr m q =>
  match sizeA P el with
  | some s => if n = m && s ≠ 0 then some (o == q) else none
  | none => none
 | some (.slice _), .flat (.slice none _ _), .sl .. => some false
 | some (.slice _), .sl .., .flat (.slice none _ _) => some false
 | some (.slice _), .flat (.slice none _ _), .sle .. => some false
 | some (.slice _), .sle .., .flat (.slice none _ _) => some false
 | some (.map _ _), .flat (.map none), .mp _ => some false
 | some (.map _ _), .mp _, .flat (.map none) => some false
 | some (.interface _), .flat .nilIface, .ifc .. => some false
 | some (.interface _), .ifc .., .flat .nilIface => some false
 | some (.func _ _ _), .flat .nilFunc, .fn .. => some false
 | some (.func _ _ _), .fn .., .flat .nilFunc => some false
 | some (.func _ _ _), .flat .nilFunc, .yld .. => some false
 | some (.func _ _ _), .yld .., .flat .nilFunc => some false
 | _, _, _ => none

def cmpR (op : BinOp) (a b c d : Int) : Option Bool :=
 match op with
 | .lss => if b < c then some true else if d ≤ a then some false else none
 | .leq => if b ≤ c then some true else if d < a then some false else none
 | .gtr => if d < a then some true else if b ≤ c then some false else none
 | .geq => if d ≤ a then some true else if b < c then some false else none
 | .eql => if b < c then some false else if d < a then some false else none
 | .neq => if b < c then some true else if d < a then some true else none
 | _ => none
def rngA (op : BinOp) (x y : AV) : Option Bool :=
 match x, y with
 | .rng lo hi, .flat (.int .i64 n) => cmpR op lo hi n n
 | .flat (.int .i64 n), .rng lo hi => cmpR op n n lo hi
 | _, _ => none

def binA (P : Program) (op : BinOp) (t : TypeId) (xo yo : Operand) (x y : AV) : Option AV :=
 match toV x, toV y with
 | some a, some b => (pureRun P (do eqGuard op t xo yo a b; binOp op t a b)).map fromV
 | _, _ =>
  match rngA op x y with
  | some b => some (.flat (.bool b))
  | none =>
   match op with
   | .eql => (eqlA P t x y).map fun b => .flat (.bool b)
   | .neq => (eqlA P t x y).map fun b => .flat (.bool !b)
   | _ => none

def convA (P : Program) (A : AW) (src dst : TypeId) (x : AV) : Option AR :=
 match P.underlying src, P.underlying dst, x with
 | some ds, some (.slice e), .flat (.string s) =>
  match P.underlying e, ds with
  | some (.int .u8), .string =>
   if sizeA P e = some 1 && s.size ≤ 1000000 then some (.new (.sl A.next 0 s.size s.size true) (.cells (s.data.toList.map fun b => .flat (.int .u8 b.toNat)) e)) else none
  | _, _ => none
 | some (.slice _), some (.slice e), .sl n o l c b =>
  match src == dst, P.underlying e with
  | true, some (.int .u8) => match cellsOf A n with | some (xs, e') => some (.chg (.sl n o l c b) (A.set n (.cells xs e'))) | none => none
  | _, _ => none
 | some (.slice e), some .string, .flat (.slice none _ _) =>
  match P.underlying e with
  | some (.int .u8) => some (.val (.flat (.string .empty)))
  | _ => none
 | some (.slice e), some .string, .sl n o len _ _ =>
  match P.underlying e, cellsOf A n with
  | some (.int .u8), some (l, _) =>
   match cut l o len with
   | some row => match u8sOf? row with
    | some ns => some (.val (.flat (.string (ns.foldl (fun r n => r.push (UInt8.ofNat n.toNat)) ByteArray.empty))))
    | none => none
   | none => none
  | _, _ => none
 | some _, some (.int .i64), .rng lo hi => if -9223372036854775808 ≤ lo ∧ hi ≤ 9223372036854775807 then some (.val (.rng lo hi)) else none
 | some _, some _, .flat v => match pureRun P (convert src dst v) with
  | some r => some (.val (fromV r))
  | none => none
 | _, _, _ => none

def externA (A : AW) (name : String) (args : List AV) : Option AR :=
 match name, args with
 | "maps.clone", [.ifc t (.mp n)] =>
  match A.get n with
  | some (.map es clock) => some (.new (.ifc t (.mp A.next)) (.map es clock))
  | _ => none
 | "math/bits.Add64", [.flat (.int .u64 (.ofNat x)), .flat (.int .u64 (.ofNat y)), .flat (.int .u64 (.ofNat c))] =>
  if c ≤ 1 then some (.val (.tup [.flat (.int .u64 (((x + y + c) % 18446744073709551616 : Nat) : Int)), .flat (.int .u64 (((x + y + c) / 18446744073709551616 : Nat) : Int))])) else none
 | _, _ => none

def callA (P : Program) (A : AW) (c : Call) (ty : TypeId) (T : Tr AV) : Option AR :=
 match c.callee with
 | .builtin b => builtinA P A b c.argTypes ty (c.args.toList.map (ev T))
 | .value f =>
  match ev T f with
  | .fn f fst cap =>
   match P.funcs[f]? with
   | some fn =>
    match fn.body with
    | some _ => some (.enter f (fst ++ c.args.toList.map (ev T) ++ cap))
    | none => match fn.origin, cap with
     | "", [] => externA A fn.name (fst ++ c.args.toList.map (ev T))
     | _, _ => none
   | none => none
  | .yld n => some (.round n (c.args.toList.map (ev T)))
  | _ => none
 | _ => none

def sameNats : List Nat → List Nat → Bool
 | [], [] => true
 | a :: l, b :: m => Nat.beq a b && sameNats l m
 | _, _ => false

def rising : List Nat → Bool
 | a :: b :: l => Nat.blt a b && rising (b :: l)
 | _ => true

def pickOf (n i : Nat) (es : List (AV × AV × Nat)) : Option (AV × List AV) :=
 match es with
 | [e] => some (e.1, [e.2.1])
 | _ =>
  if es.all fun e => e.1.one then
   some (.pick n i (es.map (·.1)), if es.all fun e => e.2.1.one then [.pick n i (es.map (·.2.1))] else [])
  else none

def nextA (A : AW) (it : AV) (isString : Bool) : Option AR :=
 match it with
 | .ptr n 0 =>
  match A.get n, isString with
  | some (.siter s pos), true =>
   if pos < s.size then
    some (.chg (.tup [.flat (.bool true), .flat (goInt pos), .flat (.int .i32 (Utf8.decode s pos).1)]) (A.set n (.siter s (pos + (Utf8.decode s pos).2))))
   else some (.val (.tup [.flat (.bool false)]))
  | some (.miter none _ _ _ _), false => some (.val (.tup [.flat (.bool false)]))
  | some (.miter (some m) since seen bs last), false =>
   match A.get m with
   | some (.map es clock) =>
    if (!seen.isEmpty && !es.isEmpty && es.all fun e => decide (e.2.2 ≥ last)) then none else
    if sameNats (es.map (·.2.2)) bs && rising bs && bs.all fun b => decide (b < since) then
     if Nat.beq seen.length bs.length then some (.val (.tup [.flat (.bool false)]))
     else if seen.length < bs.length then
      match pickOf A.next n es with
      | some (k, l) => some (.chg (.tup (.flat (.bool true) :: k :: l)) { A.set n (.miter (some m) since (seen ++ [A.next]) bs clock) with next := A.next + 1 })
      | none => none
     else none
    else none
   | _ => none
  | _, _ => none
 | _ => none

def entryOfA (A : AW) (it : AV) : Option AV :=
 match it with
 | .ptr n 0 =>
  match A.get n with
  | some (.miter (some m) _ seen bs stepped) =>
   match A.get m, seen.getLast? with
   | some (.map es clock), some b =>
    if Nat.beq clock stepped && sameNats (es.map (·.2.2)) bs && rising bs then
     match pickOf b n es with
     | some (k, l) => some (.tup (k :: l))
     | none => none
    else none
   | _, _ => none
  | _ => none
 | _ => none

def opA (P : Program) (T : Tr AV) (A : AW) (o : Oper) : Option AR :=
 let e := ev T
 match o.op with
 | .move x | .assign x => some (.val (e x))
 | .pick c a b => (boolOf? (e c)).map fun t => .val (if t then e a else e b)
 | .alloc t => match zeroA P t with | some z => some (.new (.ptr A.next 0) (.cells z.cells t)) | none => none
 | .box t x => some (.new (.ptr A.next 0) (.cells (e x).cells t))
 | .build t parts => (buildA P t (parts.toList.map fun (i, x) => (i, e x))).map .val
 | .buildSlice t len parts =>
  match P.underlying t with
  | some (.slice elem) =>
   match P.info? elem with
   | some i =>
    match i.zero with
    | some z =>
     if z.cells.size = i.size && i.size ≠ 0 && len * i.size ≤ 1000000 then
      match fillA (fun j => some (j * i.size, i.size)) (zerosA (fromV z).cells len) (parts.toList.map fun (i, x) => (i, e x)) with
      | some l => some (.new (.sl A.next 0 len len false) (.cells l elem))
      | none => none
     else none
    | none => none
   | none => none
  | _ => none
 | .load t a => match e a with | .ptr n k => (loadA P A t n k).map .val | _ => none
 | .store t a x => match e a with | .ptr n k => (storeA P A t n k (e x)).map (.chg undefA) | _ => none
 | .nilCheck x => match e x with
  | .ptr n o => some (.val (.ptr n o))
  | .fn f a b => some (.val (.fn f a b))
  | .yld n => some (.val (.yld n))
  | _ => none
 | .binOp op t x y _ => (binA P op t x y (e x) (e y)).map .val
 | .unOp op _ x => match e x with | .flat v => ((pureRun P (Op.unary op v)).map fromV).map .val | _ => none
 | .convert src dst x => convA P A src dst (e x)
 | .makeFunc (.func f) a b => some (.val (.fn f (a.toList.map e) (b.toList.map e)))
 | .makeMap _ none => some (.new (.mp A.next) (.map [] 0))
 | .makeMap t (some r) => match intOf? (e r), P.underlying t with | some _, some (.map _ _) => some (.new (.mp A.next) (.map [] 0)) | _, _ => none
 | .makeSlice t len cap =>
  match P.underlying t with
  | some (.slice elem) =>
   match P.info? elem, natOf? (e len), natOf? (e cap) with
   | some i, some l, some c =>
    match i.zero with
    | some z =>
     if l ≤ c && i.bytes * c ≤ 1000000000 && c ≤ 1000000000 && z.cells.size = i.size && i.size ≠ 0 then
      some (.new (.sl A.next 0 l c false) (.cells (zerosA (fromV z).cells c) elem))
     else none
    | none => none
   | _, _, _ => none
  | _ => none
 | .slice t x lo hi mx => (sliceA P t (e x) (lo.map e) (hi.map e) (mx.map e)).map .val
 | .fieldAddr t x f =>
  match P.underlying t, e x with
  | some (.struct fs), .ptr n k =>
   match fs[f]? with
   | some f => match sizeA P f.type with
    | some s => if s = 0 then none else some (.val (.ptr n (k + f.offset)))
    | none => none
   | none => none
  | _, _ => none
 | .field t x f =>
  match P.underlying t, e x with
  | some (.struct fs), .agg l =>
   match fs[f]? with
   | some f => (partA P f.type l f.offset).map .val
   | none => none
  | _, _ => none
 | .indexAddr t x ix =>
  match P.underlying t, e x, natOf? (e ix) with
  | some (.array len elem), .ptr n k, some i => match sizeA P elem with
   | some s => if i < len then some (.val (.ptr n (k + i * s))) else none
   | none => none
  | some (.slice elem), .sl n k len _ _, some i => match sizeA P elem with
   | some s => if i < len then some (.val (.ptr n (k + i * s))) else none
   | none => none
  | _, _, _ => none
 | .index t x ix =>
  match P.underlying t, e x, natOf? (e ix) with
  | some (.array len elem), .agg l, some i => match sizeA P elem with
   | some s => if i < len then (partA P elem l (i * s)).map .val else none
   | none => none
  | some .string, .flat (.string s), some i => match s[i]? with
   | some b => some (.val (.flat (.int .u8 b.toNat)))
   | none => none
  | _, _, _ => none
 | .lookup t x ix ok => (lookupA P A t (e x) (e ix) ok).map .val
 | .mapUpdate t m k x | .insert t m k x => (updateA P A t (e m) (e k) (e x)).map (.chg undefA)
 | .range t x =>
  match P.underlying t, e x with
  | some .string, .flat (.string s) => some (.new (.ptr A.next 0) (.siter s 0))
  | some (.map _ _), .flat (.map none) => some (.new (.ptr A.next 0) (.miter none 0 [] [] 0))
  | some (.map _ _), .mp m => match A.get m with | some (.map es clock) => some (.new (.ptr A.next 0) (.miter (some m) clock [] (es.map (·.2.2)) clock)) | _ => none
  | _, _ => none
 | .next it isString => nextA A (e it) isString
 | .entry it => (entryOfA A (e it)).map .val
 | .makeInterface t x =>
  match P.underlying t with
  | some (.interface _) => none
  | some _ => some (.val (.ifc t (e x)))
  | none => none
 | .typeAssert x _ t ok =>
  match P.underlying t, e x with
  | some (.interface _), _ => none
  | some _, .ifc u v => if u = t then some (.val (if ok then .tup [v, .flat (.bool true)] else v)) else none
  | _, _ => none
 | .extract t ix => match e t with | .tup l => l[ix]?.map .val | _ => none
 | .call c => callA P A c o.type T
 | .defer c =>
  match c.callee with
  | .value f =>
   match e f with
   | .fn g fst cap => some (.dfr g (fst ++ c.args.toList.map e) cap)
   | _ => none
  | _ => none
 | _ => none

end
end Go.Proofs.YtookoagcmejkpaaGreatDoor.Ab
namespace Go.Proofs.YtookoagcmejkpaaGreatDoor.Ab
open Go
namespace Tr
variable {α : Type}
theorem bitsN_succ (f k : Nat) : bitsN (f + 1) (k + 1) = Nat.beq ((k + 1) % 2) 1 :: bitsN f (k / 2) := rfl
theorem bitsN_zero (f : Nat) : bitsN f 0 = [] := by cases f <;> rfl
theorem bitsN_eq : ∀ (f k : Nat), k ≤ f → bitsN f k = bits k := by
 intro f
 induction f using Nat.strongRecOn with
 | _ f ih =>
  intro k hk
  cases k with
  | zero => rw [bitsN_zero]; rfl
  | succ k =>
   cases f with
   | zero => omega
   | succ f =>
    show bitsN (f + 1) (k + 1) = bitsN (k + 1) (k + 1)
    rw [bitsN_succ, bitsN_succ]
    exact congrArg _ ((ih f (by omega) _ (by omega)).trans (ih k (by omega) _ (by omega)).symm)
theorem bits_succ (k : Nat) : bits (k + 1) = Nat.beq ((k + 1) % 2) 1 :: bits (k / 2) := by
 show bitsN (k + 1) (k + 1) = _
 rw [bitsN_succ, bitsN_eq k _ (by omega)]
theorem bits_inj : ∀ j k, bits j = bits k → j = k := by
 intro j
 induction j using Nat.strongRecOn with
 | _ j ih =>
  intro k h
  cases j with
  | zero => cases k with
   | zero => rfl
   | succ k => rw [bits_succ] at h; cases h
  | succ j => cases k with
   | zero => rw [bits_succ] at h; cases h
   | succ k =>
    rw [bits_succ, bits_succ] at h
    simp only [List.cons.injEq] at h
    have h2 := ih (j / 2) (by omega) (k / 2) h.2
    have h1 : (j + 1) % 2 = (k + 1) % 2 := by
     have a1 : (j + 1) % 2 < 2 := Nat.mod_lt _ (by omega)
     have a2 : (k + 1) % 2 < 2 := Nat.mod_lt _ (by omega)
     have e := h.1
     by_cases c1 : (j + 1) % 2 = 1
     ·by_cases c2 : (k + 1) % 2 = 1
      ·omega
      ·have : Nat.beq ((k + 1) % 2) 1 = false := by
        have : (k + 1) % 2 = 0 := by omega
        rw [this]; rfl
       rw [this, c1] at e; cases e
     ·by_cases c2 : (k + 1) % 2 = 1
      ·have : Nat.beq ((j + 1) % 2) 1 = false := by
        have : (j + 1) % 2 = 0 := by omega
        rw [this]; rfl
       rw [this, c2] at e; cases e
      ·omega
    omega
theorem get_putB (x : α) : ∀ (bs cs : List Bool) (t : Tr α), getB cs (putB bs t x) = if cs = bs then some x else getB cs t
 | [], cs, t => by
  cases t <;> cases cs with
  | nil => rfl
  | cons b cs => cases b <;> first | rfl | (cases cs <;> rfl)
 | b :: bs, [], t => by cases t <;> cases b <;> rfl
 | b :: bs, c :: cs, t => by
  have lfn : ∀ cs : List Bool, getB cs (.lf : Tr α) = none := fun cs => by cases cs <;> rfl
  have ih := get_putB x bs cs
  have red : ∀ t : Tr α, getB (c :: cs) (putB (b :: bs) t x) = (match t with
   | .lf => (if b = c then getB cs (putB bs .lf x) else none)
   | .nd v l r => (if b = c then getB cs (putB bs (if c then l else r) x) else (if c then getB cs l else getB cs r))) := by
   intro t
   cases t <;> cases b <;> cases c <;> first | rfl | (exact lfn cs)
  rw [red]
  cases t with
  | lf =>
   by_cases h : b = c
   ·subst h
    simp only [if_true]
    rw [ih]
    by_cases h2 : cs = bs
    ·simp [h2]
    ·simp [h2, lfn]
   ·have : ¬ (c :: cs = b :: bs) := by simp; intro e; exact absurd e.symm h
    rw [if_neg this]
    simp [h, lfn]
  | nd v l r =>
   by_cases h : b = c
   ·subst h
    simp only [if_true]
    rw [ih]
    by_cases h2 : cs = bs
    ·simp [h2]
    ·simp only [h2, if_false]
     have : ¬ (b :: cs = b :: bs) := by simp [h2]
     rw [if_neg this]
     cases b <;> rfl
   ·have : ¬ (c :: cs = b :: bs) := by simp; intro e; exact absurd e.symm h
    rw [if_neg this]
    simp only [h, if_false]
    cases c <;> rfl
theorem get_set (t : Tr α) (k j : Nat) (x : α) : (t.set k x).get j = if j = k then some x else t.get j := by
 unfold get set
 rw [get_putB]
 by_cases h : j = k
 ·subst h; simp
 ·have : ¬ bits j = bits k := fun e => h (bits_inj j k e)
  rw [if_neg this, if_neg h]
theorem get_lf (k : Nat) : (Tr.lf : Tr α).get k = none := by
 unfold get
 cases bits k <;> rfl
end Tr
structure Loc where
 blk : Nat
 base : Nat
 room : Nat

abbrev Rn := Nat → Option Loc
def Sub (ρ ρ' : Rn) : Prop := ∀ n l, ρ n = some l → ρ' n = some l
theorem Sub.refl (ρ : Rn) : Sub ρ ρ := fun _ _ h => h
theorem Sub.trans {a b c : Rn} (h : Sub a b) (k : Sub b c) : Sub a c := fun n l e => k n l (h n l e)

mutual
inductive VR (ρ : Rn) : AV → Value → Prop
 | flat (v : Value) : VR ρ (.flat v) v
 | ptr {n : Nat} {l : Loc} (o : Nat) : ρ n = some l → VR ρ (.ptr n o) (.pointer (some ⟨l.blk, l.base + o, none⟩))
 | sl {n : Nat} {l : Loc} (o len cap : Nat) (b : Bool) : ρ n = some l → VR ρ (.sl n o len cap b) (.slice (some ⟨l.blk, l.base + o, none⟩) len (cap + bif b then l.room else 0))
 | sle {n : Nat} {l : Loc} (o1 o2 : Nat) : ρ n = some l → VR ρ (.sle n o1 o2) (.slice (some ⟨l.blk, l.base + (if l.room = 0 then o1 else o2), none⟩) 0 l.room)
 | mp {n : Nat} {l : Loc} : ρ n = some l → VR ρ (.mp n) (.map (some l.blk))
 | fn (f : FuncId) {a b : List AV} {as bs : List Value} : VRs ρ a as → VRs ρ b bs → VR ρ (.fn f a b) (.func (.func f) as.toArray bs.toArray)
 | yld {n : Nat} {l : Loc} : ρ n = some l → VR ρ (.yld n) (.func (.yield l.blk) #[] #[])
 | ifc (t : TypeId) {a : AV} {v : Value} : VR ρ a v → VR ρ (.ifc t a) (.iface t v)
 | agg {l : List AV} {vs : List Value} : VRs ρ l vs → VR ρ (.agg l) (.agg vs.toArray)
 | tup {l : List AV} {vs : List Value} : VRs ρ l vs → VR ρ (.tup l) (.tuple vs.toArray)
  | tupx {l : List AV} {vs ws : List Value} : VRs ρ l vs → VR ρ (.tup l) (.tuple (vs ++ ws).toArray)
 | pick {n : Nat} (i : Nat) {l : List AV} {c : Loc} {a : AV} {v : Value} : ρ n = some c → l[c.blk]? = some a → a.one = true → VR ρ a v → VR ρ (.pick n i l) v
 | any {v : Value} : v.oneCell' = true → VR ρ .any v
 | rng {lo hi n : Int} : lo ≤ n → n ≤ hi → VR ρ (.rng lo hi) (.int .i64 n)
inductive VRs (ρ : Rn) : List AV → List Value → Prop
 | nil : VRs ρ [] []
 | cons {a : AV} {v : Value} {l : List AV} {vs : List Value} : VR ρ a v → VRs ρ l vs → VRs ρ (a :: l) (v :: vs)
end
mutual
theorem VR.mono {ρ ρ' : Rn} (s : Sub ρ ρ') {a : AV} {v : Value} : VR ρ a v → VR ρ' a v
 | .flat v => .flat v
 | .ptr o h => .ptr o (s _ _ h)
 | .sl o len cap b h => .sl o len cap b (s _ _ h)
 | .sle a b h => .sle a b (s _ _ h)
 | .mp h => .mp (s _ _ h)
 | .fn f h k => .fn f (VRs.mono s h) (VRs.mono s k)
 | .yld h => .yld (s _ _ h)
 | .ifc t h => .ifc t (VR.mono s h)
 | .agg h => .agg (VRs.mono s h)
 | .tup h => .tup (VRs.mono s h)
 | .tupx h => .tupx (VRs.mono s h)
 | .pick i h e o k => .pick i (s _ _ h) e o (VR.mono s k)
 | .any h => .any h
 | .rng h k => .rng h k
theorem VRs.mono {ρ ρ' : Rn} (s : Sub ρ ρ') {a : List AV} {v : List Value} : VRs ρ a v → VRs ρ' a v
 | .nil => .nil
 | .cons h k => .cons (VR.mono s h) (VRs.mono s k)
end
section rows
variable {ρ : Rn}
theorem VRs.length {l : List AV} {vs : List Value} (h : VRs ρ l vs) : vs.length = l.length := by
 induction l generalizing vs with
 | nil => cases h; rfl
 | cons a l ih => cases h with | cons _ k => simp [ih k]

theorem VRs.get {l : List AV} {vs : List Value} (h : VRs ρ l vs) {i : Nat} {a : AV} (e : l[i]? = some a) : ∃ v, vs[i]? = some v ∧ VR ρ a v := by
 induction l generalizing vs i with
 | nil => simp at e
 | cons b l ih =>
  cases h with
  | cons hb k =>
   cases i with
   | zero => simp at e; subst e; exact ⟨_, rfl, hb⟩
   | succ i => simp at e; simpa using ih k e

theorem VRs.append {l m : List AV} {vs ws : List Value} (h : VRs ρ l vs) (k : VRs ρ m ws) : VRs ρ (l ++ m) (vs ++ ws) := by
 induction l generalizing vs with
 | nil => cases h; simpa using k
 | cons a l ih => cases h with | cons ha hl => exact .cons ha (ih hl)

theorem VRs.of_get : ∀ {l : List AV} {vs : List Value}, vs.length = l.length → (∀ (i : Nat) (a : AV), l[i]? = some a → ∃ v, vs[i]? = some v ∧ VR ρ a v) → VRs ρ l vs
 | [], [], _, _ => .nil
 | [], _ :: _, h, _ => by simp at h
 | _ :: _, [], h, _ => by simp at h
 | a :: l, v :: vs, h, k => by
  obtain ⟨u, e, r⟩ := k 0 a rfl
  simp at e
  subst e
  exact .cons r (VRs.of_get (by simpa using h) fun i b e => by simpa using k (i + 1) b (by simpa using e))

theorem VRs.drop {l : List AV} {vs : List Value} (h : VRs ρ l vs) (n : Nat) : VRs ρ (l.drop n) (vs.drop n) :=
 .of_get (by simp [h.length]) fun i a e => by
  rw [List.getElem?_drop] at e
  simpa [List.getElem?_drop] using h.get e

theorem VRs.take {l : List AV} {vs : List Value} (h : VRs ρ l vs) (n : Nat) : VRs ρ (l.take n) (vs.take n) :=
 .of_get (by simp [h.length]) fun i a e => by
  rw [List.getElem?_take] at e ⊢
  split at e
  ·rename_i hi; simpa [hi] using h.get e
  ·cases e

theorem VRs.flats : ∀ (l : List Value), VRs ρ (l.map .flat) l
 | [] => .nil
 | v :: l => .cons (.flat v) (VRs.flats l)

theorem VR.fromV1 (v : Value) : VR ρ (fromV1 v) v := by
 cases v with
 | agg cs => have := VR.agg (ρ := ρ) (VRs.flats cs.toList); simpa [Ab.fromV1] using this
 | _ => exact .flat _

theorem VR.fromV (v : Value) : VR ρ (fromV v) v := by
 have h : ∀ l : List Value, VRs ρ (l.map Ab.fromV1) l := by
  intro l
  induction l with
  | nil => exact .nil
  | cons v l ih => exact .cons (VR.fromV1 v) ih
 cases v with
 | tuple vs => have := VR.tup (h vs.toList); simpa [Ab.fromV] using this
 | _ => simpa only [Ab.fromV] using VR.fromV1 (ρ := ρ) _

mutual
theorem toV_spec : ∀ {a : AV} {v w : Value}, toV a = some v → VR ρ a w → w = v
 | .flat v, _, _, h, k => by cases k; simp [toV] at h; exact h
 | .agg l, v, w, h, k => by
  cases k with
  | agg k =>
   rename_i vs
   simp only [toV] at h
   split at h
   ·rename_i us hu
    cases h
    rw [toVs_spec hu k]
   ·cases h
 | .ptr _ _, _, _, h, _ | .sl _ _ _ _ _, _, _, h, _ | .sle _ _ _, _, _, h, _ | .mp _, _, _, h, _ | .fn _ _ _, _, _, h, _ | .yld _, _, _, h, _ | .ifc _ _, _, _, h, _ | .tup _, _, _, h, _ | .pick _ _ _, _, _, h, _ | .any, _, _, h, _ | .rng _ _, _, _, h, _ => by simp [toV] at h
theorem toVs_spec : ∀ {a : List AV} {v w : List Value}, toVs a = some v → VRs ρ a w → w = v
 | [], _, _, h, k => by cases k; simp [toVs] at h; exact h.symm
 | a :: l, v, w, h, k => by
  cases k with
  | cons k1 k2 =>
   simp only [toVs] at h
   split at h
   ·rename_i u us hu hus
    cases h
    rw [toV_spec hu k1, toVs_spec hus k2]
   ·cases h
end
end rows
inductive ERs (ρ : Rn) : List (AV × AV × Nat) → List MapEntry → Prop
 | nil : ERs ρ [] []
 | cons {k x : AV} {b : Nat} {c : MapEntry} {l : List (AV × AV × Nat)} {cs : List MapEntry} : VR ρ k c.key → VR ρ x c.val → c.born = b → ERs ρ l cs → ERs ρ ((k, x, b) :: l) (c :: cs)

def TR (ρ : Rn) (nt : Nat) (T : Tr AV) (tmps : Array Value) : Prop :=
 tmps.size = nt ∧ ∀ t, VR ρ ((T.get t).getD undefA) (tmps.getD t undef)

def Thaw (n : Nat) (fz : Nat × Nat) : Prop := fz.1 = fz.2 ∨ n ≤ fz.1

def CellsR (P : Program) (ρ : Rn) (l : Loc) (xs : List AV) (t : TypeId) (obj : Obj) : Prop :=
 ∃ (C : Array Value) (fz : Nat × Nat), obj = .cells C t fz ∧ C.size = l.base + xs.length + l.room * P.cellsOf t ∧
  Thaw C.size fz ∧ ∀ i a, xs[i]? = some a → ∃ v, C[l.base + i]? = some v ∧ VR ρ a v

inductive Drawn (ρ : Rn) : List Nat → List Nat → Prop
 | nil : Drawn ρ [] []
 | cons {n : Nat} {c : Loc} {ns is : List Nat} : ρ n = some c → Drawn ρ ns is → Drawn ρ (n :: ns) (c.blk :: is)
theorem Drawn.mono {ρ ρ' : Rn} (s : Sub ρ ρ') {ns is : List Nat} (h : Drawn ρ ns is) : Drawn ρ' ns is := by
 induction h with
 | nil => exact .nil
 | cons a _ ih => exact .cons (s _ _ a) ih
theorem Drawn.length {ρ : Rn} {ns is : List Nat} (h : Drawn ρ ns is) : is.length = ns.length := by
 induction h with
 | nil => rfl
 | cons _ _ ih => simp [ih]
theorem Drawn.snoc {ρ : Rn} {ns is : List Nat} {n : Nat} {c : Loc} (h : Drawn ρ ns is) (k : ρ n = some c) : Drawn ρ (ns ++ [n]) (is ++ [c.blk]) := by
 induction h with
 | nil => exact .cons k .nil
 | cons a _ ih => exact .cons a ih

def OR (P : Program) (ρ : Rn) (l : Loc) : AO → Obj → Prop
 | .dead, _ => False
 | .cells xs t, o => CellsR P ρ l xs t o
 | .map es clock, o => ∃ cs : List MapEntry, o = .map cs.toArray clock ∧ ERs ρ es cs
 | .loop st pend f nt T ps as b d, o => ∃ (tmps : Array Value) (ld : Loc), o = .loop { state := st, pending := pend, fn := f, tmps, params := ps.toArray, assign := as, body := b, defers := ld.blk } ∧ ρ d = some ld ∧ TR ρ nt T tmps
 | .deferred tk, o => o = .deferred (if tk then none else some [])
 | .siter s p, o => l.base = 0 ∧ o = .stringIter s p
 | .miter m since seen bs st, o => l.base = 0 ∧ ∃ mr sn, o = .mapIter mr since sn.toArray st ∧ (match m with | none => mr = none | some k => ∃ l, ρ k = some l ∧ mr = some l.blk) ∧
   ∃ idx : List Nat, Drawn ρ seen idx ∧ idx.Nodup ∧ (∀ i ∈ idx, i < bs.length) ∧ sn = idx.map fun i => bs.getD i 0

theorem ERs.mono {ρ ρ' : Rn} (s : Sub ρ ρ') {l : List (AV × AV × Nat)} {cs : List MapEntry} (h : ERs ρ l cs) : ERs ρ' l cs := by
 induction h with
 | nil => exact .nil
 | cons a b c _ ih => exact .cons (a.mono s) (b.mono s) c ih

theorem TR.mono {ρ ρ' : Rn} (s : Sub ρ ρ') {nt : Nat} {T : Tr AV} {tmps : Array Value} (h : TR ρ nt T tmps) : TR ρ' nt T tmps := ⟨h.1, fun t => (h.2 t).mono s⟩

theorem OR.mono {P : Program} {ρ ρ' : Rn} (s : Sub ρ ρ') {l : Loc} {ao : AO} {o : Obj} (h : OR P ρ l ao o) : OR P ρ' l ao o := by
 cases ao with
 | dead => exact h
 | cells xs t => obtain ⟨C, fz, a, b, c, d⟩ := h; exact ⟨C, fz, a, b, c, fun i x e => by obtain ⟨v, e1, e2⟩ := d i x e; exact ⟨v, e1, e2.mono s⟩⟩
 | map es c => obtain ⟨cs, a, b⟩ := h; exact ⟨cs, a, b.mono s⟩
 | loop => obtain ⟨tm, ld, a, b, c⟩ := h; exact ⟨tm, ld, a, s _ _ b, c.mono s⟩
 | deferred => exact h
 | siter => exact h
 | miter m since seen bs st =>
  obtain ⟨h0, mr, sn, a, b, idx, d1, d2⟩ := h
  refine ⟨h0, mr, sn, a, ?_, idx, d1.mono s, d2⟩
  cases m with
  | none => exact b
  | some k => obtain ⟨l, e1, e2⟩ := b; exact ⟨l, s _ _ e1, e2⟩

noncomputable def AW.live (A : AW) (n : Nat) : Option AO := match A.get n with | some .dead => none | x => x

structure Sim (P : Program) (ρ : Rn) (H : Nat → Option AO) (w : World) : Prop where
 obj : ∀ n ao, H n = some ao → ∃ l o, ρ n = some l ∧ w.heap[l.blk]? = some o ∧ OR P ρ l ao o
 inj : ∀ n m a b l l', H n = some a → H m = some b → ρ n = some l → ρ m = some l' → l.blk = l'.blk → n = m

structure Ext (ρ : Rn) (w : World) (A : AW) (ρ' : Rn) (w' : World) (A' : AW) : Prop where
 sub : Sub ρ ρ'
 fresh : ∀ n, ρ n = none → ρ' n ≠ none → A.next ≤ n ∧ n < A'.next
 next : A.next ≤ A'.next
 dom : ∀ n ao, A'.live n = some ao → (∃ ao', A.live n = some ao') ∨ (A.next ≤ n ∧ n < A'.next)
 back : ∀ n ao l, A'.live n = some ao → ρ' n = some l → w.heap.size ≤ l.blk ∨ ∃ m am l', A.live m = some am ∧ ρ m = some l' ∧ l'.blk = l.blk
 keep : ∀ b, b < w.heap.size → (∀ n ao l, A.live n = some ao → ρ n = some l → l.blk ≠ b) → w'.heap[b]? = w.heap[b]?
 size : w.heap.size ≤ w'.heap.size
 os : w'.os = w.os
 tape : w'.tape = w.tape
 output : w'.output = w.output

theorem Ext.refl (ρ : Rn) (w : World) (A : AW) : Ext ρ w A ρ w A :=
 ⟨Sub.refl ρ, fun _ h k => absurd h k, Nat.le_refl _, fun _ ao h => .inl ⟨ao, h⟩, fun n ao l h e => .inr ⟨n, ao, l, h, e, rfl⟩, fun _ _ _ => rfl, Nat.le_refl _, rfl, rfl, rfl⟩

theorem Ext.trans {ρ ρ1 ρ2 : Rn} {w w1 w2 : World} {A A1 A2 : AW} (h : Ext ρ w A ρ1 w1 A1) (k : Ext ρ1 w1 A1 ρ2 w2 A2) : Ext ρ w A ρ2 w2 A2 where
 sub := h.sub.trans k.sub
 fresh n e e2 := by
  by_cases e1 : ρ1 n = none
  ·have := k.fresh n e1 e2; have := h.next; omega
  ·have := h.fresh n e e1; have := k.next; omega
 next := Nat.le_trans h.next k.next
 dom n ao e := by
  rcases k.dom n ao e with ⟨a1, e1⟩ | h1
  ·rcases h.dom n a1 e1 with h2 | h2
   ·exact .inl h2
   ·have := k.next; exact .inr ⟨h2.1, by omega⟩
  ·have := h.next; exact .inr ⟨by omega, h1.2⟩
 back n ao l e e1 := by
  rcases k.back n ao l e e1 with h1 | ⟨m, am, l', a, b, c⟩
  ·have := h.size; exact .inl (by omega)
  ·rcases h.back m am l' a b with h2 | ⟨m2, am2, l2, a2, b2, c2⟩
   ·exact .inl (by omega)
   ·exact .inr ⟨m2, am2, l2, a2, b2, c2.trans c⟩
 keep b hb hn := by
  have h1 := h.keep b hb hn
  have hs := h.size
  rw [← h1]
  refine k.keep b (by omega) fun n ao l e e1 hl => ?_
  rcases h.back n ao l e e1 with h2 | ⟨m, am, l', a, bb, c⟩
  ·omega
  ·exact hn m am l' a bb (c.trans hl)
 size := Nat.le_trans h.size k.size
 os := k.os.trans h.os
 tape := k.tape.trans h.tape
 output := k.output.trans h.output

def Free (ρ : Rn) (a b : Nat) : Prop := ∀ n, a ≤ n → n < b → ρ n = none

theorem Free.later {ρ ρ1 : Rn} {w w1 : World} {A A1 : AW} {b : Nat} (h : Free ρ A.next b) (k : Ext ρ w A ρ1 w1 A1) : Free ρ1 A1.next b := fun n h1 h2 => by
 have := k.next
 have h0 := h n (by omega) h2
 cases e : ρ1 n with
 | none => rfl
 | some l => have := k.fresh n h0 (by simp [e]); omega

def upd (ρ : Rn) (n : Nat) (l : Loc) : Rn := fun m => if m = n then some l else ρ m
theorem upd_sub {ρ : Rn} {n : Nat} {l : Loc} (h : ρ n = none) : Sub ρ (upd ρ n l) := fun m k e => by
 unfold upd; split
 ·rename_i e2; subst e2; rw [h] at e; cases e
 ·exact e
theorem upd_at {ρ : Rn} {n : Nat} {l : Loc} : upd ρ n l n = some l := by simp [upd]

theorem live_set (A : AW) (n m : Nat) (o : AO) : (A.set n o).live m = if m = n then (match o with | .dead => none | x => some x) else A.live m := by
 unfold AW.live AW.get AW.set
 simp only [Tr.get_set]
 by_cases e : m = n
 ·simp only [e, if_true]; cases o <;> rfl
 ·simp only [e, if_false]
theorem live_new (A : AW) (m : Nat) (o : AO) : (A.new o).live m = if m = A.next then (match o with | .dead => none | x => some x) else A.live m := by
 unfold AW.live AW.get AW.new
 simp only [Tr.get_set]
 by_cases e : m = A.next
 ·simp only [e, if_true]; cases o <;> rfl
 ·simp only [e, if_false]
theorem live_of_get {A : AW} {n : Nat} {o : AO} (h : A.get n = some o) (hd : o ≠ .dead) : A.live n = some o := by
 unfold AW.live; rw [h]; cases o <;> first | rfl | exact absurd rfl hd
theorem get_of_live {A : AW} {n : Nat} {o : AO} (h : A.live n = some o) : A.get n = some o ∧ o ≠ .dead := by
 unfold AW.live at h
 split at h
 ·cases h
 ·rename_i x hx
  refine ⟨h, fun e => ?_⟩
  subst e
  exact hx h

end Go.Proofs.YtookoagcmejkpaaGreatDoor.Ab
namespace Go.Proofs.YtookoagcmejkpaaGreatDoor.Ab
open Go
theorem cut_spec {l : List AV} {o n : Nat} {r : List AV} (h : cut l o n = some r) : r.length = n ∧ o + n ≤ l.length + (if n = 0 then o else 0) ∧ ∀ i a, r[i]? = some a → l[o + i]? = some a := by
  unfold cut at h
  simp only at h
  split at h
  · rename_i e
    cases h
    have e' := e
    simp at e'
    refine ⟨e, by split <;> omega, fun i a h => ?_⟩
    rw [List.getElem?_take] at h
    split at h
    · simpa [List.getElem?_drop] using h
    · cases h
  · cases h

theorem putAt_spec : ∀ {l : List AV} {o : Nat} {xs r : List AV}, putAt l o xs = some r → r.length = l.length ∧ o + xs.length ≤ l.length ∧ ∀ i, r[i]? = if o ≤ i ∧ i < o + xs.length then xs[i - o]? else l[i]?
  | l, 0, [], r, h => by
    have : r = l := by cases l <;> simp [putAt] at h <;> first | exact h | exact h.symm
    subst this
    exact ⟨rfl, by simp, fun i => by have : ¬ (0 ≤ i ∧ i < 0 + ([] : List AV).length) := by simp
                                     rw [if_neg this]⟩
  | [], 0, _ :: _, _, h => by simp [putAt] at h
  | [], _ + 1, _, _, h => by simp [putAt] at h
  | _ :: l, 0, x :: xs, r, h => by
    simp only [putAt] at h
    split at h
    · rename_i r' hr
      cases h
      obtain ⟨h1, h2, h3⟩ := putAt_spec hr
      refine ⟨by simp [h1], by simp at h2 ⊢; omega, fun i => ?_⟩
      cases i with
      | zero => simp
      | succ i =>
        simp only [List.getElem?_cons_succ, h3 i]
        by_cases c : i < xs.length
        · rw [if_pos (by omega), if_pos (by simp; omega)]; simp
        · rw [if_neg (by omega), if_neg (by simp; omega)]
    · cases h
  | y :: l, o + 1, xs, r, h => by
    simp only [putAt] at h
    split at h
    · rename_i r' hr
      cases h
      obtain ⟨h1, h2, h3⟩ := putAt_spec hr
      refine ⟨by simp [h1], by simp; omega, fun i => ?_⟩
      cases i with
      | zero => rw [if_neg (by omega)]; rfl
      | succ i =>
        simp only [List.getElem?_cons_succ, h3 i]
        by_cases c : o ≤ i ∧ i < o + xs.length
        · rw [if_pos c, if_pos (by omega)]; congr 1; omega
        · rw [if_neg c, if_neg (by omega)]
    · cases h

def spl (C : Array Value) : Nat → List Value → Array Value
  | _, [] => C
  | o, v :: r => spl (C.setIfInBounds o v) (o + 1) r

theorem spl_size : ∀ (vs : List Value) (C : Array Value) (o : Nat), (spl C o vs).size = C.size
  | [], _, _ => rfl
  | v :: r, C, o => by rw [spl, spl_size r]; simp

theorem spl_get : ∀ (vs : List Value) (C : Array Value) (o i : Nat), o + vs.length ≤ C.size → (spl C o vs)[i]? = if o ≤ i ∧ i < o + vs.length then vs[i - o]? else C[i]?
  | [], C, o, i, _ => by rw [spl, if_neg (by simp <;> omega)]
  | v :: r, C, o, i, h => by
    simp only [List.length_cons] at h
    rw [spl, spl_get r _ _ _ (by simp; omega)]
    by_cases c : o + 1 ≤ i ∧ i < o + 1 + r.length
    · rw [if_pos c, if_pos (by simp; omega)]
      have : i - o = (i - (o + 1)) + 1 := by omega
      rw [this]; rfl
    · rw [if_neg c]
      by_cases e : i = o
      · subst e
        rw [if_pos (by simp)]
        simp [Array.getElem?_setIfInBounds]
        try omega
      · rw [if_neg (by simp; omega)]
        rw [Array.getElem?_setIfInBounds, if_neg (by omega)]

theorem setCell_block (w : World) (b o : Nat) (v : Value) (C : Array Value) (t : TypeId) (fz : Nat × Nat) (h : w.heap[b]? = some (.cells C t fz)) :
    (w.setCell ⟨b, o, none⟩ v).heap[b]? = some (.cells (C.setIfInBounds o v) t fz) := by
  simp [World.setCell, Array.getElem?_modify, h]

theorem setCells_block : ∀ (vs : List Value) (w : World) (b o : Nat) (C : Array Value) (t : TypeId) (fz : Nat × Nat), w.heap[b]? = some (.cells C t fz) →
    (w.setCells b o vs).heap[b]? = some (.cells (spl C o vs) t fz)
  | [], _, _, _, _, _, _, h => h
  | v :: r, w, b, o, C, t, fz, h => by
    rw [World.setCells, spl]
    exact setCells_block r _ _ _ _ _ _ (setCell_block w b o v C t fz h)

theorem setCells_other : ∀ (vs : List Value) (w : World) (b o c : Nat), c ≠ b → (w.setCells b o vs).heap[c]? = w.heap[c]?
  | [], _, _, _, _, _ => rfl
  | v :: r, w, b, o, c, h => by
    rw [World.setCells, setCells_other r _ _ _ _ h]
    simp [World.setCell, Array.getElem?_modify]
    intro e; exact absurd e.symm h

theorem setCells_rest : ∀ (vs : List Value) (w : World) (b o : Nat), (w.setCells b o vs).heap.size = w.heap.size ∧ (w.setCells b o vs).os = w.os ∧ (w.setCells b o vs).tape = w.tape ∧ (w.setCells b o vs).output = w.output
  | [], _, _, _ => ⟨rfl, rfl, rfl, rfl⟩
  | v :: r, w, b, o => by
    rw [World.setCells]
    obtain ⟨h1, h2, h3, h4⟩ := setCells_rest r (w.setCell ⟨b, o, none⟩ v) b (o + 1)
    exact ⟨h1.trans (by simp [World.setCell]), h2, h3, h4⟩

section
variable {P : Program} {ρ : Rn} {A : AW} {w : World}
theorem cellsOf_live {n : Nat} {xs : List AV} {t : TypeId} (h : cellsOf A n = some (xs, t)) : A.live n = some (.cells xs t) := by
  unfold cellsOf at h
  split at h
  · rename_i l u e; cases h; exact live_of_get e (by simp)
  · cases h

theorem Sim.block {H : Nat → Option AO} (hs : Sim P ρ H w) {n : Nat} {xs : List AV} {t : TypeId} {l : Loc} (h : H n = some (.cells xs t)) (hl : ρ n = some l) :
    ∃ (C : Array Value) (fz : Nat × Nat), w.heap[l.blk]? = some (.cells C t fz) ∧ C.size = l.base + xs.length + l.room * P.cellsOf t ∧
      Thaw C.size fz ∧ ∀ i a, xs[i]? = some a → ∃ v, C[l.base + i]? = some v ∧ VR ρ a v := by
  obtain ⟨l', o, h1, h2, h3⟩ := hs.obj n _ h
  rw [hl] at h1; cases h1
  obtain ⟨C, fz, rfl, h4⟩ := h3
  exact ⟨C, fz, h2, h4⟩

theorem cell_of_block {b o : Nat} {C : Array Value} {t : TypeId} {fz : Nat × Nat} (h : w.heap[b]? = some (.cells C t fz)) : w.cell? ⟨b, o, none⟩ = C[o]? := by
  simp [World.cell?, h]
theorem frozen_of_block {b o : Nat} {C : Array Value} {t : TypeId} {fz : Nat × Nat} (h : w.heap[b]? = some (.cells C t fz)) (hf : Thaw C.size fz) (ho : o < C.size) : w.frozen? ⟨b, o, none⟩ = false := by
  unfold Thaw at hf
  simp [World.frozen?, h]
  omega

theorem Sim.row {H : Nat → Option AO} (hs : Sim P ρ H w) {n o k : Nat} {xs r : List AV} {t : TypeId} {l : Loc} (h : H n = some (.cells xs t)) (hl : ρ n = some l) (hc : cut xs o k = some r) :
    ∃ vs, VRs ρ r vs ∧ vs.length = k ∧ ∀ j v, vs[j]? = some v → w.cell? ((⟨l.blk, l.base + o, none⟩ : Addr).add j) = some v := by
  obtain ⟨C, fz, h1, h2, h3, h4⟩ := hs.block h hl
  obtain ⟨c1, c2, c3⟩ := cut_spec hc
  have hall : ∀ i (hi : i < k), ∃ v, C[l.base + o + i]? = some v ∧ ∀ a, r[i]? = some a → VR ρ a v := by
    intro i hi
    have hr : r[i]? = some r[i] := List.getElem?_eq_getElem (by omega)
    obtain ⟨v, e1, e2⟩ := h4 _ _ (c3 i _ hr)
    exact ⟨v, by rw [← e1]; congr 1; omega, fun a ha => by rw [hr] at ha; cases ha; exact e2⟩
  refine ⟨((List.range k).map fun i => (C[l.base + o + i]?).getD undef), .of_get (by simp [c1]) fun i a e => ?_, by simp, fun j v e => ?_⟩
  · have hi : i < k := by have := (List.getElem?_eq_some_iff.1 e).1; omega
    obtain ⟨v, e1, e2⟩ := hall i hi
    exact ⟨v, by simp [hi, e1], e2 a e⟩
  · have hj : j < k := by have := (List.getElem?_eq_some_iff.1 e).1; simpa using this
    obtain ⟨u, e1, _⟩ := hall j hj
    rw [Addr.add_lit, cell_of_block h1]
    simp [hj, e1] at e
    simp [e1, e]

theorem Sim.cell {H : Nat → Option AO} (hs : Sim P ρ H w) {n o : Nat} {xs : List AV} {a : AV} {t : TypeId} {l : Loc} (h : H n = some (.cells xs t)) (hl : ρ n = some l) (hc : xs[o]? = some a) :
    ∃ v, VR ρ a v ∧ w.cell? ⟨l.blk, l.base + o, none⟩ = some v := by
  obtain ⟨C, fz, h1, h2, h3, h4⟩ := hs.block h hl
  obtain ⟨v, e1, e2⟩ := h4 _ _ hc
  exact ⟨v, e2, by rw [cell_of_block h1]; exact e1⟩

theorem Sim.setAt (hs : Sim P ρ A.live w) {n : Nat} {l : Loc} {a0 ao : AO} {w' : World} {o' : Obj} (h : A.live n = some a0) (hl : ρ n = some l) (hw : w'.heap[l.blk]? = some o') (ho : OR P ρ l ao o')
    (hk : ∀ b, b ≠ l.blk → w'.heap[b]? = w.heap[b]?) : Sim P ρ (A.set n ao).live w' where
  obj m am hm := by
    rw [live_set] at hm
    by_cases e : m = n
    · subst e
      rw [if_pos rfl] at hm
      have : am = ao := by cases ao <;> simp at hm <;> exact hm.symm
      subst this
      exact ⟨l, o', hl, hw, ho⟩
    · rw [if_neg e] at hm
      obtain ⟨l2, o2, h1, h2, h3⟩ := hs.obj m am hm
      refine ⟨l2, o2, h1, ?_, h3⟩
      rw [hk, h2]
      intro e2
      exact e (hs.inj m n am a0 l2 l hm h h1 hl e2)
  inj m k am ak lm lk hm hk' h1 h2 he := by
    have go : ∀ m am, (A.set n ao).live m = some am → ∃ a, A.live m = some a := by
      intro m am hm
      rw [live_set] at hm
      by_cases e : m = n
      · subst e; exact ⟨_, h⟩
      · rw [if_neg e] at hm; exact ⟨_, hm⟩
    obtain ⟨a, ha⟩ := go m am hm
    obtain ⟨b, hb⟩ := go k ak hk'
    exact hs.inj m k a b lm lk ha hb h1 h2 he

theorem Ext.setAt {n : Nat} {l : Loc} {a0 ao : AO} {w' : World} (h : A.live n = some a0) (hl : ρ n = some l)
    (hk : ∀ b, b ≠ l.blk → w'.heap[b]? = w.heap[b]?) (hz : w'.heap.size = w.heap.size) (h1 : w'.os = w.os) (h2 : w'.tape = w.tape) (h3 : w'.output = w.output) : Ext ρ w A ρ w' (A.set n ao) where
  sub := Sub.refl ρ
  fresh _ e k := absurd e k
  next := Nat.le_refl _
  dom m am hm := by
    rw [live_set] at hm
    by_cases e : m = n
    · subst e; exact .inl ⟨_, h⟩
    · rw [if_neg e] at hm; exact .inl ⟨_, hm⟩
  back m am lm hm e := by
    rw [live_set] at hm
    by_cases e2 : m = n
    · subst e2; exact .inr ⟨m, a0, lm, h, e, rfl⟩
    · rw [if_neg e2] at hm; exact .inr ⟨m, am, lm, hm, e, rfl⟩
  keep b _ hn := hk b fun e => hn n a0 l h hl e.symm
  size := by omega
  os := h1
  tape := h2
  output := h3

theorem Sim.putCells (hs : Sim P ρ A.live w) {n o : Nat} {xs ys xs' : List AV} {t : TypeId} {l : Loc} {vs : List Value} (h : A.live n = some (.cells xs t)) (hl : ρ n = some l)
    (hp : putAt xs o ys = some xs') (hv : VRs ρ ys vs) :
    Sim P ρ (A.set n (.cells xs' t)).live (w.setCells l.blk (l.base + o) vs) ∧ Ext ρ w A ρ (w.setCells l.blk (l.base + o) vs) (A.set n (.cells xs' t)) ∧
    (∀ j, j < vs.length → (w.cell? ⟨l.blk, l.base + o + j, none⟩).isSome = true) ∧ (∀ j, j < vs.length → w.frozen? ⟨l.blk, l.base + o + j, none⟩ = false) := by
  obtain ⟨C, fz, h1, h2, h3, h4⟩ := hs.block h hl
  obtain ⟨p1, p2, p3⟩ := putAt_spec hp
  have hlen := hv.length
  obtain ⟨z1, z2, z3, z4⟩ := setCells_rest vs w l.blk (l.base + o)
  have hk : ∀ b, b ≠ l.blk → (w.setCells l.blk (l.base + o) vs).heap[b]? = w.heap[b]? := fun b hb => setCells_other vs w _ _ b hb
  refine ⟨hs.setAt h hl (setCells_block vs w l.blk (l.base + o) C t fz h1) ⟨_, fz, rfl, ?_, ?_, ?_⟩ hk, Ext.setAt h hl hk z1 z2 z3 z4, ?_, ?_⟩
  · rw [spl_size, p1]; exact h2
  · rw [spl_size]; exact h3
  · intro i a e
    rw [p3] at e
    rw [spl_get _ _ _ _ (by omega)]
    by_cases c : o ≤ i ∧ i < o + ys.length
    · rw [if_pos c] at e
      rw [if_pos (by omega)]
      obtain ⟨v, e1, e2⟩ := hv.get e
      exact ⟨v, by rw [← e1]; congr 1; omega, e2⟩
    · rw [if_neg c] at e
      rw [if_neg (by omega)]
      exact h4 i a e
  · intro j hj
    rw [cell_of_block h1]
    rw [Array.getElem?_eq_getElem (by omega)]; rfl
  · intro j hj
    exact frozen_of_block h1 h3 (by omega)

structure Pushed (w : World) (o : Obj) (w' : World) : Prop where
  heap : w'.heap = w.heap.push o
  os : w'.os = w.os
  tape : w'.tape = w.tape
  output : w'.output = w.output

theorem Sim.push (hs : Sim P ρ A.live w) {ao : AO} {o : Obj} {w' : World} {room : Nat} (hp : Pushed w o w') (hf : ρ A.next = none)
    (ho : OR P (upd ρ A.next ⟨w.heap.size, 0, room⟩) ⟨w.heap.size, 0, room⟩ ao o) :
    Sim P (upd ρ A.next ⟨w.heap.size, 0, room⟩) (A.new ao).live w' ∧ Ext ρ w A (upd ρ A.next ⟨w.heap.size, 0, room⟩) w' (A.new ao) := by
  have hsub := upd_sub (l := ⟨w.heap.size, 0, room⟩) hf
  have hlt : ∀ m am lm, A.live m = some am → ρ m = some lm → lm.blk < w.heap.size := by
    intro m am lm hm e
    obtain ⟨l2, o2, e1, e2, _⟩ := hs.obj m am hm
    rw [e] at e1; cases e1
    exact (Array.getElem?_eq_some_iff.1 e2).1
  have hne : ∀ m am, A.live m = some am → m ≠ A.next := by
    intro m am hm e
    obtain ⟨l2, o2, e1, _⟩ := hs.obj m am hm
    rw [e, hf] at e1; cases e1
  constructor
  · constructor
    · intro m am hm
      rw [live_new] at hm
      by_cases e : m = A.next
      · subst e
        rw [if_pos rfl] at hm
        have : am = ao := by cases ao <;> simp at hm <;> exact hm.symm
        subst this
        exact ⟨_, o, upd_at, by rw [hp.heap]; simp, ho⟩
      · rw [if_neg e] at hm
        obtain ⟨l2, o2, e1, e2, e3⟩ := hs.obj m am hm
        refine ⟨l2, o2, hsub _ _ e1, ?_, e3.mono hsub⟩
        have := hlt m am l2 hm e1
        rw [hp.heap, Array.getElem?_push, if_neg (by omega)]
        exact e2
    · intro m k am ak lm lk hm hk h1 h2 he
      rw [live_new] at hm hk
      by_cases e : m = A.next
      · by_cases e2 : k = A.next
        · rw [e, e2]
        · rw [if_neg e2] at hk
          simp only [upd, if_pos e] at h1
          simp only [upd, if_neg e2] at h2
          have := hlt k ak lk hk h2
          cases h1
          simp at he
          omega
      · rw [if_neg e] at hm
        simp only [upd, if_neg e] at h1
        by_cases e2 : k = A.next
        · simp only [upd, if_pos e2] at h2
          have := hlt m am lm hm h1
          cases h2
          simp at he
          omega
        · rw [if_neg e2] at hk
          simp only [upd, if_neg e2] at h2
          exact hs.inj m k am ak lm lk hm hk h1 h2 he
  · constructor
    · exact hsub
    · intro m e e2
      by_cases e3 : m = A.next
      · subst e3; exact ⟨Nat.le_refl _, by simp [AW.new]⟩
      · simp only [upd, if_neg e3] at e2; exact absurd e e2
    · simp [AW.new]
    · intro m am hm
      rw [live_new] at hm
      by_cases e : m = A.next
      · subst e; exact .inr ⟨Nat.le_refl _, by simp [AW.new]⟩
      · rw [if_neg e] at hm; exact .inl ⟨_, hm⟩
    · intro m am lm hm e1
      rw [live_new] at hm
      by_cases e : m = A.next
      · simp only [upd, if_pos e] at e1; cases e1; exact .inl (Nat.le_refl _)
      · rw [if_neg e] at hm
        simp only [upd, if_neg e] at e1
        exact .inr ⟨m, am, lm, hm, e1, rfl⟩
    · intro b hb _
      rw [hp.heap, Array.getElem?_push, if_neg (by omega)]
    · rw [hp.heap]; simp
    · exact hp.os
    · exact hp.tape
    · exact hp.output

theorem Sim.kill (hs : Sim P ρ A.live w) {n : Nat} {l : Loc} {a0 : AO} {w' : World} (h : A.live n = some a0) (hl : ρ n = some l)
    (hk : ∀ b, b ≠ l.blk → w'.heap[b]? = w.heap[b]?) : Sim P ρ (A.set n .dead).live w' where
  obj m am hm := by
    rw [live_set] at hm
    by_cases e : m = n
    · rw [if_pos e] at hm; cases hm
    · rw [if_neg e] at hm
      obtain ⟨l2, o2, h1, h2, h3⟩ := hs.obj m am hm
      refine ⟨l2, o2, h1, ?_, h3⟩
      rw [hk, h2]
      intro e2
      exact e (hs.inj m n am a0 l2 l hm h h1 hl e2)
  inj m k am ak lm lk hm hk' h1 h2 he := by
    rw [live_set] at hm hk'
    by_cases e : m = n
    · rw [if_pos e] at hm; cases hm
    · rw [if_neg e] at hm
      by_cases e2 : k = n
      · rw [if_pos e2] at hk'; cases hk'
      · rw [if_neg e2] at hk'
        exact hs.inj m k am ak lm lk hm hk' h1 h2 he
end
def Gives (res : Result Next) (x : Value) (w' : World) : Prop := res = .ok (.value x) w' ∨ (res = .ok .skip w' ∧ x = undef)

def ArOk (P : Program) (ρ : Rn) (A : AW) (w : World) (res : Result Next) : AR → Prop
 | .val v => ∃ x, Gives res x w ∧ VR ρ v x
 | .new v ob => ∃ x obj w' room, Gives res x w' ∧ Pushed w obj w' ∧ ∀ ρ', Sub ρ ρ' → ρ' A.next = some ⟨w.heap.size, 0, room⟩ → VR ρ' v x ∧ OR P ρ' ⟨w.heap.size, 0, room⟩ ob obj
 | .chg v A' => Free ρ A.next A'.next → ∃ x w' ρ', Gives res x w' ∧ VR ρ' v x ∧ Sim P ρ' A'.live w' ∧ Ext ρ w A ρ' w' A'
 | .enter f args => ∃ xs : List Value, res = .ok (.enter f xs.toArray) w ∧ VRs ρ args xs
 | .dfr f args cap => ∃ xs cs : List Value, res = .ok (.defer { target := .fn (.func f) cs.toArray, args := xs.toArray }) w ∧ VRs ρ args xs ∧ VRs ρ cap cs
 | .round n args => ∃ xs : List Value, ∃ l, ρ n = some l ∧ res = (Instr.yield l.blk xs.toArray).run P w ∧ VRs ρ args xs

section
variable {P : Program} {ρ : Rn} {A : AW} {w : World}
theorem pureRun_spec {α : Type} : ∀ (s : Sem α) (a : α), pureRun P s = some a → ∀ w, s.run P w = .ok a w := by
 intro s
 induction s with
 | pure b => intro a h w; simp [pureRun] at h; subst h; rfl
 | program k ih => intro a h w; exact ih P a h w
 | mark m k ih => intro a h w; exact ih a h w
 | _ => intro a h; simp [pureRun] at h

theorem run_und {t : TypeId} {d : TypeDesc} (h : P.underlying t = some d) (w : World) : (underlying t).run P w = .ok d w := run_underlying h w
theorem run_info {t : TypeId} {i : TypeInfo} (h : P.info? t = some i) (w : World) : (typeInfo t).run P w = .ok i w := by simp [typeInfo, h]
theorem sizeA_spec {t : TypeId} {s : Nat} (h : sizeA P t = some s) : ∃ i, P.info? t = some i ∧ i.size = s := by
 unfold sizeA at h
 cases e : P.info? t with
 | none => simp [e] at h
 | some i => simp [e] at h; exact ⟨i, rfl, h⟩
theorem run_size {t : TypeId} {s : Nat} (h : sizeA P t = some s) (w : World) : (sizeOf t).run P w = .ok s w := by
 obtain ⟨i, e, rfl⟩ := sizeA_spec h
 simp [sizeOf, run_info e]
theorem size_of_sizeA {t : TypeId} {s : Nat} (h : sizeA P t = some s) : P.cellsOf t = s := by
 obtain ⟨i, e, rfl⟩ := sizeA_spec h
 simp [Program.cellsOf, e]
theorem run_isAggA {t : TypeId} {b : Bool} (h : isAggA P t = some b) (w : World) : (isAgg t).run P w = .ok b w := by
 unfold isAggA at h
 split at h
 ·rename_i e; cases h; simp [isAgg, run_und e]
 ·rename_i e; cases h; simp [isAgg, run_und e]
 ·rename_i d h1 h2 e; cases h
  rw [isAgg, Sem.run_bind, run_und e, Result.andThen_ok]
  cases d <;> first | rfl | exact absurd rfl (h1 _) | exact absurd rfl (h2 _ _)
 ·cases h
theorem zeroA_spec {t : TypeId} {z : AV} (h : zeroA P t = some z) : ∃ i v, P.info? t = some i ∧ i.zero = some v ∧ z = fromV v := by
 unfold zeroA at h
 split at h
 ·rename_i i e
  split at h
  ·rename_i v ez; cases h; exact ⟨i, v, e, ez, rfl⟩
  ·cases h
 ·cases h
theorem run_zero {t : TypeId} {z : AV} (h : zeroA P t = some z) : ∃ v, z = fromV v ∧ ∀ w, (zeroValue t).run P w = .ok v w := by
 obtain ⟨i, v, e, ez, rfl⟩ := zeroA_spec h
 exact ⟨v, rfl, fun w => by simp [zeroValue, run_info e, ez]⟩

theorem VR.oneV {a : AV} : ∀ {v : Value}, VR ρ a v → a.one = true → v.oneCell' = true
 | _, .flat v, k => by cases v <;> simp [AV.one] at k <;> rfl
 | _, .agg _, k | _, .tup _, k | _, .tupx _, k => by simp [AV.one] at k
 | _, .pick _ _ _ o h, _ => VR.oneV h o
 | _, .any h, _ => h
 | _, .rng _ _, _ => rfl
 | _, .ptr _ _, _ | _, .sl _ _ _ _ _, _ | _, .sle _ _ _, _ | _, .mp _, _ | _, .fn _ _ _, _ | _, .yld _, _ | _, .ifc _ _, _ => rfl

theorem VR.cells {a : AV} {v : Value} (h : VR ρ a v) : VRs ρ a.cells v.cells.toList := by
 cases h with
 | pick i e1 e2 o h =>
  have h1 := h.oneV o
  have : v.cells.toList = [v] := by cases v <;> first | rfl | simp [Value.oneCell'] at h1
  rw [this]
  exact .cons (.pick i e1 e2 o h) .nil
 | any h1 =>
  have : v.cells.toList = [v] := by cases v <;> first | rfl | simp [Value.oneCell'] at h1
  rw [this]
  exact .cons (.any h1) .nil
 | tupx h => exact .cons (.tupx h) .nil
 | rng h k => exact .cons (.rng h k) .nil
 | flat v =>
  cases v with
  | agg cs => simpa [AV.cells, Value.cells] using VRs.flats cs.toList
  | _ => exact .cons (.flat _) .nil
 | agg h => simpa [AV.cells, Value.cells] using h
 | ptr o h => exact .cons (.ptr o h) .nil
 | sl o len cap b h => exact .cons (.sl o len cap b h) .nil
 | sle a b h => exact .cons (.sle a b h) .nil
 | mp h => exact .cons (.mp h) .nil
 | fn f h k => exact .cons (.fn f h k) .nil
 | yld h => exact .cons (.yld h) .nil
 | ifc t h => exact .cons (.ifc t h) .nil
 | tup h => exact .cons (.tup h) .nil

theorem VR.one {a : AV} {v : Value} (h : VR ρ a v) (k : a.one = true) : v.oneCell' = true := by
 exact h.oneV k

theorem VRs.one {l : List AV} {vs : List Value} (h : VRs ρ l vs) (k : l.all AV.one = true) : ∀ v ∈ vs, v.oneCell' = true := by
 induction l generalizing vs with
 | nil => cases h; intro v hv; cases hv
 | cons a l ih =>
  cases h with
  | cons ha hl =>
   simp only [List.all_cons, Bool.and_eq_true] at k
   intro v hv
   cases hv with
   | head => exact ha.one k.1
   | tail _ hv => exact ih hl k.2 v hv

theorem intOf?_spec {a : AV} {n : Int} {v : Value} (h : intOf? a = some n) (hv : VR ρ a v) : ∃ k, v = .int k n := by
 unfold intOf? at h
 split at h
 ·cases h; cases hv; exact ⟨_, rfl⟩
 ·cases h
theorem natOf?_spec {a : AV} {n : Nat} {v : Value} (h : natOf? a = some n) (hv : VR ρ a v) : ∃ k, v = .int k (n : Int) := by
 unfold natOf? at h
 split at h
 ·rename_i m e
  split at h
  ·obtain ⟨k, rfl⟩ := intOf?_spec e hv
   cases h
   exact ⟨k, by congr 1; omega⟩
  ·cases h
 ·cases h
theorem boolOf?_spec {a : AV} {b : Bool} {v : Value} (h : boolOf? a = some b) (hv : VR ρ a v) : v = .bool b := by
 unfold boolOf? at h
 split at h
 ·cases h; cases hv; rfl
 ·cases h

theorem load_sound (hs : Sim P ρ A.live w) {t : TypeId} {n o : Nat} {v : AV} {l : Loc} (h : loadA P A t n o = some v) (hl : ρ n = some l) :
  ∃ x, (Instr.loadAt t (.pointer (some ⟨l.blk, l.base + o, none⟩))).run P w = .ok x w ∧ VR ρ v x := by
 unfold loadA at h
 split at h
 ·rename_i xs e s hc ha hsz
  obtain ⟨r, hcut, rfl⟩ := Option.map_eq_some_iff.1 h
  obtain ⟨vs, h1, h2, h3⟩ := hs.row (cellsOf_live hc) hl hcut
  refine ⟨.agg vs.toArray, ?_, .agg h1⟩
  have := run_loadCells_list (P := P) w ⟨l.blk, l.base + o, none⟩ vs h3
  rw [h2] at this
  simp [Instr.loadAt, Instr.sureAddr, loadVar, run_isAggA ha, run_size hsz, this]
 ·rename_i xs e _ hc ha
  obtain ⟨x, h1, h2⟩ := hs.cell (cellsOf_live hc) hl h
  refine ⟨x, ?_, h1⟩
  simp [Instr.loadAt, Instr.sureAddr, loadVar, run_isAggA ha, run_load, h2]
 ·cases h

theorem store_sound (hs : Sim P ρ A.live w) {t : TypeId} {n o : Nat} {v : AV} {x : Value} {A' : AW} {l : Loc} (h : storeA P A t n o v = some A') (hl : ρ n = some l) (hv : VR ρ v x) :
  ∃ w', (Instr.storeAt t (.pointer (some ⟨l.blk, l.base + o, none⟩)) x).run P w = .ok () w' ∧ Sim P ρ A'.live w' ∧ Ext ρ w A ρ w' A' := by
 unfold storeA at h
 split at h
 ·rename_i xs e s hc hsz
  split at h
  ·rename_i hcond
   simp only [Bool.and_eq_true, decide_eq_true_eq] at hcond
   split at h
   ·rename_i xs' hp
    cases h
    have hcs := hv.cells
    obtain ⟨h1, h2, h3, h4⟩ := hs.putCells (cellsOf_live hc) hl hp hcs
    refine ⟨_, ?_, h1, h2⟩
    have hst := run_storeCells_cells (P := P) l.blk (l.base + o) x.cells.toList 0 w (by simpa using h3) (by simpa using h4) (hcs.one hcond.2)
    have hlen : x.cells.size = s := by have := hcs.length; simp at this; omega
    simp [Instr.storeAt, Instr.sureAddr, storeVar, run_size hsz, hlen, hst]
   ·cases h
  ·cases h
 ·cases h

theorem newCells {elem : TypeId} {xs : List AV} {vs : List Value} (hv : VRs ρ xs vs) (room : Nat) (tail : List Value) (ht : tail.length = room * P.cellsOf elem) {ρ' : Rn} (hs : Sub ρ ρ') {l : Loc} (hl : l.base = 0) (hr : l.room = room) :
  OR P ρ' l (.cells xs elem) (.cells (vs ++ tail).toArray elem) := by
 refine ⟨_, (0, 0), rfl, by simp [hv.length, hl, hr, ht], Or.inl rfl, fun i a e => ?_⟩
 obtain ⟨v, e1, e2⟩ := hv.get e
 refine ⟨v, ?_, e2.mono hs⟩
 rw [hl]
 simp only [Nat.zero_add, List.getElem?_toArray]
 rw [List.getElem?_append_left (by have := (List.getElem?_eq_some_iff.1 e1).1; exact this)]
 exact e1

theorem pushed_newRow (elem : TypeId) (C : Array Value) (w : World) : ∃ w', (newRow elem C).run P w = .ok ⟨w.heap.size, 0, none⟩ w' ∧ Pushed w (.cells C elem) w' :=
 ⟨w.alloc (.cells C elem), by simp [newRow], rfl, rfl, rfl, rfl⟩

theorem box_sound {t : TypeId} {a : AV} {x : Value} (hv : VR ρ a x) :
  ∃ obj w', (newVar t x).run P w = .ok ⟨w.heap.size, 0, none⟩ w' ∧ Pushed w obj w' ∧ ∀ ρ', Sub ρ ρ' → ∀ l : Loc, l.base = 0 → l.room = 0 → OR P ρ' l (.cells a.cells t) obj := by
 obtain ⟨w', h1, h2⟩ := pushed_newRow (P := P) t x.cells w
 refine ⟨_, w', h1, h2, fun ρ' hs l hl hr => ?_⟩
 have := newCells (P := P) (elem := t) hv.cells 0 [] (by simp) hs hl hr
 simpa using this

theorem foldl_put (off : Nat) : ∀ (vs : List Value) (j : Nat) (C : Array Value), (vs.zipIdx j).foldl (fun cs (x : Value × Nat) => cs.setIfInBounds (off + x.2) x.1) C = spl C (off + j) vs
 | [], _, _ => rfl
 | v :: r, j, C => by
  rw [List.zipIdx_cons, List.foldl_cons, spl]
  exact foldl_put off r (j + 1) _

theorem VRs.putAt {xs ys r : List AV} {cs vs : List Value} {o : Nat} (h : VRs ρ xs cs) (k : VRs ρ ys vs) (e : putAt xs o ys = some r) : VRs ρ r (spl cs.toArray o vs).toList := by
 obtain ⟨p1, p2, p3⟩ := putAt_spec e
 have hl := h.length
 have hk := k.length
 refine .of_get (by simp [spl_size, p1, hl]) fun i a ei => ?_
 rw [p3] at ei
 rw [Array.getElem?_toList, spl_get _ _ _ _ (by simp; omega)]
 by_cases c : o ≤ i ∧ i < o + ys.length
 ·rw [if_pos c] at ei
  rw [if_pos (by omega)]
  exact k.get ei
 ·rw [if_neg c] at ei
  rw [if_neg (by omega)]
  simpa using h.get ei

inductive PRs (ρ : Rn) : List (Nat × AV) → List (Nat × Value) → Prop
 | nil : PRs ρ [] []
 | cons {i : Nat} {a : AV} {v : Value} {l : List (Nat × AV)} {m : List (Nat × Value)} : VR ρ a v → PRs ρ l m → PRs ρ ((i, a) :: l) ((i, v) :: m)

theorem fill_sound (place place' : Nat → Option (Nat × Nat)) (hp : ∀ i o s, place i = some (o, s) → place' i = some (o, s)) : ∀ {parts : List (Nat × AV)} {ps : List (Nat × Value)} {xs r : List AV} {cs : List Value}, PRs ρ parts ps → VRs ρ xs cs →
  fillA place xs parts = some r → ∃ us, Instr.fill place' cs.toArray ps = some us.toArray ∧ VRs ρ r us
 | _, _, xs, r, cs, .nil, hx, h => by simp [fillA] at h; subst h; exact ⟨cs, rfl, hx⟩
 | _, _, xs, r, cs, .cons (i := i) (a := a) (v := v) ha hr, hx, h => by
  simp only [fillA] at h
  split at h
  ·cases h
  ·rename_i off size e
   split at h
   ·rename_i hsz
    split at h
    ·rename_i c hc
     have hcs := ha.cells
     have hlen := hcs.length
     simp at hlen
     obtain ⟨p1, p2, p3⟩ := putAt_spec hc
     have hx2 := hx.putAt hcs hc
     obtain ⟨us, h1, h2⟩ := fill_sound place place' hp hr hx2 h
     refine ⟨us, ?_, h2⟩
     simp only [Instr.fill, hp _ _ _ e]
     have hxl := hx.length
     rw [if_neg (by simp; omega)]
     have : (v.cells.zipIdx.foldl (fun cs (x : Value × Nat) => cs.setIfInBounds (off + x.2) x.1) cs.toArray) = spl cs.toArray off v.cells.toList := by
      rw [← Array.foldl_toList, Array.toList_zipIdx]
      exact foldl_put off _ 0 _
     simp only [this]
     rw [← h1]
    ·cases h
   ·cases h

theorem run_places {fields : List Field} {ps : List (Nat × Nat)} (h : placesA P fields = some ps) (w : World) :
  (fields.mapM (fun f => Prod.mk f.offset <$> sizeOf f.type : Field → Sem (Nat × Nat))).run P w = .ok ps w := by
 unfold placesA at h
 induction fields generalizing ps with
 | nil => simp at h; subst h; simp
 | cons f l ih =>
  simp only [List.mapM_cons] at h
  cases e : sizeA P f.type with
  | none => simp [e] at h
  | some s =>
   cases e2 : l.mapM (fun f => (sizeA P f.type).map fun s => (f.offset, s)) with
   | none => simp [e, e2] at h
   | some qs =>
    simp [e, e2] at h
    subst h
    simp [List.mapM_cons, run_size e, ih e2]

theorem build_sound {t : TypeId} {parts : List (Nat × AV)} {ps : List (Nat × Value)} {v : AV} (h : buildA P t parts = some v) (hp : PRs ρ parts ps) (w : World) :
  ∃ x, (Instr.build t ps.toArray).run P w = .ok x w ∧ VR ρ v x := by
 unfold buildA at h
 split at h
 ·rename_i z fields hz hu
  obtain ⟨zv, rfl, hzr⟩ := run_zero hz
  split at h
  ·rename_i pl hpl
   obtain ⟨r, hr, rfl⟩ := Option.map_eq_some_iff.1 h
   obtain ⟨us, h1, h2⟩ := fill_sound (fun i => pl[i]?) (fun i => (pl.toArray)[i]?) (fun i o s e => by simpa using e) hp (VR.fromV (ρ := ρ) zv).cells hr
   refine ⟨.agg us.toArray, ?_, .agg h2⟩
   have hm : (fields.mapM (fun f => Prod.mk f.offset <$> sizeOf f.type : Field → Sem (Nat × Nat))).run P w = .ok pl.toArray w := by
    rw [Array.mapM_eq_mapM_toList, Sem.run_map, run_places hpl]
    rfl
   simp at h1
   simp [Instr.build, hzr, run_und hu, hm, h1]
  ·cases h
 ·rename_i z k elem hz hu
  obtain ⟨zv, rfl, hzr⟩ := run_zero hz
  split at h
  ·rename_i s hsz
   obtain ⟨r, hr, rfl⟩ := Option.map_eq_some_iff.1 h
   obtain ⟨us, h1, h2⟩ := fill_sound (fun i => some (i * s, s)) (fun i => some (i * s, s)) (fun i o s e => e) hp (VR.fromV (ρ := ρ) zv).cells hr
   refine ⟨.agg us.toArray, ?_, .agg h2⟩
   simp at h1
   simp [Instr.build, hzr, run_und hu, run_size hsz, h1]
  ·cases h
 ·cases h

theorem part_sound {t : TypeId} {l : List AV} {cs : List Value} {off : Nat} {v : AV} (h : partA P t l off = some v) (hl : VRs ρ l cs) (w : World) :
  ∃ x, (part t cs.toArray off).run P w = .ok x w ∧ VR ρ v x := by
 unfold partA at h
 split at h
 ·rename_i s ha hsz
  obtain ⟨r, hr, rfl⟩ := Option.map_eq_some_iff.1 h
  unfold cut at hr
  simp only at hr
  split at hr
  ·cases hr
   refine ⟨.agg ((cs.drop off).take s).toArray, ?_, .agg ((hl.drop off).take s)⟩
   simp [part, run_isAggA ha, run_size hsz]
   
  ·cases hr
 ·rename_i ha
  obtain ⟨x, e1, e2⟩ := hl.get h
  refine ⟨x, ?_, e2⟩
  simp [part, run_isAggA ha, e1]
 ·cases h
end
section
variable {P : Program} {ρ : Rn} {A : AW} {w : World}
theorem fieldAt_sound {t : TypeId} {fs : Array Field} {f : Field} {i s : Nat} {l : Loc} {o : Nat} (hu : P.underlying t = some (.struct fs)) (hf : fs[i]? = some f) (hz : sizeA P f.type = some s) (h0 : s ≠ 0) (w : World) :
  (Instr.fieldAt t (.pointer (some ⟨l.blk, l.base + o, none⟩)) i).run P w = .ok (.pointer (some ⟨l.blk, l.base + (o + f.offset), none⟩)) w := by
 simp [Instr.fieldAt, run_und hu, hf, Instr.sureAddr, fieldPlace, run_size hz, h0, Addr.add_lit, Nat.add_assoc]

theorem bound_run {a : AV} {v : Value} {d y i : Nat} (h : boundA (some a) d y = some i) (hv : VR ρ a v) {y' : Nat} (hy : y ≤ y') (code : BoundsCode) (w : World) : (Instr.sliceBound v y' code).run P w = .ok i w ∧ i ≤ y := by
 unfold boundA at h
 simp only at h
 split at h
 ·rename_i n e
  split at h
  ·cases h
   obtain ⟨k, rfl⟩ := natOf?_spec e hv
   refine ⟨?_, by omega⟩
   have : (0 : Int) ≤ (i : Int) ∧ (i : Int) ≤ (y' : Int) := by omega
   simp [Instr.sliceBound, asIntOf, this]
  ·cases h
 ·cases h

theorem bounds_run {e : Operand → AV} {c : Operand → Value} {lo hi : Option Operand} {len cap cap' h l : Nat} (hlo : ∀ x, lo = some x → VR ρ (e x) (c x)) (hhi : ∀ x, hi = some x → VR ρ (e x) (c x))
  (hh : boundA (hi.map e) len cap = some h) (hl : boundA (lo.map e) 0 h = some l) (hc : cap ≤ cap') (hlen : len ≤ cap) (b : Bool) (w : World) :
  (Instr.sliceBounds b len cap' (lo.map c) (hi.map c) none).run P w = .ok (l, h, cap') w ∧ l ≤ h ∧ h ≤ cap := by
 cases hi with
 | none =>
  have e1 : h = len := by simpa [boundA] using hh.symm
  subst e1
  cases lo with
  | none =>
   have e2 : l = 0 := by simpa [boundA] using hl.symm
   subst e2
   exact ⟨by simp [Instr.sliceBounds], by omega, hlen⟩
  | some x =>
   obtain ⟨r, hle⟩ := bound_run (P := P) hl (hlo x rfl) (Nat.le_refl _) .sliceB w
   exact ⟨by simp [Instr.sliceBounds, r], hle, hlen⟩
 | some y =>
  obtain ⟨r1, hle1⟩ := bound_run (P := P) hh (hhi y rfl) hc (if b then .sliceAcap else .sliceAlen) w
  cases lo with
  | none =>
   have e2 : l = 0 := by simpa [boundA] using hl.symm
   subst e2
   exact ⟨by simp [Instr.sliceBounds, r1], by omega, hle1⟩
  | some x =>
   obtain ⟨r, hle⟩ := bound_run (P := P) hl (hlo x rfl) (Nat.le_refl _) .sliceB w
   exact ⟨by simp [Instr.sliceBounds, r1, r], hle, hle1⟩

theorem bounds3_run {e : Operand → AV} {c : Operand → Value} {lo : Option Operand} {hi mx : Operand} {len cap cap' m h l : Nat} (hlo : ∀ x, lo = some x → VR ρ (e x) (c x)) (hhi : VR ρ (e hi) (c hi)) (hmx : VR ρ (e mx) (c mx))
  (hm : boundA (some (e mx)) 0 cap = some m) (hh : boundA (some (e hi)) 0 m = some h) (hl : boundA (lo.map e) 0 h = some l) (hc : cap ≤ cap') (b : Bool) (w : World) :
  (Instr.sliceBounds b len cap' (lo.map c) (some (c hi)) (some (c mx))).run P w = .ok (l, h, m) w ∧ l ≤ h ∧ h ≤ m ∧ m ≤ cap := by
 obtain ⟨r0, hle0⟩ := bound_run (P := P) hm hmx hc (if b then .slice3Acap else .slice3Alen) w
 obtain ⟨r1, hle1⟩ := bound_run (P := P) hh hhi (Nat.le_refl _) .slice3B w
 cases lo with
 | none =>
  have e2 : l = 0 := by simpa [boundA] using hl.symm
  subst e2
  exact ⟨by simp [Instr.sliceBounds, r0, r1], by omega, hle1, hle0⟩
 | some x =>
  obtain ⟨r, hle⟩ := bound_run (P := P) hl (hlo x rfl) (Nat.le_refl _) .slice3C w
  exact ⟨by simp [Instr.sliceBounds, r0, r1, r], hle, hle1, hle0⟩

theorem slice_sound {e : Operand → AV} {c : Operand → Value} {t : TypeId} {x : Operand} {lo hi mx : Option Operand} {v : AV} (h : sliceA P t (e x) (lo.map e) (hi.map e) (mx.map e) = some v)
  (hx : VR ρ (e x) (c x)) (hlo : ∀ x, lo = some x → VR ρ (e x) (c x)) (hhi : ∀ x, hi = some x → VR ρ (e x) (c x)) (hmx : ∀ x, mx = some x → VR ρ (e x) (c x)) (w : World) :
  ∃ y, (Instr.sliceAt t (c x) (lo.map c) (hi.map c) (mx.map c)).run P w = .ok y w ∧ VR ρ v y := by
 unfold sliceA at h
 generalize hex : e x = ex at h hx
 generalize hcx : c x = cx at hx ⊢
 split at h
 ·-- a text
  rename_i s hu hm0
  have : mx = none := by cases mx <;> simp at hm0 ⊢
  subst this
  cases hx
  split at h
  ·rename_i hh e1
   split at h
   ·rename_i ll e2
    cases h
    obtain ⟨r, -, -⟩ := bounds_run (P := P) hlo hhi e1 e2 (Nat.le_refl _) (Nat.le_refl _) false w
    exact ⟨_, by simp [Instr.sliceAt, run_und hu, Instr.slice, r], .flat _⟩
   ·cases h
  ·cases h
 ·-- none there
  rename_i el hu hm0
  have : mx = none := by cases mx <;> simp at hm0 ⊢
  subst this
  cases hx
  split at h
  ·rename_i hh ll s e1 e2 e3
   cases h
   have z1 : hh = 0 := by
    cases hi with
    | none => simpa [boundA] using e1.symm
    | some y => have := (bound_run (P := P) e1 (hhi y rfl) (Nat.le_refl _) .sliceB w).2; omega
   subst z1
   obtain ⟨r, h1, h2⟩ := bounds_run (P := P) hlo hhi e1 e2 (Nat.le_refl _) (Nat.le_refl _) true w
   have z2 : ll = 0 := by omega
   subst z2
   exact ⟨_, by simp [Instr.sliceAt, run_und hu, Instr.slice, r, run_size e3], .flat _⟩
  ·cases h
 ·rename_i el n o1 o2 hu hm0
  have : mx = none := by cases mx <;> simp at hm0 ⊢
  subst this
  cases hx with
  | sle _ _ hl =>
  rename_i l
  split at h
  ·rename_i hh ll s e1 e2 e3
   cases h
   have z1 : hh = 0 := by
    cases hi with
    | none => simpa [boundA] using e1.symm
    | some y => have := (bound_run (P := P) e1 (hhi y rfl) (Nat.le_refl _) .sliceB w).2; omega
   subst z1
   obtain ⟨r, h1, h2⟩ := bounds_run (P := P) hlo hhi e1 e2 (Nat.zero_le l.room) (Nat.le_refl _) true w
   have z2 : ll = 0 := by omega
   subst z2
   refine ⟨_, by simp [Instr.sliceAt, run_und hu, Instr.slice, r, run_size e3, Addr.add_lit]; rfl, ?_⟩
   exact .sle o1 o2 hl
  ·cases h
 ·-- a slice
  rename_i el n o len cap opn hu hm0
  have : mx = none := by cases mx <;> simp at hm0 ⊢
  subst this
  cases hx with
  | sl _ _ _ _ hl =>
  rename_i l
  split at h
  ·rename_i hh s e1 e3
   split at h
   ·rename_i ll e2
    split at h
    ·cases h
    ·rename_i hcl
     obtain ⟨r, h1, h2⟩ := bounds_run (P := P) hlo hhi e1 e2 (show cap ≤ cap + bif opn then l.room else 0 by omega) (by omega) true w
     split at h
     ·rename_i hlc
      subst hlc
      cases opn with
      | true =>
       cases h
       have z : hh = ll := by omega
       subst z
       refine ⟨.slice (some ⟨l.blk, l.base + (if l.room = 0 then o else o + hh * s), none⟩) 0 l.room, ?_, .sle o (o + hh * s) hl⟩
       by_cases hr : l.room = 0
       ·simp [hr] at r
        simp [Instr.sliceAt, run_und hu, Instr.slice, r, run_size e3, hr]
       ·simp at r
        simp [Instr.sliceAt, run_und hu, Instr.slice, r, run_size e3, hr, Addr.add_lit, Nat.add_assoc]
      | false =>
       cases h
       have z : hh = ll := by omega
       subst z
       refine ⟨.slice (some ⟨l.blk, l.base + o, none⟩) (hh - hh) 0, ?_, by have := VR.sl (ρ := ρ) o (hh - hh) 0 false hl; simpa using this⟩
       simp at r
       simp [Instr.sliceAt, run_und hu, Instr.slice, r, run_size e3]
     ·rename_i hlc
      cases h
      have hne : ¬ (cap + (bif opn then l.room else 0) = ll) := by omega
      refine ⟨.slice (some ⟨l.blk, l.base + (o + ll * s), none⟩) (hh - ll) ((cap - ll) + bif opn then l.room else 0), ?_, .sl _ _ _ _ hl⟩
      simp [Instr.sliceAt, run_und hu, Instr.slice, r, run_size e3, hne, Addr.add_lit, Nat.add_assoc]
      omega
   ·cases h
  ·cases h
 ·-- with a bound
  rename_i el n o len cap opn mv hu hm0
  obtain ⟨mo, rfl, rfl⟩ := Option.map_eq_some_iff.1 hm0
  cases hx with
  | sl _ _ _ _ hl =>
  rename_i l
  split at h
  ·rename_i m hv s e0 e1 e3
   obtain ⟨ho, rfl, rfl⟩ := Option.map_eq_some_iff.1 e1
   split at h
   ·rename_i hh e4
    split at h
    ·rename_i ll e5
     cases h
     obtain ⟨r, h1, h2, h3⟩ := bounds3_run (P := P) (len := len) hlo (hhi ho rfl) (hmx mo rfl) e0 e4 e5 (show cap ≤ cap + bif opn then l.room else 0 by omega) true w
     refine ⟨.slice (some ⟨l.blk, l.base + (if m = ll then o else o + ll * s), none⟩) (hh - ll) ((m - ll) + bif false then l.room else 0), ?_, .sl _ _ _ _ hl⟩
     by_cases hm : m = ll
     ·simp [Instr.sliceAt, run_und hu, Instr.slice, r, run_size e3, hm]
     ·simp [Instr.sliceAt, run_und hu, Instr.slice, r, run_size e3, hm, Addr.add_lit, Nat.add_assoc]
    ·cases h
   ·cases h
  ·cases h
 ·-- an array
  rename_i k el n o hu hm0
  have : mx = none := by cases mx <;> simp at hm0 ⊢
  subst this
  cases hx with
  | ptr _ hl =>
  rename_i l
  split at h
  ·rename_i hh s e1 e3
   split at h
   ·rename_i ll e2
    cases h
    obtain ⟨r, h1, h2⟩ := bounds_run (P := P) hlo hhi e1 e2 (Nat.le_refl _) (Nat.le_refl _) false w
    refine ⟨.slice (some ⟨l.blk, l.base + (if k = ll then o else o + ll * s), none⟩) (hh - ll) ((k - ll) + bif false then l.room else 0), ?_, .sl _ _ _ _ hl⟩
    by_cases hm : k = ll
    ·subst hm; simp [Instr.sliceAt, run_und hu, Instr.sureAddr, r, run_size e3]
    ·simp [Instr.sliceAt, run_und hu, Instr.sureAddr, r, run_size e3, hm, Addr.add_lit, Nat.add_assoc]
   ·cases h
  ·cases h
 ·cases h

end
section
variable {P : Program} {ρ : Rn} {A : AW} {w : World}
theorem indexAt_arr {t el : TypeId} {len i s : Nat} {k : IntKind} {l : Loc} {o : Nat} (hu : P.underlying t = some (.array len el)) (hz : sizeA P el = some s) (hi : i < len) (w : World) :
    (Instr.indexAt t (.pointer (some ⟨l.blk, l.base + o, none⟩)) (.int k (i : Int))).run P w = .ok (.pointer (some ⟨l.blk, l.base + (o + i * s), none⟩)) w := by
  have : (0 : Int) ≤ (i : Int) ∧ (i : Int) < (len : Int) := by omega
  simp [Instr.indexAt, asIntOf, run_und hu, Instr.sureAddr, this, run_size hz, Addr.add_lit, Nat.add_assoc, hi]

theorem indexAt_sl {t el : TypeId} {len cap i s : Nat} {k : IntKind} {l : Loc} {o : Nat} (hu : P.underlying t = some (.slice el)) (hz : sizeA P el = some s) (hi : i < len) (w : World) :
    (Instr.indexAt t (.slice (some ⟨l.blk, l.base + o, none⟩) len cap) (.int k (i : Int))).run P w = .ok (.pointer (some ⟨l.blk, l.base + (o + i * s), none⟩)) w := by
  have : (0 : Int) ≤ (i : Int) ∧ (i : Int) < (len : Int) := by omega
  simp [Instr.indexAt, asIntOf, run_und hu, this, run_size hz, Addr.add_lit, Nat.add_assoc, hi]

theorem index_arr {t el : TypeId} {len i s : Nat} {k : IntKind} {l : List AV} {cs : List Value} {v : AV} (hu : P.underlying t = some (.array len el)) (hz : sizeA P el = some s) (hi : i < len) (h : partA P el l (i * s) = some v) (hl : VRs ρ l cs) (w : World) :
    ∃ x, (Instr.index t (.agg cs.toArray) (.int k (i : Int))).run P w = .ok x w ∧ VR ρ v x := by
  obtain ⟨x, h1, h2⟩ := part_sound h hl w
  refine ⟨x, ?_, h2⟩
  have : (0 : Int) ≤ (i : Int) ∧ (i : Int) < (len : Int) := by omega
  simp [Instr.index, asIntOf, run_und hu, this, run_size hz, h1, hi]

theorem index_str {t : TypeId} {i : Nat} {k : IntKind} {s : ByteArray} {b : UInt8} (hu : P.underlying t = some .string) (h : s[i]? = some b) (w : World) :
    (Instr.index t (.string s) (.int k (i : Int))).run P w = .ok (.int .u8 b.toNat) w := by
  simp [Instr.index, asIntOf, run_und hu, h]

theorem eql_sound {t : TypeId} {x y : AV} {a b : Value} {r : Bool} (h : eqlA P t x y = some r) (hx : VR ρ x a) (hy : VR ρ y b) (w : World) : (Op.equal t a b).run P w = .ok r w := by
  simp only [Op.equal, Op.maxDepth]
  rw [Op.equalIn.eq_def]
  unfold eqlA at h
  split at h
  · rename_i hu; cases h; cases hx; cases hy; simp [run_und hu]
  · rename_i hu; cases h; cases hx; cases hy; simp [run_und hu]
  · rename_i el n o m q hu
    cases hx with
    | ptr _ h1 =>
    cases hy with
    | ptr _ h2 =>
    split at h
    · rename_i s hz
      split at h
      · rename_i hc
        simp only [Bool.and_eq_true, decide_eq_true_eq] at hc
        obtain ⟨rfl, hs⟩ := hc
        cases h
        rw [h1] at h2; cases h2
        have hs' : s ≠ 0 := by simpa using hs
        have e2 : ∀ l : Loc, ((⟨l.blk, l.base + o, none⟩ : Addr) == ⟨l.blk, l.base + q, none⟩) = (o == q) := fun l => by rw [Bool.eq_iff_iff]; simp
        simp [run_und hu, run_size hz, hs', sameAddr, e2]
      · cases h
    · cases h
  all_goals first
    | (rename_i hu; cases h; cases hx; cases hy; simp [run_und hu]; done)
    | (cases h; done)

theorem eqGuard_skip {op : BinOp} {t : TypeId} {xo yo : Operand} {x y : AV} {a b : Value} (hx : VR ρ x a) (hy : VR ρ y b) (h : toV x = none ∨ toV y = none) (hn : eqlA P t x y ≠ none) (w : World) : (eqGuard op t xo yo a b).run P w = .ok () w := by
  have key : (∀ c d, a = .agg c → b = .agg d → False) ∧ (a = .nilIface → b = .nilIface → False) := by
    constructor
    · rintro c d rfl rfl
      apply hn
      unfold eqlA
      cases hx <;> cases hy <;> (split <;> first | rfl | simp_all)
    · rintro rfl rfl
      cases hx <;> cases hy <;> first | (simp [toV] at h; done) | (exact hn (by unfold eqlA; split <;> first | rfl | simp_all))
  have main : ∀ (f : Sem Unit) (g : Sem Unit), (match a, b with | .nilIface, .nilIface => f | .agg _, .agg _ => g | _, _ => (pure () : Sem Unit)).run P w = .ok () w := by
    intro f g
    split
    · exact (key.2 rfl rfl).elim
    · exact (key.1 _ _ rfl rfl).elim
    · rfl
  unfold eqGuard
  cases op <;> simp only [Bool.not_true, Bool.not_false, if_true, Bool.false_eq_true, if_false] <;> first | rfl | exact main _ _

theorem binOp_eql {t : TypeId} {a b : Value} {r : Bool} (he : (Op.equal t a b).run P w = .ok r w) (hne : ∀ k n, a ≠ .int k n) (hf : ∀ k n, a ≠ .float k n) (hc : ∀ k x y, a ≠ .complex k x y) (hs : ∀ s, a ≠ .string s) :
    (binOp .eql t a b).run P w = .ok (.bool r) w ∧ (binOp .neq t a b).run P w = .ok (.bool !r) w := by
  constructor
  · cases a <;> first | exact absurd rfl (hne _ _) | exact absurd rfl (hf _ _) | exact absurd rfl (hc _ _ _) | exact absurd rfl (hs _) | (simp [binOp, he])
  · cases a <;> first | exact absurd rfl (hne _ _) | exact absurd rfl (hf _ _) | exact absurd rfl (hc _ _ _) | exact absurd rfl (hs _) | (simp [binOp, he])

theorem rng_sound {op : BinOp} {t : TypeId} {xo yo : Operand} {x y : AV} {a b : Value} {r : Bool} (h : rngA op x y = some r) (hx : VR ρ x a) (hy : VR ρ y b) (w : World) :
    (do eqGuard op t xo yo a b; binOp op t a b : Sem Value).run P w = .ok (.bool r) w := by
  have key : ∀ (n1 n2 lo1 hi1 lo2 hi2 : Int), cmpR op lo1 hi1 lo2 hi2 = some r → lo1 ≤ n1 → n1 ≤ hi1 → lo2 ≤ n2 → n2 ≤ hi2 →
      (do eqGuard op t xo yo (.int .i64 n1) (.int .i64 n2); binOp op t (.int .i64 n1) (.int .i64 n2) : Sem Value).run P w = .ok (.bool r) w := by
    intro n1 n2 lo1 hi1 lo2 hi2 hc h1 h2 h3 h4
    have hg : (eqGuard op t xo yo (.int .i64 n1) (.int .i64 n2)).run P w = .ok () w := by
      unfold eqGuard; cases op <;> rfl
    rw [Sem.run_bind, hg, Result.andThen_ok]
    cases op <;> simp only [cmpR] at hc <;> first
      | (cases hc; done)
      | (split at hc
         · cases hc
           simp [binOp, Op.intCmp] <;> omega
         · split at hc
           · cases hc
             simp [binOp, Op.intCmp] <;> omega
           · cases hc)
  unfold rngA at h
  split at h
  · cases hy
    cases hx with
    | rng h1 h2 => exact key _ _ _ _ _ _ h h1 h2 (Int.le_refl _) (Int.le_refl _)
  · cases hx
    cases hy with
    | rng h1 h2 => exact key _ _ _ _ _ _ h (Int.le_refl _) (Int.le_refl _) h1 h2
  · cases h

theorem bin_sound {op : BinOp} {t : TypeId} {xo yo : Operand} {x y v : AV} {a b : Value} (h : binA P op t xo yo x y = some v) (hx : VR ρ x a) (hy : VR ρ y b) (w : World) :
    ∃ z, (do eqGuard op t xo yo a b; binOp op t a b : Sem Value).run P w = .ok z w ∧ VR ρ v z := by
  unfold binA at h
  split at h
  · rename_i a' b' ea eb
    obtain ⟨z, hz, rfl⟩ := Option.map_eq_some_iff.1 h
    have := toV_spec ea hx; subst this
    have := toV_spec eb hy; subst this
    exact ⟨z, pureRun_spec _ _ hz w, VR.fromV z⟩
  · rename_i hno
    have hnone : toV x = none ∨ toV y = none := by
      cases e1 : toV x with
      | none => exact .inl rfl
      | some a' => cases e2 : toV y with
        | none => exact .inr rfl
        | some b' => exact absurd e2 (hno _ _ e1)
    have key : ∀ r, eqlA P t x y = some r → (∀ k n, a ≠ .int k n) ∧ (∀ k n, a ≠ .float k n) ∧ (∀ k x y, a ≠ .complex k x y) ∧ (∀ s, a ≠ .string s) := by
      intro r hr
      unfold eqlA at hr
      split at hr <;> first | (simp at hr; done) | (cases hx <;> exact ⟨by intros; simp, by intros; simp, by intros; simp, by intros; simp⟩)
    split at h
    · rename_i r hr
      cases h
      exact ⟨.bool r, rng_sound hr hx hy w, .flat _⟩
    split at h
    · obtain ⟨r, hr, rfl⟩ := Option.map_eq_some_iff.1 h
      obtain ⟨k1, k2, k3, k4⟩ := key r hr
      refine ⟨.bool r, ?_, .flat _⟩
      rw [Sem.run_bind, eqGuard_skip hx hy hnone (by rw [hr]; simp) w, Result.andThen_ok]
      exact (binOp_eql (eql_sound hr hx hy w) k1 k2 k3 k4).1
    · obtain ⟨r, hr, rfl⟩ := Option.map_eq_some_iff.1 h
      obtain ⟨k1, k2, k3, k4⟩ := key r hr
      refine ⟨.bool !r, ?_, .flat _⟩
      rw [Sem.run_bind, eqGuard_skip hx hy hnone (by rw [hr]; simp) w, Result.andThen_ok]
      exact (binOp_eql (eql_sound hr hx hy w) k1 k2 k3 k4).2
    · cases h
end
section
variable {P : Program} {ρ : Rn} {A : AW} {w : World}
theorem pureRun_bind {α β : Type} : ∀ (s : Sem α) (f : α → Sem β), pureRun P (s >>= f) = (pureRun P s).bind fun a => pureRun P (f a) := by
  intro s
  induction s with
  | pure a => intro f; rfl
  | program k ih => intro f; exact ih P f
  | mark m k ih => intro f; exact ih f
  | _ => intro f; rfl

theorem ERs.length {l : List (AV × AV × Nat)} {cs : List MapEntry} (h : ERs ρ l cs) : cs.length = l.length := by
  induction h with
  | nil => rfl
  | cons _ _ _ _ ih => simp [ih]

theorem ERs.get {l : List (AV × AV × Nat)} {cs : List MapEntry} (h : ERs ρ l cs) : ∀ {i : Nat} {e : AV × AV × Nat}, l[i]? = some e → ∃ c, cs[i]? = some c ∧ VR ρ e.1 c.key ∧ VR ρ e.2.1 c.val ∧ c.born = e.2.2 := by
  induction h with
  | nil => intro i e h; simp at h
  | cons a b c _ ih =>
    intro i e h
    cases i with
    | zero => simp at h; subst h; exact ⟨_, rfl, a, b, c⟩
    | succ i => simp at h; simpa using ih h

inductive Bare : List MapEntry → List MapEntry → Prop
  | nil : Bare [] []
  | cons {a b : MapEntry} {l m : List MapEntry} : a.key = b.key → Bare l m → Bare (a :: l) (b :: m)

theorem bare_of {l : List (AV × AV × Nat)} {cs bs : List MapEntry} (h : ERs ρ l cs) (k : bareEntries l = some bs) : Bare bs cs := by
  induction h generalizing bs with
  | nil => simp [bareEntries] at k; subst k; exact .nil
  | cons a b c _ ih =>
    simp only [bareEntries] at k
    split at k
    · rename_i v r e1 e2
      cases k
      exact .cons (toV_spec e1 a).symm (ih e2)
    · cases k

theorem findNow_bare {d : TypeDesc} {k : Value} : ∀ {bs cs : List MapEntry} (_h : Bare bs cs) (i : Nat),
    (Instr.findNow d k bs i = none → Instr.findNow d k cs i = none) ∧ (Instr.findNow d k bs i = some none → Instr.findNow d k cs i = some none) ∧
    (∀ j v, Instr.findNow d k bs i = some (some (j, v)) → ∃ c, i ≤ j ∧ cs[j - i]? = some c ∧ Instr.findNow d k cs i = some (some (j, c.val)))
  | _, _, .nil, i => by simp [Instr.findNow]
  | _, _, .cons (a := a) (b := b) e h, i => by
    obtain ⟨h1, h2, h3⟩ := findNow_bare (d := d) (k := k) h (i + 1)
    simp only [Instr.findNow, e]
    cases Instr.sameNow d k b.key with
    | none => simp
    | some t =>
      cases t with
      | true =>
        simp only [Option.some.injEq, Prod.mk.injEq, reduceCtorEq, false_implies, true_and]
        rintro j v ⟨rfl, rfl⟩
        exact ⟨b, Nat.le_refl _, by simp, rfl, rfl⟩
      | false =>
        refine ⟨h1, h2, fun j v hj => ?_⟩
        obtain ⟨c, c1, c2, c3⟩ := h3 j v hj
        exact ⟨c, by omega, by have : j - i = (j - (i + 1)) + 1 := by omega
                               rw [this]; simpa using c2, c3⟩

theorem findAsking_bare {kt : TypeId} {k : Value} (w : World) : ∀ {bs cs : List MapEntry} (_h : Bare bs cs) (i : Nat),
    (pureRun P (Instr.findAsking kt k bs i) = some none → (Instr.findAsking kt k cs i).run P w = .ok none w) ∧
    (∀ j v, pureRun P (Instr.findAsking kt k bs i) = some (some (j, v)) → ∃ c, i ≤ j ∧ cs[j - i]? = some c ∧ (Instr.findAsking kt k cs i).run P w = .ok (some (j, c.val)) w)
  | _, _, .nil, i => by
    constructor
    · intro _; rfl
    · intro j v h; simp [Instr.findAsking, pureRun, pure] at h
  | _, _, .cons (a := a) (b := b) e h, i => by
    obtain ⟨h2, h3⟩ := findAsking_bare (kt := kt) (k := k) w h (i + 1)
    simp only [Instr.findAsking, pureRun_bind, e]
    cases hq : pureRun P (Op.equal kt k b.key) with
    | none => simp
    | some t =>
      have hrun := pureRun_spec _ _ hq w
      cases t with
      | true =>
        simp only [Option.bind_some, if_true, Sem.run_bind, hrun, Result.andThen_ok]
        constructor
        · intro hh; simp [pureRun, pure] at hh
        · intro j v hh
          simp [pureRun, pure] at hh
          obtain ⟨rfl, rfl⟩ := hh
          exact ⟨b, Nat.le_refl _, by simp, rfl⟩
      | false =>
        simp only [Option.bind_some, Bool.false_eq_true, if_false, Sem.run_bind, hrun, Result.andThen_ok]
        refine ⟨h2, fun j v hj => ?_⟩
        obtain ⟨c, c1, c2, c3⟩ := h3 j v hj
        exact ⟨c, by omega, by have : j - i = (j - (i + 1)) + 1 := by omega
                               rw [this]; simpa using c2, c3⟩

theorem find_sound {kt : TypeId} {k : Value} {es : List (AV × AV × Nat)} {cs : List MapEntry} (he : ERs ρ es cs) (w : World) :
    (findA P kt k es = some none → (Instr.findKey kt k cs).run P w = .ok none w) ∧
    (∀ i, findA P kt k es = some (some i) → ∃ c, cs[i]? = some c ∧ (Instr.findKey kt k cs).run P w = .ok (some (i, c.val)) w) := by
  unfold findA
  cases hb : bareEntries es with
  | none => simp
  | some bs =>
    have hB := bare_of he hb
    simp only
    have key : ∀ r, pureRun P (Instr.findKey kt k bs) = some r → (r = none → (Instr.findKey kt k cs).run P w = .ok none w) ∧ (∀ i v, r = some (i, v) → ∃ c, cs[i]? = some c ∧ (Instr.findKey kt k cs).run P w = .ok (some (i, c.val)) w) := by
      intro r hr
      unfold Instr.findKey at hr ⊢
      rw [pureRun_bind] at hr
      cases hu : pureRun P (underlying kt) with
      | none => rw [hu] at hr; cases hr
      | some d =>
        rw [hu] at hr
        have hru := pureRun_spec _ _ hu w
        simp only [Option.bind_some] at hr
        simp only [Sem.run_bind, hru, Result.andThen_ok]
        obtain ⟨n1, n2, n3⟩ := findNow_bare (d := d) (k := k) hB 0
        cases hn : Instr.findNow d k bs 0 with
        | none =>
          rw [hn] at hr
          rw [n1 hn]
          obtain ⟨a1, a2⟩ := findAsking_bare (P := P) (kt := kt) (k := k) w hB 0
          refine ⟨fun e => a1 (by rw [← e]; exact hr), fun i v e => ?_⟩
          obtain ⟨c, _, c2, c3⟩ := a2 i v (by rw [← e]; exact hr)
          exact ⟨c, by simpa using c2, c3⟩
        | some q =>
          rw [hn] at hr
          simp [pureRun, pure] at hr
          subst hr
          cases q with
          | none => rw [n2 hn]; exact ⟨fun _ => rfl, fun i v e => by cases e⟩
          | some p =>
            obtain ⟨j, v⟩ := p
            obtain ⟨c, _, c2, c3⟩ := n3 j v hn
            rw [c3]
            refine ⟨fun e => (by cases e), fun i v' e => ?_⟩
            cases e
            exact ⟨c, by simpa using c2, rfl⟩
    cases hp : pureRun P (Instr.findKey kt k bs) with
    | none => simp
    | some r =>
      obtain ⟨k1, k2⟩ := key r hp
      cases r with
      | none => exact ⟨fun _ => k1 rfl, fun i e => by simp at e⟩
      | some p =>
        obtain ⟨j, v⟩ := p
        refine ⟨fun e => by simp at e, fun i e => ?_⟩
        simp at e
        subst e
        exact k2 j v rfl

theorem keyOk_spec {b : Bool} {kt : TypeId} {k : Value} (h : keyOk P b kt k = true) (w : World) : (Instr.checkKey b 10000 kt k).run P w = .ok () w := by
  unfold keyOk at h
  obtain ⟨u, hu⟩ := Option.isSome_iff_exists.1 h
  exact pureRun_spec _ _ hu w

theorem Sim.mapAt (hs : Sim P ρ A.live w) {n : Nat} {l : Loc} {es : List (AV × AV × Nat)} {clock : Nat} (h : A.get n = some (.map es clock)) (hl : ρ n = some l) :
    ∃ cs : List MapEntry, w.heap[l.blk]? = some (.map cs.toArray clock) ∧ ERs ρ es cs := by
  obtain ⟨l', o, h1, h2, cs, rfl, h3⟩ := hs.obj n _ (live_of_get h (by simp))
  rw [hl] at h1; cases h1
  exact ⟨cs, h2, h3⟩

theorem run_getMap {r : Nat} {es : Array MapEntry} {c : Nat} (h : w.heap[r]? = some (.map es c)) : (getObj r).run P w = .ok (.map es c) w := by
  simp [getObj, Sem.run, h]

theorem lookup_sound (hs : Sim P ρ A.live w) {t : TypeId} {m k v : AV} {ok : Bool} {x y : Value} (h : lookupA P A t m k ok = some v) (hm : VR ρ m x) (hk : VR ρ k y) :
    ∃ z, (Instr.lookup t x y ok).run P w = .ok z w ∧ VR ρ v z := by
  unfold lookupA at h
  split at h
  · rename_i kt elem kv hu hkv
    have := toV_spec hkv hk; subst this
    split at h
    · rename_i es hes
      split at h
      · rename_i hok
        have hent : ∃ cs : List MapEntry, ERs ρ es cs ∧ ((x = .map none ∧ cs = []) ∨ ∃ r clock, x = .map (some r) ∧ w.heap[r]? = some (.map cs.toArray clock)) := by
          split at hes
          · cases hes
            cases hm
            exact ⟨[], .nil, .inl ⟨rfl, rfl⟩⟩
          · rename_i n
            split at hes
            · rename_i es' clock hg
              cases hes
              cases hm with
              | mp hl =>
              obtain ⟨cs, h1, h2⟩ := hs.mapAt hg hl
              exact ⟨cs, h2, .inr ⟨_, _, rfl, h1⟩⟩
            · cases hes
          · cases hes
        obtain ⟨cs, he, hx⟩ := hent
        have hemp : cs.toArray.isEmpty = es.isEmpty := by
          have := he.length
          cases es <;> cases cs <;> simp at this ⊢
        obtain ⟨f1, f2⟩ := find_sound (P := P) (kt := kt) (k := y) he w
        have hck := keyOk_spec hok w
        split at h
        · rename_i i hi
          obtain ⟨c, c1, c2⟩ := f2 i hi
          split at h
          · rename_i e ee
            cases h
            obtain ⟨c', d1, d2, d3, d4⟩ := he.get ee
            rw [c1] at d1; cases d1
            refine ⟨if ok then .tuple #[c.val, .bool true] else c.val, ?_, ?_⟩
            · rcases hx with ⟨rfl, rfl⟩ | ⟨r, clock, rfl, hr⟩
              · simp at c1
              · simp at hemp
                simp [Instr.lookup, run_und hu, run_getMap hr, hemp, hck, c2]
            · cases ok
              · exact d3
              · exact .tup (.cons d3 (.cons (.flat _) .nil))
          · cases h
        · rename_i hi
          split at h
          · rename_i z hz
            cases h
            obtain ⟨zv, rfl, hzr⟩ := run_zero hz
            refine ⟨if ok then .tuple #[zv, .bool false] else zv, ?_, ?_⟩
            · rcases hx with ⟨rfl, rfl⟩ | ⟨r, clock, rfl, hr⟩
              · simp at hemp
                subst hemp
                have f1' := f1 hi
                simp at hck
                simp [Instr.lookup, run_und hu, hck, f1', hzr]
              · simp at hemp
                simp [Instr.lookup, run_und hu, run_getMap hr, hemp, hck, f1 hi, hzr]
            · cases ok
              · exact VR.fromV zv
              · exact .tup (.cons (VR.fromV zv) (.cons (.flat _) .nil))
          · cases h
        · cases h
      · cases h
    · cases h
  · cases h

theorem ERs.modify {l : List (AV × AV × Nat)} {cs : List MapEntry} (h : ERs ρ l cs) {f : AV × AV × Nat → AV × AV × Nat} {g : MapEntry → MapEntry}
    (hf : ∀ e c, VR ρ e.1 c.key → VR ρ e.2.1 c.val → c.born = e.2.2 → VR ρ (f e).1 (g c).key ∧ VR ρ (f e).2.1 (g c).val ∧ (g c).born = (f e).2.2) (i : Nat) : ERs ρ (l.modify i f) (cs.modify i g) := by
  induction h generalizing i with
  | nil => simpa using ERs.nil
  | cons a b c d ih =>
    cases i with
    | zero =>
      simp only [List.modify_zero_cons]
      obtain ⟨h1, h2, h3⟩ := hf (_, _, _) _ a b c
      exact .cons h1 h2 h3 d
    | succ i =>
      simp only [List.modify_succ_cons]
      exact .cons a b c (ih i)

theorem ERs.snoc {l : List (AV × AV × Nat)} {cs : List MapEntry} (h : ERs ρ l cs) {k x : AV} {b : Nat} {c : MapEntry} (h1 : VR ρ k c.key) (h2 : VR ρ x c.val) (h3 : c.born = b) : ERs ρ (l ++ [(k, x, b)]) (cs ++ [c]) := by
  induction h with
  | nil => exact .cons h1 h2 h3 .nil
  | cons a b c _ ih => exact .cons a b c ih

theorem setObj_world {r : Nat} {es es' : Array MapEntry} {c c' : Nat} (h : w.heap[r]? = some (.map es c)) :
    ∃ w', (setObj r (.map es' c')).run P w = .ok () w' ∧ w'.heap[r]? = some (.map es' c') ∧ (∀ b, b ≠ r → w'.heap[b]? = w.heap[b]?) ∧ w'.heap.size = w.heap.size ∧ w'.os = w.os ∧ w'.tape = w.tape ∧ w'.output = w.output := by
  refine ⟨{ w with heap := w.heap.setIfInBounds r (.map es' c') }, by simp [setObj, Sem.run, h], ?_, ?_, by simp, rfl, rfl, rfl⟩
  · have := (Array.getElem?_eq_some_iff.1 h).1
    simp [this]
  · intro b hb
    simp [Ne.symm hb]

theorem update_sound (hs : Sim P ρ A.live w) {t : TypeId} {m k v : AV} {A' : AW} {x y z : Value} (h : updateA P A t m k v = some A') (hm : VR ρ m x) (hk : VR ρ k y) (hv : VR ρ v z) :
    ∃ w', (Instr.mapUpdate t x y z).run P w = .ok () w' ∧ Sim P ρ A'.live w' ∧ Ext ρ w A ρ w' A' := by
  unfold updateA at h
  split at h
  · rename_i kt et kv n hu hkv
    have := toV_spec hkv hk; subst this
    cases hm with
    | mp hl =>
    rename_i l
    split at h
    · rename_i es clock hg
      obtain ⟨cs, h1, he⟩ := hs.mapAt hg hl
      obtain ⟨f1, f2⟩ := find_sound (P := P) (kt := kt) (k := y) he w
      split at h
      · rename_i hok
        have hck := keyOk_spec hok w
        split at h
        · rename_i i hi
          obtain ⟨c, c1, c2⟩ := f2 i hi
          split at h
          · rename_i e ee
            split at h
            · rename_i ekv hek
              split at h
              · rename_i hsame
                cases h
                obtain ⟨c', d1, d2, d3, d4⟩ := he.get ee
                rw [c1] at d1; cases d1
                have hkey := toV_spec hek d2
                obtain ⟨w', s1, s2, s3, s4, s5, s6, s7⟩ := setObj_world (P := P) (es' := (cs.modify i fun e => { e with key := y, val := z }).toArray) (c' := clock) h1
                refine ⟨w', ?_, hs.setAt (live_of_get hg (by simp)) hl s2 ⟨_, rfl, he.modify (f := fun e => (k, v, e.2.2)) (g := fun e => { e with key := y, val := z }) (fun e c _ _ hb => ⟨hk, hv, hb⟩) i⟩ s3, Ext.setAt (live_of_get hg (by simp)) hl s3 s4 s5 s6 s7⟩
                simp [Instr.mapUpdate, run_und hu, run_getMap h1, hck, c2, c1, Instr.keyThatStays, hkey, hsame, s1]
              · cases h
            · cases h
          · cases h
        · rename_i hi
          cases h
          obtain ⟨w', s1, s2, s3, s4, s5, s6, s7⟩ := setObj_world (P := P) (es' := (cs ++ [({ key := y, val := z, born := clock } : MapEntry)]).toArray) (c' := clock + 1) h1
          refine ⟨w', ?_, hs.setAt (live_of_get hg (by simp)) hl s2 ⟨_, rfl, he.snoc hk hv rfl⟩ s3, Ext.setAt (live_of_get hg (by simp)) hl s3 s4 s5 s6 s7⟩
          simp [Instr.mapUpdate, run_und hu, run_getMap h1, hck, f1 hi]
          simpa using s1
        · cases h
      · cases h
    · cases h
  · cases h

theorem ERs.erase {l : List (AV × AV × Nat)} {cs : List MapEntry} (h : ERs ρ l cs) : ∀ i, ERs ρ (l.eraseIdx i) (cs.eraseIdx i) := by
  induction h with
  | nil => intro i; simpa using ERs.nil
  | cons a b c k ih =>
    intro i
    cases i with
    | zero => simpa using k
    | succ i => simpa using ERs.cons a b c (ih i)

theorem delete_sound (hs : Sim P ρ A.live w) {ats : Array TypeId} {ty t : TypeId} {m k : AV} {A' : AW} {x y : Value} (ht : ats[0]? = some t) (h : deleteA P A t m k = some A') (hm : VR ρ m x) (hk : VR ρ k y) :
    ∃ w', (Builtin.delete_ ats ty #[x, y]).run P w = .ok (.tuple #[]) w' ∧ Sim P ρ A'.live w' ∧ Ext ρ w A ρ w' A' := by
  unfold deleteA at h
  split at h
  · rename_i kt et kv n hu hkv
    have := toV_spec hkv hk; subst this
    cases hm with
    | mp hl =>
    rename_i l
    split at h
    · rename_i es clock hg
      obtain ⟨cs, h1, he⟩ := hs.mapAt hg hl
      obtain ⟨f1, f2⟩ := find_sound (P := P) (kt := kt) (k := y) he w
      have hemp : cs.isEmpty = es.isEmpty := by
        have := he.length
        cases es <;> cases cs <;> simp at this ⊢
      split at h
      · rename_i hok
        have hck := keyOk_spec hok w
        split at h
        · rename_i i hi
          cases h
          obtain ⟨c, c1, c2⟩ := f2 i hi
          obtain ⟨w', s1, s2, s3, s4, s5, s6, s7⟩ := setObj_world (P := P) (es' := (cs.eraseIdx i).toArray) (c' := clock) h1
          refine ⟨w', ?_, hs.setAt (live_of_get hg (by simp)) hl s2 ⟨_, rfl, he.erase i⟩ s3, Ext.setAt (live_of_get hg (by simp)) hl s3 s4 s5 s6 s7⟩
          simp [Builtin.delete_, ht, run_und hu, run_getMap h1, hemp, hck, c2]
          simp [s1]
        · rename_i hi
          cases h
          obtain ⟨w', s1, s2, s3, s4, s5, s6, s7⟩ := setObj_world (P := P) (es' := cs.toArray) (c' := clock) h1
          refine ⟨w', ?_, hs.setAt (live_of_get hg (by simp)) hl s2 ⟨_, rfl, he⟩ s3, Ext.setAt (live_of_get hg (by simp)) hl s3 s4 s5 s6 s7⟩
          simp [Builtin.delete_, ht, run_und hu, run_getMap h1, hemp, hck, f1 hi]
          simp [s1]
        · cases h
      · cases h
    · cases h
  · cases h
end
end Go.Proofs.YtookoagcmejkpaaGreatDoor.Ab
