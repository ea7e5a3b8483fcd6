/-
  A run of closed code over an abstract memory: values, memory, operations (no world is spoken of here).
-/
import GoSem.Step
import Derived.Orders
namespace Go.Proofs.YtjhaccpljgdlpaaGreat.Ab
open Go
noncomputable section

/-- a map from numbers, as a tree of bits -/
inductive Tr (α : Type) where
  | lf
  | nd (v : Option α) (l r : Tr α)
  deriving Inhabited

namespace Tr
/-- a number's way through the tree -/
def bitStep (ih : Nat → List Bool) (k : Nat) : List Bool :=
  match Nat.beq k 0 with
  | true => []
  | false => Nat.beq (k % 2) 1 :: ih ((k - 1) / 2)
noncomputable def bitsN (f : Nat) : Nat → List Bool := Nat.rec (motive := fun _ => Nat → List Bool) (fun _ => []) (fun _ ih => bitStep ih) f
noncomputable def bits (k : Nat) : List Bool := bitsN k k
noncomputable def getB {α : Type} (bs : List Bool) : Tr α → Option α :=
  List.rec (motive := fun _ => Tr α → Option α) (fun t => match t with | .lf => none | .nd v _ _ => v)
    (fun b _ ih t => match t with
    | .lf => none
    | .nd _ l r => match b with | true => ih l | false => ih r) bs
noncomputable def putB {α : Type} (bs : List Bool) : Tr α → α → Tr α :=
  List.rec (motive := fun _ => Tr α → α → Tr α) (fun t x => match t with | .lf => .nd (some x) .lf .lf | .nd _ l r => .nd (some x) l r)
    (fun b _ ih t x => match t with
    | .lf => (match b with | true => .nd none (ih .lf x) .lf | false => .nd none .lf (ih .lf x))
    | .nd v l r => (match b with | true => .nd v (ih l x) r | false => .nd v l (ih r x))) bs
noncomputable def get {α : Type} (t : Tr α) (k : Nat) : Option α := getB (bits k) t
noncomputable def set {α : Type} (t : Tr α) (k : Nat) (x : α) : Tr α := putB (bits k) t x
end Tr

/-- values: what holds no address of a block of the run's own is itself -/
inductive AV where
  | flat (v : Value)
  | ptr (n o : Nat)
  | sl (n o len cap : Nat) (opn : Bool)
  /-- an empty one at the end of an open one -/
  | sle (n o1 o2 : Nat)
  | mp (n : Nat)
  | fn (f : FuncId) (fst cap : List AV)
  | yld (n : Nat)
  | ifc (t : TypeId) (v : AV)
  | agg (l : List AV)
  | tup (l : List AV)
  /-- one of some: which one the name n tells; i: the going-through that drew it -/
  | pick (n i : Nat) (l : List AV)
  /-- any value of one cell -/
  | any
  /-- some integer of 64 bits, from lo to hi -/
  | rng (lo hi : Int)
  deriving Inhabited

/-- blocks -/
inductive AO where
  | dead
  | cells (l : List AV) (elem : TypeId)
  | map (es : List (AV × AV × Nat)) (clock : Nat)
  | loop (st : LoopState) (pend : Option Code) (f : FuncId) (nt : Nat) (tmps : Tr AV) (params : List Tmp) (assign body : Code) (defers : Nat)
  | deferred (taken : Bool)
  | siter (s : ByteArray) (pos : Nat)
  /-- a going through a map: the names of what was drawn, the births of all entries -/
  | miter (m : Option Nat) (since : Nat) (seen bs : List Nat) (stepped : Nat)
  deriving Inhabited

structure AW where
  h : Tr AO
  next : Nat
  deriving Inhabited

def AW.get (A : AW) (n : Nat) : Option AO := A.h.get n
def AW.set (A : AW) (n : Nat) (o : AO) : AW := { A with h := A.h.set n o }
def AW.new (A : AW) (o : AO) : AW := { h := A.h.set A.next o, next := A.next + 1 }

def cellsOf (A : AW) (n : Nat) : Option (List AV × TypeId) :=
  match A.get n with
  | some (.cells l t) => some (l, t)
  | _ => none

/-- a pure run: no memory, no question -/
def pureRun {α : Type} (P : Program) : Sem α → Option α
  | .pure a => some a
  | .program k => pureRun P (k P)
  | .mark _ k => pureRun P k
  | _ => none

mutual
def toV : AV → Option Value
  | .flat v => some v
  | .agg l => match toVs l with | some vs => some (.agg vs.toArray) | none => none
  | _ => none
def toVs : List AV → Option (List Value)
  | [] => some []
  | a :: l => match toV a, toVs l with | some v, some vs => some (v :: vs) | _, _ => none
end

def fromV1 : Value → AV
  | .agg cs => .agg (cs.toList.map .flat)
  | v => .flat v
def fromV : Value → AV
  | .tuple vs => .tup (vs.toList.map fromV1)
  | v => fromV1 v

def AV.cells : AV → List AV
  | .agg l => l
  | .flat (.agg cs) => cs.toList.map .flat
  | v => [v]

/-- is a value one that a cell may hold? (A pick is always of such.) -/
def AV.one : AV → Bool
  | .agg _ | .tup _ => false
  | .flat v => match v with | .agg _ | .tuple _ => false | _ => true
  | _ => true

def undefA : AV := .flat (.tuple #[])

def ev (T : Tr AV) : Operand → AV
  | .tmp t => (T.get t).getD undefA
  | .const v => fromV v
  | .global g => .flat (.pointer (some ⟨g, 0, none⟩))
  | .func f => .fn f [] []

/-- what an operation comes to -/
inductive AR where
  /-- a value; nothing has changed -/
  | val (v : AV)
  /-- a new block, and a value that names it -/
  | new (v : AV) (o : AO)
  /-- memory has changed -/
  | chg (v : AV) (A : AW)
  | enter (f : FuncId) (args : List AV)
  | round (n : Nat) (args : List AV)
  /-- a call is put off -/
  | dfr (f : FuncId) (args cap : List AV)
  deriving Inhabited

def intOf? : AV → Option Int
  | .flat (.int _ n) => some n
  | _ => none
def byteOf? : AV → Option UInt8
  | .flat (.int .u8 n) => some n.toNat.toUInt8
  | _ => none
def bytesOf? : List AV → Option (List UInt8)
  | [] => some []
  | .flat (.int .u8 n) :: l => match bytesOf? l with
    | some r => if (n.toNat.toUInt8.toNat : Int) = n then some (n.toNat.toUInt8 :: r) else none
    | none => none
  | _ => none
def u8sOf? : List AV → Option (List Int)
  | [] => some []
  | .flat (.int .u8 n) :: l => match u8sOf? l with
    | some r => some (n :: r)
    | none => none
  | _ => none
def natOf? (a : AV) : Option Nat :=
  match intOf? a with
  | some n => if 0 ≤ n then some n.toNat else none
  | none => none
def boolOf? : AV → Option Bool
  | .flat (.bool b) => some b
  | _ => none

def sizeA (P : Program) (t : TypeId) : Option Nat := (P.info? t).map (·.size)
def isAggA (P : Program) (t : TypeId) : Option Bool :=
  match P.underlying t with
  | some (.struct _) | some (.array _ _) => some true
  | some _ => some false
  | none => none
def zeroA (P : Program) (t : TypeId) : Option AV :=
  match P.info? t with
  | some i => match i.zero with | some v => some (fromV v) | none => none
  | none => none

/-- a row of a list's things -/
def cut (l : List AV) (o n : Nat) : Option (List AV) :=
  let r := (l.drop o).take n
  if r.length = n then some r else none

def putAt : List AV → Nat → List AV → Option (List AV)
  | l, 0, [] => some l
  | _ :: l, 0, x :: xs => match putAt l 0 xs with | some r => some (x :: r) | none => none
  | [], 0, _ :: _ => none
  | [], _ + 1, _ => none
  | y :: l, o + 1, xs => match putAt l o xs with | some r => some (y :: r) | none => none

def loadA (P : Program) (A : AW) (t : TypeId) (n o : Nat) : Option AV :=
  match cellsOf A n, isAggA P t, sizeA P t with
  | some (l, _), some true, some s => (cut l o s).map .agg
  | some (l, _), some false, _ => l[o]?
  | _, _, _ => none

def storeA (P : Program) (A : AW) (t : TypeId) (n o : Nat) (v : AV) : Option AW :=
  match cellsOf A n, sizeA P t with
  | some (l, e), some s =>
    if v.cells.length = s && v.cells.all AV.one then
      match putAt l o v.cells with
      | some l' => some (A.set n (.cells l' e))
      | none => none
    else none
  | _, _ => none

def partA (P : Program) (t : TypeId) (l : List AV) (off : Nat) : Option AV :=
  match isAggA P t, sizeA P t with
  | some true, some s => (cut l off s).map .agg
  | some false, _ => l[off]?
  | _, _ => none

def fillA (place : Nat → Option (Nat × Nat)) : List AV → List (Nat × AV) → Option (List AV)
  | cells, [] => some cells
  | cells, (i, v) :: rest =>
    match place i with
    | none => none
    | some (off, size) =>
      if v.cells.length = size then
        match putAt cells off v.cells with
        | some c => fillA place c rest
        | none => none
      else none

def placesA (P : Program) (fields : List Field) : Option (List (Nat × Nat)) :=
  fields.mapM fun f => (sizeA P f.type).map fun s => (f.offset, s)

def buildA (P : Program) (t : TypeId) (parts : List (Nat × AV)) : Option AV :=
  match zeroA P t, P.underlying t with
  | some z, some (.struct fields) =>
    match placesA P fields.toList with
    | some ps => (fillA (fun i => ps[i]?) z.cells parts).map .agg
    | none => none
  | some z, some (.array _ elem) =>
    match sizeA P elem with
    | some s => (fillA (fun i => some (i * s, s)) z.cells parts).map .agg
    | none => none
  | _, _ => none

def zerosA (z : List AV) : Nat → List AV
  | 0 => []
  | n + 1 => z ++ zerosA z n

def bareEntries : List (AV × AV × Nat) → Option (List MapEntry)
  | [] => some []
  | e :: l => match toV e.1, bareEntries l with
    | some v, some r => some ({ key := v, val := .bool false, born := e.2.2 } :: r)
    | _, _ => none

/-- the place of a key in a map's entries -/
def findA (P : Program) (kt : TypeId) (k : Value) (es : List (AV × AV × Nat)) : Option (Option Nat) :=
  match bareEntries es with
  | some l =>
    match pureRun P (Instr.findKey kt k l) with
    | some (some (i, _)) => some (some i)
    | some none => some none
    | none => none
  | none => none

def keyOk (P : Program) (empty : Bool) (kt : TypeId) (k : Value) : Bool := (pureRun P (Instr.checkKey empty 10000 kt k)).isSome

def putEntry (es : List (AV × AV × Nat)) (i : Nat) (f : AV × AV × Nat → AV × AV × Nat) : List (AV × AV × Nat) := es.modify i f

def lookupA (P : Program) (A : AW) (t : TypeId) (m k : AV) (ok : Bool) : Option AV :=
  match P.underlying t, toV k with
  | some (.map kt elem), some kv =>
    match (match m with
      | .flat (.map none) => some []
      | .mp n => match A.get n with | some (.map es _) => some es | _ => none
      | _ => none : Option (List (AV × AV × Nat))) with
    | some es =>
      if keyOk P es.isEmpty kt kv then
        match findA P kt kv es with
        | some (some i) => match es[i]? with
          | some e => some (if ok then .tup [e.2.1, .flat (.bool true)] else e.2.1)
          | none => none
        | some none => match zeroA P elem with
          | some z => some (if ok then .tup [z, .flat (.bool false)] else z)
          | none => none
        | none => none
      else none
    | none => none
  | _, _ => none

def updateA (P : Program) (A : AW) (t : TypeId) (m k x : AV) : Option AW :=
  match P.underlying t, toV k, m with
  | some (.map kt _), some kv, .mp n =>
    match A.get n with
    | some (.map es clock) =>
      if keyOk P false kt kv then
        match findA P kt kv es with
        | some (some i) => match es[i]? with
          | some e => match toV e.1 with
            | some ev => if Instr.sameBits 10000 ev kv then some (A.set n (.map (es.modify i fun e => (k, x, e.2.2)) clock)) else none
            | none => none
          | none => none
        | some none => some (A.set n (.map (es ++ [(k, x, clock)]) (clock + 1)))
        | none => none
      else none
    | _ => none
  | _, _, _ => none

def deleteA (P : Program) (A : AW) (t : TypeId) (m k : AV) : Option AW :=
  match P.underlying t, toV k, m with
  | some (.map kt _), some kv, .mp n =>
    match A.get n with
    | some (.map es clock) =>
      if keyOk P es.isEmpty kt kv then
        match findA P kt kv es with
        | some (some i) => some (A.set n (.map (es.eraseIdx i) clock))
        | some none => some (A.set n (.map es clock))
        | none => none
      else none
    | _ => none
  | _, _, _ => none

def boundA (x : Option AV) (d y : Nat) : Option Nat :=
  match x with
  | none => some d
  | some a => match natOf? a with | some i => if i ≤ y then some i else none | none => none

def sliceA (P : Program) (t : TypeId) (x : AV) (lo hi mx : Option AV) : Option AV :=
  match P.underlying t, x, mx with
  | some .string, .flat (.string s), none =>
    match boundA hi s.size s.size with
    | some h => match boundA lo 0 h with
      | some l => some (.flat (.string (s.extract l h)))
      | none => none
    | none => none
  | some (.slice e), .flat (.slice none 0 0), none =>
    match boundA hi 0 0, boundA lo 0 0, sizeA P e with
    | some _, some _, some _ => some (.flat (.slice none 0 0))
    | _, _, _ => none
  | some (.slice e), .sle n o1 o2, none =>
    match boundA hi 0 0, boundA lo 0 0, sizeA P e with
    | some _, some _, some _ => some (.sle n o1 o2)
    | _, _, _ => none
  | some (.slice e), .sl n o len cap opn, none =>
    match boundA hi len cap, sizeA P e with
    | some h, some s =>
      match boundA lo 0 h with
      | some l =>
        if cap < len then none else
        if l = cap then (match opn with | true => some (.sle n o (o + l * s)) | false => some (.sl n o (h - l) 0 false))
        else some (.sl n (o + l * s) (h - l) (cap - l) opn)
      | none => none
    | _, _ => none
  | some (.slice e), .sl n o _ cap _, some mv =>
    match boundA (some mv) 0 cap, hi, sizeA P e with
    | some m, some hv, some s =>
      match boundA (some hv) 0 m with
      | some h => match boundA lo 0 h with
        | some l => some (.sl n (if m = l then o else o + l * s) (h - l) (m - l) false)
        | none => none
      | none => none
    | _, _, _ => none
  | some (.array k e), .ptr n o, none =>
    match boundA hi k k, sizeA P e with
    | some h, some s =>
      match boundA lo 0 h with
      | some l => some (.sl n (if k = l then o else o + l * s) (h - l) (k - l) false)
      | none => none
    | _, _ => none
  | _, _, _ => none

def lenA (P : Program) (A : AW) (t : TypeId) (x : AV) : Option Nat :=
  match P.underlying t, x with
  | some .string, .flat (.string s) => some s.size
  | some (.array n _), _ => some n
  | some (.slice _), .flat (.slice _ n _) => some n
  | some (.slice _), .sl _ _ n _ _ => some n
  | some (.slice _), .sle .. => some 0
  | some (.map _ _), .flat (.map none) => some 0
  | some (.map _ _), .mp n => match A.get n with | some (.map es _) => some es.length | _ => none
  | _, _ => none

def rowOf (_P : Program) (A : AW) (s : Nat) (x : AV) (n : Nat) : Option (List AV) :=
  match x with
  | .flat (.slice none _ _) => some []
  | .sl b o _ _ _ => match cellsOf A b with | some (l, _) => cut l o (n * s) | none => none
  | .flat (.string st) => some ((st.extract 0 n).data.toList.map fun b => .flat (.int .u8 b.toNat))
  | _ => none

def slLen : AV → Option Nat
  | .flat (.slice none n _) => some n
  | .sl _ _ n _ _ => some n
  | .sle .. => some 0
  | .flat (.string s) => some s.size
  | _ => none

/-- what the second argument of an append yields: how many, and their cells -/
def srcA (P : Program) (A : AW) (size : Nat) (tx : TypeId) (x : AV) : Option (Nat × List AV) :=
  match P.underlying tx, x with
  | some (.slice _), .flat (.slice none 0 _) => some (0, [])
  | some (.slice _), .sle .. => some (0, [])
  | some (.slice _), .sl b o n _ _ =>
    match cellsOf A b with
    | some (l, _) => match cut l o (n * size) with
      | some r => if r.all AV.one then some (n, r) else none
      | none => none
    | none => none
  | some .string, .flat (.string s) => if size = 1 then some (s.size, s.data.toList.map fun b => .flat (.int .u8 b.toNat)) else none
  | _, _ => none

/-- append: behind it the row is a block of its own; an elder one that may share its memory is gone -/
def appendA (P : Program) (A : AW) (ats : Array TypeId) (s x : AV) : Option AR :=
  match ats.toList with
  | [t, tx] =>
    match P.underlying t with
    | some (.slice e) =>
      match P.info? e with
      | some i =>
        match i.zero, srcA P A i.size tx x with
        | some z, some (n, new) =>
          if i.size = 0 || i.bytes = 0 || i.bytes > 1000000 || n > 1000000 || z.cells.size ≠ i.size then none else
          match s with
          | .flat (.slice none 0 0) => if n = 0 then some (.val s) else some (.new (.sl A.next 0 n n true) (.cells new e))
          | .sle b _ o2 =>
            if n = 0 then some (.val s) else
            match cellsOf A b with
            | some (l, e') => if e' = e && l.length = o2 then some (.chg (.sl A.next 0 n n true) ((A.set b .dead).new (.cells new e))) else none
            | none => none
          | .sl b o len cap opn =>
            if len > 1000000 || cap > 1000000 || cap < len then none else
            match cellsOf A b with
            | some (l, e') =>
              match cut l o (len * i.size) with
              | some old =>
                if e' ≠ e then none else
                if n = 0 then some (.val s) else
                match opn with
                | true =>
                  if len + n ≤ cap then
                    match putAt l (o + len * i.size) new with
                    | some l' => some (.chg (.sl b o (len + n) cap true) (A.set b (.cells l' e)))
                    | none => none
                  else
                  if l.length = o + cap * i.size then some (.chg (.sl A.next 0 (len + n) (len + n) true) ((A.set b .dead).new (.cells (old ++ new) e)))
                  else none
                | false =>
                  if len + n ≤ cap then
                    match putAt l (o + len * i.size) new with
                    | some l' => some (.chg (.sl b o (len + n) cap false) (A.set b (.cells l' e)))
                    | none => none
                  else some (.new (.sl A.next 0 (len + n) (len + n) true) (.cells (old ++ new) e))
              | none => none
            | none => none
          | _ => none
        | _, _ => none
      | none => none
    | _ => none
  | _ => none

def copyA (P : Program) (A : AW) (ats : Array TypeId) (d x : AV) : Option AR :=
  match ats.toList with
  | t :: _ =>
    match P.underlying t with
    | some (.slice e) =>
      match sizeA P e, slLen x, d with
      | some size, some n, .sl b o m _ _ =>
        match rowOf P A size x (Nat.min n m), cellsOf A b with
        | some row, some (l, e') =>
          if row.all AV.one then
            match putAt l o row with
            | some l' => some (.chg (.flat (goInt (Nat.min n m))) (A.set b (.cells l' e')))
            | none => none
          else none
        | _, _ => none
      | _, _, _ => none
    | _ => none
  | _ => none

def clearA (P : Program) (A : AW) (t : TypeId) (x : AV) : Option AR :=
  match P.underlying t, x with
  | some (.slice _), .flat (.slice none _ _) => some (.val undefA)
  | some (.slice e), .sl n o len _ _ =>
    match P.info? e, cellsOf A n with
    | some i, some (l, e') =>
      match i.zero with
      | some z =>
        if z.cells.size = i.size && i.size ≠ 0 && len ≠ 0 && (fromV z).cells.all AV.one then
          match putAt l o (zerosA (fromV z).cells len) with
          | some l' => some (.chg undefA (A.set n (.cells l' e')))
          | none => none
        else if len = 0 then some (.val undefA) else none
      | none => none
    | _, _ => none
  | some (.map _ _), .mp n =>
    match A.get n with
    | some (.map _ clock) => some (.chg undefA (A.set n (.map [] clock)))
    | _ => none
  | _, _ => none

def wholeFlat (l : List AV) : Option (Array Value) := (toVs l).map (·.toArray)

def builtinA (P : Program) (A : AW) (b : Builtin) (ats : Array TypeId) (ty : TypeId) (args : List AV) : Option AR :=
  match b, args with
  | .len, [x] => match ats[0]? with
    | some t => (lenA P A t x).map fun (n : Nat) => .val (.flat (goInt (n : Int)))
    | none => none
  | .append, [s, x] => appendA P A ats s x
  | .clear, [x] => match ats[0]? with
    | some t => clearA P A t x
    | none => none
  | .delete, [m, k] => match ats[0]? with
    | some t => (deleteA P A t m k).map (.chg undefA)
    | none => none
  | .copy, [d, x] => copyA P A ats d x
  | .unsafeString, [p, .flat (.int .i64 (.ofNat n))] =>
    match ats.toList, p with
    | [pt, _], .ptr b o =>
      match P.underlying pt, cellsOf A b with
      | some (.pointer u), some (l, e) =>
        match cut l o n with
        | some r =>
          match bytesOf? r with
          | some bs =>
            if u = e && sizeA P e = some 1 && n ≠ 0 && n ≤ 1000000 then some (.chg (.flat (.string ⟨bs.toArray⟩)) (A.set b .dead)) else none
          | none => none
        | none => none
      | _, _ => none
    | _, _ => none
  | .max, _ | .min, _ =>
    match wholeFlat args with
    | some vs => match pureRun P (builtin b ats ty #[] vs) with
      | some (.value v) => some (.val (fromV v))
      | _ => none
    | none => none
  | _, _ => none

def eqlA (P : Program) (t : TypeId) (x y : AV) : Option Bool :=
  match P.underlying t, x, y with
  | some (.pointer _), .flat (.pointer none), .ptr .. => some false
  | some (.pointer _), .ptr .., .flat (.pointer none) => some false
  | some (.pointer el), .ptr n o, .ptr m q =>
    match sizeA P el with
    | some s => if n = m && s ≠ 0 then some (o == q) else none
    | none => none
  | some (.slice _), .flat (.slice none _ _), .sl .. => some false
  | some (.slice _), .sl .., .flat (.slice none _ _) => some false
  | some (.slice _), .flat (.slice none _ _), .sle .. => some false
  | some (.slice _), .sle .., .flat (.slice none _ _) => some false
  | some (.map _ _), .flat (.map none), .mp _ => some false
  | some (.map _ _), .mp _, .flat (.map none) => some false
  | some (.interface _), .flat .nilIface, .ifc .. => some false
  | some (.interface _), .ifc .., .flat .nilIface => some false
  | some (.func _ _ _), .flat .nilFunc, .fn .. => some false
  | some (.func _ _ _), .fn .., .flat .nilFunc => some false
  | some (.func _ _ _), .flat .nilFunc, .yld .. => some false
  | some (.func _ _ _), .yld .., .flat .nilFunc => some false
  | _, _, _ => none

/-- a comparison of x, from a to b, and y, from c to d -/
def cmpR (op : BinOp) (a b c d : Int) : Option Bool :=
  match op with
  | .lss => if b < c then some true else if d ≤ a then some false else none
  | .leq => if b ≤ c then some true else if d < a then some false else none
  | .gtr => if d < a then some true else if b ≤ c then some false else none
  | .geq => if d ≤ a then some true else if b < c then some false else none
  | .eql => if b < c then some false else if d < a then some false else none
  | .neq => if b < c then some true else if d < a then some true else none
  | _ => none
def rngA (op : BinOp) (x y : AV) : Option Bool :=
  match x, y with
  | .rng lo hi, .flat (.int .i64 n) => cmpR op lo hi n n
  | .flat (.int .i64 n), .rng lo hi => cmpR op n n lo hi
  | _, _ => none

def binA (P : Program) (op : BinOp) (t : TypeId) (xo yo : Operand) (x y : AV) : Option AV :=
  match toV x, toV y with
  | some a, some b => (pureRun P (do eqGuard op t xo yo a b; binOp op t a b)).map fromV
  | _, _ =>
    match rngA op x y with
    | some b => some (.flat (.bool b))
    | none =>
      match op with
      | .eql => (eqlA P t x y).map fun b => .flat (.bool b)
      | .neq => (eqlA P t x y).map fun b => .flat (.bool !b)
      | _ => none

def convA (P : Program) (A : AW) (src dst : TypeId) (x : AV) : Option AR :=
  match P.underlying src, P.underlying dst, x with
  | some ds, some (.slice e), .flat (.string s) =>
    match P.underlying e, ds with
    | some (.int .u8), .string =>
      if sizeA P e = some 1 && s.size ≤ 1000000 then some (.new (.sl A.next 0 s.size s.size true) (.cells (s.data.toList.map fun b => .flat (.int .u8 b.toNat)) e)) else none
    | _, _ => none
  | some (.slice _), some (.slice e), .sl n o l c b =>
    match src == dst, P.underlying e with
    | true, some (.int .u8) => match cellsOf A n with | some (xs, e') => some (.chg (.sl n o l c b) (A.set n (.cells xs e'))) | none => none
    | _, _ => none
  | some (.slice e), some .string, .flat (.slice none _ _) =>
    match P.underlying e with
    | some (.int .u8) => some (.val (.flat (.string .empty)))
    | _ => none
  | some (.slice e), some .string, .sl n o len _ _ =>
    match P.underlying e, cellsOf A n with
    | some (.int .u8), some (l, _) =>
      match cut l o len with
      | some row => match u8sOf? row with
        | some ns => some (.val (.flat (.string (ns.foldl (fun r n => r.push (UInt8.ofNat n.toNat)) ByteArray.empty))))
        | none => none
      | none => none
    | _, _ => none
  | some _, some (.int .i64), .rng lo hi => if -9223372036854775808 ≤ lo ∧ hi ≤ 9223372036854775807 then some (.val (.rng lo hi)) else none
  | some _, some _, .flat v => match pureRun P (convert src dst v) with
    | some r => some (.val (fromV r))
    | none => none
  | _, _, _ => none

/-- the few functions without a body that are known -/
def externA (A : AW) (name : String) (args : List AV) : Option AR :=
  match name, args with
  | "maps.clone", [.ifc t (.mp n)] =>
    match A.get n with
    | some (.map es clock) => some (.new (.ifc t (.mp A.next)) (.map es clock))
    | _ => none
  | "math/bits.Add64", [.flat (.int .u64 (.ofNat x)), .flat (.int .u64 (.ofNat y)), .flat (.int .u64 (.ofNat c))] =>
    if c ≤ 1 then some (.val (.tup [.flat (.int .u64 (((x + y + c) % 18446744073709551616 : Nat) : Int)), .flat (.int .u64 (((x + y + c) / 18446744073709551616 : Nat) : Int))])) else none
  | _, _ => none

def callA (P : Program) (A : AW) (c : Call) (ty : TypeId) (T : Tr AV) : Option AR :=
  match c.callee with
  | .builtin b => builtinA P A b c.argTypes ty (c.args.toList.map (ev T))
  | .value f =>
    match ev T f with
    | .fn f fst cap =>
      match P.funcs[f]? with
      | some fn =>
        match fn.body with
        | some _ => some (.enter f (fst ++ c.args.toList.map (ev T) ++ cap))
        | none => match fn.origin, cap with
          | "", [] => externA A fn.name (fst ++ c.args.toList.map (ev T))
          | _, _ => none
      | none => none
    | .yld n => some (.round n (c.args.toList.map (ev T)))
    | _ => none
  | _ => none

def sameNats : List Nat → List Nat → Bool
  | [], [] => true
  | a :: l, b :: m => Nat.beq a b && sameNats l m
  | _, _ => false

/-- births rise -/
def rising : List Nat → Bool
  | a :: b :: l => Nat.blt a b && rising (b :: l)
  | _ => true

/-- the key, and the value, of the entry that the name n tells -/
def pickOf (n i : Nat) (es : List (AV × AV × Nat)) : Option (AV × List AV) :=
  match es with
  | [e] => some (e.1, [e.2.1])
  | _ =>
    if es.all fun e => e.1.one then
      some (.pick n i (es.map (·.1)), if es.all fun e => e.2.1.one then [.pick n i (es.map (·.2.1))] else [])
    else none

def nextA (A : AW) (it : AV) (isString : Bool) : Option AR :=
  match it with
  | .ptr n 0 =>
    match A.get n, isString with
    | some (.siter s pos), true =>
      if pos < s.size then
        some (.chg (.tup [.flat (.bool true), .flat (goInt pos), .flat (.int .i32 (Utf8.decode s pos).1)]) (A.set n (.siter s (pos + (Utf8.decode s pos).2))))
      else some (.val (.tup [.flat (.bool false)]))
    | some (.miter none _ _ _ _), false => some (.val (.tup [.flat (.bool false)]))
    | some (.miter (some m) since seen bs last), false =>
      match A.get m with
      | some (.map es clock) =>
        if (!seen.isEmpty && !es.isEmpty && es.all fun e => decide (e.2.2 ≥ last)) then none else
        if sameNats (es.map (·.2.2)) bs && rising bs && bs.all fun b => decide (b < since) then
          if Nat.beq seen.length bs.length then some (.val (.tup [.flat (.bool false)]))
          else if seen.length < bs.length then
            match pickOf A.next n es with
            | some (k, l) => some (.chg (.tup (.flat (.bool true) :: k :: l)) { A.set n (.miter (some m) since (seen ++ [A.next]) bs clock) with next := A.next + 1 })
            | none => none
          else none
        else none
      | _ => none
    | _, _ => none
  | _ => none

def entryOfA (A : AW) (it : AV) : Option AV :=
  match it with
  | .ptr n 0 =>
    match A.get n with
    | some (.miter (some m) _ seen bs stepped) =>
      match A.get m, seen.getLast? with
      | some (.map es clock), some b =>
        if Nat.beq clock stepped && sameNats (es.map (·.2.2)) bs && rising bs then
          match pickOf b n es with
          | some (k, l) => some (.tup (k :: l))
          | none => none
        else none
      | _, _ => none
    | _ => none
  | _ => none

def opA (P : Program) (T : Tr AV) (A : AW) (o : Oper) : Option AR :=
  let e := ev T
  match o.op with
  | .move x | .assign x => some (.val (e x))
  | .pick c a b => (boolOf? (e c)).map fun t => .val (if t then e a else e b)
  | .alloc t => match zeroA P t with | some z => some (.new (.ptr A.next 0) (.cells z.cells t)) | none => none
  | .box t x => some (.new (.ptr A.next 0) (.cells (e x).cells t))
  | .build t parts => (buildA P t (parts.toList.map fun (i, x) => (i, e x))).map .val
  | .buildSlice t len parts =>
    match P.underlying t with
    | some (.slice elem) =>
      match P.info? elem with
      | some i =>
        match i.zero with
        | some z =>
          if z.cells.size = i.size && i.size ≠ 0 && len * i.size ≤ 1000000 then
            match fillA (fun j => some (j * i.size, i.size)) (zerosA (fromV z).cells len) (parts.toList.map fun (i, x) => (i, e x)) with
            | some l => some (.new (.sl A.next 0 len len false) (.cells l elem))
            | none => none
          else none
        | none => none
      | none => none
    | _ => none
  | .load t a => match e a with | .ptr n k => (loadA P A t n k).map .val | _ => none
  | .store t a x => match e a with | .ptr n k => (storeA P A t n k (e x)).map (.chg undefA) | _ => none
  | .nilCheck x => match e x with
    | .ptr n o => some (.val (.ptr n o))
    | .fn f a b => some (.val (.fn f a b))
    | .yld n => some (.val (.yld n))
    | _ => none
  | .binOp op t x y _ => (binA P op t x y (e x) (e y)).map .val
  | .unOp op _ x => match e x with | .flat v => ((pureRun P (Op.unary op v)).map fromV).map .val | _ => none
  | .convert src dst x => convA P A src dst (e x)
  | .makeFunc (.func f) a b => some (.val (.fn f (a.toList.map e) (b.toList.map e)))
  | .makeMap _ none => some (.new (.mp A.next) (.map [] 0))
  | .makeMap t (some r) => match intOf? (e r), P.underlying t with | some _, some (.map _ _) => some (.new (.mp A.next) (.map [] 0)) | _, _ => none
  | .makeSlice t len cap =>
    match P.underlying t with
    | some (.slice elem) =>
      match P.info? elem, natOf? (e len), natOf? (e cap) with
      | some i, some l, some c =>
        match i.zero with
        | some z =>
          if l ≤ c && i.bytes * c ≤ 1000000000 && c ≤ 1000000000 && z.cells.size = i.size && i.size ≠ 0 then
            some (.new (.sl A.next 0 l c false) (.cells (zerosA (fromV z).cells c) elem))
          else none
        | none => none
      | _, _, _ => none
    | _ => none
  | .slice t x lo hi mx => (sliceA P t (e x) (lo.map e) (hi.map e) (mx.map e)).map .val
  | .fieldAddr t x f =>
    match P.underlying t, e x with
    | some (.struct fs), .ptr n k =>
      match fs[f]? with
      | some f => match sizeA P f.type with
        | some s => if s = 0 then none else some (.val (.ptr n (k + f.offset)))
        | none => none
      | none => none
    | _, _ => none
  | .field t x f =>
    match P.underlying t, e x with
    | some (.struct fs), .agg l =>
      match fs[f]? with
      | some f => (partA P f.type l f.offset).map .val
      | none => none
    | _, _ => none
  | .indexAddr t x ix =>
    match P.underlying t, e x, natOf? (e ix) with
    | some (.array len elem), .ptr n k, some i => match sizeA P elem with
      | some s => if i < len then some (.val (.ptr n (k + i * s))) else none
      | none => none
    | some (.slice elem), .sl n k len _ _, some i => match sizeA P elem with
      | some s => if i < len then some (.val (.ptr n (k + i * s))) else none
      | none => none
    | _, _, _ => none
  | .index t x ix =>
    match P.underlying t, e x, natOf? (e ix) with
    | some (.array len elem), .agg l, some i => match sizeA P elem with
      | some s => if i < len then (partA P elem l (i * s)).map .val else none
      | none => none
    | some .string, .flat (.string s), some i => match s[i]? with
      | some b => some (.val (.flat (.int .u8 b.toNat)))
      | none => none
    | _, _, _ => none
  | .lookup t x ix ok => (lookupA P A t (e x) (e ix) ok).map .val
  | .mapUpdate t m k x | .insert t m k x => (updateA P A t (e m) (e k) (e x)).map (.chg undefA)
  | .range t x =>
    match P.underlying t, e x with
    | some .string, .flat (.string s) => some (.new (.ptr A.next 0) (.siter s 0))
    | some (.map _ _), .flat (.map none) => some (.new (.ptr A.next 0) (.miter none 0 [] [] 0))
    | some (.map _ _), .mp m => match A.get m with | some (.map es clock) => some (.new (.ptr A.next 0) (.miter (some m) clock [] (es.map (·.2.2)) clock)) | _ => none
    | _, _ => none
  | .next it isString => nextA A (e it) isString
  | .entry it => (entryOfA A (e it)).map .val
  | .makeInterface t x =>
    match P.underlying t with
    | some (.interface _) => none
    | some _ => some (.val (.ifc t (e x)))
    | none => none
  | .typeAssert x _ t ok =>
    match P.underlying t, e x with
    | some (.interface _), _ => none
    | some _, .ifc u v => if u = t then some (.val (if ok then .tup [v, .flat (.bool true)] else v)) else none
    | _, _ => none
  | .extract t ix => match e t with | .tup l => l[ix]?.map .val | _ => none
  | .call c => callA P A c o.type T
  | .defer c =>
    match c.callee with
    | .value f =>
      match e f with
      | .fn g fst cap => some (.dfr g (fst ++ c.args.toList.map e) cap)
      | _ => none
    | _ => none
  | _ => none

end
end Go.Proofs.YtjhaccpljgdlpaaGreat.Ab
