/-
  The operations once more, in small parts: so the kernel reckons them faster.
-/
import Derived.Test.YtjhaccpljgdlpaaGreatAb7
import Derived.IntWalk
namespace Go.Proofs.YtjhaccpljgdlpaaGreat.Ab
open Go
noncomputable section
def oF_move (_P : Program) (T : Tr AV) (_A : AW) (x : Operand) : Option AR :=
  some (.val (ev T x))
def oF_pick (_P : Program) (T : Tr AV) (_A : AW) (c : Operand) (a : Operand) (b : Operand) : Option AR :=
  (boolOf? (ev T c)).map fun t => .val (if t then ev T a else ev T b)
def oF_alloc (P : Program) (_T : Tr AV) (A : AW) (t : TypeId) : Option AR :=
  match zeroA P t with | some z => some (.new (.ptr A.next 0) (.cells z.cells t)) | none => none
def oF_box (_P : Program) (T : Tr AV) (A : AW) (t : TypeId) (x : Operand) : Option AR :=
  some (.new (.ptr A.next 0) (.cells (ev T x).cells t))
def oF_build (P : Program) (T : Tr AV) (_A : AW) (t : TypeId) (parts : Array (Nat × Operand)) : Option AR :=
  (buildA P t (parts.toList.map fun (i, x) => (i, ev T x))).map .val
def oF_buildSlice (P : Program) (T : Tr AV) (A : AW) (t : TypeId) (len : Nat) (parts : Array (Nat × Operand)) : Option AR :=
  match P.underlying t with
    | some (.slice elem) =>
      match P.info? elem with
      | some i =>
        match i.zero with
        | some z =>
          if z.cells.size = i.size && i.size ≠ 0 && len * i.size ≤ 1000000 then
            match fillA (fun j => some (j * i.size, i.size)) (zerosA (fromV z).cells len) (parts.toList.map fun (i, x) => (i, ev T x)) with
            | some l => some (.new (.sl A.next 0 len len false) (.cells l elem))
            | none => none
          else none
        | none => none
      | none => none
    | _ => none
def oF_load (P : Program) (T : Tr AV) (A : AW) (t : TypeId) (a : Operand) : Option AR :=
  match ev T a with | .ptr n k => (loadA P A t n k).map .val | _ => none
def oF_store (P : Program) (T : Tr AV) (A : AW) (t : TypeId) (a : Operand) (x : Operand) : Option AR :=
  match ev T a with | .ptr n k => (storeA P A t n k (ev T x)).map (.chg undefA) | _ => none
def oF_nilCheck (_P : Program) (T : Tr AV) (_A : AW) (x : Operand) : Option AR :=
  match ev T x with
    | .ptr n o => some (.val (.ptr n o))
    | .fn f a b => some (.val (.fn f a b))
    | .yld n => some (.val (.yld n))
    | _ => none
def inI64 (c : Int) : Bool := decide (-9223372036854775808 ≤ c) && decide (c ≤ 9223372036854775807)
def someI64 (c : Int) : Option Value := match inI64 c with | true => some (.int .i64 c) | false => none
def fastI (op : BinOp) (a b : Int) : Option Value :=
  match op with
  | .add => someI64 (a + b)
  | .sub => someI64 (a - b)
  | .eql => some (.bool (a == b))
  | .neq => some (.bool (a != b))
  | .lss => some (.bool (a < b))
  | .leq => some (.bool (a ≤ b))
  | .gtr => some (.bool (a > b))
  | .geq => some (.bool (a ≥ b))
  | _ => none
def binF (P : Program) (op : BinOp) (t : TypeId) (xo yo : Operand) (x y : AV) : Option AV :=
  match x, y with
  | .flat (.int .i64 a), .flat (.int .i64 b) =>
    match fastI op a b with
    | some v => some (.flat v)
    | none => binA P op t xo yo x y
  | _, _ => binA P op t xo yo x y
theorem binF_eq (P : Program) (op : BinOp) (t : TypeId) (xo yo : Operand) (x y : AV) : binF P op t xo yo x y = binA P op t xo yo x y := by
  unfold binF
  split
  · rename_i a b
    split
    · rename_i v h
      have hg : pureRun P (eqGuard op t xo yo (.int .i64 a) (.int .i64 b)) = some () := by
        unfold eqGuard; cases op <;> rfl
      have key : ∀ s : Sem Value, pureRun P s = some v → pureRun P (do eqGuard op t xo yo (.int .i64 a) (.int .i64 b); s) = some v := fun s hs => by
        rw [pureRun_bind, hg]; exact hs
      have hv : fromV v = .flat v := by
        cases op <;> simp only [fastI, someI64] at h <;> first
          | (cases h; done)
          | (cases h; rfl)
          | (split at h <;> cases h; rfl)
      have hb : pureRun P (binOp op t (.int .i64 a) (.int .i64 b)) = some v := by
        cases op <;> simp only [fastI, someI64] at h <;> first
          | (cases h; done)
          | (cases h; rfl)
          | (split at h
             · rename_i hin
               cases h
               simp only [inI64, Bool.and_eq_true, decide_eq_true_eq] at hin
               have := IntWalk.i64_in _ hin
               simp only [binOp, Op.intArith, this, ne_eq, not_true_eq_false, if_false]
               rfl
             · cases h)
      simp only [binA, toV]
      rw [key _ hb]
      simp [hv]
    · rfl
  · rfl
def oF_binOp (P : Program) (T : Tr AV) (_A : AW) (op : BinOp) (t : TypeId) (x : Operand) (y : Operand) : Option AR :=
  (binF P op t x y (ev T x) (ev T y)).map .val
def oF_unOp (P : Program) (T : Tr AV) (_A : AW) (op : UnOp) (x : Operand) : Option AR :=
  match ev T x with | .flat v => ((pureRun P (Op.unary op v)).map fromV).map .val | _ => none
def oF_convert (P : Program) (T : Tr AV) (A : AW) (src : TypeId) (dst : TypeId) (x : Operand) : Option AR :=
  convA P A src dst (ev T x)
def oF_makeSlice (P : Program) (T : Tr AV) (A : AW) (t : TypeId) (len : Operand) (cap : Operand) : Option AR :=
  match P.underlying t with
    | some (.slice elem) =>
      match P.info? elem, natOf? (ev T len), natOf? (ev T cap) with
      | some i, some l, some c =>
        match i.zero with
        | some z =>
          if l ≤ c && i.bytes * c ≤ 1000000000 && c ≤ 1000000000 && z.cells.size = i.size && i.size ≠ 0 then
            some (.new (.sl A.next 0 l c false) (.cells (zerosA (fromV z).cells c) elem))
          else none
        | none => none
      | _, _, _ => none
    | _ => none
def oF_slice (P : Program) (T : Tr AV) (_A : AW) (t : TypeId) (x : Operand) (lo : Option Operand) (hi : Option Operand) (mx : Option Operand) : Option AR :=
  (sliceA P t (ev T x) (lo.map (ev T)) (hi.map (ev T)) (mx.map (ev T))).map .val
def oF_fieldAddr (P : Program) (T : Tr AV) (_A : AW) (t : TypeId) (x : Operand) (f : Nat) : Option AR :=
  match P.underlying t, ev T x with
    | some (.struct fs), .ptr n k =>
      match fs[f]? with
      | some f => match sizeA P f.type with
        | some s => if s = 0 then none else some (.val (.ptr n (k + f.offset)))
        | none => none
      | none => none
    | _, _ => none
def oF_field (P : Program) (T : Tr AV) (_A : AW) (t : TypeId) (x : Operand) (f : Nat) : Option AR :=
  match P.underlying t, ev T x with
    | some (.struct fs), .agg l =>
      match fs[f]? with
      | some f => (partA P f.type l f.offset).map .val
      | none => none
    | _, _ => none
def oF_indexAddr (P : Program) (T : Tr AV) (_A : AW) (t : TypeId) (x : Operand) (ix : Operand) : Option AR :=
  match P.underlying t, ev T x, natOf? (ev T ix) with
    | some (.array len elem), .ptr n k, some i => match sizeA P elem with
      | some s => if i < len then some (.val (.ptr n (k + i * s))) else none
      | none => none
    | some (.slice elem), .sl n k len _ _, some i => match sizeA P elem with
      | some s => if i < len then some (.val (.ptr n (k + i * s))) else none
      | none => none
    | _, _, _ => none
def oF_index (P : Program) (T : Tr AV) (_A : AW) (t : TypeId) (x : Operand) (ix : Operand) : Option AR :=
  match P.underlying t, ev T x, natOf? (ev T ix) with
    | some (.array len elem), .agg l, some i => match sizeA P elem with
      | some s => if i < len then (partA P elem l (i * s)).map .val else none
      | none => none
    | some .string, .flat (.string s), some i => match s[i]? with
      | some b => some (.val (.flat (.int .u8 b.toNat)))
      | none => none
    | _, _, _ => none
def oF_lookup (P : Program) (T : Tr AV) (A : AW) (t : TypeId) (x : Operand) (ix : Operand) (ok : Bool) : Option AR :=
  (lookupA P A t (ev T x) (ev T ix) ok).map .val
def oF_mapUpdate (P : Program) (T : Tr AV) (A : AW) (t : TypeId) (m : Operand) (k : Operand) (x : Operand) : Option AR :=
  (updateA P A t (ev T m) (ev T k) (ev T x)).map (.chg undefA)
def oF_range (P : Program) (T : Tr AV) (A : AW) (t : TypeId) (x : Operand) : Option AR :=
  match P.underlying t, ev T x with
    | some .string, .flat (.string s) => some (.new (.ptr A.next 0) (.siter s 0))
    | some (.map _ _), .flat (.map none) => some (.new (.ptr A.next 0) (.miter none 0 [] [] 0))
    | some (.map _ _), .mp m => match A.get m with | some (.map es clock) => some (.new (.ptr A.next 0) (.miter (some m) clock [] (es.map (·.2.2)) clock)) | _ => none
    | _, _ => none
def oF_next (_P : Program) (T : Tr AV) (A : AW) (it : Operand) (isString : Bool) : Option AR :=
  nextA A (ev T it) isString
def oF_entry (_P : Program) (T : Tr AV) (A : AW) (it : Operand) : Option AR :=
  (entryOfA A (ev T it)).map .val
def oF_makeInterface (P : Program) (T : Tr AV) (_A : AW) (t : TypeId) (x : Operand) : Option AR :=
  match P.underlying t with
    | some (.interface _) => none
    | some _ => some (.val (.ifc t (ev T x)))
    | none => none
def oF_typeAssert (P : Program) (T : Tr AV) (_A : AW) (x : Operand) (t : TypeId) (ok : Bool) : Option AR :=
  match P.underlying t, ev T x with
    | some (.interface _), _ => none
    | some _, .ifc u v => if u = t then some (.val (if ok then .tup [v, .flat (.bool true)] else v)) else none
    | _, _ => none
def oF_extract (_P : Program) (T : Tr AV) (_A : AW) (t : Operand) (ix : Nat) : Option AR :=
  match ev T t with | .tup l => l[ix]?.map .val | _ => none
def oF_defer (_P : Program) (T : Tr AV) (_A : AW) (c : Call) : Option AR :=
  match c.callee with
    | .value f =>
      match ev T f with
      | .fn g fst cap => some (.dfr g (fst ++ c.args.toList.map (ev T)) cap)
      | _ => none
    | _ => none

def opF (P : Program) (T : Tr AV) (A : AW) (o : Oper) : Option AR :=
  match o.op with
  | .move x | .assign x => oF_move P T A x
  | .pick c a b => oF_pick P T A c a b
  | .alloc t => oF_alloc P T A t
  | .box t x => oF_box P T A t x
  | .build t parts => oF_build P T A t parts
  | .buildSlice t len parts => oF_buildSlice P T A t len parts
  | .load t a => oF_load P T A t a
  | .store t a x => oF_store P T A t a x
  | .nilCheck x => oF_nilCheck P T A x
  | .binOp op t x y _ => oF_binOp P T A op t x y
  | .unOp op _ x => oF_unOp P T A op x
  | .convert src dst x => oF_convert P T A src dst x
  | .makeFunc (.func f) a b => some (.val (.fn f (a.toList.map (ev T)) (b.toList.map (ev T))))
  | .makeMap _ none => some (.new (.mp A.next) (.map [] 0))
  | .makeMap t (some r) => match intOf? (ev T r), P.underlying t with | some _, some (.map _ _) => some (.new (.mp A.next) (.map [] 0)) | _, _ => none
  | .makeSlice t len cap => oF_makeSlice P T A t len cap
  | .slice t x lo hi mx => oF_slice P T A t x lo hi mx
  | .fieldAddr t x f => oF_fieldAddr P T A t x f
  | .field t x f => oF_field P T A t x f
  | .indexAddr t x ix => oF_indexAddr P T A t x ix
  | .index t x ix => oF_index P T A t x ix
  | .lookup t x ix ok => oF_lookup P T A t x ix ok
  | .mapUpdate t m k x | .insert t m k x => oF_mapUpdate P T A t m k x
  | .range t x => oF_range P T A t x
  | .next it isString => oF_next P T A it isString
  | .entry it => oF_entry P T A it
  | .makeInterface t x => oF_makeInterface P T A t x
  | .typeAssert x _ t ok => oF_typeAssert P T A x t ok
  | .extract t ix => oF_extract P T A t ix
  | .call c => callA P A c o.type T
  | .defer c => oF_defer P T A c
  | _ => none

theorem opF_eq (P : Program) (T : Tr AV) (A : AW) (o : Oper) : opF P T A o = opA P T A o := by
  obtain ⟨dst, op, ty, pos, after, gd⟩ := o
  cases op <;> first | rfl | (simp only [opF, oF_binOp, binF_eq]; rfl) | (rename_i f a b; cases f <;> rfl) | (rename_i f a b; cases f <;> cases a <;> cases b <;> rfl) | (rename_i f; cases f <;> rfl)
end
end Go.Proofs.YtjhaccpljgdlpaaGreat.Ab
