/- Certificates of congruence: the data, and what reads them. -/
import Derived.Test.YtgdncnalahdjeaaJQ4
namespace Go.Proofs.Ytgdncnalahdjeaa
open Go Go.RowKit

/-- vertices, as numbers. -/
structure VD where
  F : Nat → Int
  P : Nat → Option Addr
  L : Nat → Nat
  C : Nat → Nat
  V : Nat → Nat → Int
  S : Nat → Int
  X : Nat → Int
  O : Nat → Int
/-- atoms. -/
structure AD where
  K : Nat → Int
  A : Nat → Int
  B : Nat → Int
  C : Nat → Int
/-- links. -/
structure LD where
  K : Nat → Int
  T : Nat → Int
  A : Nat → Int
  B : Nat → Int
  I : Nat → Int
  J : Nat → Int
  P : Nat → Option Addr
  L : Nat → Nat
  C : Nat → Nat
  V : Nat → Nat → Int
structure VertsAt (W : World) (b off n : Nat) (d : VD) : Prop where
  f : ∀ i, i < n → W.cell? ⟨b, off + i * 5, none⟩ = some (.int .i64 (d.F i))
  p : ∀ i, i < n → W.cell? ⟨b, off + i * 5 + 1, none⟩ = some (.slice (d.P i) (d.L i) (d.C i))
  s : ∀ i, i < n → ∃ k, W.cell? ⟨b, off + i * 5 + 2, none⟩ = some k ∧ k = .int .i64 (d.S i)
  x : ∀ i, i < n → W.cell? ⟨b, off + i * 5 + 3, none⟩ = some (.int .i64 (d.X i))
  o : ∀ i, i < n → W.cell? ⟨b, off + i * 5 + 4, none⟩ = some (.int .i64 (d.O i))
  v : ∀ i, i < n → LitsIn W (d.P i) (d.L i) (d.V i) ∧ d.L i ≤ 9223372036854775807
def VertsIn (W : World) (p : Option Addr) (n : Nat) (d : VD) : Prop := 0 < n → ∃ b off, p = some ⟨b, off, none⟩ ∧ VertsAt W b off n d
theorem VertsAt.later {W W' : World} {b off n : Nat} {d : VD} (h : VertsAt W b off n d) (hb : Below W.heap.size W W') : VertsAt W' b off n d :=
  ⟨fun i hi => cell_later hb (h.f i hi), fun i hi => cell_later hb (h.p i hi), fun i hi => by obtain ⟨k, h1, h2⟩ := h.s i hi; exact ⟨k, cell_later hb h1, h2⟩, fun i hi => cell_later hb (h.x i hi), fun i hi => cell_later hb (h.o i hi), fun i hi => ⟨(h.v i hi).1.later hb, (h.v i hi).2⟩⟩
theorem VertsIn.later {W W' : World} {p : Option Addr} {n : Nat} {d : VD} (h : VertsIn W p n d) (hb : Below W.heap.size W W') : VertsIn W' p n d := fun hn => by
  obtain ⟨b, off, e, ha⟩ := h hn
  exact ⟨b, off, e, ha.later hb⟩
structure AtomsAt (W : World) (b off n : Nat) (d : AD) : Prop where
  k : ∀ i, i < n → W.cell? ⟨b, off + i * 4, none⟩ = some (.int .u8 (d.K i))
  a : ∀ i, i < n → W.cell? ⟨b, off + i * 4 + 1, none⟩ = some (.int .i64 (d.A i))
  bb : ∀ i, i < n → W.cell? ⟨b, off + i * 4 + 2, none⟩ = some (.int .i64 (d.B i))
  c : ∀ i, i < n → W.cell? ⟨b, off + i * 4 + 3, none⟩ = some (.int .i64 (d.C i))
def AtomsIn (W : World) (p : Option Addr) (n : Nat) (d : AD) : Prop := 0 < n → ∃ b off, p = some ⟨b, off, none⟩ ∧ AtomsAt W b off n d
theorem AtomsAt.later {W W' : World} {b off n : Nat} {d : AD} (h : AtomsAt W b off n d) (hb : Below W.heap.size W W') : AtomsAt W' b off n d :=
  ⟨fun i hi => cell_later hb (h.k i hi), fun i hi => cell_later hb (h.a i hi), fun i hi => cell_later hb (h.bb i hi), fun i hi => cell_later hb (h.c i hi)⟩
theorem AtomsIn.later {W W' : World} {p : Option Addr} {n : Nat} {d : AD} (h : AtomsIn W p n d) (hb : Below W.heap.size W W') : AtomsIn W' p n d := fun hn => by
  obtain ⟨b, off, e, ha⟩ := h hn
  exact ⟨b, off, e, ha.later hb⟩
structure LinksAt (W : World) (b off n : Nat) (d : LD) : Prop where
  k : ∀ i, i < n → W.cell? ⟨b, off + i * 7, none⟩ = some (.int .u8 (d.K i))
  t : ∀ i, i < n → W.cell? ⟨b, off + i * 7 + 1, none⟩ = some (.int .i64 (d.T i))
  a : ∀ i, i < n → W.cell? ⟨b, off + i * 7 + 2, none⟩ = some (.int .i64 (d.A i))
  bb : ∀ i, i < n → W.cell? ⟨b, off + i * 7 + 3, none⟩ = some (.int .i64 (d.B i))
  i : ∀ i, i < n → W.cell? ⟨b, off + i * 7 + 4, none⟩ = some (.int .i64 (d.I i))
  j : ∀ i, i < n → W.cell? ⟨b, off + i * 7 + 5, none⟩ = some (.int .i64 (d.J i))
  p : ∀ i, i < n → W.cell? ⟨b, off + i * 7 + 6, none⟩ = some (.slice (d.P i) (d.L i) (d.C i))
  v : ∀ i, i < n → LitsIn W (d.P i) (d.L i) (d.V i) ∧ d.L i ≤ 9223372036854775807
def LinksIn (W : World) (p : Option Addr) (n : Nat) (d : LD) : Prop := 0 < n → ∃ b off, p = some ⟨b, off, none⟩ ∧ LinksAt W b off n d
theorem LinksAt.later {W W' : World} {b off n : Nat} {d : LD} (h : LinksAt W b off n d) (hb : Below W.heap.size W W') : LinksAt W' b off n d :=
  ⟨fun i hi => cell_later hb (h.k i hi), fun i hi => cell_later hb (h.t i hi), fun i hi => cell_later hb (h.a i hi), fun i hi => cell_later hb (h.bb i hi), fun i hi => cell_later hb (h.i i hi), fun i hi => cell_later hb (h.j i hi), fun i hi => cell_later hb (h.p i hi), fun i hi => ⟨(h.v i hi).1.later hb, (h.v i hi).2⟩⟩
theorem LinksIn.later {W W' : World} {p : Option Addr} {n : Nat} {d : LD} (h : LinksIn W p n d) (hb : Below W.heap.size W W') : LinksIn W' p n d := fun hn => by
  obtain ⟨b, off, e, ha⟩ := h hn
  exact ⟨b, off, e, ha.later hb⟩
/-- is a number a vertex? -/
def isV (n : Nat) (i : Int) : Bool := decide (0 ≤ i) && decide (i < (n : Int))
theorem isV_iff (n : Nat) (i : Int) : isV n i = true ↔ 0 ≤ i ∧ i < (n : Int) := by unfold isV; simp
set_option maxRecDepth 100000 in
set_option maxHeartbeats 800000 in
theorem isVertex_any (p : Option Addr) (n c : Nat) (i : Int) (w : World) : Calls Try.prog 65 #[.slice p n c, .int .i64 i] w fun e w' => e = .returned (.bool (isV n i)) ∧ w' = w := by
  have key : i < 0 ∨ (0 ≤ i ∧ (n : Int) ≤ i) ∨ (0 ≤ i ∧ i < (n : Int)) := by omega
  rcases key with h | ⟨h, h'⟩ | ⟨h, h'⟩
  · have hv : isV n i = false := by unfold isV; rw [decide_eq_false (by omega)]; rfl
    rw [hv]
    clear hv
    go_enter Try.func65, Try.ntmps65
    go_wp2
    go_ret
    exact ⟨rfl, rfl⟩
  · have hv : isV n i = false := by unfold isV; rw [decide_eq_true h, decide_eq_false (show ¬ i < (n : Int) by omega)]; rfl
    rw [hv]
    clear hv
    have q := decide_eq_false (show ¬ i < (n : Int) by omega)
    go_enter Try.func65, Try.ntmps65
    go_wp2
    go_ret
    exact ⟨by first | rfl | (simp; omega), rfl⟩
  · have hv : isV n i = true := by unfold isV; rw [decide_eq_true h, decide_eq_true h']; rfl
    rw [hv]
    clear hv
    have q := decide_eq_true h'
    go_enter Try.func65, Try.ntmps65
    go_wp2
    go_ret
    exact ⟨by first | rfl | (simp; omega), rfl⟩
/-- may a vertex be? -/
def vertOK (n : Nat) (d : VD) (i : Nat) : Bool := (decide (i ≤ 1) || decide (0 ≤ d.F i) || d.F i == -3) && !anyB (d.L i) (fun k => !isV n (d.V i k))
def atomOK (n : Nat) (d : AD) (i : Nat) : Bool := if d.K i = 1 then isV n (d.A i) && isV n (d.B i) else if d.K i = 3 then isV n (d.A i) else true
/-- may vertices and atoms be? -/
def mayB (n : Nat) (d : VD) (m : Nat) (a : AD) : Bool := decide (2 ≤ n) && decide (n ≤ 20000) && d.F 0 == -1 && d.F 1 == -2 && !anyB n (fun i => !vertOK n d i) && !anyB m (fun i => !atomOK n a i)
end Go.Proofs.Ytgdncnalahdjeaa
