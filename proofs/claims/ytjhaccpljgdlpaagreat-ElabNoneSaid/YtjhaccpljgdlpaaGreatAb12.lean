/-
  All operations together.
-/
import Derived.Test.YtjhaccpljgdlpaaGreatAb11
namespace Go.Proofs.YtjhaccpljgdlpaaGreat.Ab
open Go
section
variable {P : Program} {ρ : Rn} {A : AW} {w : World}

theorem find_clone (fn : Func) (hn : fn.name = "maps.clone") (ho : fn.origin = "") : Extern.findNext fn = none ∧ Extern.find fn = some Extern.MapsClone.clone := by
  have h1 : Extern.allNextRows.lookup "maps.clone" = none := by kernel_rfl
  have h2 : Extern.allNextRows.lookup "" = none := by kernel_rfl
  have h3 : Extern.allGenericRows.lookup "maps.clone" = none := by kernel_rfl
  have h4 : Extern.allTypedRows.lookup "maps.clone" = none := by kernel_rfl
  have h5 : Extern.allRows.lookup "maps.clone" = some Extern.MapsClone.clone := by kernel_rfl
  constructor
  · simp [Extern.findNext, hn, ho, h1, h2]
  · simp [Extern.find, hn, ho, h3, h4, h5]

def add64 : Array Value → Sem Value := fun args => do
  let (x, y, c) ← Extern.MathBitsCarry.three "Add64" args
  pure (Extern.MathBitsCarry.pair ((x + y + c) % Extern.MathBitsCarry.m64) ((x + y + c) / Extern.MathBitsCarry.m64))

theorem find_add (fn : Func) (hn : fn.name = "math/bits.Add64") (ho : fn.origin = "") : Extern.findNext fn = none ∧ Extern.find fn = some add64 := by
  have h1 : Extern.allNextRows.lookup "math/bits.Add64" = none := by kernel_rfl
  have h2 : Extern.allNextRows.lookup "" = none := by kernel_rfl
  have h3 : Extern.allGenericRows.lookup "math/bits.Add64" = none := by kernel_rfl
  have h4 : Extern.allTypedRows.lookup "math/bits.Add64" = none := by kernel_rfl
  have h5 : Extern.allRows.lookup "math/bits.Add64" = some add64 := by kernel_rfl
  constructor
  · simp [Extern.findNext, hn, ho, h1, h2]
  · simp [Extern.find, hn, ho, h3, h4, h5]

theorem add64_run (x y c : Nat) (hc : c ≤ 1) (w : World) : (add64 #[.int .u64 (.ofNat x), .int .u64 (.ofNat y), .int .u64 (.ofNat c)]).run P w = .ok (.tuple #[.int .u64 (((x + y + c) % 18446744073709551616 : Nat) : Int), .int .u64 (((x + y + c) / 18446744073709551616 : Nat) : Int)]) w := by
  rcases (show c = 0 ∨ c = 1 by omega) with e | e <;> subst e <;> rfl

theorem callFunc_body {f : FuncId} {fn : Func} {c : Code} (hf : P.funcs[f]? = some fn) (hb : fn.body = some c) (hn : (fn.name == "runtime.NumGoroutine") = false) (args : Array Value) (w : World) : (callFunc f args).run P w = .ok (.enter f args) w := by
  simp [callFunc, hf, hb]
  intro h; simp [h] at hn

theorem callFunc_ext {f : FuncId} {fn : Func} {e : Array Value → Sem Value} (hf : P.funcs[f]? = some fn) (hb : fn.body = none) (hn : (fn.name == "runtime.NumGoroutine") = false) (h1 : Extern.findNext fn = none) (h2 : Extern.find fn = some e) (args : Array Value) (w : World) :
    (callFunc f args).run P w = (vOf (e args)).run P w := by
  unfold vOf
  simp [callFunc, hf, hb, h1, h2]
  intro h; simp [h] at hn

/-- no function of the program's own bears this name -/
def Named (P : Program) : Prop := ∀ (f : FuncId) (fn : Func), P.funcs[f]? = some fn → (fn.name == "runtime.NumGoroutine") = false

theorem extern_sound (hs : Sim P ρ A.live w) (hN : Named P) {f : FuncId} {fn : Func} {args : List AV} {vs : List Value} {r : AR} (hf : P.funcs[f]? = some fn) (hb : fn.body = none) (ho : fn.origin = "") (h : externA A fn.name args = some r) (hv : VRs ρ args vs) :
    ArOk P ρ A w ((callFunc f vs.toArray).run P w) r := by
  unfold externA at h
  split at h
  · rename_i tt nn hname
    obtain ⟨e1, e2⟩ := find_clone fn hname ho
    rw [callFunc_ext hf hb (hN _ _ hf) e1 e2]
    split at h
    · rename_i es clock hg
      cases h
      cases hv with
      | cons h1 h2 =>
      cases h2
      cases h1 with
      | ifc _ h1 =>
      cases h1 with
      | mp hl =>
      rename_i l
      obtain ⟨cs, m1, m2⟩ := hs.mapAt hg hl
      have g2 := run_get (P := P) m1 (by simp)
      have hcl : ∀ (t : TypeId) (b : Nat), Extern.MapsClone.clone #[.iface t (.map (some b))] = (do
          let .map entries next ← getObj b | stuck "maps.clone: a map expected"
          pure (.iface t (.map (some (← newObj (.map entries next)))))) := fun _ _ => rfl
      refine ⟨_, .map cs.toArray clock, w.alloc (.map cs.toArray clock), 0, gives_v (x := .iface tt (.map (some w.heap.size))) ?_, ⟨rfl, rfl, rfl, rfl⟩, fun ρ' hsub hat => ⟨?_, cs, rfl, m2.mono hsub⟩⟩
      · simp [hcl, g2]
      · exact .ifc tt (VR.mp (l := ⟨w.heap.size, 0, 0⟩) hat)
    · cases h
  · rename_i x y c hname
    obtain ⟨e1, e2⟩ := find_add fn hname ho
    rw [callFunc_ext hf hb (hN _ _ hf) e1 e2]
    split at h
    · rename_i hc
      cases h
      cases hv with
      | cons h1 h2 =>
      cases h2 with
      | cons h2 h3 =>
      cases h3 with
      | cons h3 h4 =>
      cases h4; cases h1; cases h2; cases h3
      exact ⟨_, gives_v (add64_run x y c hc w), .tup (.cons (.flat _) (.cons (.flat _) .nil))⟩
    · cases h
  · cases h
end
end Go.Proofs.YtjhaccpljgdlpaaGreat.Ab
