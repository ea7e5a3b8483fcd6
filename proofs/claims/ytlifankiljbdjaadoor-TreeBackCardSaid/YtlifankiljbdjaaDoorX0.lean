/- Tokens: the reader is made. -/
import Derived.Test.YtlifankiljbdjaaDoorJW3
import Derived.Test.YtlifankiljbdjaaDoorK0
import Derived.Deep.MidRow
namespace Go.Proofs.YtlifankiljbdjaaDoor
open Go Go.RowKit

def rdL (v : Value) : List Value := [v, .int .i64 0] ++ clsV
theorem built60 (p : Option Addr) (n c : Nat) : Tryd.prog.built 60 [(0, .slice p n c), (2, .agg clsV.toArray)] = some (rdL (.slice p n c)).toArray := by kernel_rfl
theorem build60 (p : Option Addr) (n c : Nat) (w : World) : (Instr.build 60 #[(0, .slice p n c), (2, .agg clsV.toArray)]).run Tryd.prog w = .ok (.agg (rdL (.slice p n c)).toArray) w :=
  run_build w 60 _ _ (built60 p n c)
theorem rdL_one (p : Option Addr) (n c : Nat) : ((rdL (.slice p n c)).toArray.all (·.oneCell')) = true := by kernel_rfl
theorem rdL_len (v : Value) : (rdL v).length = 258 := by simp [rdL, clsV]
theorem info60 : (Tryd.prog.info? 60).map (·.size) = some 258 := by kernel_rfl
theorem clsV_get (b : UInt8) : clsV[b.toNat]? = some (.int .u8 (clB b : Int)) := by
  have h := b.toNat_lt
  unfold clsV
  rw [List.getElem?_map, List.getElem?_range (by omega)]
  simp
theorem wpList_build_to {P : Program} {ops : Array Oper} {rest : List Oper} {o : Oper} {a : Act} {w : World} {Q : Exit → Act → World → Prop} (hgd : o.guard = none) (t : TypeId) (parts : Array (Nat × Operand)) (ho : o.op = .build t parts)
    (cells : Array Value) (hc : P.built t (parts.map fun (i, x) => (i, a.eval x)).toList = some cells) (h : wpList P ops Q rest (a.put o.dst (.agg cells)) w) : wpList P ops Q (o :: rest) a w :=
  wpList_plain hgd fun _ hK => by
    unfold Oper.wp execOp
    simp only [ho, Sem.run_bind, run_build w t _ cells hc, Result.andThen_ok]
    exact hK _ _ h
theorem Only.newCells {T : Nat → Prop} {w : World} {b : Nat} (hb : w.heap.size ≤ b) : ∀ (l : List Value) (o : Nat) (w2 : World), Only T w w2 → Only T w (w2.setCells b o l)
  | [], _, _, h => h
  | v :: l, o, w2, h => by
    rw [World.setCells]
    exact Only.newCells hb l (o + 1) _ (h.new hb)
theorem size_setCells (b : Nat) : ∀ (l : List Value) (o : Nat) (w : World), (w.setCells b o l).heap.size = w.heap.size
  | [], _, _ => rfl
  | v :: l, o, w => by rw [World.setCells, size_setCells b l, World.size_setCell]
/-- a fresh block of zeros may be written -/
theorem there_new (w : World) : (w.alloc (.cells Tryd.zeroCells60 60)).there w.heap.size 0 258 := fun j hj => by
  have hz : Tryd.zeroCells60.size = 258 := by kernel_rfl
  rw [Nat.zero_add]
  constructor
  · rw [World.cell?_alloc_new, Array.getElem?_eq_getElem (by rw [hz]; exact hj)]; rfl
  · simp [go_sem]
theorem rd_new (w : World) (p : Option Addr) (c : Nat) (bs : List UInt8) (hb : BytesIn w p bs) (hk : bs.length ≤ c) (hn : bs.length ≤ 1048576) :
    RdAt ((w.alloc (.cells Tryd.zeroCells60 60)).setCells w.heap.size 0 (rdL (.slice p bs.length c))) w.heap.size p c bs 0 ∧ Below w.heap.size w ((w.alloc (.cells Tryd.zeroCells60 60)).setCells w.heap.size 0 (rdL (.slice p bs.length c))) := by
  have hth := there_new w
  have hlen := rdL_len (.slice p bs.length c)
  have hin := fun j (hj : j < (rdL (.slice p bs.length c)).length) => World.cell?_setCells_in w.heap.size (rdL (.slice p bs.length c)) 0 (w.alloc (.cells Tryd.zeroCells60 60)) (fun i hi => (hth i (by omega)).1) j hj
  have hO : Only (fun _ => False) w ((w.alloc (.cells Tryd.zeroCells60 60)).setCells w.heap.size 0 (rdL (.slice p bs.length c))) := Only.newCells (Nat.le_refl _) _ _ _ (Only.of_below (below1 w _))
  refine ⟨⟨?_, ?_, ?_, ?_, ?_, ?_, ?_, hn, hk, Nat.zero_le _⟩, hO.below (fun k h => h.elim) (Nat.le_refl _)⟩
  · have := hin 0 (by omega); rw [Nat.zero_add] at this; rw [this]; rfl
  · have := hin 1 (by omega); rw [Nat.zero_add] at this; rw [this]; rfl
  · intro b
    have hb' := b.toNat_lt
    have := hin (2 + b.toNat) (by omega)
    rw [Nat.zero_add] at this
    rw [this, ← List.getElem?_eq_getElem]
    show ([.slice p bs.length c, .int .i64 0] ++ clsV)[2 + b.toNat]? = _
    rw [List.getElem?_append_right (by simp)]
    simp only [List.length_cons, List.length_nil, Nat.zero_add]
    rw [show 2 + b.toNat - (1 + 1) = b.toNat by omega]
    exact clsV_get b
  · rw [World.frozen?_setCells]
    exact (hth 1 (by omega)).2
  · exact hb.only hO (fun _ _ _ _ h => h)
  · intro h0 b off e
    have := hb.lt h0 b off e
    omega
  · rw [size_setCells]; simp
/-- a token's three cells -/
def tkV (t : Tk) : List Value := [.int .u8 (t.kind : Int), .string ⟨t.text.toArray⟩, .int .i64 (t.at_ : Int)]
def rowT (l : List Tk) : List Value := l.flatMap tkV
theorem rowT_len (l : List Tk) : (rowT l).length = l.length * 3 := by
  induction l with
  | nil => rfl
  | cons t l ih => simp [rowT, tkV] at ih ⊢; omega
def Z33 : Value := .agg #[.int .u8 0, .string ByteArray.empty, .int .i64 0]
theorem info33 : ∃ i0, Tryd.prog.info? 33 = some i0 ∧ i0.zero = some Z33 ∧ i0.size = 3 ∧ i0.bytes = 32 := info_of (by kernel_rfl)
theorem tok_cell (w : World) (C : Array Value) (j : Nat) {v : Value} (h : C[j]? = some v) : ((w.alloc (.cells C 33)).alloc (.cells C 33)).cell? ⟨w.heap.size + 1, 0 + j, none⟩ = some v := by
  rw [Nat.zero_add, show w.heap.size + 1 = (w.alloc (.cells C 33)).heap.size by simp, World.cell?_alloc_new]
  exact h
theorem own_mono {w : World} {base base' n : Nat} {e : TypeId} {size : Nat} {v : Value} {xs : List Value} (h : w.ownsRow base e size v n xs) (hb : base' ≤ base) : w.ownsRow base' e size v n xs := by
  rcases h with ⟨h0, ⟨h1, h2⟩ | ⟨g, cap, cur, rfl, hg, hh, hc⟩⟩
  · exact ⟨h0, .inl ⟨h1, h2⟩⟩
  · exact ⟨h0, .inr ⟨g, cap, cur, rfl, Nat.le_trans hb hg, hh, hc⟩⟩
theorem quo_err : ∀ (s acc : List UInt8) {e : Nat}, quo acc s = .err e → 0 < e
  | [], acc, e, h => by simp only [quo] at h; cases h; decide
  | c :: s, acc, e, h => by
    simp only [quo] at h
    split at h
    · cases h
    · split at h
      · cases h; decide
      · exact quo_err s _ h
theorem lit_err : ∀ (s : List UInt8) (m : Bool) (acc : List UInt8) (i : Nat) {e : Nat}, lit m acc i s = .err e → 0 < e
  | [], true, acc, i, e, h => by simp [lit] at h
  | [], false, acc, i, e, h => by simp only [lit] at h; cases h; decide
  | c :: s, true, acc, i, e, h => by
    simp only [lit] at h
    split at h
    · exact lit_err s _ _ _ h
    · cases h
  | c :: s, false, acc, i, e, h => by
    simp only [lit] at h
    split at h
    · cases h; decide
    · split at h
      · exact lit_err s _ _ _ h
      · exact lit_err s _ _ _ h
theorem err_pos {s : List UInt8} {e : Nat} (h : oneR s = .err e) (hs : 0 < s.length) : 0 < e := by
  cases s with
  | nil => simp at hs
  | cons c s =>
    simp only [oneR] at h
    split at h
    · cases h
    · split at h
      · cases h
      · split at h
        · exact quo_err _ _ h
        · split at h
          · exact lit_err _ _ _ _ h
          · split at h
            · unfold keyR at h
              split at h <;> cases h
              decide
            · split at h
              · unfold basedR at h
                split at h
                · cases h; decide
                · split at h <;> cases h
                  decide
              · split at h
                · unfold plainR at h
                  split at h
                  · cases h
                  · simp only at h
                    split at h
                    · cases h; decide
                    · split at h
                      · cases h
                      · split at h <;> cases h
                        decide
                · cases h; decide
/-- what Tokens answers -/
def TokensP (bs : List UInt8) (W : World) (e : Ending) (w' : World) : Prop := ∃ (p : Option Addr) (c : Nat) (l : List Tk) (a er : Nat), e = .returned (.tuple #[.slice p l.length c, .int .i64 (a : Int), .int .i64 (er : Int)]) ∧ Toks bs 0 l a er ∧ w'.ownsRow W.heap.size 33 3 (.slice p l.length c) l.length (rowT l) ∧ Below W.heap.size W w'
set_option maxRecDepth 100000 in
set_option maxHeartbeats 1600000 in
theorem tokens_any (p : Option Addr) (c : Nat) (bs : List UInt8) (W : World) (hb : BytesIn W p bs) (hk : bs.length ≤ c) (hn : bs.length ≤ 1048576) :
    Calls Tryd.prog 14 #[.slice p bs.length c] W (TokensP bs W) := by
  have HBI := Lib.hid hb
  have HPB := Lib.hid hb.lt
  obtain ⟨i33, hi33, hz0, hz1, hz2⟩ := info33
  obtain ⟨n, hnl⟩ : ∃ n, n = bs.length := ⟨_, rfl⟩
  have HL := Lib.hid hnl
  rw [← hnl] at hk hn ⊢
  have hbd := built60 p n c
  have hone := rdL_one p n c
  have hlen := rdL_len (.slice p n c)
  generalize hRL : rdL (.slice p n c) = RL at *
  have hcls := fun w => classes_any w
  generalize hCL : clsV.toArray = CL at *
  have HRL := Lib.hid hRL
  have HBD := Lib.hid hbd
  clear hbd
  have hgt : decide ((1048576 : Int) < (n : Int)) = false := by simp; omega
  have HCLS := Lib.hid hcls
  have HONE := Lib.hid hone
  have HLEN := Lib.hid hlen
  have HCL := Lib.hid hCL
  have hni : (n : Int) ≤ 1048576 := by omega
  clear hb hnl hRL hcls hone hlen hCL
  go_enter Tryd.func14, Tryd.ntmps14
  go_wp2_with fail
  refine (HCLS.out _).mono ?_
  rintro e w1 ⟨rfl, hb1⟩
  have HB1 := Lib.hid hb1
  clear hb1
  rename_i K2 hKK
  refine hKK _ _ ?_
  refine wpList_build_to rfl 60 _ rfl RL.toArray (by simp [Act.eval, HBD.out]) ?_
  clear hKK
  go_wp2_with (refine wpList_store_mid rfl 60 _ _ rfl w1.heap.size 0 RL.toArray rfl rfl ?qs1 ?qs2 HONE.out ?_)
  case qs1 => rw [show RL.toArray.size = 258 by simpa using HLEN.out]; exact there_new w1
  case qs2 => rw [show RL.toArray.size = 258 by simpa using HLEN.out]; exact info60
  obtain ⟨hrd, hbd2⟩ := rd_new w1 p c bs (HBI.out.later HB1.out) (by rw [← HL.out]; exact hk) (by rw [← HL.out]; exact hn)
  rw [← HL.out, HRL.out] at hrd hbd2
  generalize hW2 : World.setCells _ _ 0 RL = W2
  rw [hW2] at hrd hbd2
  have HB2 := Lib.hid (HB1.out.trans (hbd2.mono HB1.out.size))
  have HRW := Lib.hid HB1.out.size
  clear hbd2 hW2 HRL HONE HLEN HBD HCLS HCL
  generalize w1.heap.size = R at *
  have HR2 := Lib.hid hrd
  clear hrd HBI
  refine (skip_any R p c bs 0 W2 HR2.out).mono ?_
  rintro e w3 ⟨rfl, hr3, ho3⟩
  have HRW3 := Lib.hid (show RdAt w3 R p c bs (0 + skipM false (bs.drop 0)) ∧ Below W.heap.size W w3 by
    refine ⟨hr3, HB2.out.trans ?_⟩
    exact ho3.below (fun k hk => by rw [hk]; exact HRW.out) HB2.out.size)
  clear hr3 ho3 HR2 HB2
  go_wp2_with fail
  go_loopg [6, 7, 8, 9] (bs.length + 1) (fun gk s6 s7 s8 s9 wx => ∃ (a : Nat) (acc : List Tk), Hid (bs.length + 1 ≤ a + skipM false (bs.drop a) + gk ∧ acc.length ≤ a ∧ a ≤ bs.length ∧ RdAt wx R p c bs (a + skipM false (bs.drop a)) ∧ (∀ l q er, Toks bs a l q er → Toks bs 0 (acc ++ l) q er) ∧ wx.ownsRow (R + 1) 33 3 s6 acc.length (rowT acc) ∧ Below W.heap.size W wx))
  case atStart => exact ⟨0, [], Lib.hid ⟨by omega, by simp, by omega, HRW3.out.1, fun l q er h => h, World.ownsRow_nil _ _ _ _, HRW3.out.2⟩⟩
  case round =>
    obtain ⟨a, acc, HI⟩ := hrel
    clear HRW3
    obtain ⟨h1, h2, h2b, hr, htk, hw, hbl⟩ := HI.out
    obtain ⟨pr, cr, rfl, hA_⟩ := own_shape hw
    have HA1 := Lib.hid (rfl : a + skipM false (bs.drop a) = a + skipM false (bs.drop a))
    generalize hA1 : a + skipM false (bs.drop a) = A1 at h1 hr HA1
    have HG := Lib.hid h1
    have HR := Lib.hid hr
    have HT := Lib.hid htk
    have HW := Lib.hid hw
    have HB := Lib.hid hbl
    have HAE := Lib.hid hA1
    have c1 := hr.ca
    have hA1le : A1 ≤ n := by have := hr.ha; have := HL.out; omega
    clear h1 hr htk hw hbl hA_ HI HA1 hA1
    by_cases hlt : A1 < n
    · have i1 : (A1 : Int) < (n : Int) := by omega
      have i0 : (0 : Int) ≤ (A1 : Int) := by omega
      go_wp2_with fail
      refine (token_any R p c bs A1 wr HR.out (by have := HL.out; omega)).mono ?_
      rintro e w4 ⟨ho4, hres⟩
      have HO4 := Lib.hid ho4
      match hq : oneR (bs.drop A1), hres with
      | .tok k t m, hres =>
        obtain ⟨rfl, hr4⟩ := hres
        have HR4 := Lib.hid hr4
        have HQ := Lib.hid hq
        have hr4l := hr4.hl
        have hone := one_n hq
        have hs4 : wr.heap.size ≤ w4.heap.size := ho4.size
        have hWA := own_only HW.out ho4 (fun j hj e => by have := (own_lt HW.out hj).1; omega)
        have hbA := ((below1 w4 (.cells #[.int .u8 (k : Int), .string ⟨t.toArray⟩, .int .i64 (A1 : Int)] 33)).alloc (by simp) (.cells #[.int .u8 (k : Int), .string ⟨t.toArray⟩, .int .i64 (A1 : Int)] 33))
        have HWA := Lib.hid (own_later hWA hbA)
        have HRA := Lib.hid (hr4.later hbA)
        have HSA := Lib.hid (show R + 1 ≤ ((w4.alloc (.cells #[.int .u8 (k : Int), .string ⟨t.toArray⟩, .int .i64 (A1 : Int)] 33)).alloc (.cells #[.int .u8 (k : Int), .string ⟨t.toArray⟩, .int .i64 (A1 : Int)] 33)).heap.size by have := hr4.hl; simp; omega)
        have HBW := Lib.hid (HB.out.trans ((ho4.below (fun j hj => by rw [hj]; exact HRW.out) HB.out.size).trans (hbA.mono (by have := HB.out.size; omega))))
        have HON := Lib.hid hone
        have hal : acc.length ≤ 1048576 := by have := HL.out; omega
        have hnews : ∀ j u, (tkV ⟨k, t, A1⟩)[j]? = some u → ((w4.alloc (.cells #[.int .u8 (k : Int), .string ⟨t.toArray⟩, .int .i64 (A1 : Int)] 33)).alloc (.cells #[.int .u8 (k : Int), .string ⟨t.toArray⟩, .int .i64 (A1 : Int)] 33)).cell? ((⟨w4.heap.size + 1, 0, none⟩ : Addr).add j) = some u := by
          intro j u hj
          rw [Lib.add_plain]
          match j, hj with
          | 0, hj => cases hj; exact tok_cell w4 _ 0 rfl
          | 1, hj => cases hj; exact tok_cell w4 _ 1 rfl
          | 2, hj => cases hj; exact tok_cell w4 _ 2 rfl
        have HNE := Lib.hid hnews
        unfold tokV
        clear hr4 hq ho4 c1 hWA hbA hone hs4 hnews
        go_wp2_with (at_builtin; refine wpList_append_own_at _ rfl _ _ 24 rfl (R + 1) 33 i33 Z33 3 32 Tryd.underlying24 hi33 hz0 hz1 hz2 rfl (by omega) _ acc.length (rowT acc) rfl HWA.out ⟨w4.heap.size + 1, 0, none⟩ 1 1 (tkV ⟨k, t, A1⟩) rfl rfl HNE.out ?qc3 ?qc4 ?qc5 HSA.out ?_)
        case qc3 => intro u hu; simp [tkV] at hu; rcases hu with rfl | rfl | rfl <;> rfl
        case qc4 => have hml : maxLen = 9223372036854775807 := rfl; omega
        case qc5 => omega
        intro v' w5 hown hgrow hnil hloc
        obtain ⟨pn, cn, hv, hA_⟩ := own_shape hown
        subst hv
        have ho5 := Only.of_grown hgrow
        have hge : ∀ j, (Value.slice pr acc.length cr).ownBlock = some j → R + 1 ≤ j := fun j hj => (own_lt HWA.out hj).1
        have hlen : acc.length + 1 = (acc ++ [(⟨k, t, A1⟩ : Tk)]).length := by simp
        have hrow : rowT acc ++ tkV ⟨k, t, A1⟩ = rowT (acc ++ [(⟨k, t, A1⟩ : Tk)]) := by simp [rowT]
        rw [hlen, hrow] at hown
        rw [hlen]
        have hal2 : (acc ++ [(⟨k, t, A1⟩ : Tk)]).length = acc.length + 1 := hlen.symm
        generalize hacc2 : acc ++ [(⟨k, t, A1⟩ : Tk)] = acc2 at *
        have HA2 := Lib.hid hacc2
        have HAL := Lib.hid hal2
        have HR5 := Lib.hid (HRA.out.only ho5 (fun e => by have := hge _ e; omega) (fun hp b off e ek => by
          have h1 := hge _ ek
          have h2 := HPB.out hp b off e
          have h3 := HRW.out
          omega))
        have HW5 := Lib.hid hown
        have HB5 := Lib.hid (HBW.out.trans (ho5.below (B := W.heap.size) (fun j hj => by have := hge j hj; have := HRW.out; omega) HBW.out.size))
        have HG5 := Lib.hid hge
        clear hown hgrow hnil hloc hA_ ho5 hge hlen hrow hacc2 hal2
        go_wp2_with fail
        refine (skip_any R p c bs (A1 + m) w5 HR5.out).mono ?_
        rintro e w6 ⟨rfl, hr6, ho6⟩
        have HR6 := Lib.hid hr6
        have HW6 := Lib.hid (own_only HW5.out ho6 (fun j hj e => by have := (own_lt HW5.out hj).1; have e : j = R := e; omega))
        have HB6 := Lib.hid (HB5.out.trans (ho6.below (fun j hj => by rw [hj]; exact HRW.out) HB5.out.size))
        have hGp : 0 < gk := by have := HG.out; have := HL.out; omega
        clear hr6 ho6
        go_wp2_with fail
        go_roundg (gk - 1)
        case measure => omega
        case rel =>
          have hg := HG.out
          have hl := HL.out
          have ho := HON.out
          rw [List.length_drop] at ho
          obtain ⟨a', ha'⟩ : ∃ a', a' = A1 + m := ⟨_, rfl⟩
          have hae := HAE.out
          refine ⟨a', acc2, Lib.hid ⟨by omega, by have := HAL.out; omega, by omega, by rw [ha']; exact HR6.out, ?_, HW6.out, HB6.out⟩⟩
          intro l q er hl2
          rw [← HA2.out, List.append_assoc]
          refine HT.out _ _ _ ?_
          have hlt2 : a + skipM false (bs.drop a) < bs.length := by rw [hae]; omega
          have := Toks.step (b := bs) (at_ := a) (k := k) (n := m) (t := t) (l := l) (p := q) (e := er) hlt2 (by rw [hae]; exact HQ.out) (by rw [hae, ← ha']; exact hl2)
          rw [hae] at this
          exact this
      | .err er, hres =>
        subst hres
        have HQ := Lib.hid hq
        have her := err_pos hq (by rw [List.length_drop]; have := HL.out; omega)
        have her2 : ((er : Int) != 0) = true := by simp; omega
        have hWA := own_only HW.out ho4 (fun j hj e => by have := (own_lt HW.out hj).1; have e : j = R := e; omega)
        have HWE := Lib.hid (own_later hWA (below1 w4 (.cells #[.int .u8 0, .string ⟨#[]⟩, .int .i64 0] 33)))
        have HBE := Lib.hid (HB.out.trans ((ho4.below (fun j hj => by rw [hj]; exact HRW.out) HB.out.size).trans ((below1 w4 (.cells #[.int .u8 0, .string ⟨#[]⟩, .int .i64 0] 33)).mono (by have := HB.out.size; have := ho4.size; omega))))
        unfold tokV
        clear hq hWA ho4 c1
        go_wp2_with fail
        go_ret3
        refine ⟨pr, cr, acc, A1, er, rfl, ?_, own_mono HWE.out (by have := HRW.out; omega), HBE.out⟩
        have hae := HAE.out
        have hl := HL.out
        have := HT.out [] A1 er (by
          have := Toks.bad (b := bs) (at_ := a) (e := er) (by rw [hae]; omega) (by rw [hae]; exact HQ.out)
          rw [hae] at this
          exact this)
        simpa using this
    · go_wp2_with fail
      go_ret3
      refine ⟨pr, cr, acc, n, 0, rfl, ?_, own_mono HW.out (by have := HRW.out; omega), HB.out⟩
      have hae := HAE.out
      have hl := HL.out
      have := HT.out [] bs.length 0 (.done (by omega))
      rw [← hl] at this
      simpa using this
end Go.Proofs.YtlifankiljbdjaaDoor
