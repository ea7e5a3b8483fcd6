/- LexTokens: the law's walk. -/
import Derived.Test.YtlifankiljbdjaaDoorJR
import Derived.Test.YtlifankiljbdjaaDoorL1
import Derived.Laws.AppendOwnNone
namespace Go.Proofs.YtlifankiljbdjaaDoor
open Go Go.RowKit

theorem wpList_append_any2 {P : Program} {w : World} {ops : Array Oper} {rest : List Oper} {o : Oper} {a : Act} {Q : Exit → Act → World → Prop} (hgd : o.guard = none) (s x : Operand) (t : TypeId)
    (ho : o.op = .call { callee := .builtin .append, args := #[s, x], argTypes := #[t, t] })
    (base : Nat) (e : TypeId) (i : TypeInfo) (z : Value) (size bytes : Nat) (ht : P.underlying t = some (.slice e)) (hi : P.info? e = some i) (hz : i.zero = some z)
    (hsize : i.size = size) (hby : i.bytes = bytes) (hzs : z.cells.size = size) (hsz : 0 < size)
    (v : Value) (n : Nat) (xs : List Value) (hs : a.eval s = v) (hown : w.ownsRow base e size v n xs)
    (p : Option Addr) (m c : Nat) (news : List Value) (hx : a.eval x = .slice p m c) (hp : p = none → m = 0 ∧ c = 0) (hl : news.length = m * size) (hnews : ∀ ad, p = some ad → ∀ j u, news[j]? = some u → w.cell? (ad.add j) = some u) (h1 : ∀ u ∈ news, u.oneCell' = true)
    (h63 : n + m ≤ maxLen) (hbytes : (n + m) * bytes ≤ 140737488355328) (hbase : base ≤ w.heap.size)
    (h : ∀ v' w', w'.ownsRow base e size v' (n + m) (xs ++ news) → Below base w w' → wpList P ops Q rest (a.put o.dst v') w') :
    wpList P ops Q (o :: rest) a w := by
  cases p with
  | none =>
    obtain ⟨rfl, rfl⟩ := hp rfl
    have hn : news = [] := by
      rw [Nat.zero_mul] at hl
      exact List.length_eq_zero_iff.1 hl
    subst hn
    exact wpList_append_own_none hgd s x t ho base e i size ht hi v n xs hs hown hx (h v w (by simpa using hown) (Below.refl _ _))
  | some ad =>
    exact wpList_append_own_at w hgd s x t ho base e i z size bytes ht hi hz hsize hby hzs hsz v n xs hs hown ad m c news hx hl (hnews ad rfl) h1 h63 hbytes hbase
      (fun v' w' ho' hg _ _ => h v' w' ho' ((Below.refl base w).grown hg hbase (fun k hk => (World.ownsRow.lt hown k hk).1)))
theorem toks_total (b : List UInt8) : ∀ m a, b.length ≤ a + m → ∃ l p e, Toks b a l p e
  | m, a, h => by
    by_cases hs : b.length ≤ a + skipM false (b.drop a)
    · exact ⟨_, _, _, .done hs⟩
    · cases ho : oneR (b.drop (a + skipM false (b.drop a))) with
      | err e => exact ⟨_, _, _, .bad (by omega) ho⟩
      | tok k t n =>
        have hn := one_n ho
        match m, h with
        | 0, h => omega
        | m + 1, h =>
          obtain ⟨l, p, e, hl⟩ := toks_total b m (a + skipM false (b.drop a) + n) (by omega)
          exact ⟨_, _, _, .step (by omega) ho hl⟩
theorem own_empty (W : World) : (W.alloc (.cells #[] 5)).ownsRow W.heap.size 5 1 (.slice (some ⟨W.heap.size, 0, none⟩) 0 0) 0 [] :=
  ⟨by simp, .inr ⟨W.heap.size, 0, #[], rfl, Nat.le_refl _, heap_alloc_new W _, by simp, by decide, by simp, by simp⟩⟩
theorem TksIn.only {W W' : World} {p : Option Addr} {l : List Tk} {T : Nat → Prop} (h : TksIn W p l) (ho : Only T W W') (hn : ∀ b off, p = some ⟨b, off, none⟩ → ¬ T b) : TksIn W' p l := fun i hi => by
  obtain ⟨b, off, e, h1, h2, h3⟩ := h i hi
  have := hn b off e
  exact ⟨b, off, e, ho.cell h1 this, ho.cell h2 this, ho.cell h3 this⟩
theorem conv_all (W : World) (p : Option Addr) (c : Nat) (bs : List UInt8) (h : BytesIn W p bs) : (convert 22 9 (.slice p bs.length c)).run Tryd.prog W = .ok (.string ⟨bs.toArray⟩) W := by
  cases p with
  | none =>
    have : bs = [] := by
      cases hb : bs with
      | nil => rfl
      | cons x l => subst hb; obtain ⟨b, off, e, _⟩ := h 0 (by simp); cases e
    subst this
    exact run_convert_bytes_nil W 22 5 Tryd.underlying22 Tryd.underlying5 0 _ 9 Tryd.underlying9
  | some ad =>
    refine run_convert_bytes_back W 22 9 5 ad c bs Tryd.underlying22 Tryd.underlying5 Tryd.underlying9 fun j hj => ?_
    obtain ⟨b, off, e, hc⟩ := h j hj
    cases e
    rw [Lib.add_plain]; exact hc
theorem bytes_news {W : World} {p : Option Addr} {bs : List UInt8} (h : BytesIn W p bs) : ∀ ad, p = some ad → ∀ j u, (bs.map u8v)[j]? = some u → W.cell? (ad.add j) = some u := fun ad e j u hu => by
  rw [List.getElem?_map] at hu
  obtain ⟨x, hx, rfl⟩ := Option.map_eq_some_iff.1 hu
  obtain ⟨hj, hxe⟩ := List.getElem?_eq_some_iff.1 hx
  obtain ⟨b, off, e2, hc⟩ := h j hj
  rw [e] at e2; cases e2
  rw [Lib.add_plain, hc, hxe]; rfl
/-- tokens, where they go, and what is wrong there: told ahead -/
def TokG (l : List Tk) (a er : Nat) (W : World) (e : Ending) (w' : World) : Prop := ∃ (p : Option Addr) (c : Nat), e = .returned (.tuple #[.slice p l.length c, .int .i64 (a : Int), .int .i64 (er : Int)]) ∧ w'.ownsRow W.heap.size 33 3 (.slice p l.length c) l.length (rowT l) ∧ Below W.heap.size W w'
theorem tokg_any {l : List Tk} {a er : Nat} {bs : List UInt8} (ht : Toks bs 0 l a er) {W : World} {e : Ending} {w' : World} (h : TokensP bs W e w') : TokG l a er W e w' := by
  obtain ⟨p, c, l2, a2, er2, he, htk, hown, hb⟩ := h
  obtain ⟨rfl, rfl, rfl⟩ := htk.uniq ht
  exact ⟨p, c, he, hown, hb⟩
set_option maxRecDepth 100000 in
set_option maxHeartbeats 400000 in
theorem tokens_mid (p : Option Addr) (c n : Nat) (W : World) (hn : 20000 < n) (hn2 : n ≤ 1048576) :
    Calls Tryd.prog 3 #[.slice p n c] W fun e w' => e = .returned (.bool true) ∧ Below W.heap.size W w' := by
  have i0 : (20000 : Int) < (n : Int) := by omega
  have i1 : (n : Int) ≤ 1048576 := by omega
  go_enter Tryd.func3, Tryd.ntmps3
  go_wp2_with (go_at_call 13; refine (known_any _).mono ?_; rintro e w1 ⟨rfl, hb⟩; have HB := Lib.hid hb; clear hb)
  go_ret
  exact ⟨rfl, HB.out⟩
set_option maxRecDepth 100000 in
set_option maxHeartbeats 3200000 in
theorem tokens_walk (p : Option Addr) (c : Nat) (bs : List UInt8) (W : World) (l : List Tk) (a er : Nat) (hb : BytesIn W p bs) (hk : bs.length ≤ c) (hn : bs.length ≤ 20000 ∨ 1048576 < bs.length) (hp : p = none → bs.length = 0 ∧ c = 0) (h47 : bs.length + 1 ≤ 140737488355328) (hll : l.length ≤ 1048576)
    (h14 : ∀ (W' : World) (p' : Option Addr) (c' : Nat), BytesIn W' p' bs → bs.length ≤ c' → Calls Tryd.prog 14 #[.slice p' bs.length c'] W' (TokG l a er W'))
    (h15 : ∀ (W' : World) (p' : Option Addr) (c' : Nat), BytesIn W' p' bs → bs.length ≤ c' → Calls Tryd.prog 15 #[.slice p' bs.length c'] W' (TokG l a er W')) :
    Calls Tryd.prog 3 #[.slice p bs.length c] W fun e w' => e = .returned (.bool true) ∧ Below W.heap.size W w' := by
  obtain ⟨i5, hi5, hz0, hz1, hz2⟩ := info5
  have HBI := Lib.hid hb
  have HKc := Lib.hid hk
  have HPN := Lib.hid hp
  have H14 := Lib.hid h14
  have H15 := Lib.hid h15
  obtain ⟨n, hnl⟩ : ∃ n, n = bs.length := ⟨_, rfl⟩
  have HL := Lib.hid hnl
  rw [← hnl] at hk hn h47 ⊢
  have hni : (n : Int) ≤ 140737488355327 := by omega
  clear hb hnl hp h14 h15
  have hcase : (decide ((20000 : Int) < (n : Int)) && decide ((n : Int) ≤ 1048576)) = false := by
    rcases hn with h | h
    · rw [decide_eq_false (by omega)]; rfl
    · rw [decide_eq_false (show ¬ (n : Int) ≤ 1048576 by omega), Bool.and_false]
  have HB0 := Lib.hid (HBI.out.later (below1 W (.cells #[] 5)))
  have HPN' := Lib.hid (show p = none → n = 0 ∧ c = 0 from fun h => by have := HPN.out h; have := HL.out; omega)
  obtain ⟨NW, hNW⟩ : ∃ NW, NW = bs.map u8v := ⟨_, rfl⟩
  have HNW := Lib.hid hNW
  clear hNW
  have HB0 := Lib.hid (HBI.out.later (below1 W (.cells #[] 5)))
  have HPN' := Lib.hid (show p = none → n = 0 ∧ c = 0 from fun h => by have := HPN.out h; have := HL.out; omega)
  obtain ⟨NW, hNW⟩ : ∃ NW, NW = bs.map u8v := ⟨_, rfl⟩
  have HNW := Lib.hid hNW
  clear hNW
  have HB0 := Lib.hid (HBI.out.later (below1 W (.cells #[] 5)))
  have HPN' := Lib.hid (show p = none → n = 0 ∧ c = 0 from fun h => by have := HPN.out h; have := HL.out; omega)
  by_cases hbig : 20000 < n
  · have g1 : (20000 : Int) < (n : Int) := by omega
    have g2 : ¬ (n : Int) ≤ 1048576 := by omega
    have g3 : decide ((n : Int) ≤ 1048576) = false := by simpa using g2
    have g4 : decide (n ≤ 1048576) = false := by simp; omega
    clear hcase hn
    go_enter Tryd.func3, Tryd.ntmps3
    go_wp2_with (at_builtin; refine wpList_append_any2 rfl _ _ 22 rfl W.heap.size 5 i5 (.int .u8 0) 1 1 Tryd.underlying22 hi5 hz0 hz1 hz2 rfl (by omega) _ 0 [] rfl (own_empty W) p n c NW rfl HPN'.out ?qa1 (by rw [HNW.out]; exact bytes_news HB0.out) ?qa2 ?qa3 ?qa4 (by simp) ?_)
    case qa1 => rw [HNW.out, List.length_map, ← HL.out]
    case qa2 => intro u hu; rw [HNW.out] at hu; obtain ⟨x, _, rfl⟩ := List.mem_map.1 hu; rfl
    case qa3 => have hml : maxLen = 9223372036854775807 := rfl; omega
    case qa4 => omega
    intro v1 w1 hown1 hb1
    simp only [Nat.zero_add, List.nil_append, HNW.out] at hown1
    obtain ⟨p1, c1, rfl, hA_⟩ := own_shape hown1
    have hbA := hb1.trans ((below1 w1 (.cells #[.int .u8 77] 5)).mono (by have := hb1.size; simp at this; omega))
    have HOA := Lib.hid (own_later hown1 (below1 w1 (.cells #[.int .u8 77] 5)))
    have HSA := Lib.hid (show W.heap.size ≤ (w1.alloc (.cells #[.int .u8 77] 5)).heap.size by have := hb1.size; simp at this ⊢; omega)
    have HBA := Lib.hid ((below1 W (.cells #[] 5)).trans hbA)
    clear hown1 hb1 hbA hA_
    go_wp2_with (at_builtin; refine wpList_append_own_at _ rfl _ _ 22 rfl W.heap.size 5 i5 (.int .u8 0) 1 1 Tryd.underlying22 hi5 hz0 hz1 hz2 rfl (by omega) _ n (bs.map u8v) rfl HOA.out ⟨w1.heap.size, 0, none⟩ 1 1 [.int .u8 77] rfl rfl ?qb2 ?qb3 ?qb4 ?qb5 HSA.out ?_)
    case qb2 =>
      intro jj u hjj
      rw [Lib.add_plain]
      match jj, hjj with
      | 0, hjj => cases hjj; simp [go_sem]
    case qb3 => intro u hu; simp at hu; rcases hu with rfl; rfl
    case qb4 => have hml : maxLen = 9223372036854775807 := rfl; omega
    case qb5 => omega
    intro v2 w2 hown2 hgrow2 hnil2 hloc2
    have hcap := hown2
    obtain ⟨p2, cap, hv2, hsh2⟩ := own_shape hown2
    subst hv2
    have hcap2 := own_cap hown2
    obtain ⟨g, hg2⟩ : ∃ g, p2 = some ⟨g, 0, none⟩ := by
      rcases hown2.2 with ⟨e, _⟩ | ⟨g, _, _, e, _⟩
      · injection e with _ e2 _; omega
      · injection e with e2 _ _; exact ⟨g, e2⟩
    subst hg2
    have hWg := own_lt hown2 (k := g) rfl
    have HB2 := Lib.hid (HBA.out.trans ((Below.refl _ _).grown hgrow2 HSA.out (fun k hk => (World.ownsRow.lt HOA.out k hk).1)))
    have hcl : ∀ i (hi : i < bs.length), w2.cell? ⟨g, i, none⟩ = some (.int .u8 (bs[i].toNat : Int)) := fun i hi => (own_cell hown2 i _ (by rw [List.getElem?_append_left (by simpa using hi), List.getElem?_map, List.getElem?_eq_getElem hi]; rfl)).1
    have hfz : ∀ i, i < n + 1 → w2.frozen? ⟨g, i, none⟩ = false := fun i hi => by
      have hl : (bs.map u8v ++ [Value.int .u8 77]).length = n + 1 := by have := HL.out; simp; omega
      exact (own_cell hown2 i _ (List.getElem?_eq_getElem (by rw [hl]; exact hi))).2
    have hc77 : w2.cell? ⟨g, n, none⟩ = some (.int .u8 77) := (own_cell hown2 n _ (by rw [List.getElem?_append_right (by have := HL.out; simp; omega)]; have := HL.out; simp [← this])).1
    have hby : BytesIn w2 (some ⟨g, 0, none⟩) bs := fun i hi => ⟨g, 0, rfl, by rw [Nat.zero_add]; exact hcl i hi⟩
    obtain ⟨ie5, hi5', _, hs5', _⟩ := info5
    have sl1 := fun w => slice_to g 0 (n + 1) cap n 22 5 1 Tryd.underlying22 hi5' hs5' (by omega) w
    have sl2 := fun w => slice_to g 0 n cap (n + 1) 22 5 1 Tryd.underlying22 hi5' hs5' (by omega) w
    rw [show ((n + 1 : Nat) : Int) = (n : Int) + 1 by omega] at sl2
    have hc14 := H14.out w2 (some ⟨g, 0, none⟩) cap hby (by have := HL.out; omega)
    rw [← HL.out] at hc14
    have HC14 := Lib.hid hc14
    have HCL := Lib.hid hcl
    have HFZ := Lib.hid hfz
    have H77 := Lib.hid hc77
    have HBY := Lib.hid hby
    have HWG := Lib.hid hWg
    clear hc14 hcl hfz hc77 hby hcap hown2 hgrow2 hnil2 hloc2 hsh2 hi5' hs5' hWg HOA HSA
    go_wp2_with fail
    refine HC14.out.mono ?_
    rintro e w3 ⟨p3, c3, rfl, hown3, hb3⟩
    have hc15 := H15.out w3 p c (HBI.out.later (HB2.out.trans (hb3.mono HB2.out.size))) HKc.out
    rw [← HL.out] at hc15
    have HC15 := Lib.hid hc15
    have HT3 := Lib.hid (own_tks hown3)
    have HP3 := Lib.hid (show ∀ b off, p3 = some ⟨b, off, none⟩ → ¬ b = g from fun b off e => by
      obtain ⟨q, cq, hv, hsh⟩ := own_shape hown3
      cases hv
      have h1 := (hsh _ e).2
      have h2 := HWG.out.2
      show ¬ b = g
      have h3 : w2.heap.size ≤ b := h1
      omega)
    have HB3 := Lib.hid hb3
    clear hc15 hown3 hb3 HC14
    go_wp2_with fail
    refine HC15.out.mono ?_
    rintro e w4 ⟨p4, c4, rfl, hown4, hb4⟩
    have HT4 := Lib.hid (own_tks hown4)
    have HP4 := Lib.hid (show ∀ b off, p4 = some ⟨b, off, none⟩ → ¬ b = g from fun b off e => by
      obtain ⟨q, cq, hv, hsh⟩ := own_shape hown4
      cases hv
      have h1 := (hsh _ e).2
      have h2 := HWG.out.2
      have h4 := HB3.out.size
      have h3 : w3.heap.size ≤ b := h1
      omega)
    obtain ⟨L, hL⟩ : ∃ L, L = l.length := ⟨_, rfl⟩
    have HLL := Lib.hid hL
    rw [← hL] at hll ⊢
    have hsm := same_any p3 p4 c3 c4 L l w4 (HT3.out.later hb4) HT4.out HLL.out.symm hll
    have HSM := Lib.hid hsm
    have HB4 := Lib.hid (HB3.out.trans (hb4.mono HB3.out.size))
    have HT34 := Lib.hid (HT3.out.later hb4)
    clear hown4 hb4 hL hsm HC15
    go_wp2_with fail
    refine HSM.out.mono ?_
    rintro e w5 ⟨rfl, hb5⟩
    have HB5 := Lib.hid (HB4.out.trans (hb5.mono HB4.out.size))
    have hbW := HB2.out.trans (HB5.out.mono HB2.out.size)
    have HBW := Lib.hid hbW
    have HT35 := Lib.hid (HT34.out.later hb5)
    have HT45 := Lib.hid (HT4.out.later hb5)
    have cvA := conv_all w5 (some ⟨g, 0, none⟩) cap bs (HBY.out.later HB5.out)
    have cvB := conv_all w5 p c bs (HBI.out.later hbW)
    rw [← HL.out] at cvA cvB
    have c77 := cell_later HB5.out H77.out
    have HC5 := Lib.hid (show ∀ i, i < n → ∃ z : Int, w5.cell? ⟨g, i, none⟩ = some (.int .u8 z) from fun i hi => ⟨_, cell_later HB5.out (HCL.out i (by have := HL.out; omega))⟩)
    have HF5 := Lib.hid (show ∀ i, i < n → w5.frozen? ⟨g, i, none⟩ = false from fun i hi => by rw [HB5.out.frozen (p := ⟨g, i, none⟩) HWG.out.2]; exact HFZ.out i (by omega))
    have m1 : (0 : Int) ≤ (n : Int) + 1 := by omega
    have m2 : ((n : Int) + 1).toNat = n + 1 := by omega
    clear hb5 hbW HSM
    go_wp2_with fail
    go_loopg [10] n (fun gk s10 wx => ∃ k : Nat, k + gk = n ∧ s10 = .int .i64 (k : Int) ∧ Hid (Only (· = g) w5 wx ∧ (∀ i, i < n → ∃ z : Int, wx.cell? ⟨g, i, none⟩ = some (.int .u8 z)) ∧ (∀ i, i < n → wx.frozen? ⟨g, i, none⟩ = false)))
    case atStart => exact ⟨0, by omega, rfl, Lib.hid ⟨Only.refl _ _, HC5.out, HF5.out⟩⟩
    case round =>
      obtain ⟨k, hk2, rfl, HI⟩ := hrel
      obtain ⟨ho, hc, hf⟩ := HI.out
      have HG := Lib.hid hk2
      have hkn : k ≤ n := by omega
      clear hk2
      by_cases hlt : k < n
      · have j0 : (0 : Int) ≤ (k : Int) := by omega
        have j1 : (k : Int) < (n : Int) := by omega
        obtain ⟨z, hz⟩ := hc k hlt
        have hfk := hf k hlt
        clear ho hc hf
        go_wp2_with fail
        go_roundg (gk - 1)
        case measure => have := HG.out; omega
        case rel =>
          obtain ⟨k', hk'⟩ : ∃ k', k' = k + 1 := ⟨_, rfl⟩
          refine ⟨k', by have := HG.out; omega, by rw [hk']; go_num, Lib.hid ⟨HI.out.1.trans (only_set _ _ _ _), fun i hi => ?_, fun i hi => ?_⟩⟩
          · by_cases e : i = k
            · subst e; exact ⟨_, World.cell?_setCell_same _ _ _ hz⟩
            · obtain ⟨z2, hz2⟩ := HI.out.2.1 i hi
              exact ⟨z2, by rw [World.cell?_setCell_other _ _ _ _ (by intro h; cases h; exact e rfl)]; exact hz2⟩
          · rw [World.frozen?_setCell]; exact HI.out.2.2 i hi
      · have hsm := same_any p3 p4 c3 c4 L l wr (HT35.out.only ho HP3.out) (HT45.out.only ho HP4.out) HLL.out.symm hll
        have HSM := Lib.hid hsm
        have HB6 := Lib.hid (HBW.out.trans (ho.below (B := W.heap.size) (fun j hj => by rw [hj]; exact HWG.out.1) HBW.out.size))
        have j1 : ¬ (k : Int) < (n : Int) := by omega
        have j2 : decide (k < n) = false := by simp; omega
        clear ho hc hf hsm HI
        go_wp2_with fail
        refine HSM.out.mono ?_
        rintro e w7 ⟨rfl, hb7⟩
        have HB7 := Lib.hid (HB6.out.trans (hb7.mono HB6.out.size))
        clear hb7
        go_wp2_with fail
        refine (known_any _).mono ?_
        rintro e w8 ⟨rfl, hb8⟩
        have HB8 := Lib.hid (HB7.out.trans (hb8.mono HB7.out.size))
        clear hb8
        go_wp2_with fail
        go_ret
        exact ⟨rfl, HB8.out⟩
  · have g1 : ¬ (20000 : Int) < (n : Int) := by omega
    have g3 : decide ((20000 : Int) < (n : Int)) = false := by simpa using g1
    clear hcase hn
    go_enter Tryd.func3, Tryd.ntmps3
    go_wp2_with (at_builtin; refine wpList_append_any2 rfl _ _ 22 rfl W.heap.size 5 i5 (.int .u8 0) 1 1 Tryd.underlying22 hi5 hz0 hz1 hz2 rfl (by omega) _ 0 [] rfl (own_empty W) p n c NW rfl HPN'.out ?qa1 (by rw [HNW.out]; exact bytes_news HB0.out) ?qa2 ?qa3 ?qa4 (by simp) ?_)
    case qa1 => rw [HNW.out, List.length_map, ← HL.out]
    case qa2 => intro u hu; rw [HNW.out] at hu; obtain ⟨x, _, rfl⟩ := List.mem_map.1 hu; rfl
    case qa3 => have hml : maxLen = 9223372036854775807 := rfl; omega
    case qa4 => omega
    intro v1 w1 hown1 hb1
    simp only [Nat.zero_add, List.nil_append, HNW.out] at hown1
    obtain ⟨p1, c1, rfl, hA_⟩ := own_shape hown1
    have hbA := hb1.trans ((below1 w1 (.cells #[.int .u8 77] 5)).mono (by have := hb1.size; simp at this; omega))
    have HOA := Lib.hid (own_later hown1 (below1 w1 (.cells #[.int .u8 77] 5)))
    have HSA := Lib.hid (show W.heap.size ≤ (w1.alloc (.cells #[.int .u8 77] 5)).heap.size by have := hb1.size; simp at this ⊢; omega)
    have HBA := Lib.hid ((below1 W (.cells #[] 5)).trans hbA)
    clear hown1 hb1 hbA hA_
    go_wp2_with (at_builtin; refine wpList_append_own_at _ rfl _ _ 22 rfl W.heap.size 5 i5 (.int .u8 0) 1 1 Tryd.underlying22 hi5 hz0 hz1 hz2 rfl (by omega) _ n (bs.map u8v) rfl HOA.out ⟨w1.heap.size, 0, none⟩ 1 1 [.int .u8 77] rfl rfl ?qb2 ?qb3 ?qb4 ?qb5 HSA.out ?_)
    case qb2 =>
      intro jj u hjj
      rw [Lib.add_plain]
      match jj, hjj with
      | 0, hjj => cases hjj; simp [go_sem]
    case qb3 => intro u hu; simp at hu; rcases hu with rfl; rfl
    case qb4 => have hml : maxLen = 9223372036854775807 := rfl; omega
    case qb5 => omega
    intro v2 w2 hown2 hgrow2 hnil2 hloc2
    have hcap := hown2
    obtain ⟨p2, cap, hv2, hsh2⟩ := own_shape hown2
    subst hv2
    have hcap2 := own_cap hown2
    obtain ⟨g, hg2⟩ : ∃ g, p2 = some ⟨g, 0, none⟩ := by
      rcases hown2.2 with ⟨e, _⟩ | ⟨g, _, _, e, _⟩
      · injection e with _ e2 _; omega
      · injection e with e2 _ _; exact ⟨g, e2⟩
    subst hg2
    have hWg := own_lt hown2 (k := g) rfl
    have HB2 := Lib.hid (HBA.out.trans ((Below.refl _ _).grown hgrow2 HSA.out (fun k hk => (World.ownsRow.lt HOA.out k hk).1)))
    have hcl : ∀ i (hi : i < bs.length), w2.cell? ⟨g, i, none⟩ = some (.int .u8 (bs[i].toNat : Int)) := fun i hi => (own_cell hown2 i _ (by rw [List.getElem?_append_left (by simpa using hi), List.getElem?_map, List.getElem?_eq_getElem hi]; rfl)).1
    have hfz : ∀ i, i < n + 1 → w2.frozen? ⟨g, i, none⟩ = false := fun i hi => by
      have hl : (bs.map u8v ++ [Value.int .u8 77]).length = n + 1 := by have := HL.out; simp; omega
      exact (own_cell hown2 i _ (List.getElem?_eq_getElem (by rw [hl]; exact hi))).2
    have hc77 : w2.cell? ⟨g, n, none⟩ = some (.int .u8 77) := (own_cell hown2 n _ (by rw [List.getElem?_append_right (by have := HL.out; simp; omega)]; have := HL.out; simp [← this])).1
    have hby : BytesIn w2 (some ⟨g, 0, none⟩) bs := fun i hi => ⟨g, 0, rfl, by rw [Nat.zero_add]; exact hcl i hi⟩
    obtain ⟨ie5, hi5', _, hs5', _⟩ := info5
    have sl1 := fun w => slice_to g 0 (n + 1) cap n 22 5 1 Tryd.underlying22 hi5' hs5' (by omega) w
    have sl2 := fun w => slice_to g 0 n cap (n + 1) 22 5 1 Tryd.underlying22 hi5' hs5' (by omega) w
    rw [show ((n + 1 : Nat) : Int) = (n : Int) + 1 by omega] at sl2
    have hc14 := H14.out w2 (some ⟨g, 0, none⟩) cap hby (by have := HL.out; omega)
    rw [← HL.out] at hc14
    have HC14 := Lib.hid hc14
    have HCL := Lib.hid hcl
    have HFZ := Lib.hid hfz
    have H77 := Lib.hid hc77
    have HBY := Lib.hid hby
    have HWG := Lib.hid hWg
    clear hc14 hcl hfz hc77 hby hcap hown2 hgrow2 hnil2 hloc2 hsh2 hi5' hs5' hWg HOA HSA
    go_wp2_with fail
    refine HC14.out.mono ?_
    rintro e w3 ⟨p3, c3, rfl, hown3, hb3⟩
    have hc15 := H15.out w3 p c (HBI.out.later (HB2.out.trans (hb3.mono HB2.out.size))) HKc.out
    rw [← HL.out] at hc15
    have HC15 := Lib.hid hc15
    have HT3 := Lib.hid (own_tks hown3)
    have HP3 := Lib.hid (show ∀ b off, p3 = some ⟨b, off, none⟩ → ¬ b = g from fun b off e => by
      obtain ⟨q, cq, hv, hsh⟩ := own_shape hown3
      cases hv
      have h1 := (hsh _ e).2
      have h2 := HWG.out.2
      show ¬ b = g
      have h3 : w2.heap.size ≤ b := h1
      omega)
    have HB3 := Lib.hid hb3
    clear hc15 hown3 hb3 HC14
    go_wp2_with fail
    refine HC15.out.mono ?_
    rintro e w4 ⟨p4, c4, rfl, hown4, hb4⟩
    have HT4 := Lib.hid (own_tks hown4)
    have HP4 := Lib.hid (show ∀ b off, p4 = some ⟨b, off, none⟩ → ¬ b = g from fun b off e => by
      obtain ⟨q, cq, hv, hsh⟩ := own_shape hown4
      cases hv
      have h1 := (hsh _ e).2
      have h2 := HWG.out.2
      have h4 := HB3.out.size
      have h3 : w3.heap.size ≤ b := h1
      omega)
    obtain ⟨L, hL⟩ : ∃ L, L = l.length := ⟨_, rfl⟩
    have HLL := Lib.hid hL
    rw [← hL] at hll ⊢
    have hsm := same_any p3 p4 c3 c4 L l w4 (HT3.out.later hb4) HT4.out HLL.out.symm hll
    have HSM := Lib.hid hsm
    have HB4 := Lib.hid (HB3.out.trans (hb4.mono HB3.out.size))
    have HT34 := Lib.hid (HT3.out.later hb4)
    clear hown4 hb4 hL hsm HC15
    go_wp2_with fail
    refine HSM.out.mono ?_
    rintro e w5 ⟨rfl, hb5⟩
    have HB5 := Lib.hid (HB4.out.trans (hb5.mono HB4.out.size))
    have hbW := HB2.out.trans (HB5.out.mono HB2.out.size)
    have HBW := Lib.hid hbW
    have HT35 := Lib.hid (HT34.out.later hb5)
    have HT45 := Lib.hid (HT4.out.later hb5)
    have cvA := conv_all w5 (some ⟨g, 0, none⟩) cap bs (HBY.out.later HB5.out)
    have cvB := conv_all w5 p c bs (HBI.out.later hbW)
    rw [← HL.out] at cvA cvB
    have c77 := cell_later HB5.out H77.out
    have HC5 := Lib.hid (show ∀ i, i < n → ∃ z : Int, w5.cell? ⟨g, i, none⟩ = some (.int .u8 z) from fun i hi => ⟨_, cell_later HB5.out (HCL.out i (by have := HL.out; omega))⟩)
    have HF5 := Lib.hid (show ∀ i, i < n → w5.frozen? ⟨g, i, none⟩ = false from fun i hi => by rw [HB5.out.frozen (p := ⟨g, i, none⟩) HWG.out.2]; exact HFZ.out i (by omega))
    have m1 : (0 : Int) ≤ (n : Int) + 1 := by omega
    have m2 : ((n : Int) + 1).toNat = n + 1 := by omega
    clear hb5 hbW HSM
    go_wp2_with fail
    go_loopg [10] n (fun gk s10 wx => ∃ k : Nat, k + gk = n ∧ s10 = .int .i64 (k : Int) ∧ Hid (Only (· = g) w5 wx ∧ (∀ i, i < n → ∃ z : Int, wx.cell? ⟨g, i, none⟩ = some (.int .u8 z)) ∧ (∀ i, i < n → wx.frozen? ⟨g, i, none⟩ = false)))
    case atStart => exact ⟨0, by omega, rfl, Lib.hid ⟨Only.refl _ _, HC5.out, HF5.out⟩⟩
    case round =>
      obtain ⟨k, hk2, rfl, HI⟩ := hrel
      obtain ⟨ho, hc, hf⟩ := HI.out
      have HG := Lib.hid hk2
      have hkn : k ≤ n := by omega
      clear hk2
      by_cases hlt : k < n
      · have j0 : (0 : Int) ≤ (k : Int) := by omega
        have j1 : (k : Int) < (n : Int) := by omega
        obtain ⟨z, hz⟩ := hc k hlt
        have hfk := hf k hlt
        clear ho hc hf
        go_wp2_with fail
        go_roundg (gk - 1)
        case measure => have := HG.out; omega
        case rel =>
          obtain ⟨k', hk'⟩ : ∃ k', k' = k + 1 := ⟨_, rfl⟩
          refine ⟨k', by have := HG.out; omega, by rw [hk']; go_num, Lib.hid ⟨HI.out.1.trans (only_set _ _ _ _), fun i hi => ?_, fun i hi => ?_⟩⟩
          · by_cases e : i = k
            · subst e; exact ⟨_, World.cell?_setCell_same _ _ _ hz⟩
            · obtain ⟨z2, hz2⟩ := HI.out.2.1 i hi
              exact ⟨z2, by rw [World.cell?_setCell_other _ _ _ _ (by intro h; cases h; exact e rfl)]; exact hz2⟩
          · rw [World.frozen?_setCell]; exact HI.out.2.2 i hi
      · have hsm := same_any p3 p4 c3 c4 L l wr (HT35.out.only ho HP3.out) (HT45.out.only ho HP4.out) HLL.out.symm hll
        have HSM := Lib.hid hsm
        have HB6 := Lib.hid (HBW.out.trans (ho.below (B := W.heap.size) (fun j hj => by rw [hj]; exact HWG.out.1) HBW.out.size))
        have j1 : ¬ (k : Int) < (n : Int) := by omega
        have j2 : decide (k < n) = false := by simp; omega
        clear ho hc hf hsm HI
        go_wp2_with fail
        refine HSM.out.mono ?_
        rintro e w7 ⟨rfl, hb7⟩
        have HB7 := Lib.hid (HB6.out.trans (hb7.mono HB6.out.size))
        clear hb7
        go_wp2_with fail
        refine (known_any _).mono ?_
        rintro e w8 ⟨rfl, hb8⟩
        have HB8 := Lib.hid (HB7.out.trans (hb8.mono HB7.out.size))
        clear hb8
        go_wp2_with fail
        go_ret
        exact ⟨rfl, HB8.out⟩
theorem tokens_law (p : Option Addr) (c : Nat) (bs : List UInt8) (W : World) (hb : BytesIn W p bs) (hk : bs.length ≤ c) (hp : p = none → bs.length = 0 ∧ c = 0) (h47 : bs.length + 1 ≤ 140737488355328) :
    Calls Tryd.prog 3 #[.slice p bs.length c] W fun e w' => e = .returned (.bool true) ∧ Below W.heap.size W w' := by
  by_cases h1 : bs.length ≤ 20000
  · obtain ⟨l, a, er, ht⟩ := toks_total bs bs.length 0 (by omega)
    have hl := ht.len
    exact tokens_walk p c bs W l a er hb hk (.inl h1) hp h47 (by omega) (fun W' p' c' hb' hk' => (tokens_any p' c' bs W' hb' hk' (by omega)).mono fun e w' h => tokg_any ht h) (fun W' p' c' hb' hk' => (reftokens_any p' c' bs W' hb' hk' (by omega)).mono fun e w' h => tokg_any ht h)
  · by_cases h2 : bs.length ≤ 1048576
    · exact tokens_mid p c bs.length W (by omega) h2
    · refine tokens_walk p c bs W [] 0 3 hb hk (.inr (by omega)) hp h47 (by simp) (fun W' p' c' hb' hk' => (tokens_long p' c' bs.length W' (by omega)).mono ?_) (fun W' p' c' hb' hk' => (reftokens_long p' c' bs.length W' (by omega)).mono ?_)
      · rintro e w' ⟨rfl, rfl⟩; exact ⟨none, 0, rfl, World.ownsRow_nil _ _ _ _, Below.refl _ _⟩
      · rintro e w' ⟨rfl, rfl⟩; exact ⟨none, 0, rfl, World.ownsRow_nil _ _ _ _, Below.refl _ _⟩
end Go.Proofs.YtlifankiljbdjaaDoor
