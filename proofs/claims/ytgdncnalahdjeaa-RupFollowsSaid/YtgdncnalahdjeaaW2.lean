/- What comes, as the document has it: plain. Come: what comes, as the document has it. may, Units, follows, Follows, as the document has them. Row, as the document has it; same. RupUnits, RupFollows, RupRows: the walks, and every case. -/
import Derived.Test.YtgdncnalahdjeaaW1
namespace Go.Proofs.Ytgdncnalahdjeaa
open Go

/-- a clause's first k literals looked at, by what is there. -/
structure Scan (H c : List Int) (k : Nat) (left : Int) (two done : Bool) : Prop where
  dn : done = true ↔ ∃ i, i < k ∧ fnL c i ∈ H
  lf : (left = 0 ∧ ∀ i, i < k → -(fnL c i) ∈ H) ∨ (left ≠ 0 ∧ ∃ i, i < k ∧ fnL c i = left ∧ -(fnL c i) ∉ H)
  tw : two = true → ∃ i j, i < k ∧ j < k ∧ fnL c i ≠ fnL c j ∧ -(fnL c i) ∉ H ∧ -(fnL c j) ∉ H
  on : two = false → ∀ i, i < k → -(fnL c i) ∉ H → fnL c i = left
theorem Scan.start (H c : List Int) : Scan H c 0 0 false false :=
  ⟨⟨fun h => (by cases h), fun ⟨i, h, _⟩ => by omega⟩, .inl ⟨rfl, fun i hi => by omega⟩, fun h => (by cases h), fun _ i hi => by omega⟩
theorem scan_dn {H c : List Int} {k : Nat} {done : Bool} (h : done = true ↔ ∃ i, i < k ∧ fnL c i ∈ H) : (done || decide (fnL c k ∈ H)) = true ↔ ∃ i, i < k + 1 ∧ fnL c i ∈ H := by
  rw [Bool.or_eq_true, decide_eq_true_eq, h]
  constructor
  · rintro (⟨i, a, b⟩ | b)
    · exact ⟨i, by omega, b⟩
    · exact ⟨k, by omega, b⟩
  · rintro ⟨i, a, b⟩
    by_cases e : i = k
    · subst e; exact .inr b
    · exact .inl ⟨i, by omega, b⟩
theorem Scan.shut {H c : List Int} {k : Nat} {left : Int} {two done : Bool} (h : Scan H c k left two done) (hm : -(fnL c k) ∈ H) : Scan H c (k + 1) left two (done || decide (fnL c k ∈ H)) := by
  refine ⟨scan_dn h.dn, ?_, fun e => ?_, fun e i hi ho => ?_⟩
  · rcases h.lf with ⟨a, b⟩ | ⟨a, i, b, d, e⟩
    · refine .inl ⟨a, fun i hi => ?_⟩
      by_cases e : i = k
      · subst e; exact hm
      · exact b i (by omega)
    · exact .inr ⟨a, i, by omega, d, e⟩
  · obtain ⟨i, j, a, b, d⟩ := h.tw e
    exact ⟨i, j, by omega, by omega, d⟩
  · by_cases e2 : i = k
    · subst e2; exact absurd hm ho
    · exact h.on e i (by omega) ho
theorem Scan.opens {H c : List Int} {k : Nat} {left : Int} {two done : Bool} (h : Scan H c k left two done) (hm : -(fnL c k) ∉ H) (h0 : fnL c k ≠ 0) : Scan H c (k + 1) (fnL c k) (two || (left != 0 && left != fnL c k)) (done || decide (fnL c k ∈ H)) := by
  refine ⟨scan_dn h.dn, .inr ⟨h0, k, by omega, rfl, hm⟩, fun e => ?_, fun e i hi ho => ?_⟩
  · rw [Bool.or_eq_true, Bool.and_eq_true, bne_iff_ne, bne_iff_ne] at e
    rcases e with e | ⟨e1, e2⟩
    · obtain ⟨i, j, a, b, d⟩ := h.tw e
      exact ⟨i, j, by omega, by omega, d⟩
    · rcases h.lf with ⟨a, _⟩ | ⟨_, i, b, d, e⟩
      · exact absurd a e1
      · exact ⟨i, k, by omega, by omega, by rw [d]; exact e2, e, hm⟩
  · rw [Bool.or_eq_false_iff, Bool.and_eq_false_iff, bne_eq_false_iff_eq, bne_eq_false_iff_eq] at e
    by_cases e2 : i = k
    · subst e2; rfl
    · have h1 := h.on e.1 i (by omega) ho
      rcases e.2 with e3 | e3
      · rcases h.lf with ⟨_, b⟩ | ⟨b, _⟩
        · exact absurd (b i (by omega)) ho
        · exact absurd e3 b
      · rw [h1, e3]
theorem fn_mem {c : List Int} {i : Nat} (h : i < c.length) : fnL c i ∈ c := by
  unfold fnL
  rw [getD_eq h]
  exact List.getElem_mem ..
theorem mem_fn {c : List Int} {x : Int} (h : x ∈ c) : ∃ i, i < c.length ∧ fnL c i = x := by
  obtain ⟨i, hi, e⟩ := List.mem_iff_getElem.1 h
  exact ⟨i, hi, by unfold fnL; rw [getD_eq hi]; exact e⟩
/-- nothing comes of a clause now. -/
def Settled (H c : List Int) : Prop := (∃ l, l ∈ c ∧ l ∈ H) ∨ ∃ a b, a ∈ c ∧ b ∈ c ∧ a ≠ b ∧ -a ∉ H ∧ -b ∉ H
theorem Scan.settled {H c : List Int} {left : Int} {two done : Bool} (h : Scan H c c.length left two done) (ho : (done || two) = true) : Settled H c := by
  rw [Bool.or_eq_true] at ho
  rcases ho with e | e
  · obtain ⟨i, hi, hm⟩ := h.dn.1 e
    exact .inl ⟨_, fn_mem hi, hm⟩
  · obtain ⟨i, j, a, b, d, e1, e2⟩ := h.tw e
    exact .inr ⟨_, _, fn_mem a, fn_mem b, d, e1, e2⟩
theorem Scan.against {H c : List Int} {two done : Bool} (h : Scan H c c.length 0 two done) : ∀ l, l ∈ c → -l ∈ H := fun l hl => by
  obtain ⟨i, hi, rfl⟩ := mem_fn hl
  rcases h.lf with ⟨_, b⟩ | ⟨b, _⟩
  · exact b i hi
  · exact absurd rfl b
theorem Scan.unit {H c : List Int} {left : Int} (h : Scan H c c.length left false false) (h0 : left ≠ 0) : left ∈ c ∧ left ∉ H ∧ ∀ k, k ∈ c → k ≠ left → -k ∈ H := by
  rcases h.lf with ⟨b, _⟩ | ⟨_, i, hi, e, _⟩
  · exact absurd b h0
  refine ⟨e ▸ fn_mem hi, fun hm => ?_, fun k hk hne => ?_⟩
  · have := h.dn.2 ⟨i, hi, by rw [e]; exact hm⟩
    cases this
  · obtain ⟨j, hj, rfl⟩ := mem_fn hk
    exact Classical.byContradiction fun ho => hne (h.on rfl j hj ho)
/-- how many literals are not there yet. -/
def miss (db : List (List Int)) (H : List Int) : Nat := db.flatten.countP fun x => !decide (x ∈ H)
theorem countP_lt {α : Type} (p q : α → Bool) (x : α) (hpq : ∀ y, p y = true → q y = true) (h1 : q x = true) (h2 : p x = false) : ∀ l : List α, x ∈ l → l.countP p < l.countP q := by
  intro l
  induction l with
  | nil => intro h; simp at h
  | cons y l ih =>
    intro h
    have hle : l.countP p ≤ l.countP q := List.countP_mono_left fun z _ hz => hpq z hz
    rw [List.countP_cons, List.countP_cons]
    rcases List.mem_cons.1 h with rfl | h
    · rw [h1, h2]; simp; omega
    · have := ih h
      cases hp : p y with
      | true => rw [hpq y hp]; simp; omega
      | false => cases q y <;> simp <;> omega
theorem miss_lt {db : List (List Int)} {H c : List Int} {l : Int} (hc : c ∈ db) (hl : l ∈ c) (hm : l ∉ H) : miss db (H ++ [l]) < miss db H :=
  countP_lt _ _ l (fun y hy => by
    simp only [Bool.not_eq_true', decide_eq_false_iff_not, List.mem_append] at hy ⊢
    exact fun h => hy (.inl h)) (by simp [hm]) (by simp) _ (List.mem_flatten.2 ⟨c, hc, hl⟩)
/-- what is there so far. -/
structure Have (db : List (List Int)) (gv H : List Int) : Prop where
  giv : ∀ l, l ∈ gv → l ∈ H
  der : ∀ l, l ∈ H → Der db gv l
  len : H.length + miss db H ≤ gv.length + db.flatten.length
theorem Have.start (db : List (List Int)) (gv : List Int) : Have db gv gv := ⟨fun _ h => h, fun _ h => .given h, Nat.add_le_add_left List.countP_le_length _⟩
theorem Have.more {db : List (List Int)} {gv H c : List Int} {l : Int} (h : Have db gv H) (hc : c ∈ db) (hl : l ∈ c) (hm : l ∉ H) (hu : ∀ k, k ∈ c → k ≠ l → -k ∈ H) : Have db gv (H ++ [l]) := by
  refine ⟨fun x hx => List.mem_append_left _ (h.giv x hx), fun x hx => ?_, ?_⟩
  · rcases List.mem_append.1 hx with hx | hx
    · exact h.der x hx
    · rw [List.mem_singleton.1 hx]
      exact .unit hc hl (fun k hk hne => h.der _ (hu k hk hne))
  · have := miss_lt hc hl hm
    have := h.len
    rw [List.length_append, List.length_singleton]
    omega
theorem Have.clash {db : List (List Int)} {gv H c : List Int} (h : Have db gv H) (hc : c ∈ db) (hu : ∀ l, l ∈ c → -l ∈ H) : Confl db gv := Confl.clause hc fun k hk => h.der _ (hu k hk)
theorem Have.done {db : List (List Int)} {gv H : List Int} (h : Have db gv H) (hs : ∀ c, c ∈ db → Settled H c) (hco : ∀ l, l ∈ H → -l ∉ H) : ¬ Confl db gv ∧ ∀ l, l ∈ H ↔ Der db gv l := by
  have key : ∀ l, Der db gv l → l ∈ H := by
    intro l hl
    induction hl with
    | given hl => exact h.giv _ hl
    | @unit c l hc hl _ ih =>
      rcases hs c hc with ⟨x, h1, h2⟩ | ⟨a, b, h1, h2, h3, h4, h5⟩
      · by_cases e : x = l
        · exact e ▸ h2
        · exact absurd (ih x h1 e) (hco x h2)
      · by_cases e : a = l
        · by_cases e2 : b = l
          · exact absurd (e.trans e2.symm) h3
          · exact absurd (ih b h2 e2) h5
        · exact absurd (ih a h1 e) h4
  refine ⟨?_, fun l => ⟨h.der l, key l⟩⟩
  rintro (hc | ⟨l, a, b⟩)
  · rcases hs [] hc with ⟨x, h1, _⟩ | ⟨a, b, h1, _⟩
    · simp at h1
    · simp at h1
  · exact hco l (key l a) (key _ b)
/-- a list of literals that says nothing. -/
theorem refNoth_iff {H : List Int} (hL : ∀ l, l ∈ H → isLitB l = true) : refNothB H.length (fnL H) = false ↔ ∀ l, l ∈ H → -l ∉ H := by
  have big : ∀ l, l ∈ H → l ≠ 0 ∧ -1048576 ≤ l ∧ l ≤ 1048576 := fun l hl => by
    have := hL l hl
    unfold isLitB at this
    simp only [Bool.and_eq_true, bne_iff_ne, decide_eq_true_eq] at this
    exact ⟨this.1.1, this.1.2, this.2⟩
  have hI : ∀ i, i < H.length → I64 (fnL H i) := fun i hi => by
    obtain ⟨_, b, d⟩ := big _ (fn_mem hi)
    constructor <;> omega
  rw [← nothB_ref _ _ hI]
  unfold nothB
  constructor
  · intro h l hl hn
    obtain ⟨i, hi, e⟩ := mem_fn hl
    obtain ⟨j, hj, e2⟩ := mem_fn hn
    obtain ⟨b0, b1, b2⟩ := big l hl
    have hy : anyB H.length (fun i => pred54 H.length (fnL H) (fnL H i)) = true := (anyB_iff _ _).2 ⟨i, hi, by
      unfold pred54
      have en : negI (fnL H i) = -l := by rw [e]; unfold negI; rw [if_neg (by omega)]
      rw [Bool.and_eq_true, bne_iff_ne, en, e]
      exact ⟨hasB_yes j hj e2, by omega⟩⟩
    rw [hy] at h
    cases h
  · intro h
    refine anyB_no fun i hi => ?_
    unfold pred54
    have hm := fn_mem hi
    obtain ⟨b0, b1, b2⟩ := big _ hm
    have en : negI (fnL H i) = -(fnL H i) := by unfold negI; rw [if_neg (by omega)]
    rw [Bool.and_eq_false_iff, en]
    refine .inl (hasB_no fun j hj e => h _ hm ?_)
    rw [← e]
    exact fn_mem hj
theorem Der.isLit {db : List (List Int)} {gv : List Int} {l : Int} (h : Der db gv l) (h1 : ∀ c, c ∈ db → ∀ x, x ∈ c → isLitB x = true) (h2 : ∀ x, x ∈ gv → isLitB x = true) : isLitB l = true := by
  rcases h.lit with h | ⟨c, hc, hl⟩
  · exact h2 _ h
  · exact h1 c hc _ hl
end Go.Proofs.Ytgdncnalahdjeaa
namespace Go.Proofs.Ytgdncnalahdjeaa
open Go Go.RowKit Go.Maps

/-- what comes, or a conflict. -/
def ComeOut (dbl : List (List Int)) (gv : List Int) (e : Ending) (w' : World) : Prop :=
  (Confl dbl gv ∧ e = .returned (.tuple #[.slice none 0 0, .bool false])) ∨
  (¬ Confl dbl gv ∧ ∃ p c o, e = .returned (.tuple #[.slice p o.length c, .bool true]) ∧ LitsIn w' p o.length (fnL o) ∧ o.Pairwise ltI ∧ o.length ≤ 5000 ∧ ∀ l, l ∈ o ↔ Der dbl gv l)
structure OutI (dbl : List (List Int)) (gv H : List Int) (m : Bool) (g : Nat) (w wx : World) (s : Value) : Prop where
  num : g = 2 * miss dbl H + (if m then 1 else 0)
  hav : Have dbl gv H
  bel : Below w.heap.size w wx
  row : wx.ownsRow w.heap.size 54 1 s H.length (H.map (Value.int .i64))
  set : m = false → ∀ c, c ∈ dbl → Settled H c
structure MidI (dbl : List (List Int)) (gv H H' : List Int) (m : Bool) (j g n : Nat) (w wx : World) (s : Value) : Prop where
  num : j + g = n
  hav : Have dbl gv H'
  bel : Below w.heap.size w wx
  row : wx.ownsRow w.heap.size 54 1 s H'.length (H'.map (Value.int .i64))
  more : m = true → miss dbl H' < miss dbl H
  set : m = false → H' = H ∧ ∀ c, c ∈ dbl.take j → Settled H c
theorem take_mem {α : Type} {l : List α} {j : Nat} (h : j < l.length) {P : α → Prop} (h1 : ∀ c, c ∈ l.take j → P c) (h2 : P l[j]) : ∀ c, c ∈ l.take (j + 1) → P c := fun c hc => by
  rw [← List.take_append_getElem h] at hc
  rcases List.mem_append.1 hc with hc | hc
  · exact h1 c hc
  · rw [List.mem_singleton.1 hc]; exact h2
theorem or_ways {a b : Bool} (h : (a || b) = true) : a = true ∨ (a = false ∧ b = true) := by cases a <;> cases b <;> simp_all
theorem or_none {a b : Bool} (h : (a || b) = false) : a = false ∧ b = false := by simpa using h
set_option maxRecDepth 100000 in
set_option maxHeartbeats 4000000 in
theorem come_at (p : Option Addr) (z : Nat) (dbl : List (List Int)) (q : Option Addr) (zq : Nat) (gv : List Int) (w : World) (hV : RowsIn w p dbl) (hn : dbl.length ≤ 1000000) (hq : LitsIn w q gv.length (fnL gv)) (hqz : q = none → zq = 0) (hl1 : ∀ c, c ∈ dbl → ∀ x, x ∈ c → isLitB x = true) (hl2 : ∀ x, x ∈ gv → isLitB x = true) (hc5 : ∀ c, c ∈ dbl → c.length ≤ 5000) (hsum : gv.length + dbl.flatten.length ≤ 5000) :
    Calls Try.prog 53 #[.slice p dbl.length z, .slice q gv.length zq] w fun e w' => ComeOut dbl gv e w' ∧ Below w.heap.size w w' := by
  obtain ⟨i54, hi54, hz0, hz1, hz2⟩ := info54
  have HC := copied_any q gv.length zq (fnL gv) w hq (by omega) hqz
  rw [rowL_fn] at HC
  have HV := Lib.hid hV
  have HL1 := Lib.hid hl1
  have HL2 := Lib.hid hl2
  have HC5 := Lib.hid hc5
  have HSUM := Lib.hid hsum
  clear hV hq hl1 hl2 hc5
  obtain ⟨n, hnn⟩ : ∃ n, dbl.length = n := ⟨_, rfl⟩
  obtain ⟨gn, hgn⟩ : ∃ n, gv.length = n := ⟨_, rfl⟩
  have hgn5 : gn ≤ 5000 := by omega
  have HN := Lib.hid hnn
  have HGN := Lib.hid hgn
  rw [hnn] at hn ⊢
  rw [hgn] at HC ⊢
  clear hnn hgn hsum
  go_enter Try.func53, Try.ntmps53
  go_wp2_with fail
  refine HC.mono ?_
  rintro e w1 ⟨v1, rfl, ho1, hb1⟩
  have HI0 := Lib.hid (OutI.mk (m := true) rfl (Have.start dbl gv) hb1 (by rw [HGN.out]; exact ho1) (fun h => by cases h))
  clear HC ho1 hb1
  go_wp2_with fail
  go_loopg [6, 7] (2 * miss dbl gv + 1) (fun gk s6 s7 wx => ∃ (H : List Int) (m : Bool), s7 = .bool m ∧ Hid (OutI dbl gv H m gk w wx s6))
  case atStart => exact ⟨gv, true, rfl, HI0⟩
  case round =>
    obtain ⟨H, m, rfl, HI⟩ := hrel
    generalize gk = G at *
    cases m with
    | true =>
      have HM0 := Lib.hid (MidI.mk (H := H) (m := false) (j := 0) (g := n) (n := n) (by omega) HI.out.hav HI.out.bel HI.out.row (fun h => by cases h) (fun _ => ⟨rfl, fun c hc => by simp at hc⟩))
      go_wp2_with fail
      go_loopg [6, 7, 8] n (fun gk s6 s7 s8 wx => ∃ (j : Nat) (H' : List Int) (m : Bool), s8 = .int .i64 (j : Int) ∧ s7 = .bool m ∧ Hid (MidI dbl gv H H' m j gk n w wx s6))
      case atStart => exact ⟨0, H, false, rfl, rfl, HM0⟩
      case round =>
        obtain ⟨j, H', m, rfl, rfl, HJ⟩ := hrel
        generalize gk = GJ at *
        have hjle : j ≤ n := by have := HJ.out.num; omega
        obtain ⟨ps, cs, hs6, hB_⟩ := own_shp HJ.out.row
        clear hB_
        subst hs6
        have hin : LitsIn wr ps H'.length (fnL H') := lits_own HJ.out.row
        have hhl : H'.length ≤ 5000 := by have := HJ.out.hav.len; have := HSUM.out; omega
        by_cases hjn : j < n
        · obtain ⟨b, off, rfl, hVi⟩ := (HV.out.later HJ.out.bel) (by have := HN.out; omega)
          have hkl : j < dbl.length := by have := HN.out; omega
          obtain ⟨qc, zc, cx, hqc⟩ := hVi j _ (List.getElem?_eq_getElem hkl)
          have hdm := List.getElem_mem hkl
          have HTK := Lib.hid (take_mem hkl (P := Settled H))
          have hdl := HC5.out _ hdm
          have HLI := Lib.hid (HL1.out _ hdm)
          generalize dbl[j] = d at *
          have HDM := Lib.hid hdm
          obtain ⟨L, hL⟩ : ∃ L, d.length = L := ⟨_, rfl⟩
          rw [hL] at cx hqc hdl
          have HL := Lib.hid hL
          have HQC := Lib.hid hqc
          have HIN := Lib.hid hin
          have e2 : (0 : Int) ≤ (j : Int) := by omega
          have j1 : (j : Int) < (n : Int) := by omega
          have HJLE := Lib.hid hjle
          have HS0 := Lib.hid (Scan.start H' d)
          clear hVi hkl hdm hL hqc hin hjle
          go_wp2_with fail
          go_loopg [9, 10, 11, 12] L (fun gk s9 s10 s11 s12 wx => ∃ (k : Nat) (left : Int) (two done : Bool), s12 = .int .i64 (k : Int) ∧ s9 = .int .i64 left ∧ s10 = .bool two ∧ s11 = .bool done ∧ wr = wx ∧ Hid (k + gk = L ∧ Scan H' d k left two done ∧ -1048576 ≤ left ∧ left ≤ 1048576))
          case atStart => exact ⟨0, 0, false, false, rfl, rfl, rfl, rfl, rfl, Lib.hid ⟨by omega, HS0.out, by omega, by omega⟩⟩
          case round =>
            obtain ⟨k, left, two, done, rfl, rfl, rfl, rfl, hw, HK⟩ := hrel
            obtain rfl := hw.symm
            obtain ⟨hkg, hsc, l0, l1⟩ := HK.out
            have HKG := Lib.hid hkg
            have HSC := Lib.hid hsc
            have hkL : k ≤ L := by omega
            clear hkg hsc HK
            by_cases hk : k < L
            · obtain ⟨b2, off2, rfl, hDi⟩ := HQC.out (by omega)
              have cv := hDi k hk
              have hxl := HLI.out _ (fn_mem (c := d) (i := k) (by have := HL.out; omega))
              have k0 : (0 : Int) ≤ (k : Int) := by omega
              have k1 : (k : Int) < (L : Int) := by omega
              have k2 : (L : Int) ≤ 5000 := by omega
              have HSS := Lib.hid (HSC.out.shut)
              have HSO := Lib.hid (HSC.out.opens)
              generalize fnL d k = x at *
              have hx0 : x ≠ 0 ∧ -1048576 ≤ x ∧ x ≤ 1048576 := by
                unfold isLitB at hxl
                simp only [Bool.and_eq_true, bne_iff_ne, decide_eq_true_eq] at hxl
                exact ⟨hxl.1.1, hxl.1.2, hxl.2⟩
              have HX0 := Lib.hid hx0.1
              have x0 := hx0.2.1
              have x1 := hx0.2.2
              have ew : IntKind.i64.wrap (-x) = -x := by rw [IntKind.wrap_i64]; omega
              have H1 := refHas_any ps H'.length cs (fnL H') x wr HIN.out (by omega)
              have H2 := refHas_any ps H'.length cs (fnL H') (-x) wr HIN.out (by omega)
              rw [show hasB H'.length (fnL H') x = decide (x ∈ H') from hasB_list H' x] at H1
              rw [show hasB H'.length (fnL H') (-x) = decide (-x ∈ H') from hasB_list H' (-x)] at H2
              clear hDi hxl hx0 hkL
              by_cases hm : x ∈ H'
              · rw [decide_eq_true hm] at H1 HSS HSO
                rw [Bool.or_true] at HSS HSO
                by_cases ho : -x ∈ H'
                · rw [decide_eq_true ho] at H2
                  have HR := Lib.hid (HSS.out ho)
                  clear hm ho HSS HSO
                  go_wp2_with fail
                  refine H1.mono ?_
                  rintro e w2 ⟨rfl, hw2⟩
                  obtain rfl := hw2.symm
                  clear H1
                  go_wp2_with fail
                  refine H2.mono ?_
                  rintro e w2 ⟨rfl, hw2⟩
                  obtain rfl := hw2.symm
                  clear H2
                  go_wp2_with fail
                  go_roundg (L - (k + 1))
                  case measure => have := HKG.out; omega
                  case rel => exact ⟨k + 1, left, two, true, by go_num, rfl, rfl, rfl, rfl, Lib.hid ⟨by have := HKG.out; omega, HR.out, l0, l1⟩⟩
                · rw [decide_eq_false ho] at H2
                  have HR := Lib.hid (HSO.out ho HX0.out)
                  clear hm ho HSS HSO
                  go_wp2_with fail
                  refine H1.mono ?_
                  rintro e w2 ⟨rfl, hw2⟩
                  obtain rfl := hw2.symm
                  clear H1
                  go_wp2_with fail
                  refine H2.mono ?_
                  rintro e w2 ⟨rfl, hw2⟩
                  obtain rfl := hw2.symm
                  clear H2
                  by_cases h0 : left = 0
                  · subst h0
                    have hr := HR.out
                    simp only [bne_self_eq_false, Bool.false_and, Bool.or_false] at hr
                    have HR3 := Lib.hid hr
                    clear hr HR
                    go_wp2_with fail
                    go_roundg (L - (k + 1))
                    case measure => have := HKG.out; omega
                    case rel => exact ⟨k + 1, x, two, true, by go_num, rfl, rfl, rfl, rfl, Lib.hid ⟨by have := HKG.out; omega, HR3.out, x0, x1⟩⟩
                  · by_cases hx : left = x
                    · subst hx
                      have hr := HR.out
                      simp only [bne_self_eq_false, Bool.and_false, Bool.or_false] at hr
                      have HR3 := Lib.hid hr
                      have q0 : (left != 0) = true := by simpa using h0
                      clear hr HR h0
                      go_wp2_with fail
                      go_roundg (L - (k + 1))
                      case measure => have := HKG.out; omega
                      case rel => exact ⟨k + 1, left, two, true, by go_num, rfl, rfl, rfl, rfl, Lib.hid ⟨by have := HKG.out; omega, HR3.out, l0, l1⟩⟩
                    · have q0 : (left != 0) = true := by simpa using h0
                      have q1 : (left != x) = true := by simpa using hx
                      have hr := HR.out
                      rw [q0, q1, Bool.and_true, Bool.or_true] at hr
                      have HR3 := Lib.hid hr
                      clear hr HR h0 hx
                      go_wp2_with fail
                      go_roundg (L - (k + 1))
                      case measure => have := HKG.out; omega
                      case rel => exact ⟨k + 1, x, true, true, by go_num, rfl, rfl, rfl, rfl, Lib.hid ⟨by have := HKG.out; omega, HR3.out, x0, x1⟩⟩
              · rw [decide_eq_false hm] at H1 HSS HSO
                rw [Bool.or_false] at HSS HSO
                by_cases ho : -x ∈ H'
                · rw [decide_eq_true ho] at H2
                  have HR := Lib.hid (HSS.out ho)
                  clear hm ho HSS HSO
                  go_wp2_with fail
                  refine H1.mono ?_
                  rintro e w2 ⟨rfl, hw2⟩
                  obtain rfl := hw2.symm
                  clear H1
                  go_wp2_with fail
                  refine H2.mono ?_
                  rintro e w2 ⟨rfl, hw2⟩
                  obtain rfl := hw2.symm
                  clear H2
                  go_wp2_with fail
                  go_roundg (L - (k + 1))
                  case measure => have := HKG.out; omega
                  case rel => exact ⟨k + 1, left, two, done, by go_num, rfl, rfl, rfl, rfl, Lib.hid ⟨by have := HKG.out; omega, HR.out, l0, l1⟩⟩
                · rw [decide_eq_false ho] at H2
                  have HR := Lib.hid (HSO.out ho HX0.out)
                  clear hm ho HSS HSO
                  go_wp2_with fail
                  refine H1.mono ?_
                  rintro e w2 ⟨rfl, hw2⟩
                  obtain rfl := hw2.symm
                  clear H1
                  go_wp2_with fail
                  refine H2.mono ?_
                  rintro e w2 ⟨rfl, hw2⟩
                  obtain rfl := hw2.symm
                  clear H2
                  by_cases h0 : left = 0
                  · subst h0
                    have hr := HR.out
                    simp only [bne_self_eq_false, Bool.false_and, Bool.or_false] at hr
                    have HR3 := Lib.hid hr
                    clear hr HR
                    go_wp2_with fail
                    go_roundg (L - (k + 1))
                    case measure => have := HKG.out; omega
                    case rel => exact ⟨k + 1, x, two, done, by go_num, rfl, rfl, rfl, rfl, Lib.hid ⟨by have := HKG.out; omega, HR3.out, x0, x1⟩⟩
                  · by_cases hx : left = x
                    · subst hx
                      have hr := HR.out
                      simp only [bne_self_eq_false, Bool.and_false, Bool.or_false] at hr
                      have HR3 := Lib.hid hr
                      have q0 : (left != 0) = true := by simpa using h0
                      clear hr HR h0
                      go_wp2_with fail
                      go_roundg (L - (k + 1))
                      case measure => have := HKG.out; omega
                      case rel => exact ⟨k + 1, left, two, done, by go_num, rfl, rfl, rfl, rfl, Lib.hid ⟨by have := HKG.out; omega, HR3.out, l0, l1⟩⟩
                    · have q0 : (left != 0) = true := by simpa using h0
                      have q1 : (left != x) = true := by simpa using hx
                      have hr := HR.out
                      rw [q0, q1, Bool.and_true, Bool.or_true] at hr
                      have HR3 := Lib.hid hr
                      clear hr HR h0 hx
                      go_wp2_with fail
                      go_roundg (L - (k + 1))
                      case measure => have := HKG.out; omega
                      case rel => exact ⟨k + 1, x, true, done, by go_num, rfl, rfl, rfl, rfl, Lib.hid ⟨by have := HKG.out; omega, HR3.out, x0, x1⟩⟩
            · obtain rfl : k = L := by omega
              have hsc := HSC.out
              rw [← HL.out] at hsc
              cases hdt : (done || two) with
              | true =>
                have HST := Lib.hid (hsc.settled hdt)
                have HD := Lib.hid hdt
                clear hsc hkL
                have hor := or_ways HD.out
                rcases hor with rfl | ⟨rfl, rfl⟩
                all_goals
                  clear hdt
                  go_wp2_with fail
                  go_roundg (n - (j + 1))
                  case measure => have := HJ.out.num; omega
                  case rel => exact ⟨j + 1, H', m, by go_num, rfl, Lib.hid ⟨by have := HJ.out.num; have := HJLE.out; omega, HJ.out.hav, HJ.out.bel, HJ.out.row, HJ.out.more, fun hmf => ⟨(HJ.out.set hmf).1, HTK.out (HJ.out.set hmf).2 (by have := HST.out; rw [(HJ.out.set hmf).1] at this; exact this)⟩⟩⟩
              | false =>
                obtain ⟨rfl, rfl⟩ := or_none hdt
                clear hdt
                by_cases h0 : left = 0
                · subst h0
                  have HCF := Lib.hid (HJ.out.hav.clash HDM.out hsc.against)
                  have HBL := Lib.hid HJ.out.bel
                  clear hsc
                  go_wp2_with fail
                  go_ret2
                  exact ⟨.inl ⟨HCF.out, rfl⟩, HBL.out⟩
                · have hu := hsc.unit h0
                  have h1 := HJ.out.hav.more HDM.out hu.1 hu.2.1 hu.2.2
                  have h2 := miss_lt HDM.out hu.1 hu.2.1
                  have h3 : miss dbl H' ≤ miss dbl H := by
                    cases m with
                    | true => exact Nat.le_of_lt (HJ.out.more rfl)
                    | false => rw [(HJ.out.set rfl).1]; exact Nat.le_refl _
                  have HH1 := Lib.hid h1
                  have HH2 := Lib.hid (Nat.lt_of_lt_of_le h2 h3)
                  have q0 : (left == 0) = false := by simpa using h0
                  have hal := below1 wr (.cells #[.int .i64 left] 54)
                  have HOW := Lib.hid (own_later HJ.out.row hal)
                  have HBL := Lib.hid (HJ.out.bel.trans (hal.mono HJ.out.bel.size))
                  have hws := HJ.out.bel.size
                  obtain ⟨N, hN⟩ : ∃ N, H'.length = N := ⟨_, rfl⟩
                  have hrl := HJ.out.row
                  rw [hN] at hrl hhl
                  have HNN := Lib.hid hN
                  have HOW2 := Lib.hid (show (wr.alloc (.cells #[.int .i64 left] 54)).ownsRow w.heap.size 54 1 (.slice ps N cs) N (H'.map (Value.int .i64)) by rw [← HNN.out]; exact HOW.out)
                  clear hsc hu h1 h2 h3 h0 hal hN hrl
                  rw [HNN.out]
                  go_wp2_with (at_builtin; refine wpList_append_own_at _ rfl _ _ 23 rfl w.heap.size 54 i54 (.int .i64 0) 1 8 Try.underlying23 hi54 hz0 hz1 hz2 rfl (by omega) _ N (H'.map (Value.int .i64)) rfl HOW2.out ⟨wr.heap.size, 0, none⟩ 1 1 [.int .i64 left] rfl rfl ?qc2 ?qc3 ?qc4 ?qc5 ?qc6 ?_)
                  case qc3 => first | rfl | (intro u hu; simp at hu; rcases hu with rfl; rfl)
                  case qc4 => have hml : maxLen = 9223372036854775807 := rfl; omega
                  case qc5 => omega
                  case qc6 => first | omega | (simp; omega)
                  intro v5 w5 hown hgrow _ hloc
                  have hb5 : Below w.heap.size w w5 := HBL.out.grown hgrow (by simp; omega) (fun k hk => (own_lt HOW2.out hk).1)
                  have hown' : w5.ownsRow w.heap.size 54 1 v5 (H' ++ [left]).length ((H' ++ [left]).map (Value.int .i64)) := by
                    rw [List.length_append, HNN.out]
                    simpa using hown
                  have HI5 := Lib.hid (MidI.mk (H := H) (m := true) (j := j + 1) (g := n - (j + 1)) (n := n) (by have := HJLE.out; omega) HH1.out hb5 hown' (fun _ => HH2.out) (fun h => by cases h))
                  clear hown hown' hgrow hloc hb5
                  go_wp2_with fail
                  go_roundg (n - (j + 1))
                  case measure => have := HJ.out.num; omega
                  case rel => exact ⟨j + 1, H' ++ [left], true, by go_num, rfl, HI5⟩
        · obtain rfl : j = n := by omega
          have HF := Lib.hid (show OutI dbl gv H' m (2 * miss dbl H' + (if m then 1 else 0)) w wr (.slice ps H'.length cs) from ⟨rfl, HJ.out.hav, HJ.out.bel, HJ.out.row, fun hmf => by
            obtain ⟨e, h⟩ := HJ.out.set hmf
            rw [e]
            rw [← HN.out, List.take_length] at h
            exact h⟩)
          have hlt : 2 * miss dbl H' + (if m then 1 else 0) < G := by
            have h1 := HI.out.num
            simp at h1
            cases m with
            | true => have := HJ.out.more rfl; simp; omega
            | false => rw [(HJ.out.set rfl).1]; simp; omega
          have HLT := Lib.hid hlt
          clear hlt hin
          go_wp2_with fail
          go_roundg (2 * miss dbl H' + (if m then 1 else 0))
          case measure => exact HLT.out
          case rel => exact ⟨H', m, rfl, HF⟩
    | false =>
      obtain ⟨ps, cs, hs6, hB_⟩ := own_shp HI.out.row
      clear hB_
      subst hs6
      have hin : LitsIn wr ps H.length (fnL H) := lits_own HI.out.row
      have hhl : H.length ≤ 5000 := by have := HI.out.hav.len; have := HSUM.out; omega
      have hlit : ∀ l, l ∈ H → isLitB l = true := fun l hl => (HI.out.hav.der l hl).isLit HL1.out HL2.out
      have hI : ∀ i, i < H.length → I64 (fnL H i) := fun i hi => by
        have := hlit _ (fn_mem hi)
        unfold isLitB at this
        simp only [Bool.and_eq_true, bne_iff_ne, decide_eq_true_eq] at this
        constructor <;> omega
      have HS := refSays_any ps H.length cs (fnL H) wr hin (by omega) hI
      cases hno : refNothB H.length (fnL H) with
      | true =>
        rw [hno] at HS
        have hcf : Confl dbl gv := Classical.byContradiction fun hc => by
          have h1 := (refNoth_iff hlit).2 (fun l hl hl2 => hc (.inr ⟨l, HI.out.hav.der l hl, HI.out.hav.der _ hl2⟩))
          rw [hno] at h1
          cases h1
        have HCF := Lib.hid hcf
        have HBL := Lib.hid HI.out.bel
        clear hin hlit hI hno hcf
        go_wp2_with fail
        refine HS.mono ?_
        rintro e w2 ⟨rfl, hb2⟩
        have HB2 := Lib.hid (HBL.out.trans (hb2.mono HBL.out.size))
        clear HS hb2
        go_wp2_with fail
        go_ret2
        exact ⟨.inl ⟨HCF.out, rfl⟩, HB2.out⟩
      | false =>
        rw [hno] at HS
        have HDN := Lib.hid (HI.out.hav.done (HI.out.set rfl) ((refNoth_iff hlit).1 hno))
        obtain ⟨l, hl, hz⟩ := lits_all H.length (fnL H)
        have hz := hz ⟨hhl, fun i hi => hlit _ (fn_mem hi)⟩
        have hmem := nums_mem l H.length (fnL H) hl hz
        have hsp := formL_spec l
        have hfl := formL_len l
        have hspec : ∀ x, x ∈ formL l ↔ Der dbl gv x := fun x => by
          rw [hsp.2, hmem, ← HDN.out.2, ← rowL_mem H.length (fnL H), rowL_fn]
        have HSP := Lib.hid (And.intro hsp.1 hspec)
        have hfl5 : (formL l).length ≤ 5000 := by omega
        have HN9 := Lib.hid (fun (W : World) (h : LitsIn W ps H.length (fnL H)) => refNormal_any ps H.length cs (fnL H) l W h (by omega) (fun i hi => hlit _ (fn_mem hi)) hmem)
        have HBL := Lib.hid HI.out.bel
        have HIN := Lib.hid hin
        clear hin hlit hI hno hl hz hmem hsp hspec hfl
        generalize formL l = o at *
        go_wp2_with fail
        refine HS.mono ?_
        rintro e w2 ⟨rfl, hb2⟩
        have HN2 := HN9.out w2 (HIN.out.later hb2)
        have HB2 := Lib.hid (HBL.out.trans (hb2.mono HBL.out.size))
        clear HS hb2
        go_wp2_with fail
        refine HN2.mono ?_
        rintro e w9 ⟨v9, rfl, ho9, hb9⟩
        obtain ⟨p9, c9, hv9, hB_⟩ := own_shp ho9
        clear hB_
        subst hv9
        have HI9 := Lib.hid (lits_own ho9)
        have HB9 := Lib.hid (HB2.out.trans (hb9.mono HB2.out.size))
        clear HN2 ho9 hb9
        go_wp2_with fail
        go_ret2
        exact ⟨.inr ⟨HDN.out.1, p9, c9, o, rfl, HI9.out, HSP.out.1, hfl5, HSP.out.2⟩, HB9.out⟩
end Go.Proofs.Ytgdncnalahdjeaa
namespace Go.Proofs.Ytgdncnalahdjeaa
open Go Go.RowKit Go.Maps

theorem refMayC (q : Option Addr) (z : Nat) (c : List Int) (w : World) (hV : LitsIn w q c.length (fnL c)) (hn : c.length ≤ 9223372036854775807) :
    Calls Try.prog 52 #[.slice q c.length z] w fun e w' => e = .returned (.bool (mayC c)) ∧ w' = w := by
  refine (refMay_any q c.length z (fnL c) w hV hn).mono ?_
  rintro e w' ⟨⟨rfl, h⟩ | ⟨rfl, h⟩, hw⟩
  · exact ⟨by rw [(mayC_iff c).2 h], hw⟩
  · refine ⟨?_, hw⟩
    cases hm : mayC c with
    | true => exact absurd ((mayC_iff c).1 hm) h
    | false => rfl
theorem allMay_yes {dbl : List (List Int)} (h : ∀ c, c ∈ dbl → mayC c = true) : allMay dbl = true := List.all_eq_true.2 h
theorem allMay_at {dbl : List (List Int)} {c : List Int} (hc : c ∈ dbl) (h : mayC c = false) : allMay dbl = false := by
  cases ha : allMay dbl with
  | false => rfl
  | true => rw [List.all_eq_true.1 ha c hc] at h; cases h
set_option maxRecDepth 100000 in
set_option maxHeartbeats 800000 in
theorem refMayAll (p : Option Addr) (z : Nat) (dbl : List (List Int)) (w : World) (hV : RowsIn w p dbl) (hn : dbl.length ≤ 9223372036854775807) (hf : Fit63 dbl) :
    Calls Try.prog 51 #[.slice p dbl.length z] w fun e w' => e = .returned (.bool (allMay dbl)) ∧ w' = w := by
  have HV := Lib.hid hV
  have HF := Lib.hid hf
  clear hV hf
  obtain ⟨n, hnn⟩ : ∃ n, dbl.length = n := ⟨_, rfl⟩
  have HN := Lib.hid hnn
  rw [hnn] at hn ⊢
  clear hnn
  go_enter Try.func51, Try.ntmps51
  go_wp2_with fail
  go_loopw [3] (fun i wr => ∃ j : Nat, j ≤ n ∧ i = .int .i64 j ∧ w = wr ∧ Hid (∀ c, c ∈ dbl.take j → mayC c = true)) (fun i _ => n - (intOf i).toNat)
  case atStart => exact ⟨0, by omega, rfl, rfl, Lib.hid (fun c hc => by simp at hc)⟩
  case round =>
    obtain ⟨j, hj, rfl, hw, HALL⟩ := hrel
    obtain rfl := hw.symm
    by_cases hlt : j < n
    · obtain ⟨b, off, rfl, hVi⟩ := HV.out (by have := HN.out; omega)
      have hkl : j < dbl.length := by have := HN.out; omega
      obtain ⟨qc, zc, cx, hqc⟩ := hVi j _ (List.getElem?_eq_getElem hkl)
      have hdm := List.getElem_mem hkl
      have HTK := Lib.hid (take_mem hkl (P := fun c => mayC c = true) HALL.out)
      have H1 := refMayC qc zc dbl[j] wr hqc (HF.out _ hdm)
      generalize dbl[j] = d at *
      have HDM := Lib.hid hdm
      have hj0 : (0 : Int) ≤ (j : Int) := by omega
      have hj1 : (j : Int) < (n : Int) := by omega
      clear hVi hkl hqc hdm
      obtain ⟨L, hL⟩ : ∃ L, d.length = L := ⟨_, rfl⟩
      rw [hL] at cx H1
      clear hL
      cases hm : mayC d with
      | true =>
        rw [hm] at H1
        have HM := Lib.hid (HTK.out hm)
        clear hm
        go_wp2_with fail
        refine H1.mono ?_
        rintro e w1 ⟨rfl, hw⟩
        obtain rfl := hw.symm
        clear H1
        go_wp2_with fail
        go_roundw
        case rel => exact ⟨j + 1, by omega, by go_num, trivial, HM⟩
        case measure => simp [intOf]; omega
      | false =>
        rw [hm] at H1
        have HM := Lib.hid (allMay_at HDM.out hm)
        clear hm
        go_wp2_with fail
        refine H1.mono ?_
        rintro e w1 ⟨rfl, hw⟩
        obtain rfl := hw.symm
        clear H1
        go_wp2_with fail
        go_ret
        exact ⟨by rw [HM.out]; rfl, rfl⟩
    · obtain rfl : j = n := by omega
      have hall := HALL.out
      rw [← HN.out, List.take_length] at hall
      have HM := Lib.hid (allMay_yes hall)
      clear hall
      go_wp2_with fail
      go_ret
      exact ⟨by rw [HM.out]; rfl, rfl⟩
theorem may_lits {dbl : List (List Int)} (h : allMay dbl = true) : (∀ c, c ∈ dbl → ∀ x, x ∈ c → isLitB x = true) ∧ ∀ c, c ∈ dbl → c.length ≤ 5000 :=
  ⟨fun c hc x hx => by
    obtain ⟨i, hi, rfl⟩ := mem_fn hx
    exact ((mayC_iff c).1 (List.all_eq_true.1 h c hc)).2 i hi, fun c hc => ((mayC_iff c).1 (List.all_eq_true.1 h c hc)).1⟩
theorem may_lit {c : List Int} (h : mayC c = true) : ∀ x, x ∈ c → isLitB x = true := fun x hx => by
  obtain ⟨i, hi, rfl⟩ := mem_fn hx
  exact ((mayC_iff c).1 h).2 i hi
/-- Units' answer, as the document has it. -/
def RUnits (dbl : List (List Int)) (gv : List Int) (e : Ending) (w' : World) : Prop :=
  (¬ (allMay dbl = true ∧ mayC gv = true) ∧ e = .returned (.tuple #[.slice none 0 0, .bool false, .int .i64 2])) ∨ (allMay dbl = true ∧ mayC gv = true ∧
  ((Confl dbl gv ∧ e = .returned (.tuple #[.slice none 0 0, .bool true, .int .i64 0])) ∨
  (¬ Confl dbl gv ∧ ∃ p c o, e = .returned (.tuple #[.slice p o.length c, .bool false, .int .i64 0]) ∧ LitsIn w' p o.length (fnL o) ∧ o.Pairwise ltI ∧ o.length ≤ 5000 ∧ ∀ l, l ∈ o ↔ Der dbl gv l)))
set_option maxRecDepth 100000 in
set_option maxHeartbeats 1600000 in
theorem refUnits_at (p : Option Addr) (z : Nat) (dbl : List (List Int)) (q : Option Addr) (zq : Nat) (gv : List Int) (w : World) (hV : RowsIn w p dbl) (hn : dbl.length ≤ 1000000) (hf : Fit63 dbl) (hq : LitsIn w q gv.length (fnL gv)) (hqz : q = none → zq = 0) (hsum : gv.length + dbl.flatten.length ≤ 5000) :
    Calls Try.prog 22 #[.slice p dbl.length z, .slice q gv.length zq] w fun e w' => RUnits dbl gv e w' ∧ Below w.heap.size w w' := by
  have H1 := refMayAll p z dbl w hV (by omega) hf
  have H2 := refMayC q zq gv w hq (by omega)
  have H3 := Lib.hid (fun (ha : allMay dbl = true) (hm : mayC gv = true) => come_at p z dbl q zq gv w hV hn hq hqz (may_lits ha).1 (may_lit hm) (may_lits ha).2 hsum)
  clear hV hq hf hsum hn
  obtain ⟨n, hnn⟩ : ∃ n, dbl.length = n := ⟨_, rfl⟩
  obtain ⟨g, hg⟩ : ∃ n, gv.length = n := ⟨_, rfl⟩
  rw [hnn] at H1 H3 ⊢
  rw [hg] at H2 H3 ⊢
  clear hnn hg
  cases ha : allMay dbl with
  | false =>
    rw [ha] at H1
    have HA := Lib.hid ha
    clear ha H2 H3
    go_enter Try.func22, Try.ntmps22
    go_wp2_with fail
    refine H1.mono ?_
    rintro e w1 ⟨rfl, hw⟩
    obtain rfl := hw.symm
    clear H1
    go_wp2_with fail
    go_ret3
    exact ⟨.inl ⟨fun h => (by rw [HA.out] at h; exact absurd h.1 (by decide)), rfl⟩, Below.refl _ _⟩
  | true =>
    rw [ha] at H1
    have HA := Lib.hid ha
    clear ha
    cases hm : mayC gv with
    | false =>
      rw [hm] at H2
      have HM := Lib.hid hm
      clear hm H3
      go_enter Try.func22, Try.ntmps22
      go_wp2_with fail
      refine H1.mono ?_
      rintro e w1 ⟨rfl, hw⟩
      obtain rfl := hw.symm
      clear H1
      go_wp2_with fail
      refine H2.mono ?_
      rintro e w1 ⟨rfl, hw⟩
      obtain rfl := hw.symm
      clear H2
      go_wp2_with fail
      go_ret3
      exact ⟨.inl ⟨fun h => (by rw [HM.out] at h; exact absurd h.2 (by decide)), rfl⟩, Below.refl _ _⟩
    | true =>
      rw [hm] at H2
      have HM := Lib.hid hm
      have HC := H3.out HA.out hm
      clear hm H3
      go_enter Try.func22, Try.ntmps22
      go_wp2_with fail
      refine H1.mono ?_
      rintro e w1 ⟨rfl, hw⟩
      obtain rfl := hw.symm
      clear H1
      go_wp2_with fail
      refine H2.mono ?_
      rintro e w1 ⟨rfl, hw⟩
      obtain rfl := hw.symm
      clear H2
      go_wp2_with fail
      refine HC.mono ?_
      rintro e w2 ⟨⟨hcf, rfl⟩ | ⟨hcf, p9, c9, o, rfl, hl9, hs9, h59, hd9⟩, hb2⟩
      · have HCF := Lib.hid hcf
        have HB := Lib.hid hb2
        clear HC hcf hb2
        go_wp2_with fail
        go_ret3
        exact ⟨.inr ⟨HA.out, HM.out, .inl ⟨HCF.out, rfl⟩⟩, HB.out⟩
      · have HF := Lib.hid (And.intro hl9 (And.intro hs9 (And.intro h59 hd9)))
        have HCF := Lib.hid hcf
        have HB := Lib.hid hb2
        clear HC hcf hb2 hl9 hs9 hd9
        go_wp2_with fail
        go_ret3
        exact ⟨.inr ⟨HA.out, HM.out, .inr ⟨HCF.out, p9, c9, o, rfl, HF.out⟩⟩, HB.out⟩
theorem negs_take {c : List Int} {j : Nat} (h : j < c.length) : (negs c).take (j + 1) = (negs c).take j ++ [-(fnL c j)] := by
  rw [List.take_add_one]
  unfold negs fnL
  rw [List.getElem?_map, List.getElem?_eq_getElem h, getD_eq h]
  rfl
theorem says_confl {dbl : List (List Int)} {c : List Int} (h : ¬ ∀ l, l ∈ c → -l ∉ c) : Confl dbl (negs c) := Classical.byContradiction fun hc => h fun l hl hn => hc (.inr ⟨l, .given (negs_mem.2 hn), .given (negs_mem.2 (by rw [Int.neg_neg]; exact hl))⟩)
set_option maxRecDepth 100000 in
set_option maxHeartbeats 1600000 in
theorem reffollows_at (p : Option Addr) (z : Nat) (dbl : List (List Int)) (q : Option Addr) (zq : Nat) (c : List Int) (w : World) (hV : RowsIn w p dbl) (hn : dbl.length ≤ 1000000) (hq : LitsIn w q c.length (fnL c)) (ha : allMay dbl = true) (hm : mayC c = true) (hsum : c.length + dbl.flatten.length ≤ 5000) :
    Calls Try.prog 55 #[.slice p dbl.length z, .slice q c.length zq] w fun e w' => ∃ f : Bool, e = .returned (.bool f) ∧ (f = true ↔ Confl dbl (negs c)) ∧ Below w.heap.size w w' := by
  obtain ⟨i54, hi54, hz0, hz1, hz2⟩ := info54
  have hlit := may_lit hm
  have hI : ∀ i, i < c.length → I64 (fnL c i) := fun i hi => by
    have := hlit _ (fn_mem hi)
    unfold isLitB at this
    simp only [Bool.and_eq_true, bne_iff_ne, decide_eq_true_eq] at this
    constructor <;> omega
  have HS := refSays_any q c.length zq (fnL c) w hq (by omega) hI
  have HCO := Lib.hid (fun (W : World) (hb : Below w.heap.size w W) (r : Option Addr) (zr : Nat) (hr : LitsIn W r (negs c).length (fnL (negs c))) (hrz : r = none → zr = 0) => come_at p z dbl r zr (negs c) W (hV.later hb) hn hr hrz (may_lits ha).1 (fun x hx => by
    have h1 := hlit _ (negs_mem.1 hx)
    unfold isLitB at h1 ⊢
    simp only [Bool.and_eq_true, bne_iff_ne, decide_eq_true_eq] at h1 ⊢
    omega) (may_lits ha).2 (by rw [show (negs c).length = c.length by simp [negs]]; exact hsum))
  have HQ := Lib.hid hq
  have HLIT := Lib.hid hlit
  have hc5 : c.length ≤ 5000 := by omega
  clear hV hq hI hsum ha hm hn
  obtain ⟨n, hnn⟩ : ∃ n, dbl.length = n := ⟨_, rfl⟩
  obtain ⟨m, hmm⟩ : ∃ n, c.length = n := ⟨_, rfl⟩
  have HM := Lib.hid hmm
  have HNL := Lib.hid (show (negs c).length = m by rw [← hmm]; simp [negs])
  rw [hnn] at HCO ⊢
  rw [hmm] at HS hc5 ⊢
  rw [HNL.out] at HCO
  cases hno : refNothB m (fnL c) with
  | true =>
    rw [hno] at HS
    have hcf : Confl dbl (negs c) := says_confl fun h => by
      have := (refNoth_iff HLIT.out).2 h
      rw [hmm, hno] at this
      cases this
    have HCF := Lib.hid hcf
    clear hno hcf hlit hnn hmm HCO
    go_enter Try.func55, Try.ntmps55
    go_wp2_with fail
    refine HS.mono ?_
    rintro e w2 ⟨rfl, hb2⟩
    have HB2 := Lib.hid hb2
    clear HS hb2
    go_wp2_with fail
    go_ret
    exact ⟨true, rfl, ⟨fun _ => HCF.out, fun _ => rfl⟩, HB2.out⟩
  | false =>
    rw [hno] at HS
    clear hno hlit hnn hmm
    go_enter Try.func55, Try.ntmps55
    go_wp2_with fail
    refine HS.mono ?_
    rintro e w2 ⟨rfl, hb2⟩
    have HB2 := Lib.hid hb2
    clear HS hb2
    go_wp2_with fail
    go_loopg [5, 6] m (fun gk s5 s6 wx => ∃ j : Nat, s6 = .int .i64 (j : Int) ∧ Hid (j + gk = m ∧ Below w.heap.size w wx ∧ wx.ownsRow w.heap.size 54 1 s5 j (((negs c).take j).map (Value.int .i64))))
    case atStart => exact ⟨0, rfl, Lib.hid ⟨by omega, HB2.out, World.ownsRow_nil _ _ _ _⟩⟩
    case round =>
      obtain ⟨j, rfl, HI⟩ := hrel
      obtain ⟨hjg, hbl, hrow⟩ := HI.out
      have HJG := Lib.hid hjg
      by_cases hjn : j < m
      · have hjl : j < c.length := by have := HM.out; omega
        obtain ⟨b, off, rfl, hVi⟩ := HQ.out (by have := HM.out; omega)
        have cx := cell_later hbl (hVi j hjl)
        have htk := negs_take (c := c) (j := j) hjl
        have hxl := HLIT.out _ (fn_mem hjl)
        have hx0 : -1048576 ≤ fnL c j ∧ fnL c j ≤ 1048576 := by
          unfold isLitB at hxl
          simp only [Bool.and_eq_true, bne_iff_ne, decide_eq_true_eq] at hxl
          exact ⟨hxl.1.2, hxl.2⟩
        have e2 : (0 : Int) ≤ (j : Int) := by omega
        have j1 : (j : Int) < (m : Int) := by omega
        have n1 : (m : Int) ≤ 5000 := by omega
        obtain ⟨ps, cs, hs3, hB_⟩ := own_shp hrow
        clear hB_
        subst hs3
        have HTK := Lib.hid htk
        generalize fnL c j = x at *
        have ew : IntKind.i64.wrap (-x) = -x := by rw [IntKind.wrap_i64]; omega
        have hal := below1 wr (.cells #[.int .i64 (-x)] 54)
        have HOW := Lib.hid (own_later hrow hal)
        have HBL := Lib.hid (hbl.trans (hal.mono hbl.size))
        have hws := hbl.size
        clear hVi hbl hrow hal htk HI hjl hxl hx0 hjg
        go_wp2_with (at_builtin; refine wpList_append_own_at _ rfl _ _ 23 rfl w.heap.size 54 i54 (.int .i64 0) 1 8 Try.underlying23 hi54 hz0 hz1 hz2 rfl (by omega) _ j (((negs c).take j).map (Value.int .i64)) rfl HOW.out ⟨wr.heap.size, 0, none⟩ 1 1 [.int .i64 (-x)] rfl rfl ?qc2 ?qc3 ?qc4 ?qc5 ?qc6 ?_)
        case qc2 =>
          intro jj u hjj
          rw [Lib.add_plain]
          match jj, hjj with
          | 0, hjj => cases hjj; simp [go_sem]
        case qc3 => intro u hu; simp at hu; rcases hu with rfl; rfl
        case qc4 => have hml : maxLen = 9223372036854775807 := rfl; omega
        case qc5 => omega
        case qc6 => simp; omega
        intro v5 w5 hown hgrow _ hloc
        have hb5 : Below w.heap.size w w5 := HBL.out.grown hgrow (by simp; omega) (fun k hk => (own_lt HOW.out hk).1)
        have hown' : w5.ownsRow w.heap.size 54 1 v5 (j + 1) (((negs c).take (j + 1)).map (Value.int .i64)) := by
          rw [HTK.out]
          simpa using hown
        have HI5 := Lib.hid (And.intro hb5 hown')
        clear hown hown' hgrow hloc hb5
        go_wp2_with fail
        go_roundg (m - (j + 1))
        case measure => have := HJG.out; omega
        case rel => exact ⟨j + 1, by go_num, Lib.hid ⟨by omega, HI5.out⟩⟩
      · obtain rfl : j = m := by omega
        rw [show (negs c).take j = negs c by rw [← HNL.out, List.take_length]] at hrow
        obtain ⟨ps, cs, hs3, hB_⟩ := own_shp hrow
        subst hs3
        have hin : LitsIn wr ps (negs c).length (fnL (negs c)) := by
          have ho := hrow
          rw [← HNL.out] at ho
          exact lits_own ho
        have hz : ps = none → cs = 0 := fun e => by
          rcases hrow.2 with ⟨h1, _⟩ | ⟨g, cap, cur, h1, _⟩
          · cases h1; rfl
          · cases h1; cases e
        rw [HNL.out] at hin
        have HC := HCO.out wr hbl ps cs hin hz
        have HBL := Lib.hid hbl
        clear hbl hrow hB_ hin hz HI hjg
        go_wp2_with fail
        refine HC.mono ?_
        rintro e w3 ⟨⟨hcf, rfl⟩ | ⟨hcf, p9, c9, o, rfl, hF⟩, hb3⟩
        · have HCF := Lib.hid hcf
          have HB3 := Lib.hid (HBL.out.trans (hb3.mono HBL.out.size))
          clear HC hcf hb3
          go_wp2_with fail
          go_ret
          exact ⟨true, rfl, ⟨fun _ => HCF.out, fun _ => rfl⟩, HB3.out⟩
        · have HCF := Lib.hid hcf
          have HB3 := Lib.hid (HBL.out.trans (hb3.mono HBL.out.size))
          clear HC hcf hb3 hF
          go_wp2_with fail
          go_ret
          exact ⟨false, rfl, ⟨fun h => absurd h (by decide), fun h => absurd h HCF.out⟩, HB3.out⟩
/-- Follows' answer. -/
def RFollows (dbl : List (List Int)) (c : List Int) (e : Ending) : Prop :=
  (¬ (allMay dbl = true ∧ mayC c = true) ∧ e = .returned (.tuple #[.bool false, .int .i64 2])) ∨ (allMay dbl = true ∧ mayC c = true ∧ ∃ f : Bool, e = .returned (.tuple #[.bool f, .int .i64 0]) ∧ (f = true ↔ Confl dbl (negs c)))
set_option maxRecDepth 100000 in
set_option maxHeartbeats 1600000 in
theorem refFollows_at (p : Option Addr) (z : Nat) (dbl : List (List Int)) (q : Option Addr) (zq : Nat) (c : List Int) (w : World) (hV : RowsIn w p dbl) (hn : dbl.length ≤ 1000000) (hf : Fit63 dbl) (hq : LitsIn w q c.length (fnL c)) (hsum : c.length + dbl.flatten.length ≤ 5000) :
    Calls Try.prog 26 #[.slice p dbl.length z, .slice q c.length zq] w fun e w' => RFollows dbl c e ∧ Below w.heap.size w w' := by
  have H1 := refMayAll p z dbl w hV (by omega) hf
  have H2 := refMayC q zq c w hq (by omega)
  have H3 := Lib.hid (fun (ha : allMay dbl = true) (hm : mayC c = true) => reffollows_at p z dbl q zq c w hV hn hq ha hm hsum)
  clear hV hq hf hsum hn
  obtain ⟨n, hnn⟩ : ∃ n, dbl.length = n := ⟨_, rfl⟩
  obtain ⟨g, hg⟩ : ∃ n, c.length = n := ⟨_, rfl⟩
  rw [hnn] at H1 H3 ⊢
  rw [hg] at H2 H3 ⊢
  clear hnn hg
  cases ha : allMay dbl with
  | false =>
    rw [ha] at H1
    have HA := Lib.hid ha
    clear ha H2 H3
    go_enter Try.func26, Try.ntmps26
    go_wp2_with fail
    refine H1.mono ?_
    rintro e w1 ⟨rfl, hw⟩
    obtain rfl := hw.symm
    clear H1
    go_wp2_with fail
    go_ret2
    exact ⟨.inl ⟨fun h => (by rw [HA.out] at h; exact absurd h.1 (by decide)), rfl⟩, Below.refl _ _⟩
  | true =>
    rw [ha] at H1
    have HA := Lib.hid ha
    clear ha
    cases hm : mayC c with
    | false =>
      rw [hm] at H2
      have HM := Lib.hid hm
      clear hm H3
      go_enter Try.func26, Try.ntmps26
      go_wp2_with fail
      refine H1.mono ?_
      rintro e w1 ⟨rfl, hw⟩
      obtain rfl := hw.symm
      clear H1
      go_wp2_with fail
      refine H2.mono ?_
      rintro e w1 ⟨rfl, hw⟩
      obtain rfl := hw.symm
      clear H2
      go_wp2_with fail
      go_ret2
      exact ⟨.inl ⟨fun h => (by rw [HM.out] at h; exact absurd h.2 (by decide)), rfl⟩, Below.refl _ _⟩
    | true =>
      rw [hm] at H2
      have HM := Lib.hid hm
      have HC := H3.out HA.out hm
      clear hm H3
      go_enter Try.func26, Try.ntmps26
      go_wp2_with fail
      refine H1.mono ?_
      rintro e w1 ⟨rfl, hw⟩
      obtain rfl := hw.symm
      clear H1
      go_wp2_with fail
      refine H2.mono ?_
      rintro e w1 ⟨rfl, hw⟩
      obtain rfl := hw.symm
      clear H2
      go_wp2_with fail
      refine HC.mono ?_
      rintro e w2 ⟨f, rfl, hcf, hb2⟩
      have HCF := Lib.hid hcf
      have HB := Lib.hid hb2
      clear HC hcf hb2
      go_wp2_with fail
      go_ret2
      exact ⟨.inr ⟨HA.out, HM.out, f, rfl, HCF.out⟩, HB.out⟩
end Go.Proofs.Ytgdncnalahdjeaa
namespace Go.Proofs.Ytgdncnalahdjeaa
open Go Go.RowKit Go.Maps

/-- rows of the call's own, each an argument's. -/
structure AllAt (w wr : World) (s : Value) (j : Nat) (bl : List (List Int)) : Prop where
  below : Below w.heap.size w wr
  row : ∃ rows : List Value, wr.ownsRow w.heap.size 23 1 s j rows ∧ ∀ (i : Nat) (c : List Int), bl[i]? = some c → ∃ p z, rows[i]? = some (Value.slice p c.length z) ∧ LitsIn w p c.length (fnL c)
theorem AllAt.rows {w wr : World} {ps : Option Addr} {cs j : Nat} {bl : List (List Int)} (h : AllAt w wr (.slice ps j cs) j bl) (hlen : bl.length = j) : RowsIn wr ps bl := fun hn => by
  obtain ⟨rows, h1, h2⟩ := h.row
  obtain ⟨g, c', e⟩ := own_some h1 (by omega)
  cases e
  refine ⟨g, 0, rfl, fun i c hi => ?_⟩
  obtain ⟨p, z, a, b⟩ := h2 i c hi
  rw [Nat.zero_add]
  exact ⟨p, z, (own_cell h1 i _ a).1, b.later h.below⟩
theorem AllAt.push {w wr w5 : World} {s v5 : Value} {j : Nat} {bl : List (List Int)} {c : List Int} {p : Option Addr} {z : Nat} {rows : List Value} (hlen : bl.length = j) (h1 : wr.ownsRow w.heap.size 23 1 s j rows) (h2 : ∀ (i : Nat) (c : List Int), bl[i]? = some c → ∃ p z, rows[i]? = some (Value.slice p c.length z) ∧ LitsIn w p c.length (fnL c)) (hl : LitsIn w p c.length (fnL c)) (hb : Below w.heap.size w w5)
    (hrow : w5.ownsRow w.heap.size 23 1 v5 (j + 1) (rows ++ [.slice p c.length z])) : AllAt w w5 v5 (j + 1) (bl ++ [c]) := by
  have hrl : rows.length = j := by have := h1.1; omega
  refine ⟨hb, _, hrow, fun i d hi => ?_⟩
  by_cases hij : i < j
  · rw [List.getElem?_append_left (by omega)] at hi
    obtain ⟨q, zq, a, b⟩ := h2 i d hi
    exact ⟨q, zq, by rw [List.getElem?_append_left (by omega)]; exact a, b⟩
  · have hi2 : i = j := by
      have := (List.getElem?_eq_some_iff.1 hi).1
      simp at this
      omega
    subst hi2
    rw [List.getElem?_append_right (by omega), hlen] at hi
    simp at hi
    subst hi
    exact ⟨p, z, by rw [List.getElem?_append_right (by omega), hrl]; simp, hl⟩
theorem AllAt.join {w wr : World} {s : Value} (h1 : wr.ownsRow w.heap.size 23 1 s 0 []) (hbl : Below w.heap.size w wr) {p : Option Addr} {z : Nat} {more : List (List Int)} (hm : RowsIn w p more) (hz : p = none → z = 0) (hk : more.length ≤ 1000) :
    ∃ v' w', (Builtin.append_ #[22, 22] 22 #[s, .slice p more.length z]).run Try.prog wr = .ok v' w' ∧ AllAt w w' v' more.length more := by
  obtain ⟨i23, hi23, hy0, hy1, hy2⟩ := info23
  cases p with
  | none =>
    have hz0 := hz rfl
    subst hz0
    have hm0 : more = [] := by
      cases more with
      | nil => rfl
      | cons c m => obtain ⟨b, off, e, _⟩ := hm (by simp); cases e
    subst hm0
    exact ⟨s, wr, run_append_owned_none (P := Try.prog) (w := wr) w.heap.size 22 22 23 i23 1 Try.underlying22 hi23 s 0 [] h1, hbl, [], h1, fun i c hi => by simp at hi⟩
  | some ad =>
    have each : ∀ i, i < more.length → ∃ y : Option Addr × Nat, w.cell? (ad.add i) = some (.slice y.1 (more.getD i []).length y.2) ∧ LitsIn w y.1 (more.getD i []).length (fnL (more.getD i [])) := fun i hi => by
      obtain ⟨b, off, e, hc⟩ := hm (by omega)
      cases e
      obtain ⟨q, zq, a1, a2⟩ := hc i _ (List.getElem?_eq_getElem hi)
      have eg : more.getD i [] = more[i] := getD_eq hi
      rw [eg]
      exact ⟨(q, zq), by rw [Lib.add_plain]; exact a1, a2⟩
    obtain ⟨y, hy⟩ := Deep.choose_lt each
    obtain ⟨v', w', hr, ho, hg, _, hloc⟩ := run_append_own_at (P := Try.prog) wr w.heap.size 22 22 23 i23 (.slice none 0 0) 1 24 Try.underlying22 hi23 hy0 hy1 hy2 rfl (by omega) s 0 [] h1 ad more.length z ((List.range more.length).map fun i => .slice (y i).1 (more.getD i []).length (y i).2) (by simp) (fun i u hu => by
      have him : i < more.length := by
        have := (List.getElem?_eq_some_iff.1 hu).1
        simpa using this
      simp [him] at hu
      subst hu
      have := (hy i him).1
      rw [show more.getD i [] = more[i] from getD_eq him] at this
      have := cell_later hbl this
      simpa [getD_eq him] using this) (fun u hu => by obtain ⟨i, _, rfl⟩ := List.mem_map.1 hu; rfl) (by unfold maxLen; omega) (by omega) hbl.size
    have hbw : Below w.heap.size w w' := hbl.grown hg hbl.size (fun k hk => (own_lt h1 hk).1)
    rw [Nat.zero_add, List.nil_append] at ho
    refine ⟨_, w', hr, hbw, _, ho, fun i c hi => ?_⟩
    have him : i < more.length := (List.getElem?_eq_some_iff.1 hi).1
    have hce : more.getD i [] = c := by rw [getD_eq him]; exact (List.getElem?_eq_some_iff.1 hi).2
    have hyi := hy _ him
    rw [hce] at hyi
    refine ⟨(y i).1, (y i).2, ?_, hyi.2⟩
    rw [List.getElem?_map, List.getElem?_range him]
    simp only [Option.map_some]
    rw [hce]
theorem made23 (w : World) : (w.alloc (.cells #[] 23)).ownsRow w.heap.size 23 1 (.slice (some ⟨w.heap.size, 0, none⟩) 0 0) 0 [] := World.ownsRow_made w #[] 0 (Nat.le_refl _) (by omega) (by simp)
/-- Row's answer. -/
def RRow (db row : List (List Int)) (e : Ending) : Prop :=
  (¬ (allMay db = true ∧ allMay row = true) ∧ e = .returned (.tuple #[.int .i64 0, .bool false, .int .i64 2])) ∨ (allMay db = true ∧ allMay row = true ∧ ∃ (n : Nat) (r : Bool), e = .returned (.tuple #[.int .i64 (n : Int), .bool r, .int .i64 0]) ∧ RowOut db row n r)
set_option maxRecDepth 100000 in
set_option maxHeartbeats 800000 in
theorem refRow_no (p : Option Addr) (z : Nat) (dbl : List (List Int)) (q : Option Addr) (zq : Nat) (row : List (List Int)) (W : World) (hV : RowsIn W p dbl) (hn : dbl.length ≤ 9223372036854775807) (hf : Fit63 dbl) (hq : RowsIn W q row) (hn2 : row.length ≤ 9223372036854775807) (hf2 : Fit63 row) (hno : allMay dbl = false ∨ allMay row = false) :
    Calls Try.prog 28 #[.slice p dbl.length z, .slice q row.length zq] W fun e w' => e = .returned (.tuple #[.int .i64 0, .bool false, .int .i64 2]) ∧ w' = W := by
  have H1 := refMayAll p z dbl W hV hn hf
  have H2 := refMayAll q zq row W hq hn2 hf2
  clear hV hf hq hf2
  cases ha : allMay dbl with
  | false =>
    rw [ha] at H1
    clear ha hno H2
    go_enter Try.func28, Try.ntmps28
    go_wp2_with fail
    refine H1.mono ?_
    rintro e w1 ⟨rfl, hw⟩
    obtain rfl := hw.symm
    clear H1
    go_wp2_with fail
    go_ret3
    exact ⟨rfl, rfl⟩
  | true =>
    have hc2 : allMay row = false := by
      rcases hno with h | h
      · rw [ha] at h; cases h
      · exact h
    rw [ha] at H1
    rw [hc2] at H2
    clear ha hno hc2
    go_enter Try.func28, Try.ntmps28
    go_wp2_with fail
    refine H1.mono ?_
    rintro e w1 ⟨rfl, hw⟩
    obtain rfl := hw.symm
    clear H1
    go_wp2_with fail
    refine H2.mono ?_
    rintro e w1 ⟨rfl, hw⟩
    obtain rfl := hw.symm
    clear H2
    go_wp2_with fail
    go_ret3
    exact ⟨rfl, rfl⟩
structure RowI (w wx : World) (dbl row : List (List Int)) (s : Value) (D j g n : Nat) (r : Bool) : Prop where
  num : j + g = n
  all : AllAt w wx s (D + j) (dbl ++ row.take j)
  emp : r = true ↔ [] ∈ row.take j
  fol : ∀ i c, i < j → row[i]? = some c → Confl (dbl ++ row.take i) (negs c)
set_option maxRecDepth 100000 in
set_option maxHeartbeats 1600000 in
theorem refRow_yes (p : Option Addr) (z : Nat) (dbl : List (List Int)) (q : Option Addr) (zq : Nat) (row : List (List Int)) (W : World) (hV : RowsIn W p dbl) (hz : p = none → z = 0) (hn : dbl.length ≤ 1000) (hf : Fit63 dbl) (hq : RowsIn W q row) (hn2 : row.length ≤ 1000) (hf2 : Fit63 row) (ha : allMay dbl = true) (ha2 : allMay row = true) (hsum : dbl.flatten.length + row.flatten.length ≤ 5000) :
    Calls Try.prog 28 #[.slice p dbl.length z, .slice q row.length zq] W fun e w' => ∃ (n : Nat) (r : Bool), e = .returned (.tuple #[.int .i64 (n : Int), .bool r, .int .i64 0]) ∧ RowOut dbl row n r ∧ Below W.heap.size W w' := by
  obtain ⟨i23, hi23, hy0, hy1, hy2⟩ := info23
  have H1 := refMayAll p z dbl W hV (by omega) hf
  have H2 := refMayAll q zq row W hq (by omega) hf2
  rw [ha] at H1
  rw [ha2] at H2
  have hB0 := below1 W (.cells #[] 23)
  obtain ⟨v5, w5, hr5, hA5⟩ := AllAt.join (made23 W) hB0 hV hz hn
  have HQ := Lib.hid hq
  have HM := Lib.hid (And.intro ha ha2)
  have HSUM := Lib.hid hsum
  have HI0 := Lib.hid (RowI.mk (row := row) (r := false) (j := 0) (g := row.length) (n := row.length) (D := dbl.length) (by omega) (by simpa using (show AllAt W w5 v5 (dbl.length) (dbl ++ []) by simpa using hA5)) (by simp) (fun i c hi => by omega))
  clear hV hf hq hf2 ha ha2 hA5 hsum
  obtain ⟨n, hnn⟩ : ∃ n, row.length = n := ⟨_, rfl⟩
  obtain ⟨D, hDD⟩ : ∃ n, dbl.length = n := ⟨_, rfl⟩
  have HNN := Lib.hid hnn
  have HDD := Lib.hid hDD
  rw [hnn] at H2 hn2 HI0 ⊢
  rw [hDD] at H1 hn HI0 hr5 ⊢
  have H5 := Lib.hid hr5
  clear hnn hDD hr5 hB0
  go_enter Try.func28, Try.ntmps28
  go_wp2_with fail
  refine H1.mono ?_
  rintro e w1 ⟨rfl, hw⟩
  obtain rfl := hw.symm
  clear H1
  go_wp2_with fail
  refine H2.mono ?_
  rintro e w1 ⟨rfl, hw⟩
  obtain rfl := hw.symm
  clear H2
  go_wp2_with (at_builtin; refine Lib.wpList_append_run _ rfl _ _ 22 22 rfl _ _ rfl rfl _ _ H5.out ?_)
  clear H5
  go_wp2_with fail
  go_loopg [7, 8, 9] n (fun gk s7 s8 s9 wx => ∃ (j : Nat) (r : Bool), s9 = .int .i64 (j : Int) ∧ s8 = .bool r ∧ Hid (RowI W wx dbl row s7 D j gk n r))
  case atStart => exact ⟨0, false, rfl, rfl, HI0⟩
  case round =>
    obtain ⟨j, r, rfl, rfl, HI⟩ := hrel
    generalize gk = G at *
    clear HI0
    have hjle : j ≤ n := by have := HI.out.num; omega
    obtain ⟨rows, hrow, hel⟩ := HI.out.all.row
    obtain ⟨ps, cs, hs7, hB_⟩ := own_shp hrow
    clear hB_
    subst hs7
    by_cases hjn : j < n
    · have hj2 : j < row.length := by have := HNN.out; omega
      obtain ⟨b, off, rfl, hVi⟩ := HQ.out (by omega)
      obtain ⟨qc, zc, cv0, hqc0⟩ := hVi j _ (List.getElem?_eq_getElem hj2)
      have cv := cell_later HI.out.all.below cv0
      have hqc := hqc0.later HI.out.all.below
      have hj0 : (0 : Int) ≤ (j : Int) := by omega
      have hj1 : (j : Int) < (n : Int) := by omega
      have hmay := List.all_eq_true.1 HM.out.2 _ (List.getElem_mem hj2)
      have hc5 := ((mayC_iff _).1 hmay).1
      have htk : row.take (j + 1) = row.take j ++ [row[j]] := (List.take_append_getElem hj2).symm
      have hget : row[j]? = some row[j] := List.getElem?_eq_getElem hj2
      have hlen : (dbl ++ row.take j).length = D + j := by rw [List.length_append, List.length_take, HDD.out]; omega
      have hmay3 : allMay (dbl ++ row.take j) = true := allMay_yes fun c hc => by
        rcases List.mem_append.1 hc with h | h
        · exact List.all_eq_true.1 HM.out.1 c h
        · exact List.all_eq_true.1 HM.out.2 c (List.mem_of_mem_take h)
      have hflat : row[j].length + (dbl ++ row.take j).flatten.length ≤ 5000 := by
        have h1 := HSUM.out
        have h2 : ((row.take j) ++ [row[j]]).flatten.length ≤ row.flatten.length := by
          rw [← htk]
          have h3 := congrArg List.flatten (List.take_append_drop (j + 1) row)
          rw [List.flatten_append] at h3
          rw [← h3, List.length_append]
          omega
        rw [List.flatten_append, List.length_append, List.flatten_singleton] at h2
        rw [List.flatten_append, List.length_append]
        omega
      have HF := reffollows_at ps cs (dbl ++ row.take j) qc zc row[j] wr (HI.out.all.rows hlen) (by omega) hqc hmay3 hmay hflat
      rw [hlen] at HF
      have hRJ : r = true ∨ r = false := by cases r <;> simp
      have HFO := Lib.hid (show Confl (dbl ++ row.take j) (negs row[j]) → ∀ i c, i < j + 1 → row[i]? = some c → Confl (dbl ++ row.take i) (negs c) from fun hcf i c hi hg => by
        by_cases e : i < j
        · exact HI.out.fol i c e hg
        · obtain rfl : i = j := by omega
          rw [hget] at hg
          cases hg
          exact hcf)
      have HEM := Lib.hid (show (r || decide (row[j].length = 0)) = true ↔ [] ∈ row.take (j + 1) by
        rw [htk, Bool.or_eq_true, HI.out.emp, decide_eq_true_eq, List.mem_append, List.mem_singleton, List.length_eq_zero_iff]
        exact ⟨fun h => h.imp id Eq.symm, fun h => h.imp id Eq.symm⟩)
      have HNO := Lib.hid (show ¬ Confl (dbl ++ row.take j) (negs row[j]) → RowOut dbl row j false from fun hcf => by
        refine ⟨by have := HNN.out; omega, HI.out.fol, fun c hc => ?_, ⟨fun h => (by cases h), fun h => ?_⟩⟩
        · rw [hget] at hc; cases hc; exact hcf
        · have := HNN.out; have := h.1; omega)
      have HPU := Lib.hid (fun (w5 : World) (v5 : Value) (hb : Below W.heap.size W w5) (ho : w5.ownsRow W.heap.size 23 1 v5 (D + j + 1) (rows ++ [.slice qc row[j].length zc])) => (show AllAt W w5 v5 (D + j + 1) (dbl ++ row.take (j + 1)) by
        rw [htk, ← List.append_assoc]
        exact AllAt.push hlen hrow hel hqc0 hb ho))
      have HCV0 := Lib.hid cv0
      have HROW := Lib.hid hrow
      have HBL := Lib.hid HI.out.all.below
      have HNU := Lib.hid HI.out.num
      clear hVi hqc hqc0 hmay htk hget hlen hmay3 hflat hrow hel cv0 HI hjle
      obtain ⟨L, hL⟩ : ∃ L, row[j].length = L := ⟨_, rfl⟩
      rw [hL] at cv HF hc5 HEM HPU HCV0
      have HLL := Lib.hid hL
      clear hL
      generalize row[j] = c at *
      clear hj2
      go_wp2_with fail
      refine HF.mono ?_
      rintro e w3 ⟨f, rfl, hf3, hb3⟩
      have hbw := HBL.out.trans (hb3.mono HBL.out.size)
      have HBW := Lib.hid hbw
      have cv3 := cell_later hb3 cv
      have hrow3 := own_later HROW.out hb3
      clear HF
      cases f with
      | false =>
        have HR := Lib.hid (HNO.out (fun h => by have := hf3.2 h; cases this))
        clear hf3 hb3 hbw hrow3
        go_wp2_with fail
        go_ret3
        exact ⟨j, false, rfl, HR.out, HBW.out⟩
      | true =>
        have HR := Lib.hid (HFO.out (hf3.1 rfl))
        have hal := below1 w3 (.cells #[.slice qc L zc] 23)
        have HOW := Lib.hid (own_later hrow3 hal)
        have HBA := Lib.hid (hbw.trans (hal.mono hbw.size))
        have hws := hbw.size
        have n1 : (n : Int) ≤ 1000 := by omega
        clear hf3 hb3 hbw hrow3 hal
        go_wp2_with (at_builtin; refine wpList_append_own_at _ rfl _ _ 22 rfl W.heap.size 23 i23 (.slice none 0 0) 1 24 Try.underlying22 hi23 hy0 hy1 hy2 rfl (by omega) _ (D + j) rows rfl HOW.out ⟨w3.heap.size, 0, none⟩ 1 1 [.slice qc L zc] rfl rfl ?qc2 ?qc3 ?qc4 ?qc5 ?qc6 ?_)
        case qc2 =>
          intro jj u hjj
          rw [Lib.add_plain]
          match jj, hjj with
          | 0, hjj => cases hjj; simp [go_sem]
        case qc3 => intro u hu; simp at hu; rcases hu with rfl; rfl
        case qc4 => have hml : maxLen = 9223372036854775807 := rfl; omega
        case qc5 => omega
        case qc6 => simp; omega
        intro v5 w5 hown hgrow _ hloc
        have hb5 : Below W.heap.size W w5 := HBA.out.grown hgrow (by simp; omega) (fun k hk => (own_lt HOW.out hk).1)
        have HA5 := Lib.hid (HPU.out w5 v5 hb5 hown)
        have cv5 := cell_later hb5 HCV0.out
        clear hown hgrow hloc hb5 cv3
        have HE := HEM.out
        cases r with
        | true =>
          rw [Bool.true_or] at HE
          have HE2 := Lib.hid HE
          clear HE hRJ
          go_wp2_with fail
          go_roundg (n - (j + 1))
          case measure => have := HNU.out; omega
          case rel => exact ⟨j + 1, true, by go_num, rfl, Lib.hid ⟨by omega, HA5.out, (by have := HE2.out; simpa using this), HR.out⟩⟩
        | false =>
          rw [Bool.false_or] at HE
          by_cases hL0 : L = 0
          · rw [decide_eq_true hL0] at HE
            have HE2 := Lib.hid HE
            have qz : ((L : Int) == 0) = true := by simpa using hL0
            clear HE hL0 hRJ
            go_wp2_with fail
            go_roundg (n - (j + 1))
            case measure => have := HNU.out; omega
            case rel => exact ⟨j + 1, true, by go_num, rfl, Lib.hid ⟨by omega, HA5.out, (by have := HE2.out; simpa using this), HR.out⟩⟩
          · rw [decide_eq_false hL0] at HE
            have HE2 := Lib.hid HE
            have qz : ((L : Int) == 0) = false := by simpa using hL0
            clear HE hL0 hRJ
            go_wp2_with fail
            go_roundg (n - (j + 1))
            case measure => have := HNU.out; omega
            case rel => exact ⟨j + 1, false, by go_num, rfl, Lib.hid ⟨by omega, HA5.out, (by have := HE2.out; simpa using this), HR.out⟩⟩
    · obtain rfl : j = n := by omega
      have HR := Lib.hid (show RowOut dbl row j r from ⟨by have := HNN.out; omega, HI.out.fol, fun c hc => by
        have := (List.getElem?_eq_some_iff.1 hc).1
        have := HNN.out
        omega, by
        rw [HI.out.emp, ← HNN.out, List.take_length]
        exact ⟨fun h => ⟨rfl, h⟩, fun h => h.2⟩⟩)
      have HBL := Lib.hid HI.out.all.below
      clear hrow hel HI hjle
      go_wp2_with fail
      go_ret3
      exact ⟨j, r, rfl, HR.out, HBL.out⟩
/-- two lists of clauses that read alike. -/
theorem alikeB_self {n : Nat} {V : Nat → Int} : alikeB n V n V = true := alikeB_yes rfl (fun _ _ => rfl)
set_option maxRecDepth 100000 in
set_option maxHeartbeats 1600000 in
theorem same_at (p : Option Addr) (z : Nat) (q : Option Addr) (zq : Nat) (dbl : List (List Int)) (w : World) (hV : RowsIn w p dbl) (hU : RowsIn w q dbl) (hn : dbl.length ≤ 1000) (hf : Fit63 dbl) :
    Calls Try.prog 24 #[.slice p dbl.length z, .slice q dbl.length zq] w fun e w' => e = .returned (.bool true) ∧ Below w.heap.size w w' := by
  have HV := Lib.hid hV
  have HU := Lib.hid hU
  have HF := Lib.hid hf
  clear hV hU hf
  obtain ⟨n, hnn⟩ : ∃ n, dbl.length = n := ⟨_, rfl⟩
  have HN := Lib.hid hnn
  rw [hnn] at hn ⊢
  clear hnn
  go_enter Try.func24, Try.ntmps24
  go_wp2_with fail
  go_loopw [8] (fun i wr => ∃ j : Nat, j ≤ n ∧ i = .int .i64 j ∧ Hid (Below w.heap.size w wr)) (fun i _ => n - (intOf i).toNat)
  case atStart => exact ⟨0, by omega, rfl, Lib.hid (Below.refl _ _)⟩
  case round =>
    obtain ⟨j, hj, rfl, HB⟩ := hrel
    by_cases hlt : j < n
    · have hkl : j < dbl.length := by have := HN.out; omega
      obtain ⟨b, off, rfl, hVi⟩ := HV.out (by omega)
      obtain ⟨b2, off2, rfl, hUi⟩ := HU.out (by omega)
      obtain ⟨qc, zc, cv, hqc⟩ := hVi j _ (List.getElem?_eq_getElem hkl)
      obtain ⟨qd, zd, cu, hqd⟩ := hUi j _ (List.getElem?_eq_getElem hkl)
      have hfd := HF.out _ (List.getElem_mem hkl)
      generalize dbl[j] = d at *
      have hbd : Below w.heap.size w wr.drew := HB.out.drew
      have cva := cell_later hbd cv
      have cua := cell_later hbd cu
      have HA := alike_any qc d.length zc (fnL d) qd d.length zd (fnL d) wr.drew (hqc.later hbd) hfd (hqd.later hbd) hfd
      rw [alikeB_self] at HA
      have HAL := Lib.hid HA
      have hj0 : (0 : Int) ≤ (j : Int) := by omega
      have hj1 : (j : Int) < (n : Int) := by omega
      have HBD := Lib.hid hbd
      obtain ⟨L, hL⟩ : ∃ L, d.length = L := ⟨_, rfl⟩
      rw [hL] at cva cua cv cu HAL
      clear HA hVi hUi hqc hqd hkl hfd hbd hL cv cu
      go_wp2_with fail
      go_region_held3 (fun w' => w'.cell? ⟨b, off + j, none⟩ = some (.slice qc L zc) ∧ w'.cell? ⟨b2, off2 + j, none⟩ = some (.slice qd L zd)) (first | exact ⟨cva, cua⟩ | exact ⟨cvm, cum⟩) (first | (go_at_call 23; refine HAL.out.mono ?_; rintro e w3 ⟨rfl, hb3⟩; have cvm := cell_later hb3 cva; have cum := cell_later hb3 cua; have HB3 := Lib.hid hb3; clear hb3))
      have HB5 := Lib.hid (HBD.out.trans (HB3.out.mono HBD.out.size))
      go_wp2_with fail
      go_roundw
      case rel => exact ⟨j + 1, by omega, by go_num, HB5⟩
      case measure => simp [intOf]; omega
    · obtain rfl : j = n := by omega
      have q0 : ((j : Int) == (j : Int)) = true := by simp
      go_wp2_with fail
      go_ret
      exact ⟨rfl, HB.out⟩
end Go.Proofs.Ytgdncnalahdjeaa
namespace Go.Proofs.Ytgdncnalahdjeaa
open Go Go.RowKit Go.Maps

set_option maxRecDepth 100000 in
set_option maxHeartbeats 1600000 in
theorem runits_walk (p : Option Addr) (z : Nat) (dbl : List (List Int)) (q : Option Addr) (zq : Nat) (c : List Int) (w : World) (con : Bool) (er : Int) (P : List Int → Prop) (hP : ∀ a b, P a → P b → a = b) (hP5 : ∀ a, P a → a.length ≤ 5000) (her : (con = false ∧ er = 2) ∨ (con = true ∧ er = 0) ∨ (con = false ∧ er = 0))
    (hV : RowsZ w p dbl) (hq : LitsIn w q c.length (fnL c)) (hqz : q = none → zq = 0) (h60 : dbl.length ≤ 60) (hall : ∀ d, d ∈ dbl → d.length ≤ 30) (h30 : c.length ≤ 30)
    (HL : Calls Try.prog 17 #[.slice p dbl.length z] w fun e w' => e = .returned (.bool false) ∧ w' = w)
    (U1 : ∀ W ps cs pg cg, Below w.heap.size w W → RowsIn W ps dbl → LitsIn W pg c.length (fnL c) → Calls Try.prog 21 #[.slice ps dbl.length cs, .slice pg c.length cg] W fun e w' => (∃ o pp cc, P o ∧ e = .returned (.tuple #[.slice pp o.length cc, .bool con, .int .i64 er]) ∧ LitsIn w' pp o.length (fnL o)) ∧ Below W.heap.size W w')
    (U2 : ∀ W, Below w.heap.size w W → Calls Try.prog 22 #[.slice p dbl.length z, .slice q c.length zq] W fun e w' => (∃ o pp cc, P o ∧ e = .returned (.tuple #[.slice pp o.length cc, .bool con, .int .i64 er]) ∧ LitsIn w' pp o.length (fnL o)) ∧ Below W.heap.size W w') :
    Calls Try.prog 3 #[.slice p dbl.length z, .slice q c.length zq] w fun e w' => e = .returned (.bool true) ∧ Below w.heap.size w w' := by
  have HK := Lib.hid known_any
  have HCP := copied_at p z dbl w hV h60 hall
  have HSA := Lib.hid (fun (W : World) (ps : Option Addr) (cs : Nat) (hb : Below w.heap.size w W) (hr : RowsIn W ps dbl) => same_at ps cs p z dbl W hr (hV.rows.later hb) (by omega) (fun d hd => by have := hall d hd; omega))
  have HCQ := Lib.hid (fun (W : World) (hb : Below w.heap.size w W) => copied_any q c.length zq (fnL c) W (hq.later hb) (by omega) hqz)
  have HQ := Lib.hid hq
  have HU1 := Lib.hid U1
  have HU2 := Lib.hid U2
  have HP := Lib.hid hP
  have HP5 := Lib.hid hP5
  clear hV hq hall U1 U2 hP hP5
  obtain ⟨n, hnn⟩ : ∃ n, dbl.length = n := ⟨_, rfl⟩
  obtain ⟨m, hmm⟩ : ∃ m, c.length = m := ⟨_, rfl⟩
  rw [hnn] at HL h60 HU1 HU2 HCP HSA ⊢
  rw [hmm] at h30 HU1 HU2 HCQ ⊢
  have HN := Lib.hid hnn
  have HM := Lib.hid hmm
  clear hnn hmm
  have q1 : ¬ ((30 : Int) < (m : Int)) := by omega
  go_enter Try.func3, Try.ntmps3
  go_wp2_with fail
  refine HL.mono ?_
  rintro e w1 ⟨rfl, hw⟩
  obtain rfl := hw.symm
  clear HL
  go_wp2_with fail
  refine HCP.mono ?_
  rintro e w2 ⟨v2, rfl, hB2⟩
  obtain ⟨rows2, hr2, _⟩ := hB2.row
  obtain ⟨ps, cs, hs2, hB_⟩ := own_shp hr2
  clear hB_
  subst hs2
  have HR2 := Lib.hid (hB2.rows HN.out)
  have HB2 := Lib.hid hB2.below
  have hcq := HCQ.out w2 HB2.out
  rw [show rowL m (fnL c) = c by rw [← HM.out, rowL_fn]] at hcq
  clear hr2 hB2 HCP
  go_wp2_with fail
  refine hcq.mono ?_
  rintro e w3 ⟨v3, rfl, ho3, hb3⟩
  obtain ⟨pg, cg, hv3, hB_⟩ := own_shp ho3
  clear hB_
  subst hv3
  have hl3 : LitsIn w3 pg m (fnL c) := by
    rw [← HM.out] at ho3 ⊢
    exact lits_own ho3
  have HL3 := Lib.hid hl3
  have HB3 := Lib.hid (chain HB2.out hb3)
  have HR3 := Lib.hid (HR2.out.later hb3)
  have hU := HU1.out w3 ps cs pg cg HB3.out HR3.out hl3
  clear hcq ho3 hb3 hl3
  go_wp2_with fail
  refine hU.mono ?_
  rintro e w4 ⟨⟨o1, p1, c1, hp1, rfl, hl1⟩, hb4⟩
  have HB4 := Lib.hid (chain HB3.out hb4)
  have HR4 := Lib.hid (HR3.out.later hb4)
  have HL4 := Lib.hid (HL3.out.later hb4)
  have HP1 := Lib.hid hp1
  have HL1 := Lib.hid hl1
  clear hU hp1 hl1 hb4
  have ho15 := HP5.out o1 HP1.out
  have hU := HU2.out w4 HB4.out
  obtain ⟨L1, hL1⟩ : ∃ L, o1.length = L := ⟨_, rfl⟩
  rw [hL1] at HL1 ho15 ⊢
  have HLL1 := Lib.hid hL1
  clear hL1
  go_wp2_with fail
  refine hU.mono ?_
  rintro e w5 ⟨⟨o2, p2, c2, hp2, rfl, hl2⟩, hb5⟩
  obtain rfl := HP.out o1 o2 HP1.out hp2
  rw [HLL1.out] at hl2 ⊢
  have hAl := alike_same p1 L1 c1 (fnL o1) p2 c2 w5 (HL1.out.later hb5) (by omega) hl2
  have HB5 := Lib.hid (chain HB4.out hb5)
  have HR5 := Lib.hid (HR4.out.later hb5)
  have HL5 := Lib.hid (HL4.out.later hb5)
  clear hU hb5 hl2 hp2
  rcases her with ⟨rfl, rfl⟩ | ⟨rfl, rfl⟩ | ⟨rfl, rfl⟩
  all_goals
    go_wp2_with fail
    refine hAl.mono ?_
    rintro e w6 ⟨rfl, hb6⟩
    have HB6 := Lib.hid (chain HB5.out hb6)
    have hS := HSA.out w6 ps cs HB6.out (HR5.out.later hb6)
    have HL6 := Lib.hid (HL5.out.later hb6)
    clear hb6 hAl
    go_wp2_with fail
    refine hS.mono ?_
    rintro e w7 ⟨rfl, hb7⟩
    have HB7 := Lib.hid (chain HB6.out hb7)
    have hAg := alike_same pg m cg (fnL c) q zq w7 (HL6.out.later hb7) (by omega) (by have := HQ.out.later HB7.out; rw [HM.out] at this; exact this)
    clear hb7 hS
    go_wp2_with fail
    refine hAg.mono ?_
    rintro e w8 ⟨rfl, hb8⟩
    have HB8 := Lib.hid (chain HB7.out hb8)
    clear hb8 hAg
    go_wp2_with fail
    refine (HK.out _).mono ?_
    rintro e w9 ⟨rfl, hb9⟩
    have HB9 := Lib.hid (chain HB8.out hb9)
    clear hb9
    go_wp2_with fail
    go_ret
    exact ⟨rfl, HB9.out⟩
set_option maxRecDepth 100000 in
set_option maxHeartbeats 1600000 in
theorem rfol_walk (p : Option Addr) (z : Nat) (dbl : List (List Int)) (q : Option Addr) (zq : Nat) (c : List Int) (w : World) (f : Bool) (er : Int)
    (hV : RowsZ w p dbl) (hq : LitsIn w q c.length (fnL c)) (hqz : q = none → zq = 0) (h60 : dbl.length ≤ 60) (hall : ∀ d, d ∈ dbl → d.length ≤ 30) (h30 : c.length ≤ 30)
    (HL : Calls Try.prog 17 #[.slice p dbl.length z] w fun e w' => e = .returned (.bool false) ∧ w' = w)
    (U1 : ∀ W ps cs pg cg, Below w.heap.size w W → RowsIn W ps dbl → LitsIn W pg c.length (fnL c) → Calls Try.prog 25 #[.slice ps dbl.length cs, .slice pg c.length cg] W fun e w' => e = .returned (.tuple #[.bool f, .int .i64 er]) ∧ Below W.heap.size W w')
    (U2 : ∀ W, Below w.heap.size w W → Calls Try.prog 26 #[.slice p dbl.length z, .slice q c.length zq] W fun e w' => e = .returned (.tuple #[.bool f, .int .i64 er]) ∧ Below W.heap.size W w') :
    Calls Try.prog 4 #[.slice p dbl.length z, .slice q c.length zq] w fun e w' => e = .returned (.bool true) ∧ Below w.heap.size w w' := by
  have HK := Lib.hid known_any
  have HCP := copied_at p z dbl w hV h60 hall
  have HCQ := Lib.hid (fun (W : World) (hb : Below w.heap.size w W) => copied_any q c.length zq (fnL c) W (hq.later hb) (by omega) hqz)
  have HU1 := Lib.hid U1
  have HU2 := Lib.hid U2
  clear hV hq hall U1 U2
  obtain ⟨n, hnn⟩ : ∃ n, dbl.length = n := ⟨_, rfl⟩
  obtain ⟨m, hmm⟩ : ∃ m, c.length = m := ⟨_, rfl⟩
  rw [hnn] at HL h60 HU1 HU2 HCP ⊢
  rw [hmm] at h30 HU1 HU2 HCQ ⊢
  have HN := Lib.hid hnn
  have HM := Lib.hid hmm
  clear hnn hmm
  have q1 : ¬ ((30 : Int) < (m : Int)) := by omega
  have q2 : (f == f) = true := by simp
  have q3 : (er == er) = true := by simp
  go_enter Try.func4, Try.ntmps4
  go_wp2_with fail
  refine HL.mono ?_
  rintro e w1 ⟨rfl, hw⟩
  obtain rfl := hw.symm
  clear HL
  go_wp2_with fail
  refine HCP.mono ?_
  rintro e w2 ⟨v2, rfl, hB2⟩
  obtain ⟨rows2, hr2, _⟩ := hB2.row
  obtain ⟨ps, cs, hs2, hB_⟩ := own_shp hr2
  clear hB_
  subst hs2
  have HR2 := Lib.hid (hB2.rows HN.out)
  have HB2 := Lib.hid hB2.below
  have hcq := HCQ.out w2 HB2.out
  rw [show rowL m (fnL c) = c by rw [← HM.out, rowL_fn]] at hcq
  clear hr2 hB2 HCP
  go_wp2_with fail
  refine hcq.mono ?_
  rintro e w3 ⟨v3, rfl, ho3, hb3⟩
  obtain ⟨pg, cg, hv3, hB_⟩ := own_shp ho3
  clear hB_
  subst hv3
  have hl3 : LitsIn w3 pg m (fnL c) := by
    rw [← HM.out] at ho3 ⊢
    exact lits_own ho3
  have HB3 := Lib.hid (chain HB2.out hb3)
  have hU := HU1.out w3 ps cs pg cg HB3.out (HR2.out.later hb3) hl3
  clear hcq ho3 hb3 hl3
  go_wp2_with fail
  refine hU.mono ?_
  rintro e w4 ⟨rfl, hb4⟩
  have HB4 := Lib.hid (chain HB3.out hb4)
  clear hU hb4
  have hU := HU2.out w4 HB4.out
  go_wp2_with fail
  refine hU.mono ?_
  rintro e w5 ⟨rfl, hb5⟩
  have HB5 := Lib.hid (chain HB4.out hb5)
  clear hU hb5
  go_wp2_with fail
  refine (HK.out _).mono ?_
  rintro e w9 ⟨rfl, hb9⟩
  have HB9 := Lib.hid (chain HB5.out hb9)
  clear hb9
  go_wp2_with fail
  go_ret
  exact ⟨rfl, HB9.out⟩
set_option maxRecDepth 100000 in
set_option maxHeartbeats 1600000 in
theorem rrow_walk (p : Option Addr) (z : Nat) (dbl : List (List Int)) (q : Option Addr) (zq : Nat) (row : List (List Int)) (w : World) (k : Nat) (f : Bool) (er : Int)
    (hV : RowsZ w p dbl) (hQ : RowsZ w q row) (h60 : dbl.length ≤ 60) (hall : ∀ d, d ∈ dbl → d.length ≤ 30) (h602 : row.length ≤ 60) (hall2 : ∀ d, d ∈ row → d.length ≤ 30)
    (HL : Calls Try.prog 17 #[.slice p dbl.length z] w fun e w' => e = .returned (.bool false) ∧ w' = w)
    (HL2 : Calls Try.prog 17 #[.slice q row.length zq] w fun e w' => e = .returned (.bool false) ∧ w' = w)
    (U1 : ∀ W ps cs pg cg, Below w.heap.size w W → RowsIn W ps dbl → RowsIn W pg row → Calls Try.prog 27 #[.slice ps dbl.length cs, .slice pg row.length cg] W fun e w' => e = .returned (.tuple #[.int .i64 (k : Int), .bool f, .int .i64 er]) ∧ Below W.heap.size W w')
    (U2 : ∀ W, Below w.heap.size w W → Calls Try.prog 28 #[.slice p dbl.length z, .slice q row.length zq] W fun e w' => e = .returned (.tuple #[.int .i64 (k : Int), .bool f, .int .i64 er]) ∧ Below W.heap.size W w') :
    Calls Try.prog 5 #[.slice p dbl.length z, .slice q row.length zq] w fun e w' => e = .returned (.bool true) ∧ Below w.heap.size w w' := by
  have HK := Lib.hid known_any
  have HCP := copied_at p z dbl w hV h60 hall
  have HCQ := Lib.hid (fun (W : World) (hb : Below w.heap.size w W) => copied_at q zq row W (hQ.later hb) h602 hall2)
  have HSA := Lib.hid (fun (W : World) (ps : Option Addr) (cs : Nat) (hb : Below w.heap.size w W) (hr : RowsIn W ps dbl) => same_at ps cs p z dbl W hr (hV.rows.later hb) (by omega) (fun d hd => by have := hall d hd; omega))
  have HSB := Lib.hid (fun (W : World) (ps : Option Addr) (cs : Nat) (hb : Below w.heap.size w W) (hr : RowsIn W ps row) => same_at ps cs q zq row W hr (hQ.rows.later hb) (by omega) (fun d hd => by have := hall2 d hd; omega))
  have HU1 := Lib.hid U1
  have HU2 := Lib.hid U2
  clear hV hQ hall hall2 U1 U2
  obtain ⟨n, hnn⟩ : ∃ n, dbl.length = n := ⟨_, rfl⟩
  obtain ⟨m, hmm⟩ : ∃ m, row.length = m := ⟨_, rfl⟩
  rw [hnn] at HL h60 HU1 HU2 HCP HSA ⊢
  rw [hmm] at HL2 h602 HU1 HU2 HCQ HSB ⊢
  have HN := Lib.hid hnn
  have HM := Lib.hid hmm
  clear hnn hmm
  have q2 : (f == f) = true := by simp
  have q3 : (er == er) = true := by simp
  have q4 : ((k : Int) == (k : Int)) = true := by simp
  go_enter Try.func5, Try.ntmps5
  go_wp2_with fail
  refine HL.mono ?_
  rintro e w1 ⟨rfl, hw⟩
  obtain rfl := hw.symm
  clear HL
  go_wp2_with fail
  refine HL2.mono ?_
  rintro e w1 ⟨rfl, hw⟩
  obtain rfl := hw.symm
  clear HL2
  go_wp2_with fail
  refine HCP.mono ?_
  rintro e w2 ⟨v2, rfl, hB2⟩
  obtain ⟨rows2, hr2, _⟩ := hB2.row
  obtain ⟨ps, cs, hs2, hB_⟩ := own_shp hr2
  clear hB_
  subst hs2
  have HR2 := Lib.hid (hB2.rows HN.out)
  have HB2 := Lib.hid hB2.below
  have hcq := HCQ.out w2 HB2.out
  clear hr2 hB2 HCP
  go_wp2_with fail
  refine hcq.mono ?_
  rintro e w3 ⟨v3, rfl, hB3⟩
  obtain ⟨rows3, hr3, _⟩ := hB3.row
  obtain ⟨pg, cg, hs3, hB_⟩ := own_shp hr3
  clear hB_
  subst hs3
  have HG3 := Lib.hid (hB3.rows HM.out)
  have HB3 := Lib.hid (chain HB2.out hB3.below)
  have HR3 := Lib.hid (HR2.out.later hB3.below)
  have hU := HU1.out w3 ps cs pg cg HB3.out HR3.out HG3.out
  clear hcq hr3 hB3
  go_wp2_with fail
  refine hU.mono ?_
  rintro e w4 ⟨rfl, hb4⟩
  have HB4 := Lib.hid (chain HB3.out hb4)
  have HR4 := Lib.hid (HR3.out.later hb4)
  have HG4 := Lib.hid (HG3.out.later hb4)
  clear hU hb4
  have hU := HU2.out w4 HB4.out
  go_wp2_with fail
  refine hU.mono ?_
  rintro e w5 ⟨rfl, hb5⟩
  have HB5 := Lib.hid (chain HB4.out hb5)
  have HG5 := Lib.hid (HG4.out.later hb5)
  have hS := HSA.out w5 ps cs HB5.out (HR4.out.later hb5)
  clear hU hb5
  go_wp2_with fail
  refine hS.mono ?_
  rintro e w6 ⟨rfl, hb6⟩
  have HB6 := Lib.hid (chain HB5.out hb6)
  clear hS
  have hS := HSB.out w6 pg cg HB6.out (HG5.out.later hb6)
  clear hb6
  go_wp2_with fail
  refine hS.mono ?_
  rintro e w7 ⟨rfl, hb7⟩
  have HB7 := Lib.hid (chain HB6.out hb7)
  clear hS hb7
  go_wp2_with fail
  refine (HK.out _).mono ?_
  rintro e w9 ⟨rfl, hb9⟩
  have HB9 := Lib.hid (chain HB7.out hb9)
  clear hb9
  go_wp2_with fail
  go_ret
  exact ⟨rfl, HB9.out⟩
set_option maxRecDepth 100000 in
set_option maxHeartbeats 1600000 in
theorem runits_skip (p : Option Addr) (z n : Nat) (q : Option Addr) (zq m : Nat) (w : World) (b1 : Bool) (hb : b1 = true ∨ (b1 = false ∧ 30 < m))
    (L1 : Calls Try.prog 17 #[.slice p n z] w fun e w' => e = .returned (.bool b1) ∧ w' = w) :
    Calls Try.prog 3 #[.slice p n z, .slice q m zq] w fun e w' => e = .returned (.bool true) ∧ Below w.heap.size w w' := by
  have HK := Lib.hid known_any
  rcases hb with hb | ⟨hb, hm⟩
  · subst hb
    go_enter Try.func3, Try.ntmps3
    go_wp2_with fail
    refine L1.mono ?_
    rintro e w1 ⟨rfl, hw⟩
    obtain rfl := hw.symm
    clear L1
    go_wp2_with fail
    refine (HK.out _).mono ?_
    rintro e w2 ⟨rfl, hb⟩
    have HB := Lib.hid hb
    clear hb
    go_wp2_with fail
    go_ret
    exact ⟨rfl, HB.out⟩
  · subst hb
    have q1 : (30 : Int) < (m : Int) := by omega
    go_enter Try.func3, Try.ntmps3
    go_wp2_with fail
    refine L1.mono ?_
    rintro e w1 ⟨rfl, hw⟩
    obtain rfl := hw.symm
    clear L1
    go_wp2_with fail
    refine (HK.out _).mono ?_
    rintro e w2 ⟨rfl, hb⟩
    have HB := Lib.hid hb
    clear hb
    go_wp2_with fail
    go_ret
    exact ⟨rfl, HB.out⟩
set_option maxRecDepth 100000 in
set_option maxHeartbeats 1600000 in
theorem rfol_skip (p : Option Addr) (z n : Nat) (q : Option Addr) (zq m : Nat) (w : World) (b1 : Bool) (hb : b1 = true ∨ (b1 = false ∧ 30 < m))
    (L1 : Calls Try.prog 17 #[.slice p n z] w fun e w' => e = .returned (.bool b1) ∧ w' = w) :
    Calls Try.prog 4 #[.slice p n z, .slice q m zq] w fun e w' => e = .returned (.bool true) ∧ Below w.heap.size w w' := by
  have HK := Lib.hid known_any
  rcases hb with hb | ⟨hb, hm⟩
  · subst hb
    go_enter Try.func4, Try.ntmps4
    go_wp2_with fail
    refine L1.mono ?_
    rintro e w1 ⟨rfl, hw⟩
    obtain rfl := hw.symm
    clear L1
    go_wp2_with fail
    refine (HK.out _).mono ?_
    rintro e w2 ⟨rfl, hb⟩
    have HB := Lib.hid hb
    clear hb
    go_wp2_with fail
    go_ret
    exact ⟨rfl, HB.out⟩
  · subst hb
    have q1 : (30 : Int) < (m : Int) := by omega
    go_enter Try.func4, Try.ntmps4
    go_wp2_with fail
    refine L1.mono ?_
    rintro e w1 ⟨rfl, hw⟩
    obtain rfl := hw.symm
    clear L1
    go_wp2_with fail
    refine (HK.out _).mono ?_
    rintro e w2 ⟨rfl, hb⟩
    have HB := Lib.hid hb
    clear hb
    go_wp2_with fail
    go_ret
    exact ⟨rfl, HB.out⟩
set_option maxRecDepth 100000 in
set_option maxHeartbeats 1600000 in
theorem rrow_skip (p : Option Addr) (z n : Nat) (q : Option Addr) (zq m : Nat) (w : World) (b1 b2 : Bool) (hb : b1 = true ∨ (b1 = false ∧ b2 = true))
    (L1 : Calls Try.prog 17 #[.slice p n z] w fun e w' => e = .returned (.bool b1) ∧ w' = w)
    (L2 : Calls Try.prog 17 #[.slice q m zq] w fun e w' => e = .returned (.bool b2) ∧ w' = w) :
    Calls Try.prog 5 #[.slice p n z, .slice q m zq] w fun e w' => e = .returned (.bool true) ∧ Below w.heap.size w w' := by
  have HK := Lib.hid known_any
  rcases hb with hb | ⟨hb, hm⟩
  · subst hb
    clear L2
    go_enter Try.func5, Try.ntmps5
    go_wp2_with fail
    refine L1.mono ?_
    rintro e w1 ⟨rfl, hw⟩
    obtain rfl := hw.symm
    clear L1
    go_wp2_with fail
    refine (HK.out _).mono ?_
    rintro e w2 ⟨rfl, hb⟩
    have HB := Lib.hid hb
    clear hb
    go_wp2_with fail
    go_ret
    exact ⟨rfl, HB.out⟩
  · subst hb hm
    go_enter Try.func5, Try.ntmps5
    go_wp2_with fail
    refine L1.mono ?_
    rintro e w1 ⟨rfl, hw⟩
    obtain rfl := hw.symm
    clear L1
    go_wp2_with fail
    refine L2.mono ?_
    rintro e w1 ⟨rfl, hw⟩
    obtain rfl := hw.symm
    clear L2
    go_wp2_with fail
    refine (HK.out _).mono ?_
    rintro e w2 ⟨rfl, hb⟩
    have HB := Lib.hid hb
    clear hb
    go_wp2_with fail
    go_ret
    exact ⟨rfl, HB.out⟩
theorem runits_any (p : Option Addr) (z : Nat) (dbl : List (List Int)) (q : Option Addr) (zq : Nat) (c : List Int) (w : World) (hV : RowsZ w p dbl) (hn : dbl.length ≤ 9223372036854775807) (hf : Fit63 dbl) (hq : LitsIn w q c.length (fnL c)) (hqz : q = none → zq = 0) (hc : c.length ≤ 9223372036854775807) :
    Calls Try.prog 3 #[.slice p dbl.length z, .slice q c.length zq] w fun e w' => e = .returned (.bool true) ∧ Below w.heap.size w w' := by
  have HL := large_any p z dbl w hV.rows hn hf
  by_cases hskip : largeB dbl = true ∨ (largeB dbl = false ∧ 30 < c.length)
  · exact runits_skip p z _ q zq _ w _ hskip HL
  · obtain ⟨hl, h30⟩ : largeB dbl = false ∧ c.length ≤ 30 := by
      cases h1 : largeB dbl with
      | true => exact absurd (.inl h1) hskip
      | false =>
        by_cases h3 : 30 < c.length
        · exact absurd (.inr ⟨h1, h3⟩) hskip
        · exact ⟨rfl, by omega⟩
    obtain ⟨h60, hall⟩ := largeB_no hl
    rw [hl] at HL
    have hs0 := flat_len hall
    have hs1 : (dbl.flatten ++ c).length ≤ 5000 := by
      rw [List.length_append]
      omega
    have hs2 : c.length + dbl.flatten.length ≤ 5000 := by omega
    have u2 := fun W (hb : Below w.heap.size w W) => refUnits_at p z dbl q zq c W (hV.rows.later hb) (by omega) hf (hq.later hb) hqz hs2
    by_cases hok : allMay dbl = true ∧ mayC c = true
    · obtain ⟨h1, h2⟩ := hok
      have u1 := fun W ps cs pg cg (hr : RowsIn W ps dbl) (hg : LitsIn W pg c.length (fnL c)) => rupUnits_yes ps cs dbl pg cg c W hr (by omega) hf hg h1 h2 hs1
      by_cases hcf : Confl dbl c
      · refine runits_walk p z dbl q zq c w true 0 (fun o => o = []) (fun a b ha hb => ha.trans hb.symm) (fun a ha => by rw [ha]; simp) (.inr (.inl ⟨rfl, rfl⟩)) hV hq hqz h60 hall h30 HL (fun W ps cs pg cg hb hr hg => ?_) (fun W hb => ?_)
        · refine (u1 W ps cs pg cg hr hg).mono ?_
          rintro e w' ⟨h | h, hb9⟩
          · exact ⟨⟨[], none, 0, rfl, h.2, lits_none _ _⟩, hb9⟩
          · exact absurd hcf h.1
        · refine (u2 W hb).mono ?_
          rintro e w' ⟨h | ⟨_, _, h | h⟩, hb9⟩
          · exact absurd ⟨h1, h2⟩ h.1
          · exact ⟨⟨[], none, 0, rfl, h.2, lits_none _ _⟩, hb9⟩
          · exact absurd hcf h.1
      · refine runits_walk p z dbl q zq c w false 0 (fun o => o.Pairwise ltI ∧ o.length ≤ 5000 ∧ ∀ l, l ∈ o ↔ Der dbl c l) (fun a b ha hb => srt_unique a b ha.1 hb.1 (fun x => (ha.2.2 x).trans (hb.2.2 x).symm)) (fun a ha => ha.2.1) (.inr (.inr ⟨rfl, rfl⟩)) hV hq hqz h60 hall h30 HL (fun W ps cs pg cg hb hr hg => ?_) (fun W hb => ?_)
        · refine (u1 W ps cs pg cg hr hg).mono ?_
          rintro e w' ⟨h | ⟨_, pp, cc, o, he, hl9, a1, a2, a3⟩, hb9⟩
          · exact absurd h.1 hcf
          · exact ⟨⟨o, pp, cc, ⟨a1, a2, a3⟩, he, hl9⟩, hb9⟩
        · refine (u2 W hb).mono ?_
          rintro e w' ⟨h | ⟨_, _, h | ⟨_, pp, cc, o, he, hl9, a1, a2, a3⟩⟩, hb9⟩
          · exact absurd ⟨h1, h2⟩ h.1
          · exact absurd h.1 hcf
          · exact ⟨⟨o, pp, cc, ⟨a1, a2, a3⟩, he, hl9⟩, hb9⟩
    · have hno : allMay dbl = false ∨ mayC c = false := by
        cases ha : allMay dbl with
        | false => exact .inl rfl
        | true =>
          cases hm : mayC c with
          | false => exact .inr rfl
          | true => exact absurd ⟨ha, hm⟩ hok
      refine runits_walk p z dbl q zq c w false 2 (fun o => o = []) (fun a b ha hb => ha.trans hb.symm) (fun a ha => by rw [ha]; simp) (.inl ⟨rfl, rfl⟩) hV hq hqz h60 hall h30 HL (fun W ps cs pg cg hb hr hg => ?_) (fun W hb => ?_)
      · refine (rupUnits_no ps cs dbl pg cg c W hr hn hf hg hc hno).mono ?_
        rintro e w' ⟨he, rfl⟩
        exact ⟨⟨[], none, 0, rfl, he, lits_none _ _⟩, Below.refl _ _⟩
      · refine (u2 W hb).mono ?_
        rintro e w' ⟨h | ⟨h1, h2, _⟩, hb9⟩
        · exact ⟨⟨[], none, 0, rfl, h.2, lits_none _ _⟩, hb9⟩
        · exact absurd ⟨h1, h2⟩ hok
theorem bool_of {f : Bool} {Q : Prop} (h : f = true ↔ Q) : (Q → f = true) ∧ (¬ Q → f = false) := ⟨h.2, fun hn => by cases f with | false => rfl | true => exact absurd (h.1 rfl) hn⟩
theorem rfol_any (p : Option Addr) (z : Nat) (dbl : List (List Int)) (q : Option Addr) (zq : Nat) (c : List Int) (w : World) (hV : RowsZ w p dbl) (hn : dbl.length ≤ 9223372036854775807) (hf : Fit63 dbl) (hq : LitsIn w q c.length (fnL c)) (hqz : q = none → zq = 0) (hc : c.length ≤ 9223372036854775807) :
    Calls Try.prog 4 #[.slice p dbl.length z, .slice q c.length zq] w fun e w' => e = .returned (.bool true) ∧ Below w.heap.size w w' := by
  have HL := large_any p z dbl w hV.rows hn hf
  by_cases hskip : largeB dbl = true ∨ (largeB dbl = false ∧ 30 < c.length)
  · exact rfol_skip p z _ q zq _ w _ hskip HL
  · obtain ⟨hl, h30⟩ : largeB dbl = false ∧ c.length ≤ 30 := by
      cases h1 : largeB dbl with
      | true => exact absurd (.inl h1) hskip
      | false =>
        by_cases h3 : 30 < c.length
        · exact absurd (.inr ⟨h1, h3⟩) hskip
        · exact ⟨rfl, by omega⟩
    obtain ⟨h60, hall⟩ := largeB_no hl
    rw [hl] at HL
    have hs0 := flat_len hall
    have hs1 : (dbl.flatten ++ c).length ≤ 5000 := by
      rw [List.length_append]
      omega
    have hs2 : c.length + dbl.flatten.length ≤ 5000 := by omega
    have u2 := fun W (hb : Below w.heap.size w W) => refFollows_at p z dbl q zq c W (hV.rows.later hb) (by omega) hf (hq.later hb) hs2
    by_cases hok : allMay dbl = true ∧ mayC c = true
    · obtain ⟨h1, h2⟩ := hok
      have u1 := fun W ps cs pg cg (hr : RowsIn W ps dbl) (hg : LitsIn W pg c.length (fnL c)) => rupFollows_yes ps cs dbl pg cg c W hr (by omega) hf hg h1 h2
      obtain ⟨g, hg⟩ : ∃ g : Bool, g = true ↔ Confl dbl (negs c) := by
        by_cases hcf : Confl dbl (negs c)
        · exact ⟨true, fun _ => hcf, fun _ => rfl⟩
        · exact ⟨false, fun h => absurd h (by decide), fun h => absurd h hcf⟩
      refine rfol_walk p z dbl q zq c w g 0 hV hq hqz h60 hall h30 HL (fun W ps cs pg cg hb hr hg2 => ?_) (fun W hb => ?_)
      · refine (u1 W ps cs pg cg hr hg2).mono ?_
        rintro e w' ⟨f, he, hfc, hb9⟩
        have : f = g := by rw [Bool.eq_iff_iff, hfc, hg]
        subst this
        exact ⟨he, hb9⟩
      · refine (u2 W hb).mono ?_
        rintro e w' ⟨h | ⟨_, _, f, he, hfc⟩, hb9⟩
        · exact absurd ⟨h1, h2⟩ h.1
        · have : f = g := by rw [Bool.eq_iff_iff, hfc, hg]
          subst this
          exact ⟨he, hb9⟩
    · have hno : allMay dbl = false ∨ mayC c = false := by
        cases ha : allMay dbl with
        | false => exact .inl rfl
        | true =>
          cases hm : mayC c with
          | false => exact .inr rfl
          | true => exact absurd ⟨ha, hm⟩ hok
      refine rfol_walk p z dbl q zq c w false 2 hV hq hqz h60 hall h30 HL (fun W ps cs pg cg hb hr hg => ?_) (fun W hb => ?_)
      · refine (rupFollows_no ps cs dbl pg cg c W hr hn hf hg hc hno).mono ?_
        rintro e w' ⟨he, rfl⟩
        exact ⟨he, Below.refl _ _⟩
      · refine (u2 W hb).mono ?_
        rintro e w' ⟨h | ⟨h1, h2, _⟩, hb9⟩
        · exact ⟨h.2, hb9⟩
        · exact absurd ⟨h1, h2⟩ hok
theorem rrow_any (p : Option Addr) (z : Nat) (dbl : List (List Int)) (q : Option Addr) (zq : Nat) (row : List (List Int)) (w : World)
    (hV : RowsZ w p dbl) (hz : p = none → z = 0) (hn : dbl.length ≤ 9223372036854775807) (hf : Fit63 dbl) (hQ : RowsZ w q row) (hn2 : row.length ≤ 9223372036854775807) (hf2 : Fit63 row) :
    Calls Try.prog 5 #[.slice p dbl.length z, .slice q row.length zq] w fun e w' => e = .returned (.bool true) ∧ Below w.heap.size w w' := by
  have L1 := large_any p z dbl w hV.rows hn hf
  have L2 := large_any q zq row w hQ.rows hn2 hf2
  by_cases hskip : largeB dbl = true ∨ (largeB dbl = false ∧ largeB row = true)
  · exact rrow_skip p z _ q zq _ w _ _ hskip L1 L2
  · obtain ⟨l1, l2⟩ : largeB dbl = false ∧ largeB row = false := by
      cases h1 : largeB dbl with
      | true => exact absurd (.inl h1) hskip
      | false =>
        cases h2 : largeB row with
        | true => exact absurd (.inr ⟨h1, h2⟩) hskip
        | false => exact ⟨rfl, rfl⟩
    rw [l1] at L1
    rw [l2] at L2
    obtain ⟨d60, dall⟩ := largeB_no l1
    obtain ⟨r60, rall⟩ := largeB_no l2
    have f1 := flat_len dall
    have f2 := flat_len rall
    by_cases hok : allMay dbl = true ∧ allMay row = true
    · obtain ⟨h1, h2⟩ := hok
      obtain ⟨k, a, hr1⟩ := row_ex dbl row
      refine rrow_walk p z dbl q zq row w k a 0 hV hQ d60 dall r60 rall L1 L2 (fun W ps cs pg cg hb hr hg => ?_) (fun W hb => ?_)
      · refine (rupRow_yes ps cs dbl pg cg row W hr (by omega) hf hg (by omega) hf2 h1 h2).mono ?_
        rintro e w' ⟨n2, a2, he, hro2, hb9⟩
        obtain ⟨e1, e2⟩ := row_uniq hr1 hro2
        subst e1 e2
        exact ⟨he, hb9⟩
      · refine (refRow_yes p z dbl q zq row W (hV.rows.later hb) hz (by omega) hf (hQ.rows.later hb) (by omega) hf2 h1 h2 (by omega)).mono ?_
        rintro e w' ⟨n2, a2, he, hro2, hb9⟩
        obtain ⟨e1, e2⟩ := row_uniq hr1 hro2
        subst e1 e2
        exact ⟨he, hb9⟩
    · have hno : allMay dbl = false ∨ allMay row = false := by
        cases ha : allMay dbl with
        | false => exact .inl rfl
        | true =>
          cases hm : allMay row with
          | false => exact .inr rfl
          | true => exact absurd ⟨ha, hm⟩ hok
      refine rrow_walk p z dbl q zq row w 0 false 2 hV hQ d60 dall r60 rall L1 L2 (fun W ps cs pg cg hb hr hg => ?_) (fun W hb => ?_)
      · refine (rupRow_no ps cs dbl pg cg row W hr hn hf hg hn2 hf2 hno).mono ?_
        rintro e w' ⟨he, rfl⟩
        exact ⟨he, Below.refl _ _⟩
      · refine (refRow_no p z dbl q zq row W (hV.rows.later hb) hn hf (hQ.rows.later hb) hn2 hf2 hno).mono ?_
        rintro e w' ⟨he, rfl⟩
        exact ⟨he, Below.refl _ _⟩
end Go.Proofs.Ytgdncnalahdjeaa
