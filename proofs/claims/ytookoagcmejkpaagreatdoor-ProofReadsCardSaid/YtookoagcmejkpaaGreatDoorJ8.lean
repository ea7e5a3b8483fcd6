/- What the document's Read does at any string: the same as the program's. A number's text: the program's digits. Is a row of digits 0? What known() does, of which some calls are told ahead: the classes, -/
import Derived.Test.YtookoagcmejkpaaGreatDoorDW4
import Derived.Test.YtookoagcmejkpaaGreatDoorJ3
import Derived.RegionTactic
import Derived.Laws.StructEq
import Derived.Tactics
import Derived.Tactics2
import Derived.Test.YtookoagcmejkpaaGreatDoorKn0
namespace Go.Proofs.YtookoagcmejkpaaGreatDoor
set_option maxRecDepth 100000
open Go Go.RowKit Go.Sort
theorem dval_app (m : List UInt8) : ∀ l : List UInt8, dval l <= dval (l ++ m) := by
 induction m with
 | nil => intro l; simp
 | cons c m ih =>
  intro l
  have h1 := ih (l ++ [c])
  have h2 := dval_le_snoc l c
  rw [List.append_assoc] at h1
  exact Nat.le_trans h2 h1
theorem dval_take (l : List UInt8) (k : Nat) : dval (l.take k) <= dval l := by
 have := dval_app (l.drop k) (l.take k)
 rwa [List.take_append_drop] at this

def RfAt (s : ByteArray) (k : Nat) (n : Int) : Prop := 0 <= n /\ n <= 4611686018427387903 /\ n = dval (s.data.toList.take k)
def DgAt (s : ByteArray) (k : Nat) : Prop := (s.data.toList.take k).all dig = true

theorem rf_bounds (s : ByteArray) (ha : s.data.toList.all dig = true) (k : Nat) (h : k < s.size) : 48 <= (s[k].toNat : Int) /\ (s[k].toNat : Int) <= 57 := by
 rw [List.all_eq_true] at ha
 have := ha s[k] (List.mem_iff_getElem.2 ⟨k, by rw [len_eq]; exact h, rfl⟩)
 simp [dig] at this
 omega
theorem rf_over (s : ByteArray) (hne : 0 < s.size) (h0 : ¬ (s[0].toNat = 48 /\ 1 < s.size)) (ha : s.data.toList.all dig = true) (k : Nat) (n : Int) (h : k < s.size) (hR : RfAt s k n) (hm : (4611686018427387903 - ((s[k].toNat : Int) - 48)) / 10 < n) : readN s.data.toList = 0 /\ readE s.data.toList = 6 := by
 obtain ⟨n0, n1, hn⟩ := hR
 have hb := rf_bounds s ha k h
 have h2 := dval_take s.data.toList (k + 1)
 rw [rd_val s k h] at h2
 have h3 : ¬ dval s.data.toList <= 4611686018427387903 := by omega
 unfold readN readE
 rw [rd_num s hne h0 ha]
 simp [h3]
theorem rf_step (s : ByteArray) (ha : s.data.toList.all dig = true) (k : Nat) (n : Int) (h : k < s.size) (hR : RfAt s k n) (hm : n <= (4611686018427387903 - ((s[k].toNat : Int) - 48)) / 10) : RfAt s (k + 1) (n * 10 + ((s[k].toNat : Int) - 48)) := by
 obtain ⟨n0, n1, hn⟩ := hR
 have hb := rf_bounds s ha k h
 refine ⟨by omega, by omega, ?_⟩
 rw [rd_val s k h]; omega
theorem rf_end (s : ByteArray) (hne : 0 < s.size) (h0 : ¬ (s[0].toNat = 48 /\ 1 < s.size)) (ha : s.data.toList.all dig = true) (k : Nat) (n : Int) (hk : k <= s.size) (h : ¬ k < s.size) (hR : RfAt s k n) : readN s.data.toList = n /\ readE s.data.toList = 0 := by
 obtain rfl : k = s.size := by omega
 obtain ⟨n0, n1, hn⟩ := hR
 rw [List.take_of_length_le (by rw [len_eq]; omega)] at hn
 have h3 : dval s.data.toList <= 4611686018427387903 := by omega
 unfold readN readE
 rw [rd_num s hne h0 ha]
 simp [h3, hn]

set_option maxHeartbeats 1000000 in
theorem refRead_loop (s : ByteArray) (w : World) (hs : s.size <= 140737488351232) (hne : 0 < s.size) (h0 : ¬ (s[0].toNat = 48 /\ 1 < s.size)) :
  Calls Tryz.prog 82 #[.string s] w fun e w' => e = .returned (.tuple #[.int .i64 (readN s.data.toList), .int .i64 (readE s.data.toList)]) /\ w' = w := by
 have H0 := Lib.hid h0
 have hstart : DgAt s 0 := by unfold DgAt; simp
 have HS := Lib.hid hstart
 have hstart2 : RfAt s 0 0 := ⟨by omega, by omega, by simp [dval]⟩
 have HS2 := Lib.hid hstart2
 clear hstart hstart2
 have e0 : ((s.size : Int) == 0) = false := by rw [beq_eq_false_iff_ne]; omega
 have hz : (1 < s.size /\ ((s[0].toNat : Int) == 48) = false) \/ s.size <= 1 := by
  by_cases h1 : 1 < s.size
  ·left; refine ⟨h1, ?_⟩; rw [beq_eq_false_iff_ne]; omega
  ·right; omega
 clear h0
 rcases hz with ⟨hz, hz2⟩ | hz
 all_goals
  go_enter Tryz.func82, Tryz.ntmps82
  go_wp2
  go_loop [4] (fun i => ∃ k : Nat, k <= s.size /\ i = .int .i64 k /\ DgAt s k) (fun i => s.size - (intOf i).toNat)
  case atStart => exact ⟨0, by omega, rfl, HS.out⟩
  case round =>
   obtain ⟨k, hk, rfl, hR⟩ := hrel
   have HR := Lib.hid hR
   clear hR
   by_cases hlt : k < s.size
   ·go_wp2
    ·have hb := rd_bad s k hlt (by omega)
     go_ret2
     exact ⟨by rw [hb.1, hb.2]; rfl, rfl⟩
    ·go_round
     case rel => exact ⟨k + 1, by omega, by go_num, rd_all s k hlt HR.out (by omega) (by omega)⟩
     case measure => simp [intOf]; omega
    ·have hb := rd_bad s k hlt (by omega)
     go_ret2
     exact ⟨by rw [hb.1, hb.2]; rfl, rfl⟩
   ·have ha : s.data.toList.all dig = true := by
     have := HR.out
     unfold DgAt at this
     rwa [List.take_of_length_le (by rw [len_eq]; omega)] at this
    have HA := Lib.hid ha
    clear ha
    go_wp2
    go_loop [5, 6] (fun n i => ∃ (k : Nat) (m : Int), k <= s.size /\ i = .int .i64 k /\ n = .int .i64 m /\ RfAt s k m) (fun _ i => s.size - (intOf i).toNat)
    case atStart => exact ⟨0, 0, by omega, rfl, rfl, HS2.out⟩
    case round =>
     obtain ⟨k2, m, hk2, rfl, rfl, hR2⟩ := hrel
     have m0 := hR2.1
     have m1 := hR2.2.1
     have HR2 := Lib.hid hR2
     clear hR2
     by_cases hlt2 : k2 < s.size
     ·have hbd := rf_bounds s HA.out k2 hlt2
      go_wp2
      ·have hb := rf_over s hne H0.out HA.out k2 m hlt2 HR2.out (by assumption)
       have HB := Lib.hid hb
       clear hb
       go_ret2
       exact ⟨by rw [HB.out.1, HB.out.2]; rfl, rfl⟩
      ·go_round
       case rel => exact ⟨k2 + 1, _, by omega, by go_num, rfl, rf_step s HA.out k2 m hlt2 HR2.out (by assumption)⟩
       case measure => simp [intOf]; omega
     ·have hb := rf_end s hne H0.out HA.out k2 m hk2 hlt2 HR2.out
      have HB := Lib.hid hb
      clear hb
      go_wp2
      go_ret2
      exact ⟨by rw [HB.out.1, HB.out.2]; rfl, rfl⟩

theorem refRead_any (s : ByteArray) (w : World) (hs : s.size <= 140737488351232) :
  Calls Tryz.prog 82 #[.string s] w fun e w' => e = .returned (.tuple #[.int .i64 (readN s.data.toList), .int .i64 (readE s.data.toList)]) /\ w' = w := by
 by_cases hne : 0 < s.size
 ·by_cases h0 : s[0].toNat = 48 /\ 1 < s.size
  ·have hf : isNum s.data.toList = false := by
    have e2 : s.data.toList.head? = some s[0] := by
     rw [List.head?_eq_getElem?, List.getElem?_eq_getElem (by simpa using hne)]; rfl
    have e3 : s[0] = 48 := UInt8.toNat_inj.1 h0.1
    have e4 : 1 < s.data.toList.length := by rw [len_eq]; exact h0.2
    unfold isNum
    rw [e2, e3]
    simp only [decide_true, decide_eq_true e4, Bool.and_self, Bool.not_true, Bool.and_false, Bool.false_and]
   have h1 : readN s.data.toList = 0 := by unfold readN; rw [hf]; simp
   have h2 : readE s.data.toList = 5 := by unfold readE; rw [hf]; simp
   have H1 := Lib.hid h1
   have H2 := Lib.hid h2
   have e0 : ((s.size : Int) == 0) = false := by rw [beq_eq_false_iff_ne]; omega
   have b1 : ((s[0].toNat : Int) == 48) = true := by simp [h0.1]
   have b2 : 1 < s.size := h0.2
   clear h1 h2 h0 hf
   go_enter Tryz.func82, Tryz.ntmps82
   go_wp2
   go_ret2
   exact ⟨by rw [H1.out, H2.out]; rfl, rfl⟩
  ·exact refRead_loop s w hs hne h0
 ·have e0 : s.data.toList = [] := List.eq_nil_of_length_eq_zero (by rw [len_eq]; omega)
  have e1 : ((s.size : Int) == 0) = true := by rw [beq_iff_eq]; omega
  have h1 : readN s.data.toList = 0 := by rw [e0]; rfl
  have h2 : readE s.data.toList = 5 := by rw [e0]; rfl
  have H1 := Lib.hid h1
  have H2 := Lib.hid h2
  clear h1 h2 e0 hne
  go_enter Tryz.func82, Tryz.ntmps82
  go_wp2
  go_ret2
  exact ⟨by rw [H1.out, H2.out]; rfl, rfl⟩
theorem text_any (n : Int) (w : World) (h0 : -9223372036854775808 <= n) (h1 : n <= 9223372036854775807) (htab : Lib.TabIs Tryz.prog w "internal/strconv.uint64pow10" .u64 Lib.pow10Tab) :
  Calls Tryz.prog 95 #[.int .i64 n] w fun e w' => e = .returned (.string ⟨(Lib.itoa n).toArray⟩) /\ Below w.heap.size w w' := by
 go_enter Tryz.func95, Tryz.ntmps95
 go_wp2_with (go_at_call 110; refine (Tryz.strconv_FormatInt_10 n h0 h1 _ htab).mono ?_; rintro e w' ⟨rfl, k, os, rfl⟩)
 go_ret
 exact ⟨rfl, below_grow _ _ _⟩
theorem arr_equalIn (c0 c1 c2 c3 c4 c5 c6 c7 c8 c9 : Int) (w : World) : (Op.equalIn 10000 121 (.agg #[.int .i64 c0, .int .i64 c1, .int .i64 c2, .int .i64 c3, .int .i64 c4, .int .i64 c5, .int .i64 c6, .int .i64 c7, .int .i64 c8, .int .i64 c9]) (.agg #[.int .i64 0, .int .i64 0, .int .i64 0, .int .i64 0, .int .i64 0, .int .i64 0, .int .i64 0, .int .i64 0, .int .i64 0, .int .i64 0])).run Tryz.prog w = .ok ((c0 == 0) && (c1 == 0) && (c2 == 0) && (c3 == 0) && (c4 == 0) && (c5 == 0) && (c6 == 0) && (c7 == 0) && (c8 == 0) && (c9 == 0)) w := by
 have u2 := Tryz.underlying2
 have a2 := Tryz.isAgg2
 have z2 := Tryz.sizeOf2
 rw [show (10000 : Nat) = 9999 + 1 from rfl, Op.equalIn]
 simp only [Sem.run_bind, run_underlying Tryz.underlying121, Result.andThen_ok]
 simp only [Std.Legacy.Range.forIn_eq_forIn_range', Std.Legacy.Range.size, Nat.sub_zero, Nat.add_sub_cancel, Nat.div_one, List.range'_succ, List.range'_zero, List.forIn_cons, List.forIn_nil]
 go_simp
 repeat' split
 all_goals simp_all
theorem arr_eql (c0 c1 c2 c3 c4 c5 c6 c7 c8 c9 : Int) (w : World) : (binOp .eql 121 (.agg #[.int .i64 c0, .int .i64 c1, .int .i64 c2, .int .i64 c3, .int .i64 c4, .int .i64 c5, .int .i64 c6, .int .i64 c7, .int .i64 c8, .int .i64 c9]) (.agg #[.int .i64 0, .int .i64 0, .int .i64 0, .int .i64 0, .int .i64 0, .int .i64 0, .int .i64 0, .int .i64 0, .int .i64 0, .int .i64 0])).run Tryz.prog w = .ok (.bool ((c0 == 0) && (c1 == 0) && (c2 == 0) && (c3 == 0) && (c4 == 0) && (c5 == 0) && (c6 == 0) && (c7 == 0) && (c8 == 0) && (c9 == 0))) w := by
 rw [run_eql_struct, arr_equalIn]; rfl
theorem zero_any (c0 c1 c2 c3 c4 c5 c6 c7 c8 c9 : Int) (w : World) :
  Calls Tryz.prog 99 #[.agg #[.int .i64 c0, .int .i64 c1, .int .i64 c2, .int .i64 c3, .int .i64 c4, .int .i64 c5, .int .i64 c6, .int .i64 c7, .int .i64 c8, .int .i64 c9]] w fun e w' => e = .returned (.bool ((c0 == 0) && (c1 == 0) && (c2 == 0) && (c3 == 0) && (c4 == 0) && (c5 == 0) && (c6 == 0) && (c7 == 0) && (c8 == 0) && (c9 == 0))) /\ Below w.heap.size w w' := by
 have A := fun W => arr_eql c0 c1 c2 c3 c4 c5 c6 c7 c8 c9 W
 go_enter Tryz.func99, Tryz.ntmps99
 go_wp2
 go_ret
 exact ⟨rfl, (Below.refl _ _).alloc (Nat.le_refl _) _⟩
end Go.Proofs.YtookoagcmejkpaaGreatDoor
namespace Go.Proofs.YtookoagcmejkpaaGreatDoor
open Go Go.RowKit
def je0 : List ByteArray := [⟨#[99, 108, 97, 117, 115, 101]⟩, ⟨#[40, 45, 32, 49, 41]⟩, ⟨#[50]⟩]
def jr0 : ByteArray := ⟨#[99, 108, 97, 117, 115, 101, 32, 40, 45, 32, 49, 41, 32, 50]⟩
def je1 : List ByteArray := [⟨#[108, 105, 110, 107, 115]⟩, ⟨#[40, 103, 105, 118, 101, 110, 32, 49, 41]⟩, ⟨#[40, 99, 108, 97, 115, 104, 32, 48, 41]⟩]
def jr1 : ByteArray := ⟨#[108, 105, 110, 107, 115, 32, 40, 103, 105, 118, 101, 110, 32, 49, 41, 32, 40, 99, 108, 97, 115, 104, 32, 48, 41]⟩
def je2 : List ByteArray := [⟨#[40, 99, 108, 97, 117, 115, 101, 32, 40, 45, 32, 49, 41, 32, 50, 41]⟩, ⟨#[40, 108, 105, 110, 107, 115, 32, 40, 103, 105, 118, 101, 110, 32, 49, 41, 32, 40, 99, 108, 97, 115, 104, 32, 48, 41, 41]⟩]
def jr2 : ByteArray := ⟨#[40, 99, 108, 97, 117, 115, 101, 32, 40, 45, 32, 49, 41, 32, 50, 41, 32, 40, 108, 105, 110, 107, 115, 32, 40, 103, 105, 118, 101, 110, 32, 49, 41, 32, 40, 99, 108, 97, 115, 104, 32, 48, 41, 41]⟩
def fls (l : List ByteArray) : List Ab.AV := (l.map Value.string).map Ab.AV.flat
noncomputable def jn (xs : List Ab.AV) : Option ByteArray :=
 match Ab.asSame xs (fls je0) with
 | true => some jr0
 | false =>
  match Ab.asSame xs (fls je1) with
  | true => some jr1
  | false =>
   match Ab.asSame xs (fls je2) with
   | true => some jr2
   | false => none
def joinB (l : List ByteArray) : ByteArray := ⟨(Lib.join (l.map (·.data.toList)) [32]).toArray⟩
theorem jn_spec {xs : List Ab.AV} {r : ByteArray} (h : jn xs = some r) : ∃ l : List ByteArray, xs = fls l /\ r = joinB l /\ l.length <= 3 /\ (Lib.join (l.map (·.data.toList)) [32]).length <= 100 := by
 unfold jn at h
 split at h
 ·rename_i e; cases h; exact ⟨je0, Ab.asSame_spec e, by rfl, by decide, by decide⟩
 ·split at h
  ·rename_i e; cases h; exact ⟨je1, Ab.asSame_spec e, by rfl, by decide, by decide⟩
  ·split at h
   ·rename_i e; cases h; exact ⟨je2, Ab.asSame_spec e, by rfl, by decide, by decide⟩
   ·cases h
noncomputable def memoK : Ab.Memo := fun f args A =>
 match Nat.beq f 121 with
 | true =>
  match args with
  | [] => some (.agg (clsV.map Ab.AV.flat), A)
  | _ => none
 | false =>
  match Nat.beq f 152 with
  | true =>
   match args with
   | [.flat (.string s), .flat (.int .u8 c)] => some (.flat (.int .i64 (Lib.indexByte s.data.toList c.toNat.toUInt8)), A)
   | _ => none
  | false =>
   match Nat.beq f 87 with
   | true =>
    match args with
    | [.sl n o len cap _b, .flat (.string sep)] =>
     match A.get n with
     | some (.cells l _t) =>
      match jn ((l.drop o).take len) with
      | some r =>
       match Nat.beq ((l.drop o).take len).length len && Nat.ble len cap && Ab.vSame (.string sep) (.string ⟨#[32]⟩) with
       | true => some (.flat (.string r), A)
       | false => none
      | none => none
     | _ => none
    | _ => none
   | false => none
theorem outc_below {ρ : Ab.Rn} {w w' : World} {A : Ab.AW} {v : Ab.AV} {x : Value} (hs : Ab.Sim Tryz.prog ρ A.live w) (hv : Ab.VR ρ v x) (hb : Below w.heap.size w w') : Ab.Outc Tryz.prog ρ w A v A (.returned x) w' := by
 have hold : ∀ n ao l, A.live n = some ao -> ρ n = some l -> w'.heap[l.blk]? = w.heap[l.blk]? := fun n ao l hn hl => by
  obtain ⟨l', o, e1, e2, _⟩ := hs.obj n ao hn
  rw [hl] at e1; cases e1
  exact hb.block _ (Array.getElem?_eq_some_iff.1 e2).1
 refine ⟨x, ρ, rfl, hv, ⟨fun n ao hn => ?_, hs.inj⟩, ⟨Ab.Sub.refl _, fun _ e k => absurd e k, Nat.le_refl _, fun n ao h => .inl ⟨ao, h⟩, fun n ao l h e => .inr ⟨n, ao, l, h, e, rfl⟩, fun b hb' _ => hb.block b hb', hb.size, hb.os, hb.tape, hb.output⟩⟩
 obtain ⟨l, o, e1, e2, e3⟩ := hs.obj n ao hn
 exact ⟨l, o, e1, by rw [hold n ao l hn e1]; exact e2, e3⟩
theorem memoK_ok : Ab.MemoOk Tryz.prog memoK := by
 intro f args A v A' h ρ w hs hf
 unfold memoK at h
 split at h
 ·rename_i hfe
  have e0 := Nat.eq_of_beq_eq_true hfe
  subst e0
  split at h
  ·cases h
   intro xs hx
   cases hx
   refine (classes_any w).mono ?_
   rintro e w' ⟨rfl, hb⟩
   exact outc_below hs (.agg (flats_to _)) hb
  ·cases h
 ·split at h
  ·rename_i hfe
   have e0 := Nat.eq_of_beq_eq_true hfe
   subst e0
   split at h
   ·cases h
    intro xs hx
    cases hx with
    | cons h1 h2 =>
    cases h2 with
    | cons h2 h3 =>
    cases h3
    cases h1
    cases h2
    refine (Tryz.stringslite_IndexByte _ _ w).mono ?_
    rintro e w' ⟨rfl, rfl⟩
    exact outc_below hs (.flat _) (Below.refl _ _)
   ·cases h
  ·split at h
   ·rename_i hfe
    have e0 := Nat.eq_of_beq_eq_true hfe
    subst e0
    split at h
    ·split at h
     ·rename_i n o len cap b sep x l t hg
      split at h
      ·rename_i r hj
       split at h
       ·rename_i hb
        cases h
        simp only [Bool.and_eq_true] at hb
        obtain ⟨⟨hb1, hb2⟩, hb3⟩ := hb
        have c1 := Nat.eq_of_beq_eq_true hb1
        have c2 := Nat.le_of_ble_eq_true hb2
        have c3 := Ab.vSame_spec hb3
        obtain ⟨bs, hbs, rfl, hl3, hl100⟩ := jn_spec hj
        intro xs hx
        cases hx with
        | cons h1 h2 =>
        cases h2 with
        | cons h2 h3 =>
        cases h3
        cases h2
        injection c3 with c3
        subst c3
        cases h1 with
        | sl _ _ _ _ hn =>
        rename_i lc
        obtain ⟨lc', ob, q1, q2, C, fz, rfl, q4, q5, q6⟩ := hs.obj n _ (show A.live n = some (.cells l t) from by unfold Ab.AW.live; rw [hg])
        rw [hn] at q1
        cases q1
        have hlen : bs.length = len := by rw [hbs] at c1; simpa [fls] using c1
        subst hlen
        refine (Tryz.strings_Join lc.blk (lc.base + o) _ bs ⟨#[32]⟩ w ?_ (Array.getElem?_eq_some_iff.1 q2).1 (by omega) (by omega) (Nat.le_trans hl100 (by decide))).mono ?_
        ·intro j y hy
         have e1 : (fls bs)[j]? = some (.flat (.string y)) := by simp [fls, hy]
         have hjl : j < bs.length := (List.getElem?_eq_some_iff.1 hy).1
         rw [<- hbs, List.getElem?_take_of_lt hjl, List.getElem?_drop] at e1
         obtain ⟨v, g1, g2⟩ := q6 _ _ e1
         cases g2
         simp [World.cell?, q2, Nat.add_assoc, g1]
        ·rintro e w' ⟨rfl, hb⟩
         exact outc_below hs (.flat _) hb
       ·cases h
      ·cases h
     ·cases h
    ·cases h
   ·cases h
def itoB (n : Int) : ByteArray := ⟨(Lib.itoa n).toArray⟩
abbrev PowTab (w : World) : Prop := Lib.TabIs Tryz.prog w "internal/strconv.uint64pow10" .u64 Lib.pow10Tab
theorem number68_pos (n : Int) (W : World) (h0 : 0 <= n) (h1 : n <= 9223372036854775807) (htab : PowTab W) : Calls Tryz.prog 68 #[.int .i64 n] W fun e w' => e = .returned (trV false 4 (itoB n) 0 none 0 0) /\ Below W.heap.size W w' := by
 have HT := Lib.hid (tabIs_below htab (below1 W (.cells #[.bool false, .int .u8 0, .string ⟨#[]⟩, .int .i64 0, .slice none 0 0] 35)))
 have HX := Lib.hid (text_any n (W.alloc (.cells #[.bool false, .int .u8 0, .string ⟨#[]⟩, .int .i64 0, .slice none 0 0] 35)) (by omega) h1 HT.out)
 have hneg : ¬ n < 0 := by omega
 clear htab HT
 go_enter Tryz.func68, Tryz.ntmps68
 go_wp2_with fail
 refine HX.out.mono ?_
 rintro e w1 ⟨rfl, hb⟩
 have HB := Lib.hid (Below.trans (below1 W (.cells #[.bool false, .int .u8 0, .string ⟨#[]⟩, .int .i64 0, .slice none 0 0] 35)) (hb.mono (by simp)))
 obtain ⟨z0, z1, z2, z3, z4, zf⟩ := (box_new W false 0 ⟨#[]⟩ 0 (.slice none 0 0)).later hb
 clear hb
 go_wp2_with fail
 refine bodyPost_ret (v := trV false 4 (itoB n) 0 none 0 0) (by simp [trV, itoB, results, Tryz.results68, go_sem, z0, z1, z2, z3, z4]) rfl ⟨rfl, ?_⟩
 iterate 5 refine Below.setCell ?_ (show W.heap.size <= W.heap.size from Nat.le_refl _) _
 exact HB.out
theorem number66_pos (n : Int) (W : World) (h0 : 0 <= n) (h1 : n <= 9223372036854775807) (htab : PowTab W) : Calls Tryz.prog 66 #[.int .i64 n] W fun e w' => e = .returned (trV false 4 (itoB n) 0 none 0 0) /\ Below W.heap.size W w' := by
 have HT := Lib.hid (tabIs_below htab (below1 W (.cells #[.bool false, .int .u8 0, .string ⟨#[]⟩, .int .i64 0, .slice none 0 0] 35)))
 have HX := Lib.hid (text_any n (W.alloc (.cells #[.bool false, .int .u8 0, .string ⟨#[]⟩, .int .i64 0, .slice none 0 0] 35)) (by omega) h1 HT.out)
 have hneg : ¬ n < 0 := by omega
 clear htab HT
 go_enter Tryz.func66, Tryz.ntmps66
 go_wp2_with fail
 refine HX.out.mono ?_
 rintro e w1 ⟨rfl, hb⟩
 have HB := Lib.hid (Below.trans (below1 W (.cells #[.bool false, .int .u8 0, .string ⟨#[]⟩, .int .i64 0, .slice none 0 0] 35)) (hb.mono (by simp)))
 obtain ⟨z0, z1, z2, z3, z4, zf⟩ := (box_new W false 0 ⟨#[]⟩ 0 (.slice none 0 0)).later hb
 clear hb
 go_wp2_with fail
 refine bodyPost_ret (v := trV false 4 (itoB n) 0 none 0 0) (by simp [trV, itoB, results, Tryz.results66, go_sem, z0, z1, z2, z3, z4]) rfl ⟨rfl, ?_⟩
 iterate 5 refine Below.setCell ?_ (show W.heap.size <= W.heap.size from Nat.le_refl _) _
 exact HB.out
end Go.Proofs.YtookoagcmejkpaaGreatDoor
