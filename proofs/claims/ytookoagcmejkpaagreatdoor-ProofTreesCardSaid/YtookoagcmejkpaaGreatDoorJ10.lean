/- A number's text: the program's digits. Is a row of digits 0? What known() does, of which some calls are told ahead: the classes, an index of a byte, three joins. A number's tree, where it isn't negati -/
import Derived.Test.YtookoagcmejkpaaGreatDoorJ4
import Derived.Test.YtookoagcmejkpaaGreatDoorDW4
import Derived.RegionTactic
import Derived.Laws.StructEq
import Derived.Tactics
import Derived.Tactics2
import Derived.Test.YtookoagcmejkpaaGreatDoorKn0
import Derived.Test.YtookoagcmejkpaaGreatDoorJ5
namespace Go.Proofs.YtookoagcmejkpaaGreatDoor
set_option maxRecDepth 100000
open Go Go.RowKit Go.Sort
theorem text_any (n : Int) (w : World) (h0 : -9223372036854775808 ≤ n) (h1 : n ≤ 9223372036854775807) (htab : Lib.TabIs Tryz.prog w "internal/strconv.uint64pow10" .u64 Lib.pow10Tab) :
  Calls Tryz.prog 95 #[.int .i64 n] w fun e w' => e = .returned (.string ⟨(Lib.itoa n).toArray⟩) ∧ Below w.heap.size w w' := by
 go_enter Tryz.func95, Tryz.ntmps95
 go_wp2_with (go_at_call 110; refine (Tryz.strconv_FormatInt_10 n h0 h1 _ htab).mono ?_; rintro e w' ⟨rfl, k, os, rfl⟩)
 go_ret
 exact ⟨rfl, below_grow _ _ _⟩
theorem arr_equalIn (c0 c1 c2 c3 c4 c5 c6 c7 c8 c9 : Int) (w : World) : (Op.equalIn 10000 121 (.agg #[.int .i64 c0, .int .i64 c1, .int .i64 c2, .int .i64 c3, .int .i64 c4, .int .i64 c5, .int .i64 c6, .int .i64 c7, .int .i64 c8, .int .i64 c9]) (.agg #[.int .i64 0, .int .i64 0, .int .i64 0, .int .i64 0, .int .i64 0, .int .i64 0, .int .i64 0, .int .i64 0, .int .i64 0, .int .i64 0])).run Tryz.prog w = .ok ((c0 == 0) && (c1 == 0) && (c2 == 0) && (c3 == 0) && (c4 == 0) && (c5 == 0) && (c6 == 0) && (c7 == 0) && (c8 == 0) && (c9 == 0)) w := by
 have u2 := Tryz.underlying2
 have a2 := Tryz.isAgg2
 have z2 := Tryz.sizeOf2
 rw [show (10000 : Nat) = 9999 + 1 from rfl, Op.equalIn]
 simp only [Sem.run_bind, run_underlying Tryz.underlying121, Result.andThen_ok]
 simp only [Std.Legacy.Range.forIn_eq_forIn_range', Std.Legacy.Range.size, Nat.sub_zero, Nat.add_sub_cancel, Nat.div_one, List.range'_succ, List.range'_zero, List.forIn_cons, List.forIn_nil]
 go_simp
 repeat' split
 all_goals simp_all
theorem arr_eql (c0 c1 c2 c3 c4 c5 c6 c7 c8 c9 : Int) (w : World) : (binOp .eql 121 (.agg #[.int .i64 c0, .int .i64 c1, .int .i64 c2, .int .i64 c3, .int .i64 c4, .int .i64 c5, .int .i64 c6, .int .i64 c7, .int .i64 c8, .int .i64 c9]) (.agg #[.int .i64 0, .int .i64 0, .int .i64 0, .int .i64 0, .int .i64 0, .int .i64 0, .int .i64 0, .int .i64 0, .int .i64 0, .int .i64 0])).run Tryz.prog w = .ok (.bool ((c0 == 0) && (c1 == 0) && (c2 == 0) && (c3 == 0) && (c4 == 0) && (c5 == 0) && (c6 == 0) && (c7 == 0) && (c8 == 0) && (c9 == 0))) w := by
 rw [run_eql_struct, arr_equalIn]; rfl
theorem zero_any (c0 c1 c2 c3 c4 c5 c6 c7 c8 c9 : Int) (w : World) :
  Calls Tryz.prog 99 #[.agg #[.int .i64 c0, .int .i64 c1, .int .i64 c2, .int .i64 c3, .int .i64 c4, .int .i64 c5, .int .i64 c6, .int .i64 c7, .int .i64 c8, .int .i64 c9]] w fun e w' => e = .returned (.bool ((c0 == 0) && (c1 == 0) && (c2 == 0) && (c3 == 0) && (c4 == 0) && (c5 == 0) && (c6 == 0) && (c7 == 0) && (c8 == 0) && (c9 == 0))) ∧ Below w.heap.size w w' := by
 have A := fun W => arr_eql c0 c1 c2 c3 c4 c5 c6 c7 c8 c9 W
 go_enter Tryz.func99, Tryz.ntmps99
 go_wp2
 go_ret
 exact ⟨rfl, (Below.refl _ _).alloc (Nat.le_refl _) _⟩
end Go.Proofs.YtookoagcmejkpaaGreatDoor
namespace Go.Proofs.YtookoagcmejkpaaGreatDoor
open Go Go.RowKit
def je0 : List ByteArray := [⟨#[99, 108, 97, 117, 115, 101]⟩, ⟨#[40, 45, 32, 49, 41]⟩, ⟨#[50]⟩]
def jr0 : ByteArray := ⟨#[99, 108, 97, 117, 115, 101, 32, 40, 45, 32, 49, 41, 32, 50]⟩
def je1 : List ByteArray := [⟨#[108, 105, 110, 107, 115]⟩, ⟨#[40, 103, 105, 118, 101, 110, 32, 49, 41]⟩, ⟨#[40, 99, 108, 97, 115, 104, 32, 48, 41]⟩]
def jr1 : ByteArray := ⟨#[108, 105, 110, 107, 115, 32, 40, 103, 105, 118, 101, 110, 32, 49, 41, 32, 40, 99, 108, 97, 115, 104, 32, 48, 41]⟩
def je2 : List ByteArray := [⟨#[40, 99, 108, 97, 117, 115, 101, 32, 40, 45, 32, 49, 41, 32, 50, 41]⟩, ⟨#[40, 108, 105, 110, 107, 115, 32, 40, 103, 105, 118, 101, 110, 32, 49, 41, 32, 40, 99, 108, 97, 115, 104, 32, 48, 41, 41]⟩]
def jr2 : ByteArray := ⟨#[40, 99, 108, 97, 117, 115, 101, 32, 40, 45, 32, 49, 41, 32, 50, 41, 32, 40, 108, 105, 110, 107, 115, 32, 40, 103, 105, 118, 101, 110, 32, 49, 41, 32, 40, 99, 108, 97, 115, 104, 32, 48, 41, 41]⟩
def fls (l : List ByteArray) : List Ab.AV := (l.map Value.string).map Ab.AV.flat
noncomputable def jn (xs : List Ab.AV) : Option ByteArray :=
 match Ab.asSame xs (fls je0) with
 | true => some jr0
 | false =>
  match Ab.asSame xs (fls je1) with
  | true => some jr1
  | false =>
   match Ab.asSame xs (fls je2) with
   | true => some jr2
   | false => none
def joinB (l : List ByteArray) : ByteArray := ⟨(Lib.join (l.map (·.data.toList)) [32]).toArray⟩
theorem jn_spec {xs : List Ab.AV} {r : ByteArray} (h : jn xs = some r) : ∃ l : List ByteArray, xs = fls l ∧ r = joinB l ∧ l.length ≤ 3 ∧ (Lib.join (l.map (·.data.toList)) [32]).length ≤ 100 := by
 unfold jn at h
 split at h
 ·rename_i e; cases h; exact ⟨je0, Ab.asSame_spec e, by rfl, by decide, by decide⟩
 ·split at h
  ·rename_i e; cases h; exact ⟨je1, Ab.asSame_spec e, by rfl, by decide, by decide⟩
  ·split at h
   ·rename_i e; cases h; exact ⟨je2, Ab.asSame_spec e, by rfl, by decide, by decide⟩
   ·cases h
noncomputable def memoK : Ab.Memo := fun f args A =>
 match Nat.beq f 121 with
 | true =>
  match args with
  | [] => some (.agg (clsV.map Ab.AV.flat), A)
  | _ => none
 | false =>
  match Nat.beq f 152 with
  | true =>
   match args with
   | [.flat (.string s), .flat (.int .u8 c)] => some (.flat (.int .i64 (Lib.indexByte s.data.toList c.toNat.toUInt8)), A)
   | _ => none
  | false =>
   match Nat.beq f 87 with
   | true =>
    match args with
    | [.sl n o len cap _b, .flat (.string sep)] =>
     match A.get n with
     | some (.cells l _t) =>
      match jn ((l.drop o).take len) with
      | some r =>
       match Nat.beq ((l.drop o).take len).length len && Nat.ble len cap && Ab.vSame (.string sep) (.string ⟨#[32]⟩) with
       | true => some (.flat (.string r), A)
       | false => none
      | none => none
     | _ => none
    | _ => none
   | false => none
theorem outc_below {ρ : Ab.Rn} {w w' : World} {A : Ab.AW} {v : Ab.AV} {x : Value} (hs : Ab.Sim Tryz.prog ρ A.live w) (hv : Ab.VR ρ v x) (hb : Below w.heap.size w w') : Ab.Outc Tryz.prog ρ w A v A (.returned x) w' := by
 have hold : ∀ n ao l, A.live n = some ao → ρ n = some l → w'.heap[l.blk]? = w.heap[l.blk]? := fun n ao l hn hl => by
  obtain ⟨l', o, e1, e2, _⟩ := hs.obj n ao hn
  rw [hl] at e1; cases e1
  exact hb.block _ (Array.getElem?_eq_some_iff.1 e2).1
 refine ⟨x, ρ, rfl, hv, ⟨fun n ao hn => ?_, hs.inj⟩, ⟨Ab.Sub.refl _, fun _ e k => absurd e k, Nat.le_refl _, fun n ao h => .inl ⟨ao, h⟩, fun n ao l h e => .inr ⟨n, ao, l, h, e, rfl⟩, fun b hb' _ => hb.block b hb', hb.size, hb.os, hb.tape, hb.output⟩⟩
 obtain ⟨l, o, e1, e2, e3⟩ := hs.obj n ao hn
 exact ⟨l, o, e1, by rw [hold n ao l hn e1]; exact e2, e3⟩
theorem memoK_ok : Ab.MemoOk Tryz.prog memoK := by
 intro f args A v A' h ρ w hs hf
 unfold memoK at h
 split at h
 ·rename_i hfe
  have e0 := Nat.eq_of_beq_eq_true hfe
  subst e0
  split at h
  ·cases h
   intro xs hx
   cases hx
   refine (classes_any w).mono ?_
   rintro e w' ⟨rfl, hb⟩
   exact outc_below hs (.agg (flats_to _)) hb
  ·cases h
 ·split at h
  ·rename_i hfe
   have e0 := Nat.eq_of_beq_eq_true hfe
   subst e0
   split at h
   ·cases h
    intro xs hx
    cases hx with
    | cons h1 h2 =>
    cases h2 with
    | cons h2 h3 =>
    cases h3
    cases h1
    cases h2
    refine (Tryz.stringslite_IndexByte _ _ w).mono ?_
    rintro e w' ⟨rfl, rfl⟩
    exact outc_below hs (.flat _) (Below.refl _ _)
   ·cases h
  ·split at h
   ·rename_i hfe
    have e0 := Nat.eq_of_beq_eq_true hfe
    subst e0
    split at h
    ·split at h
     ·rename_i n o len cap b sep x l t hg
      split at h
      ·rename_i r hj
       split at h
       ·rename_i hb
        cases h
        simp only [Bool.and_eq_true] at hb
        obtain ⟨⟨hb1, hb2⟩, hb3⟩ := hb
        have c1 := Nat.eq_of_beq_eq_true hb1
        have c2 := Nat.le_of_ble_eq_true hb2
        have c3 := Ab.vSame_spec hb3
        obtain ⟨bs, hbs, rfl, hl3, hl100⟩ := jn_spec hj
        intro xs hx
        cases hx with
        | cons h1 h2 =>
        cases h2 with
        | cons h2 h3 =>
        cases h3
        cases h2
        injection c3 with c3
        subst c3
        cases h1 with
        | sl _ _ _ _ hn =>
        rename_i lc
        obtain ⟨lc', ob, q1, q2, C, fz, rfl, q4, q5, q6⟩ := hs.obj n _ (show A.live n = some (.cells l t) from by unfold Ab.AW.live; rw [hg])
        rw [hn] at q1
        cases q1
        have hlen : bs.length = len := by rw [hbs] at c1; simpa [fls] using c1
        subst hlen
        refine (Tryz.strings_Join lc.blk (lc.base + o) _ bs ⟨#[32]⟩ w ?_ (Array.getElem?_eq_some_iff.1 q2).1 (by omega) (by omega) (Nat.le_trans hl100 (by decide))).mono ?_
        ·intro j y hy
         have e1 : (fls bs)[j]? = some (.flat (.string y)) := by simp [fls, hy]
         have hjl : j < bs.length := (List.getElem?_eq_some_iff.1 hy).1
         rw [← hbs, List.getElem?_take_of_lt hjl, List.getElem?_drop] at e1
         obtain ⟨v, g1, g2⟩ := q6 _ _ e1
         cases g2
         simp [World.cell?, q2, Nat.add_assoc, g1]
        ·rintro e w' ⟨rfl, hb⟩
         exact outc_below hs (.flat _) hb
       ·cases h
      ·cases h
     ·cases h
    ·cases h
   ·cases h
def itoB (n : Int) : ByteArray := ⟨(Lib.itoa n).toArray⟩
abbrev PowTab (w : World) : Prop := Lib.TabIs Tryz.prog w "internal/strconv.uint64pow10" .u64 Lib.pow10Tab
theorem number68_pos (n : Int) (W : World) (h0 : 0 ≤ n) (h1 : n ≤ 9223372036854775807) (htab : PowTab W) : Calls Tryz.prog 68 #[.int .i64 n] W fun e w' => e = .returned (trV false 4 (itoB n) 0 none 0 0) ∧ Below W.heap.size W w' := by
 have HT := Lib.hid (tabIs_below htab (below1 W (.cells #[.bool false, .int .u8 0, .string ⟨#[]⟩, .int .i64 0, .slice none 0 0] 35)))
 have HX := Lib.hid (text_any n (W.alloc (.cells #[.bool false, .int .u8 0, .string ⟨#[]⟩, .int .i64 0, .slice none 0 0] 35)) (by omega) h1 HT.out)
 have hneg : ¬ n < 0 := by omega
 clear htab HT
 go_enter Tryz.func68, Tryz.ntmps68
 go_wp2_with fail
 refine HX.out.mono ?_
 rintro e w1 ⟨rfl, hb⟩
 have HB := Lib.hid (Below.trans (below1 W (.cells #[.bool false, .int .u8 0, .string ⟨#[]⟩, .int .i64 0, .slice none 0 0] 35)) (hb.mono (by simp)))
 obtain ⟨z0, z1, z2, z3, z4, zf⟩ := (box_new W false 0 ⟨#[]⟩ 0 (.slice none 0 0)).later hb
 clear hb
 go_wp2_with fail
 refine bodyPost_ret (v := trV false 4 (itoB n) 0 none 0 0) (by simp [trV, itoB, results, Tryz.results68, go_sem, z0, z1, z2, z3, z4]) rfl ⟨rfl, ?_⟩
 iterate 5 refine Below.setCell ?_ (show W.heap.size ≤ W.heap.size from Nat.le_refl _) _
 exact HB.out
theorem number66_pos (n : Int) (W : World) (h0 : 0 ≤ n) (h1 : n ≤ 9223372036854775807) (htab : PowTab W) : Calls Tryz.prog 66 #[.int .i64 n] W fun e w' => e = .returned (trV false 4 (itoB n) 0 none 0 0) ∧ Below W.heap.size W w' := by
 have HT := Lib.hid (tabIs_below htab (below1 W (.cells #[.bool false, .int .u8 0, .string ⟨#[]⟩, .int .i64 0, .slice none 0 0] 35)))
 have HX := Lib.hid (text_any n (W.alloc (.cells #[.bool false, .int .u8 0, .string ⟨#[]⟩, .int .i64 0, .slice none 0 0] 35)) (by omega) h1 HT.out)
 have hneg : ¬ n < 0 := by omega
 clear htab HT
 go_enter Tryz.func66, Tryz.ntmps66
 go_wp2_with fail
 refine HX.out.mono ?_
 rintro e w1 ⟨rfl, hb⟩
 have HB := Lib.hid (Below.trans (below1 W (.cells #[.bool false, .int .u8 0, .string ⟨#[]⟩, .int .i64 0, .slice none 0 0] 35)) (hb.mono (by simp)))
 obtain ⟨z0, z1, z2, z3, z4, zf⟩ := (box_new W false 0 ⟨#[]⟩ 0 (.slice none 0 0)).later hb
 clear hb
 go_wp2_with fail
 refine bodyPost_ret (v := trV false 4 (itoB n) 0 none 0 0) (by simp [trV, itoB, results, Tryz.results66, go_sem, z0, z1, z2, z3, z4]) rfl ⟨rfl, ?_⟩
 iterate 5 refine Below.setCell ?_ (show W.heap.size ≤ W.heap.size from Nat.le_refl _) _
 exact HB.out
end Go.Proofs.YtookoagcmejkpaaGreatDoor
