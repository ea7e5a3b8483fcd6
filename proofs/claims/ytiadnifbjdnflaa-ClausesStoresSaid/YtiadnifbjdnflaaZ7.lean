/- The store of clauses: one found. -/
import Derived.Test.YtiadnifbjdnflaaZ6
namespace Go.Proofs.Ytiadnifbjdnflaa
open Go Go.RowKit Go.Maps

/-- where a clause is first. -/
noncomputable def at0 (cl : List (List Int)) (c : List Int) : Nat := (idxOf cl (keyI c) 0).getD 0
noncomputable def is0 (cl : List (List Int)) (c : List Int) : Bool := (idxOf cl (keyI c) 0).isSome
theorem StoD.lk {W : World} {K : Nat → Nat} {O : Nat} {clr clm : List (List Int)} {top : Int} {v0 : Value} {m nm : Nat} {f : Lit → Option Value} (h : StoD W K O clr clm top v0 m nm f) (c : List Int) (hc : c.length ≤ 5000) :
    (Instr.lookup 44 (.map (some m)) (.string (textOf c.length (fnL c))) true).run Try.prog W = .ok (.tuple #[.int .i64 (at0 clm c : Int), .bool (is0 clm c)]) W := by
  have hlk := h.fm.look_ok K9 Try.underlying44 (z := .int .i64 0) (by kernel_rfl) (key9 (textOf c.length (fnL c)) (by rw [textOf, strOfNums_size, quads_len]; have hml : maxLen = 9223372036854775807 := rfl; omega))
  rw [h.hf] at hlk
  rw [hlk]
  unfold at0 is0 keyI
  cases idxOf clm (keyS (textOf c.length (fnL c))) 0 with
  | none => rfl
  | some i => rfl
set_option maxRecDepth 100000 in
set_option maxHeartbeats 4000000 in
theorem find38_no {W : World} {K : Nat → Nat} {O : Nat} {cl : List (List Int)} {top : Int} (h : StoC W K O cl top) (p : Option Addr) (n z : Nat) (V : Nat → Int) (hV : LitsIn W p n V) (hn : n ≤ 9223372036854775807) (hm : cl.length = 0 ∨ ¬ ∀ i, i < n → isLitB (V i) = true) :
    Calls Try.prog 38 #[.pointer (some ⟨O, 0, none⟩), .slice p n z] W fun e w' => e = .returned (.tuple #[.int .i64 0, .bool false]) ∧ w' = W := by
  have H1 := Lib.hid (len35 h)
  have H2 := Lib.hid (contains60 p n z V W hV hn)
  clear h hV
  by_cases h0 : cl.length = 0
  · have h0' : (cl.length : Int) = 0 := by omega
    rw [h0'] at H1
    go_enter Try.func38, Try.ntmps38
    go_wp2_with fail
    refine H1.out.mono ?_
    rintro e w1 ⟨rfl, hw⟩
    obtain rfl := hw.symm
    clear hw
    go_wp2_with fail
    exact bodyPost_ret (v := .tuple #[.int .i64 0, .bool false]) (by simp [results, Try.results38, go_sem]) rfl ⟨rfl, rfl⟩
  · have hm' := hm.resolve_left h0
    have hq : ((cl.length : Int) == 0) = false := by rw [beq_eq_false_iff_ne]; omega
    go_enter Try.func38, Try.ntmps38
    go_wp2_with fail
    refine H1.out.mono ?_
    rintro e w1 ⟨rfl, hw⟩
    obtain rfl := hw.symm
    clear hw
    go_wp2_with fail
    refine H2.out.mono ?_
    rintro e w1 ⟨⟨rfl, hno⟩ | ⟨rfl, _⟩, hw⟩ <;> obtain rfl := hw.symm <;> clear hw
    case inl => exact absurd hno hm'
    go_wp2_with fail
    exact bodyPost_ret (v := .tuple #[.int .i64 0, .bool false]) (by simp [results, Try.results38, go_sem]) rfl ⟨rfl, rfl⟩
set_option maxRecDepth 100000 in
set_option maxHeartbeats 4000000 in
theorem find38 {W : World} {K : Nat → Nat} {O : Nat} {cl : List (List Int)} {top : Int} (h : StoC W K O cl top) (p : Option Addr) (n z : Nat) (V : Nat → Int) (l : List LitT) (hV : LitsIn W p n V) (hm : MayP n V) (hl : l.length = n) (hz : ∀ i, i < n → (nums l)[i]? = some (V i)) (hc : cl.length ≠ 0) :
    Calls Try.prog 38 #[.pointer (some ⟨O, 0, none⟩), .slice p n z] W fun e w' => e = .returned (.tuple #[.int .i64 (at0 cl (formL l) : Int), .bool (is0 cl (formL l))]) ∧ Below W.heap.size W w' := by
  have hn5 : n ≤ 5000 := hm.1
  have H1 := Lib.hid (len35 h)
  have H2 := Lib.hid (contains60 p n z V W hV (by omega))
  have hbd : Below W.heap.size W W.drew := Below.drew (Below.refl _ W)
  have H3 := form_any p n z V l W.drew (hV.later hbd) hl hz (by omega)
  have HN0 : (formL l).length ≤ 5000 := by have := formL_short l; omega
  have HM0 := form_mayP l HN0
  obtain ⟨v0, m, nm, f, hd⟩ := h.split
  clear h
  generalize formL l = c at H3 HM0 HN0 ⊢
  have HR0 := Lib.hid (may_num HM0)
  have HN := Lib.hid HN0
  have HH3 := Lib.hid H3
  have HD := Lib.hid (hd.later hbd)
  have HBD := Lib.hid hbd
  have k1 := hd.c1
  have k1d := HD.out.c1
  have hq : ((cl.length : Int) == 0) = false := by rw [beq_eq_false_iff_ne]; omega
  clear hd hV hz hl hbd H3 HM0 HN0
  go_enter Try.func38, Try.ntmps38
  go_wp2_with fail
  refine H1.out.mono ?_
  rintro e w1 ⟨rfl, hw⟩
  obtain rfl := hw.symm
  clear hw
  go_wp2_with fail
  refine H2.out.mono ?_
  rintro e w1 ⟨⟨rfl, _⟩ | ⟨rfl, hno⟩, hw⟩ <;> obtain rfl := hw.symm <;> clear hw
  case inr => exact absurd hm.2 hno
  go_wp2_with fail
  go_region_held3 (fun w' => w'.cell? ⟨O, 1, none⟩ = some (.map (some m))) (first | exact k1 | exact k1d | exact k1b | exact k1c) (first
    | (go_at_call 48; refine HH3.out.mono ?_; rintro e w2 ⟨v', rfl, hown, hb⟩; obtain ⟨q, c2, rfl, hqn, hq2, hqb⟩ := own_in hown rfl; have HQ := Lib.hid hq2; have HB2 := Lib.hid hb; have HD2 := Lib.hid (HD.out.later hb); have k1b := HD2.out.c1; clear hown hb hq2 hqb hqn)
    | (go_at_call 57; refine (key_any q c.length c2 (fnL c) w2 HQ.out HN.out HR0.out).mono ?_; rintro e w3 ⟨rfl, hb3⟩; have HB3 := Lib.hid hb3; have HD3 := Lib.hid (HD2.out.later hb3); have k1c := HD3.out.c1; have hlk := HD3.out.lk c HN.out; clear hb3))
  have hB : Below W.heap.size W w3 := HBD.out.trans ((HB2.out.trans (HB3.out.mono HB2.out.size)).mono HBD.out.size)
  go_wp2_with fail
  exact bodyPost_ret (v := .tuple #[.int .i64 (at0 cl c : Int), .bool (is0 cl c)]) (by simp [results, Try.results38, go_sem]) rfl ⟨rfl, hB⟩
end Go.Proofs.Ytiadnifbjdnflaa
