/- A text's first tree; whether a call is looked at. -/
import Derived.Test.YtdompkenblnjjaaGreatT9
import Derived.Test.YtdompkenblnjjaaGreatR9
namespace Go.Proofs.YtdompkenblnjjaaGreat
open Go Go.RowKit

def toA (t : Tk) : TkA := ⟨(t.kind : Int), ⟨t.text.toArray⟩, (t.at_ : Int)⟩
theorem TksIn.toA {W : World} {p : Option Addr} {l : List Tk} (h : TksIn W p l) : TksA W p (l.map toA) := fun i hi => by
  have hi' : i < l.length := by simpa using hi
  obtain ⟨b, off, e, h1, h2, h3⟩ := h i hi'
  refine ⟨b, off, e, ?_, ?_, ?_⟩ <;> rw [List.getElem_map]
  · exact h1
  · exact h2
  · exact h3
theorem Toks.len {b : List UInt8} {at_ : Nat} {l : List Tk} {p e : Nat} (h : Toks b at_ l p e) : l.length + at_ ≤ max b.length at_ := by
  induction h with
  | done _ => simp; omega
  | bad _ _ => simp; omega
  | step h1 h2 h3 ih =>
    have hn := one_n h2
    rw [List.length_drop] at hn
    simp only [List.length_cons]
    omega
/-- some tree, some number: what is not looked at. -/
def TreeE (e : Ending) : Prop := ∃ (l : Bool) (k : Int) (s : ByteArray) (a : Int) (q : Option Addr) (n c : Nat), e = .returned (trV l k s a q n c)
set_option maxRecDepth 100000 in
set_option maxHeartbeats 1600000 in
theorem next_of (p : Option Addr) (c : Nat) (l : List Tk) (W : World) (h : TksIn W p l) (hc : l.length ≤ c) (hn : l.length ≤ 1048576) :
    Calls Tryz.prog 25 #[.slice p l.length c, .int .i64 0] W fun e w' => (∃ (l : Bool) (k : Int) (s : ByteArray) (a : Int) (q : Option Addr) (n c : Nat) (m er : Int), e = .returned (.tuple #[trV l k s a q n c, .int .i64 m, .int .i64 er])) ∧ Below W.heap.size W w' := by
  have hx := next22 p c (l.map toA) 0 W h.toA (by simpa using hc) (by simpa using hn)
  rw [List.length_map] at hx
  refine hx.mono ?_
  rintro e w' ⟨q, c', b, k, s, a, g, n, er, rfl, _, _, hb, _⟩
  exact ⟨⟨b, k, s, a, q, g.len, c', n, er, rfl⟩, hb⟩
set_option maxRecDepth 100000 in
set_option maxHeartbeats 1600000 in
theorem tokens_of (p : Option Addr) (c : Nat) (bs : List UInt8) (W : World) (hb : BytesIn W p bs) (hk : bs.length ≤ c) :
    Calls Tryz.prog 24 #[.slice p bs.length c] W fun e w' => (∃ (q : Option Addr) (d : Nat) (l : List Tk) (m er : Int), e = .returned (.tuple #[.slice q l.length d, .int .i64 m, .int .i64 er]) ∧ TksIn w' q l ∧ l.length ≤ d ∧ l.length ≤ 1048576) ∧ Below W.heap.size W w' := by
  by_cases hn : bs.length ≤ 1048576
  · refine (reftokens_any p c bs W hb hk hn).mono ?_
    rintro e w' ⟨q, d, l, m, er, rfl, ht, hown, hb⟩
    have := ht.len
    exact ⟨⟨q, d, l, m, er, rfl, own_tks hown, own_cap hown, by omega⟩, hb⟩
  · refine (reftokens_long p c bs.length W (by omega)).mono ?_
    rintro e w' ⟨rfl, rfl⟩
    exact ⟨⟨none, 0, [], 0, 3, rfl, fun i hi => absurd hi (Nat.not_lt_zero i), Nat.le_refl _, by simp⟩, Below.refl _ _⟩
set_option maxRecDepth 100000 in
set_option maxHeartbeats 1600000 in
theorem read7 (s : ByteArray) (W : World) : Calls Tryz.prog 7 #[.string s] W fun e w' => TreeE e ∧ Below W.heap.size W w' := by
  obtain ⟨W1, hW1⟩ : ∃ W1, W1 = W.alloc (.cells #[.bool false, .int .u8 0, .string ⟨#[]⟩, .int .i64 0, .slice none 0 0] 47) := ⟨_, rfl⟩
  have HB1 := Lib.hid (show Below W.heap.size W W1 from by rw [hW1]; exact below1 _ _)
  obtain ⟨cap, w2, hr, hcap, hb2, hby, hsz⟩ := conv_bytes W1 s
  have hlen : s.data.toList.length = s.size := Array.length_toList
  have ht := tokens_of (some ⟨W1.heap.size, 0, none⟩) cap s.data.toList w2 hby (by rw [hlen]; exact hcap)
  rw [hlen] at ht
  have HBX := Lib.hid (show BoxT W1 W.heap.size false 0 ⟨#[]⟩ 0 (.slice none 0 0) from by rw [hW1]; exact box_new W false 0 ⟨#[]⟩ 0 (.slice none 0 0))
  rw [show W1.heap.size = W.heap.size + 1 from by rw [hW1, World.size_alloc]] at ht hr
  have HT := Lib.hid ht
  have HC2 := Lib.hid hb2
  rw [hW1] at hr
  clear hcap hb2 hby hlen ht hsz hW1
  go_enter Tryz.func7, Tryz.ntmps7
  go_wp2_with fail
  refine HT.out.mono ?_
  rintro e w3 ⟨⟨q, d, l, m, er, rfl, htk, hld, hln⟩, hb3⟩
  have HC3 := Lib.hid (HC2.out.trans (hb3.mono HC2.out.size))
  have HN := Lib.hid (next_of q d l w3 htk hld hln)
  have hl0 : (0 : Int) ≤ (l.length : Int) := Int.natCast_nonneg _
  generalize l.length = n at *
  clear htk hld hln hb3 HT HC2 hr
  go_wp2_with fail
  refine HN.out.mono ?_
  rintro e w4 ⟨⟨b, k, t, a, q2, n2, c2, m2, er2, rfl⟩, hb4⟩
  have HC4 := Lib.hid ((HC3.out.trans (hb4.mono HC3.out.size)).trans ((below1 w4 (.cells #[.bool b, .int .u8 k, .string t, .int .i64 a, .slice q2 n2 c2] 47)).mono (HC3.out.trans (hb4.mono HC3.out.size)).size))
  clear hb4 HC3 HN
  unfold trV
  obtain ⟨b0, b1, b2, b3, b4, bf⟩ := HBX.out.later HC4.out
  have HF := Lib.hid (HB1.out.trans (HC4.out.mono HB1.out.size))
  by_cases h0 : er2 = 0
  · subst h0
    go_wp2_with fail
    refine bodyPost_ret (v := trV b k t a q2 n2 c2) (by simp [results, Tryz.results7, go_sem, b0, b1, b2, b3, b4, trV]) rfl ⟨⟨b, k, t, a, q2, n2, c2, rfl⟩, ?_⟩
    exact HF.out.trans ((only_set5 _ W.heap.size _ _ _ _ _).below (fun j hj => Nat.le_of_eq hj.symm) HF.out.size)
  · have e0 : (er2 == 0) = false := by simp [h0]
    have e1 : (er2 != 0) = true := by simp [h0]
    go_wp2_with fail
    refine bodyPost_ret (v := trV false 0 ⟨#[]⟩ 0 none 0 0) (by simp [results, Tryz.results7, go_sem, b0, b1, b2, b3, b4, trV]) rfl ⟨⟨false, 0, ⟨#[]⟩, 0, none, 0, 0, rfl⟩, ?_⟩
    exact HF.out.trans ((only_set5 _ W.heap.size _ _ _ _ _).below (fun j hj => Nat.le_of_eq hj.symm) HF.out.size)
end Go.Proofs.YtdompkenblnjjaaGreat
