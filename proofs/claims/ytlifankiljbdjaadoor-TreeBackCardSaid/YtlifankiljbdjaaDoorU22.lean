/- A tree's text is read as the tree, and trees of bytes have texts; plain. -/
import Derived.Test.YtlifankiljbdjaaDoorU21
import Derived.Test.YtlifankiljbdjaaDoorU10
namespace Go.Proofs.YtlifankiljbdjaaDoor
open Go Go.RowKit

/-- what counts of a token. -/
def keyA (t : TkA) : Int × List UInt8 := (t.k, t.s.data.toList)
def keyL (x : Nat × List UInt8) : Int × List UInt8 := ((x.1 : Int), x.2)
theorem bytes_eq {s s' : ByteArray} (h : s.data.toList = s'.data.toList) : s = s' := by
  apply ByteArray.ext
  exact Array.toList_inj.1 h
theorem rd_lv : ∀ (f : Fo), okF f = true → ∀ (L : List TkA), L.map keyA = (lvF f).map keyL → ∃ g, Rd L g ∧ sameF f g = true ∧ g.len = f.len
  | .nil, _, L, h => by
    obtain rfl : L = [] := by simpa [lvF] using h
    exact ⟨.nil, .nil, rfl, rfl⟩
  | .cons true k s a x r, ho, L, h => by
    simp only [okF, if_true, Bool.and_eq_true, decide_eq_true_eq] at ho
    obtain ⟨⟨⟨hk, hs⟩, hx⟩, hr⟩ := ho
    simp only [lvF, if_true, List.cons_append, List.append_assoc, List.map_cons, List.map_append, List.nil_append] at h
    cases L with
    | nil => simp at h
    | cons t L =>
      simp only [List.map_cons, List.cons.injEq] at h
      obtain ⟨ht, h⟩ := h
      obtain ⟨L1, L2, rfl, h1, h2⟩ := List.map_eq_append_iff.1 h
      cases L2 with
      | nil => simp at h2
      | cons c L2 =>
        simp only [List.map_cons, List.cons.injEq] at h2
        obtain ⟨hc, h2⟩ := h2
        obtain ⟨g, r1, s1, n1⟩ := rd_lv x hx L1 h1
        obtain ⟨g2, r2, s2, n2⟩ := rd_lv r hr L2 h2
        simp only [keyA, keyL, Prod.mk.injEq] at ht hc
        have htk : t.k = 1 := ht.1
        have hts : t.s = ⟨#[40]⟩ := bytes_eq ht.2
        have hck : c.k = 2 := hc.1
        refine ⟨.cons true t.k t.s t.a g g2, .list htk hck r1 r2, ?_, by simp only [Fo.len, n2]⟩
        simp [sameF, hk, hs, htk, hts, n1, s1, s2]
  | .cons false k s a x r, ho, L, h => by
    simp only [okF, Bool.false_eq_true, if_false, Bool.and_eq_true, decide_eq_true_eq] at ho
    obtain ⟨⟨hx, hk⟩, hr⟩ := ho
    have hk3 := (readB_iff.1 hk).2
    have hx0 := fo_len_zero hx
    subst hx0
    simp only [lvF, Bool.false_eq_true, if_false, List.cons_append, List.nil_append, List.map_cons] at h
    cases L with
    | nil => simp at h
    | cons t L =>
      simp only [List.map_cons, List.cons.injEq] at h
      obtain ⟨ht, h⟩ := h
      obtain ⟨g2, r2, s2, n2⟩ := rd_lv r hr L h
      simp only [keyA, keyL, Prod.mk.injEq] at ht
      have htk : t.k = k := by rw [ht.1]; omega
      have hts : t.s = s := bytes_eq ht.2
      refine ⟨.cons false t.k t.s t.a .nil g2, .leaf (by omega) (by omega) r2, ?_, by simp only [Fo.len, n2]⟩
      simp [sameF, htk, hts, s2]
/-- how deep trees are. -/
def dpF : Fo → Nat
  | .nil => 0
  | .cons l _ _ _ x r => max (if l then dpF x + 1 else 0) (dpF r)
theorem depF_min : ∀ (f : Fo) (m : Nat), depF f m = min (dpF f) m
  | .nil, m => by simp [depF, dpF]
  | .cons l k s a x r, m => by
    simp only [depF, dpF, depF_min x, depF_min r]
    cases l <;> by_cases h : 0 < m <;> simp [h] <;> omega
theorem dpF_same : ∀ (f g : Fo), sameF f g = true → dpF g = dpF f
  | .nil, .nil, _ => rfl
  | .nil, .cons _ _ _ _ _ _, h => by simp [sameF] at h
  | .cons _ _ _ _ _ _, .nil, h => by simp [sameF] at h
  | .cons l k s a x r, .cons l' k' s' a' x' r', h => by
    simp only [sameF, Bool.and_eq_true, decide_eq_true_eq] at h
    obtain ⟨⟨⟨⟨⟨rfl, _⟩, _⟩, _⟩, h1⟩, h2⟩ := h
    simp only [dpF, dpF_same x x' h1, dpF_same r r' h2]
theorem most_rd {x : List TkA} {g : Fo} (h : Rd x g) : ∀ (o top : Int) (r : List TkA), o ≤ top → mostF (x ++ r) o top = mostF r o (max top (o + (dpF g : Int))) := by
  induction h with
  | nil => intro o top r ho; simp only [List.nil_append, dpF]; congr 1; omega
  | @leaf t r' f h1 h2 _ ih =>
    intro o top r ho
    rw [List.cons_append, mostF, opn_else h1 h2, if_neg h1, if_neg (by omega), ih o top r ho]
    simp [dpF]
  | @list t c x r' g f h1 h2 _ _ ih1 ih2 =>
    intro o top r ho
    have e1 : opn c (o + 1) = o := by rw [opn_two h2]; omega
    have hc : ¬ c.k = 1 := by omega
    rw [List.cons_append, mostF, opn_one h1, if_pos h1, List.append_assoc, ih1 (o + 1) _ _ (by split <;> omega), List.cons_append, mostF, e1, if_neg hc, ih2 o _ r (by split <;> omega)]
    congr 1
    simp only [dpF, if_true]
    split <;> split <;> omega
theorem most_one {u : List TkA} {b : Bool} {k : Int} {s : ByteArray} {a : Int} {g : Fo} (h : One u b k s a g) : mostF u 0 0 = (if b then (dpF g : Int) + 1 else 0) := by
  cases h with
  | leaf h1 h2 => rw [mostF, opn_else h1 h2, if_neg h1, mostF]; simp
  | @list t c x g h1 h2 h3 =>
    rw [mostF, opn_one h1, if_pos h1, most_rd h3 _ _ _ (by split <;> omega), mostF, mostF]
    have hc : ¬ c.k = 1 := by omega
    rw [if_neg hc]
    simp only [if_true]
    split <;> split <;> omega
theorem depT_le200 {l : Bool} {x : Fo} : depT l x 201 ≤ 200 ↔ (if l then (dpF x : Int) + 1 else 0) ≤ 200 := by
  unfold depT
  rw [depF_min]
  cases l <;> simp; omega
/-- the tokens of a tree's text are that tree. -/
theorem next_lv {l : Bool} {k : Int} {s : ByteArray} {a : Int} {x : Fo} (ho : okT l k s x = true) (hd : depT l x 201 ≤ 200) {L : List TkA} (hL : L.map keyA = (lvF (.cons l k s a x .nil)).map keyL) :
    ∃ k' s' a' g, NextO L 0 l k' s' a' g (L.length : Int) 0 ∧ sameT l k s x l k' s' g = true ∧ g.len = x.len := by
  have hF : okF (.cons l k s a x .nil) = true := by
    rw [okF]; unfold okT at ho
    rw [ho]; rfl
  obtain ⟨g, hr, hs, hn⟩ := rd_lv _ hF L hL
  cases g with
  | nil => simp [Fo.len] at hn
  | cons l' k' s' a' g r =>
    simp only [sameF, Bool.and_eq_true, decide_eq_true_eq] at hs
    obtain ⟨⟨⟨⟨⟨hl, hk⟩, hs'⟩, hlen⟩, h1⟩, h2⟩ := hs
    subst hl
    have hr0 : r = .nil := by simp [Fo.len] at hn; exact fo_len_zero hn
    subst hr0
    obtain ⟨u, z, hu, hpos, hone, hz, hend⟩ := hr.first
    have hz0 : z = [] := by
      generalize hf : Fo.nil = f0 at hz
      cases hz with
      | nil => rfl
      | leaf => cases hf
      | list => cases hf
    subst hz0
    rw [List.append_nil] at hu
    subst hu
    have hE := hend [] 0
    rw [List.append_nil, Nat.zero_add] at hE
    have hm := most_one hone
    have hdp : dpF g = dpF x := dpF_same x g h1
    refine ⟨k', s', a', g, ?_, by simp [sameT, hk, hs', hlen, h1], hlen.symm⟩
    cases L with
    | nil => simp at hpos
    | cons t L =>
      have h2k : t.k ≠ 2 := by
        cases hone with
        | leaf _ h => exact h
        | list h => omega
      have ht : (t :: L).take ((t :: L).length - 0) = t :: L := by rw [Nat.sub_zero, List.take_length]
      refine NextO.ok (i := 0) (n := (t :: L).length) (t := t) (r := L) rfl h2k hE ?_ (by rw [ht]; exact hone)
      rw [ht, hm, hdp]
      have := depT_le200.1 hd
      omega
theorem lv_keys {L : List Tk} {f : Fo} (h : L.map (fun t => (t.kind, t.text)) = lvF f) : (L.map toA).map keyA = (lvF f).map keyL := by
  rw [← h, List.map_map, List.map_map]
  apply List.map_congr_left
  intro t _
  rfl
/-- a tree's text, alone or with blanks around, is read as it. -/
theorem text_back {l : Bool} {k : Int} {s : ByteArray} {a : Int} {x : Fo} (ho : okT l k s x = true) (hd : depT l x 201 ≤ 200) (b0 : Bool) {B : List UInt8} (hB : B = txtT l k s x ∧ b0 = true ∨ B = 32 :: (txtT l k s x ++ [10]) ∧ b0 = false) :
    ∃ L p, Toks B 0 L p 0 ∧ ∃ k' s' a' g, NextO (L.map toA) 0 l k' s' a' g ((L.map toA).length : Int) 0 ∧ sameT l k s x l k' s' g = true ∧ g.len = x.len := by
  have hF : okF (.cons l k s a x .nil) = true := by
    rw [okF]; unfold okT at ho
    rw [ho]; rfl
  have hX : ∀ b0, txtF b0 (.cons l k s a x .nil) = (if b0 then [] else [32]) ++ txtT l k s x := by
    intro b0; simp only [txtF, txtT, List.append_nil]
  have key : ∃ L p, Toks B 0 L p 0 ∧ L.map (fun t => (t.kind, t.text)) = lvF (.cons l k s a x .nil) := by
    rcases hB with ⟨hB, rfl⟩ | ⟨hB, rfl⟩
    · have e := hX true
      simp only [if_true, List.nil_append] at e
      obtain ⟨L, h1, h2⟩ := toks_F (.cons l k s a x .nil) true hF B 0 [] [] B.length 0 (by rw [e, hB]; simp) (.inl rfl) (by rw [e, hB]; exact Toks.done (by rw [Nat.zero_add, List.drop_length]; simp [skipM]))
      exact ⟨L, _, by simpa using h1, h2⟩
    · have e := hX false
      simp only [Bool.false_eq_true, if_false, List.cons_append, List.nil_append] at e
      have hlen : B.length = (32 :: txtT l k s x).length + 1 := by rw [hB]; simp
      have hdr : B.drop (32 :: txtT l k s x).length = [10] := by rw [hB, show (32 :: (txtT l k s x ++ [10]) : List UInt8) = (32 :: txtT l k s x) ++ [10] from rfl, List.drop_left]
      obtain ⟨L, h1, h2⟩ := toks_F (.cons l k s a x .nil) false hF B 0 [10] [] B.length 0 (by rw [e, hB]; simp) (.inr ⟨10, [], rfl, by decide, by decide⟩) (by
        rw [e, Nat.zero_add]
        exact Toks.done (by rw [hdr, hlen]; exact Nat.le_refl _))
      exact ⟨L, _, by simpa using h1, h2⟩
  obtain ⟨L, p, h1, h2⟩ := key
  exact ⟨L, p, h1, next_lv (a := a) ho hd (lv_keys h2)⟩
/-- tokens that are good. -/
def GoodA (t : TkA) : Prop := 0 ≤ t.k ∧ GoodT t.k.toNat t.s.data.toList
theorem good_toA {b : List UInt8} {at_ : Nat} {l : List Tk} {p e : Nat} (h : Toks b at_ l p e) : ∀ t ∈ l.map toA, GoodA t := by
  intro t ht
  obtain ⟨u, hu, rfl⟩ := List.mem_map.1 ht
  have := h.good u hu
  exact ⟨by simp [toA], by simpa [toA] using this⟩
theorem good_leaf {t : TkA} (h : GoodA t) (h1 : t.k ≠ 1) (h2 : t.k ≠ 2) : readB t.k t.s = true := by
  refine readB_iff.2 ⟨h.2, ?_⟩
  obtain ⟨h0, hg⟩ := h
  have : t.k.toNat ≠ 0 := by
    intro e; rw [e] at hg
    generalize t.s.data.toList = y at hg
    generalize hz : (0 : Nat) = z at hg
    cases hg <;> omega
  omega
theorem good_open {t : TkA} (h : GoodA t) (h1 : t.k = 1) : t.s = ⟨#[40]⟩ := by
  obtain ⟨h0, hg⟩ := h
  rw [h1] at hg
  apply bytes_eq
  show t.s.data.toList = [40]
  generalize t.s.data.toList = y at *
  generalize hz : Int.toNat 1 = z at hg
  cases hg with
  | op => rfl
  | num hk => exfalso; rcases hk with rfl | rfl <;> simp at hz
  | _ => simp at hz
theorem rd_ok {x : List TkA} {g : Fo} (h : Rd x g) : (∀ t ∈ x, GoodA t) → okF g = true := by
  induction h with
  | nil => intro _; rfl
  | @leaf t r f h1 h2 _ ih =>
    intro hg
    simp only [okF, Bool.false_eq_true, if_false, Bool.and_eq_true, decide_eq_true_eq]
    exact ⟨⟨rfl, good_leaf (hg t (by simp)) h1 h2⟩, ih (fun u hu => hg u (by simp [hu]))⟩
  | @list t c x r g f h1 h2 _ _ ih1 ih2 =>
    intro hg
    simp only [okF, if_true, Bool.and_eq_true, decide_eq_true_eq]
    exact ⟨⟨⟨h1, good_open (hg t (by simp)) h1⟩, ih1 (fun u hu => hg u (by simp [hu]))⟩, ih2 (fun u hu => hg u (by simp [hu]))⟩
theorem one_ok {u : List TkA} {b : Bool} {k : Int} {s : ByteArray} {a : Int} {g : Fo} (h : One u b k s a g) (hg : ∀ t ∈ u, GoodA t) : okT b k s g = true := by
  cases h with
  | leaf h1 h2 => simp [okT, Fo.len, good_leaf (hg _ (by simp)) h1 h2]
  | @list t c x g h1 h2 h3 => simp [okT, h1, good_open (hg t (by simp)) h1, rd_ok h3 (fun u hu => hg u (by simp [hu]))]
/-- how much tokens may take. -/
def wtA : List TkA → Nat
  | [] => 0
  | t :: l => 2 * t.s.size + 3 + wtA l
theorem wtA_app : ∀ l m : List TkA, wtA (l ++ m) = wtA l + wtA m
  | [], m => by simp [wtA]
  | t :: l, m => by simp only [List.cons_append, wtA, wtA_app l m]; omega
theorem dbl_len2 : ∀ t : List UInt8, (dblL t).length ≤ 2 * t.length
  | [] => Nat.le_refl _
  | c :: t => by
    have := dbl_len2 t
    simp only [dblL]
    split <;> simp only [List.length_cons] <;> omega
theorem rend_len2 (k : Nat) (t : List UInt8) : (rendL k t).length ≤ 2 * t.length + 2 := by
  have h := dbl_len2 t
  unfold rendL
  split
  · split <;> simp <;> omega
  · split
    · simp; omega
    · split <;> simp <;> omega
theorem ba_size (s : ByteArray) : s.data.toList.length = s.size := by simp
theorem rd_len {x : List TkA} {g : Fo} (h : Rd x g) : ∀ b0, (txtF b0 g).length ≤ wtA x := by
  induction h with
  | nil => intro b0; simp [txtF]
  | @leaf t r f h1 h2 _ ih =>
    intro b0
    have := rend_len2 t.k.toNat t.s.data.toList
    rw [ba_size] at this
    have h3 := ih false
    simp only [txtF, wtA, List.length_append, Bool.false_eq_true, if_false]
    cases b0 <;> simp <;> omega
  | @list t c x r g f h1 h2 _ _ ih1 ih2 =>
    intro b0
    have h3 := ih1 true
    have h4 := ih2 false
    simp only [txtF, wtA, wtA_app, List.length_append, if_true, List.length_cons, List.length_nil]
    cases b0 <;> simp <;> omega
theorem one_len {u : List TkA} {b : Bool} {k : Int} {s : ByteArray} {a : Int} {g : Fo} (h : One u b k s a g) : (txtT b k s g).length ≤ wtA u := by
  cases h with
  | @leaf t h1 h2 =>
    have := rend_len2 t.k.toNat t.s.data.toList
    rw [ba_size] at this
    simp only [txtT, wtA, Bool.false_eq_true, if_false]; omega
  | @list t c x g h1 h2 h3 =>
    have := rd_len h3 true
    simp only [txtT, wtA, wtA_app, if_true, List.length_cons, List.length_append, List.length_nil]; omega
theorem toks_wt {b : List UInt8} {at_ : Nat} {l : List Tk} {p e : Nat} (h : Toks b at_ l p e) : wtA (l.map toA) ≤ 5 * (b.length - at_) := by
  induction h with
  | done _ => simp [wtA]
  | bad _ _ => simp [wtA]
  | @step at_ k n p e t l h1 h2 h3 ih =>
    have hn := one_n h2
    have hl := hn.2.1
    rw [List.length_drop] at hl
    simp only [List.map_cons, wtA]
    have : (toA ⟨k, t, at_ + skipM false (b.drop at_)⟩).s.size = t.length := by simp [toA, ByteArray.size]
    rw [this]
    omega
theorem wt_sub {l u d z : List TkA} (h : l = d ++ (u ++ z)) : wtA u ≤ wtA l := by
  subst h
  rw [wtA_app, wtA_app]; omega
theorem sameF_symm : ∀ f g : Fo, sameF f g = true → sameF g f = true
  | .nil, .nil, _ => rfl
  | .nil, .cons _ _ _ _ _ _, h => by simp [sameF] at h
  | .cons _ _ _ _ _ _, .nil, h => by simp [sameF] at h
  | .cons l k s a x r, .cons l' k' s' a' x' r', h => by
    simp only [sameF, Bool.and_eq_true, decide_eq_true_eq] at h ⊢
    obtain ⟨⟨⟨⟨⟨h1, h2⟩, h3⟩, h4⟩, h5⟩, h6⟩ := h
    exact ⟨⟨⟨⟨⟨h1.symm, h2.symm⟩, h3.symm⟩, h4.symm⟩, sameF_symm x x' h5⟩, sameF_symm r r' h6⟩
theorem sameT_symm {l : Bool} {k : Int} {s : ByteArray} {x : Fo} {l' : Bool} {k' : Int} {s' : ByteArray} {x' : Fo} (h : sameT l k s x l' k' s' x' = true) : sameT l' k' s' x' l k s x = true := by
  unfold sameT at h ⊢
  simp only [Bool.and_eq_true, decide_eq_true_eq] at h ⊢
  obtain ⟨⟨⟨⟨h1, h2⟩, h3⟩, h4⟩, h5⟩ := h
  exact ⟨⟨⟨⟨h1.symm, h2.symm⟩, h3.symm⟩, h4.symm⟩, sameF_symm x x' h5⟩
theorem wtA_mem : ∀ (l : List TkA) (t : TkA), t ∈ l → 2 * t.s.size + 3 ≤ wtA l
  | [], t, h => by simp at h
  | u :: l, t, h => by
    simp only [wtA]
    rcases List.mem_cons.1 h with rfl | h
    · omega
    · have := wtA_mem l t h; omega
theorem wtA_length : ∀ (l : List TkA), 3 * l.length ≤ wtA l
  | [] => Nat.le_refl _
  | u :: l => by have := wtA_length l; simp only [wtA, List.length_cons]; omega
/-- small enough to be written. -/
def SzOk (s : ByteArray) (g : Fo) : Prop := s.size ≤ 65536 ∧ szB 65536 g ∧ g.size ≤ 1000000 ∧ g.len ≤ 1000000
theorem fo_len_size : ∀ f : Fo, f.len ≤ f.size
  | .nil => Nat.le_refl _
  | .cons _ _ _ _ x r => by have := fo_len_size r; simp only [Fo.len, Fo.size]; omega
theorem rd_sz {x : List TkA} {g : Fo} (h : Rd x g) : (∀ t ∈ x, t.s.size ≤ 65536) → szB 65536 g ∧ g.size ≤ x.length := by
  induction h with
  | nil => intro _; exact ⟨trivial, Nat.le_refl _⟩
  | @leaf t r f h1 h2 _ ih =>
    intro hB
    have h := ih (fun u hu => hB u (by simp [hu]))
    exact ⟨⟨hB t (by simp), trivial, h.1⟩, by simp only [Fo.size, List.length_cons]; have := h.2; omega⟩
  | @list t c x r g f h1 h2 _ _ ih1 ih2 =>
    intro hB
    have h3 := ih1 (fun u hu => hB u (by simp [hu]))
    have h4 := ih2 (fun u hu => hB u (by simp [hu]))
    exact ⟨⟨hB t (by simp), h3.1, h4.1⟩, by simp only [Fo.size, List.length_cons, List.length_append]; have := h3.2; have := h4.2; omega⟩
theorem one_sz {u : List TkA} {b : Bool} {k : Int} {s : ByteArray} {a : Int} {g : Fo} (h : One u b k s a g) (hw : wtA u ≤ 25000) : SzOk s g := by
  have hB : ∀ t ∈ u, t.s.size ≤ 65536 := fun t ht => by have := wtA_mem u t ht; omega
  have hl := wtA_length u
  cases h with
  | @leaf t h1 h2 => exact ⟨hB t (by simp), trivial, Nat.zero_le _, Nat.zero_le _⟩
  | @list t c x g h1 h2 h3 =>
    have h4 := rd_sz h3 (fun v hv => hB v (by simp [hv]))
    have h5 := fo_len_size g
    have h6 := h4.2
    simp only [List.length_cons, List.length_append, List.length_nil] at hl
    exact ⟨hB t (by simp), h4.1, by omega, by omega⟩
theorem cat32 (X : ByteArray) : ((⟨#[32]⟩ : ByteArray) ++ X ++ (⟨#[10]⟩ : ByteArray)).data.toList = 32 :: (X.data.toList ++ [10]) := by
  rw [app_data, app_data]; rfl
/-- a tree that tokens of bytes are has a text. -/
theorem next_text {B : List UInt8} {L : List Tk} {p e : Nat} (hT : Toks B 0 L p e) (hB : B.length ≤ 5000) {i : Nat} {b : Bool} {k : Int} {s : ByteArray} {a : Int} {g : Fo} {n : Int} (h : NextO (L.map toA) (i : Int) b k s a g n 0) :
    (okT b k s g = true ∧ depT b g 201 ≤ 200 ∧ (txtT b k s g).length ≤ 25000) ∧ SzOk s g := by
  generalize hz : (i : Int) = z at h
  generalize her : (0 : Int) = er at h
  cases h with
  | arg => omega
  | short => omega
  | close => omega
  | «open» => omega
  | deep => omega
  | @ok i' m t r b k s a g hd h2 hE hm h1 =>
    have hmem : ∀ x ∈ (t :: r).take (m - i'), GoodA x := fun x hx => good_toA hT x (List.mem_of_mem_drop (hd ▸ List.mem_of_mem_take hx))
    have h3 := one_len h1
    have h4 := toks_wt hT
    have h5 : wtA ((t :: r).take (m - i')) ≤ wtA (L.map toA) := wt_sub (d := (L.map toA).take i') (z := (t :: r).drop (m - i')) (by rw [List.take_append_drop, ← hd, List.take_append_drop])
    refine ⟨⟨one_ok h1 hmem, ?_, ?_⟩, one_sz h1 (by omega)⟩
    · rw [most_one h1] at hm
      exact depT_le200.2 (by omega)
    · omega
theorem textR_ok {l : Bool} {k : Int} {s : ByteArray} {x : Fo} (h1 : okT l k s x = true) (h2 : depT l x 201 ≤ 200) (h3 : (txtT l k s x).length ≤ 1048576) : textR l k s x = (txtT l k s x, 0) := by
  unfold textR
  rw [if_neg (by rw [h1]; decide), if_neg (by omega), if_neg (by omega)]
theorem textR_inv {l : Bool} {k : Int} {s : ByteArray} {x : Fo} {X : List UInt8} (h : textR l k s x = (X, 0)) : okT l k s x = true ∧ depT l x 201 ≤ 200 ∧ X = txtT l k s x ∧ X.length ≤ 1048576 := by
  unfold textR at h
  split at h
  · cases h
  · split at h
    · cases h
    · split at h
      · cases h
      · rename_i h1 h2 h3
        cases h
        exact ⟨by simpa using h1, by omega, rfl, by omega⟩
theorem deep_text : textR true 1 ⟨#[40]⟩ deepF = ([], 5) := by
  have h : okT true 1 ⟨#[40]⟩ deepF = false := by
    have hr : readB 7 ⟨#[100, 101, 101, 112]⟩ = false := by
      cases hq : readB 7 ⟨#[100, 101, 101, 112]⟩ with
      | false => rfl
      | true =>
        have := (readB_iff.1 hq).1
        generalize hz : Int.toNat 7 = z at this
        generalize hy : (⟨#[100, 101, 101, 112]⟩ : ByteArray).data.toList = y at this
        cases this with
        | num hk h1 h2 h3 h4 => rw [← hy] at h4; exact absurd h4 (by decide)
        | bas => cases hy
        | _ => simp at hz
    simp [okT, deepF, okF, hr]
  unfold textR
  rw [if_pos h]
/-- each tree of a row of tokens has a text that is read as it, or is the one that stands for what is too deep. -/
def TxtOk (b : Bool) (k : Int) (s : ByteArray) (g : Fo) : Prop := (okT b k s g = true ∧ depT b g 201 ≤ 200 ∧ (txtT b k s g).length ≤ 25000) ∨ (b = true ∧ k = 1 ∧ s = ⟨#[40]⟩ ∧ g = deepF)
def AllOk : Fo → Prop
  | .nil => True
  | .cons b k s _ g r => (TxtOk b k s g ∧ SzOk s g) ∧ AllOk r
theorem all_ok {B : List UInt8} {L : List Tk} {p e : Nat} (hT : Toks B 0 L p e) (hB : B.length ≤ 5000) {i : Nat} {f : Fo} {z er : Int} (h : AllO (L.map toA) i f z er) : AllOk f := by
  induction h with
  | done _ => trivial
  | ok _ h1 _ ih => exact ⟨⟨.inl (next_text hT hB h1).1, (next_text hT hB h1).2⟩, ih⟩
  | deep _ _ _ ih => exact ⟨⟨.inr ⟨rfl, rfl, rfl, rfl⟩, by decide, ⟨by decide, trivial, trivial⟩, by decide, by decide⟩, ih⟩
  | bad => trivial
end Go.Proofs.YtlifankiljbdjaaDoor
