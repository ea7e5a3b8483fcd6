/- Heaps: the plain mathematics. -/
namespace Go.Proofs.Ytpnchmelaonfiaa

/-- i comes ahead of j. -/
def Ahead (W : Nat → Int) (i j : Nat) : Prop := W j < W i ∨ (W i = W j ∧ i < j)
theorem Ahead.asymm {W : Nat → Int} {i j : Nat} (h : Ahead W i j) : ¬ Ahead W j i := by unfold Ahead at *; omega
theorem Ahead.trans {W : Nat → Int} {i j k : Nat} (h : Ahead W i j) (h' : Ahead W j k) : Ahead W i k := by unfold Ahead at *; omega
theorem nahead_trans {W : Nat → Int} {i j k : Nat} (h : ¬ Ahead W i j) (h' : ¬ Ahead W j k) : ¬ Ahead W i k := by unfold Ahead at *; omega
theorem nahead_self (W : Nat → Int) (i : Nat) : ¬ Ahead W i i := by unfold Ahead; omega
/-- two are exchanged. -/
def sw (O : Nat → Nat) (a b : Nat) : Nat → Nat := fun i => if i = a then O b else if i = b then O a else O i
def swP (P O : Nat → Nat) (a b : Nat) : Nat → Nat := fun x => if x = O a then b + 1 else if x = O b then a + 1 else P x
def up1 {α : Type} (F : Nat → α) (a : Nat) (v : α) : Nat → α := fun i => if i = a then v else F i
theorem up1_same {α : Type} (F : Nat → α) (a : Nat) (v : α) : up1 F a v a = v := by simp [up1]
theorem up1_ne {α : Type} (F : Nat → α) {a i : Nat} (v : α) (h : i ≠ a) : up1 F a v i = F i := by simp [up1, h]
theorem sw_a (O : Nat → Nat) (a b : Nat) : sw O a b a = O b := by simp [sw]
theorem sw_b (O : Nat → Nat) (a b : Nat) : sw O a b b = O a := by unfold sw; split <;> simp_all
theorem sw_ne (O : Nat → Nat) {a b i : Nat} (h : i ≠ a) (h' : i ≠ b) : sw O a b i = O i := by simp [sw, h, h']
/-- each one's place is where it stands. -/
structure Places (n len : Nat) (P O : Nat → Nat) : Prop where
  at_ : ∀ i, i < len → O i < n ∧ P (O i) = i + 1
  back : ∀ x, x < n → P x ≠ 0 → P x ≤ len ∧ O (P x - 1) = x
theorem Places.inj {n len : Nat} {P O : Nat → Nat} (h : Places n len P O) {i j : Nat} (hi : i < len) (hj : j < len) (e : O i = O j) : i = j := by
  have h1 := (h.at_ i hi).2
  have h2 := (h.at_ j hj).2
  rw [e] at h1
  omega
theorem Places.swap {n len : Nat} {P O : Nat → Nat} (h : Places n len P O) {a b : Nat} (ha : a < len) (hb : b < len) : Places n len (swP P O a b) (sw O a b) := by
  have hA := h.at_ a ha
  have hB := h.at_ b hb
  constructor
  · intro i hi
    by_cases h1 : i = a
    · subst h1
      rw [sw_a]
      refine ⟨hB.1, ?_⟩
      unfold swP
      by_cases e : O b = O i
      · have := h.inj hb hi e
        subst this
        simp
      · simp [e]
    · by_cases h2 : i = b
      · subst h2
        rw [sw_b]
        refine ⟨hA.1, ?_⟩
        simp [swP]
      · rw [sw_ne O h1 h2]
        have hi' := h.at_ i hi
        refine ⟨hi'.1, ?_⟩
        unfold swP
        rw [if_neg (fun e => h1 (h.inj hi ha e)), if_neg (fun e => h2 (h.inj hi hb e))]
        exact hi'.2
  · intro x hx hp
    unfold swP at hp ⊢
    by_cases e1 : x = O a
    · rw [if_pos e1] at hp ⊢
      refine ⟨by omega, ?_⟩
      rw [Nat.add_sub_cancel, sw_b, e1]
    · rw [if_neg e1] at hp ⊢
      by_cases e2 : x = O b
      · rw [if_pos e2] at hp ⊢
        refine ⟨by omega, ?_⟩
        rw [Nat.add_sub_cancel, sw_a, e2]
      · rw [if_neg e2] at hp ⊢
        obtain ⟨h1, h2⟩ := h.back x hx hp
        refine ⟨h1, ?_⟩
        rw [sw_ne O (fun e => e1 (by rw [← h2, e])) (fun e => e2 (by rw [← h2, e]))]
        exact h2
theorem swP_in {n len : Nat} {P O : Nat → Nat} (h : Places n len P O) {a b : Nat} (ha : a < len) (hb : b < len) (x : Nat) : swP P O a b x ≠ 0 ↔ P x ≠ 0 := by
  have hA := (h.at_ a ha).2
  have hB := (h.at_ b hb).2
  unfold swP
  by_cases e1 : x = O a
  · subst e1; simp [hA]
  · by_cases e2 : x = O b
    · subst e2; simp [hB, e1]
    · simp [e1, e2]
theorem Places.push {n len : Nat} {P O : Nat → Nat} (h : Places n len P O) {x : Nat} (hx : x < n) (hp : P x = 0) : Places n (len + 1) (up1 P x (len + 1)) (up1 O len x) := by
  constructor
  · intro i hi
    by_cases e : i = len
    · subst e; rw [up1_same, up1_same]; exact ⟨hx, rfl⟩
    · rw [up1_ne O x e]
      obtain ⟨h1, h2⟩ := h.at_ i (by omega)
      refine ⟨h1, ?_⟩
      rw [up1_ne P _ (fun e => by rw [e] at h2; omega), h2]
  · intro y hy hq
    by_cases e : y = x
    · subst e
      rw [up1_same] at hq ⊢
      exact ⟨Nat.le_refl _, by rw [Nat.add_sub_cancel, up1_same]⟩
    · rw [up1_ne P _ e] at hq ⊢
      obtain ⟨h1, h2⟩ := h.back y hy hq
      exact ⟨by omega, by rw [up1_ne O _ (by omega)]; exact h2⟩
/-- the last one goes. -/
theorem Places.cut {n len : Nat} {P O : Nat → Nat} (h : Places n (len + 1) P O) : Places n len (up1 P (O len) 0) O := by
  have hl := h.at_ len (by omega)
  constructor
  · intro i hi
    have hi' := h.at_ i (by omega)
    refine ⟨hi'.1, ?_⟩
    rw [up1_ne P _ (fun e => by have := h.inj (by omega) (by omega) e; omega)]
    exact hi'.2
  · intro x hx hp
    by_cases e : x = O len
    · rw [e, up1_same] at hp; exact absurd rfl hp
    · rw [up1_ne P _ e] at hp ⊢
      obtain ⟨h1, h2⟩ := h.back x hx hp
      refine ⟨?_, h2⟩
      have : P x - 1 ≠ len := fun e' => e (by rw [← h2, e'])
      omega
/-- no one stands behind one that it is ahead of. -/
def HeapOrd (W : Nat → Int) (len : Nat) (O : Nat → Nat) : Prop := ∀ i, 0 < i → i < len → ¬ Ahead W (O i) (O ((i - 1) / 2))
def AlmostUp (W : Nat → Int) (len : Nat) (O : Nat → Nat) (k : Nat) : Prop :=
  (∀ i, 0 < i → i < len → i ≠ k → ¬ Ahead W (O i) (O ((i - 1) / 2))) ∧ (∀ i, 0 < i → i < len → (i - 1) / 2 = k → 0 < k → ¬ Ahead W (O i) (O ((k - 1) / 2)))
theorem up_stop {W : Nat → Int} {len : Nat} {O : Nat → Nat} {k : Nat} (h : AlmostUp W len O k) (hk : k = 0 ∨ ¬ Ahead W (O k) (O ((k - 1) / 2))) : HeapOrd W len O := by
  intro i h0 hi
  by_cases e : i = k
  · subst e
    rcases hk with hk | hk
    · omega
    · exact hk
  · exact h.1 i h0 hi e
theorem up_step {W : Nat → Int} {len : Nat} {O : Nat → Nat} {k : Nat} (h : AlmostUp W len O k) (h0 : 0 < k) (hk : k < len) (ha : Ahead W (O k) (O ((k - 1) / 2))) : AlmostUp W len (sw O ((k - 1) / 2) k) ((k - 1) / 2) := by
  have hq : (k - 1) / 2 < k := by omega
  constructor
  · intro i i0 hi hne
    by_cases e1 : i = k
    · subst e1
      rw [sw_b, sw_a]
      exact ha.asymm
    · rw [sw_ne O hne e1]
      by_cases e2 : (i - 1) / 2 = k
      · rw [e2, sw_b]
        exact h.2 i i0 hi e2 h0
      · by_cases e3 : (i - 1) / 2 = (k - 1) / 2
        · rw [e3, sw_a]
          have h1 := h.1 i i0 hi e1
          rw [e3] at h1
          exact fun h2 => h1 (h2.trans ha)
        · rw [sw_ne O e3 e2]
          exact h.1 i i0 hi e1
  · intro i i0 hi e hp
    have hqq : ((k - 1) / 2 - 1) / 2 < (k - 1) / 2 := by omega
    rw [sw_ne O (i := ((k - 1) / 2 - 1) / 2) (by omega) (by omega)]
    have hpp := h.1 ((k - 1) / 2) hp (by omega) (by omega)
    by_cases e1 : i = k
    · subst e1
      rw [sw_b]
      exact hpp
    · have h1 := h.1 i i0 hi e1
      rw [e] at h1
      rw [sw_ne O (by omega) e1]
      exact nahead_trans h1 hpp
def AlmostDown (W : Nat → Int) (len : Nat) (O : Nat → Nat) (k : Nat) : Prop :=
  (∀ i, 0 < i → i < len → (i - 1) / 2 ≠ k → ¬ Ahead W (O i) (O ((i - 1) / 2))) ∧ (∀ i, 0 < i → i < len → (i - 1) / 2 = k → 0 < k → ¬ Ahead W (O i) (O ((k - 1) / 2)))
theorem down_stop {W : Nat → Int} {len : Nat} {O : Nat → Nat} {k : Nat} (h : AlmostDown W len O k) (hk : ∀ c, 2 * k + 1 ≤ c → c ≤ 2 * k + 2 → c < len → ¬ Ahead W (O c) (O k)) : HeapOrd W len O := by
  intro i h0 hi
  by_cases e : (i - 1) / 2 = k
  · rw [e]
    exact hk i (by omega) (by omega) hi
  · exact h.1 i h0 hi e
theorem down_step {W : Nat → Int} {len : Nat} {O : Nat → Nat} {k b : Nat} (h : AlmostDown W len O k) (hb1 : 2 * k + 1 ≤ b) (hb2 : b ≤ 2 * k + 2) (hb : b < len) (ha : Ahead W (O b) (O k)) (hbest : ∀ c, 2 * k + 1 ≤ c → c ≤ 2 * k + 2 → c < len → ¬ Ahead W (O c) (O b)) : AlmostDown W len (sw O k b) b := by
  have hpb : (b - 1) / 2 = k := by omega
  constructor
  · intro i i0 hi hne
    by_cases e1 : i = b
    · subst e1
      rw [sw_b, hpb, sw_a]
      exact ha.asymm
    · by_cases e2 : (i - 1) / 2 = k
      · rw [e2, sw_a, sw_ne O (by omega) e1]
        exact hbest i (by omega) (by omega) hi
      · by_cases e3 : i = k
        · subst e3
          rw [sw_a, sw_ne O e2 hne]
          exact h.2 b (by omega) hb hpb i0
        · rw [sw_ne O e3 e1, sw_ne O e2 hne]
          exact h.1 i i0 hi e2
  · intro i i0 hi e hb0
    rw [hpb, sw_a, sw_ne O (by omega) (by omega)]
    have := h.1 i i0 hi (by omega)
    rw [e] at this
    exact this
theorem root_best {W : Nat → Int} {len : Nat} {O : Nat → Nat} (h : HeapOrd W len O) : ∀ i, i < len → ¬ Ahead W (O i) (O 0) := by
  intro i
  induction i using Nat.strongRecOn with
  | _ i ih =>
    intro hi
    by_cases h0 : i = 0
    · subst h0; exact nahead_self _ _
    · exact nahead_trans (h i (by omega) hi) (ih ((i - 1) / 2) (by omega) (by omega))
theorem pop_almost {W : Nat → Int} {len : Nat} {O : Nat → Nat} (h : HeapOrd W (len + 1) O) : AlmostDown W len (sw O 0 len) 0 := by
  constructor
  · intro i i0 hi hne
    rw [sw_ne O (by omega) (by omega), sw_ne O hne (by omega)]
    exact h i i0 (by omega)
  · intro i _ _ _ h0
    omega
theorem push_almost {W : Nat → Int} {len : Nat} {O : Nat → Nat} (h : HeapOrd W len O) (x : Nat) : AlmostUp W (len + 1) (up1 O len x) len := by
  constructor
  · intro i i0 hi hne
    rw [up1_ne O x hne, up1_ne O x (by omega)]
    exact h i i0 (by omega)
  · intro i i0 hi e h0
    omega
/-- a weight grows. -/
theorem raise_almost {n len : Nat} {P O : Nat → Nat} {W : Nat → Int} (p : Places n len P O) (h : HeapOrd W len O) {x : Nat} (hx : x < n) (hp : P x ≠ 0) {v : Int} (hv : W x ≤ v) : AlmostUp (up1 W x v) len O (P x - 1) := by
  obtain ⟨hl, ho⟩ := p.back x hx hp
  have hne : ∀ i, i < len → i ≠ P x - 1 → O i ≠ x := fun i hi hn e => hn (p.inj hi (by omega) (by rw [e, ho]))
  constructor
  · intro i i0 hi hn
    have h1 := h i i0 hi
    unfold Ahead at h1 ⊢
    rw [up1_ne W v (hne i hi hn)]
    by_cases e : (i - 1) / 2 = P x - 1
    · rw [e, ho] at h1 ⊢
      rw [up1_same]
      omega
    · rw [up1_ne W v (hne _ (by omega) e)]
      exact h1
  · intro i i0 hi e h0
    have h1 := h i i0 hi
    rw [e] at h1
    have h2 := h (P x - 1) h0 (by omega)
    have h3 := nahead_trans h1 h2
    unfold Ahead at h3 ⊢
    rw [up1_ne W v (hne i hi (by omega)), up1_ne W v (hne _ (by omega) (by omega))]
    exact h3
theorem raise_out {n len : Nat} {P O : Nat → Nat} {W : Nat → Int} (p : Places n len P O) (h : HeapOrd W len O) {x : Nat} (hp : P x = 0) (v : Int) : HeapOrd (up1 W x v) len O := by
  have hne : ∀ i, i < len → O i ≠ x := fun i hi e => by
    have := (p.at_ i hi).2
    rw [e] at this
    omega
  intro i i0 hi
  unfold Ahead
  rw [up1_ne W v (hne i hi), up1_ne W v (hne _ (by omega))]
  exact h i i0 hi
end Go.Proofs.Ytpnchmelaonfiaa
