/- More vertices and atoms behind the others: a run over the links stays as it is. -/
import Derived.Test.YtgdncnalahdjeaaL21
namespace Go.Proofs.Ytgdncnalahdjeaa
open Go Go.RowKit

/-- the first ones agree. -/
structure Grows (n : Nat) (d : VD) (m : Nat) (a : AD) (n' : Nat) (d' : VD) (m' : Nat) (a' : AD) : Prop where
  gn : n ≤ n'
  gm : m ≤ m'
  f : ∀ i, i < n → d'.F i = d.F i
  l : ∀ i, i < n → d'.L i = d.L i
  v : ∀ i, i < n → d'.V i = d.V i
  k : ∀ i, i < m → a'.K i = a.K i
  ga : ∀ i, i < m → a'.A i = a.A i
  gb : ∀ i, i < m → a'.B i = a.B i
variable {n : Nat} {d : VD} {m : Nat} {a : AD} {n' : Nat} {d' : VD} {m' : Nat} {a' : AD}
theorem isV_grows (g : n ≤ n') {i : Int} (h : isV n i = true) : isV n' i = true := by
  rw [isV_iff] at h ⊢
  omega
theorem okL_grows (g : m ≤ m') {l : Int} (h : okL m l = true) : okL m' l = true ∧ l.natAbs - 1 < m := by
  unfold okL absI at h ⊢
  simp only [Bool.and_eq_true, decide_eq_true_eq, bne_iff_ne, ne_eq] at h ⊢
  omega
theorem told_grows (g : Grows n d m a n' d' m' a') {l : Int} (h : (toldL m a l).2 = true) : toldL m' a' l = toldL m a l := by
  unfold toldL at h ⊢
  cases ho : okL m l with
  | false => rw [ho] at h; simp at h
  | true =>
    obtain ⟨h1, h2⟩ := okL_grows g.gm ho
    rw [h1, g.k _ h2, g.ga _ h2, g.gb _ h2]
theorem app_grows (g : Grows n d m a n' d' m' a') {ts : List (Int × Int)} {A B : Int} {L : Nat} {V : Nat → Int} (h : appB n d ts A B L V = true) : appB n' d' ts A B L V = true := by
  unfold appB at h ⊢
  simp only [Bool.and_eq_true] at h ⊢
  obtain ⟨⟨⟨⟨⟨⟨h1, h2⟩, h3⟩, h4⟩, h5⟩, h6⟩, h7⟩ := h
  have a1 := (isV_iff n A).1 h1
  have b1 := (isV_iff n B).1 h2
  have ha : A.toNat < n := by omega
  have hb : B.toNat < n := by omega
  rw [g.f _ ha, g.f _ hb, g.l _ ha, g.l _ hb, g.v _ ha, g.v _ hb]
  exact ⟨⟨⟨⟨⟨⟨isV_grows g.gn h1, isV_grows g.gn h2⟩, h3⟩, h4⟩, h5⟩, h6⟩, h7⟩
theorem concl_grows (g : Grows n d m a n' d' m' a') {ts : List (Int × Int)} {K T A B I J : Int} {L : Nat} {V : Nat → Int} (h : (conclL n d m a ts K T A B I J L V).2 = true) : conclL n' d' m' a' ts K T A B I J L V = conclL n d m a ts K T A B I J L V := by
  unfold conclL at h ⊢
  by_cases k1 : K = 1
  · rw [if_pos k1] at h; rw [if_pos k1, if_pos k1]; exact told_grows g h
  rw [if_neg k1] at h; rw [if_neg k1, if_neg k1]
  by_cases k2 : K = 2
  · rw [if_pos k2] at h; rw [if_pos k2, if_pos k2]
    have h' : isV n A = true := h
    rw [h', isV_grows g.gn h']
  rw [if_neg k2] at h; rw [if_neg k2, if_neg k2]
  by_cases k3 : K = 3
  · rw [if_pos k3, if_pos k3]
  rw [if_neg k3] at h; rw [if_neg k3, if_neg k3]
  by_cases k4 : K = 4
  · rw [if_pos k4, if_pos k4]
  rw [if_neg k4] at h; rw [if_neg k4, if_neg k4]
  by_cases k5 : K = 5
  · rw [if_pos k5] at h; rw [if_pos k5, if_pos k5]
    have h' : appB n d ts A B L V = true := h
    rw [h', app_grows g h']
  rw [if_neg k5, if_neg k5]
theorem goL_grows (g : Grows n d m a n' d' m' a') {ld : LD} : ∀ k, (∀ i, i < k → okAt n d m a ld i = true) → goL n' d' m' a' ld k = goL n d m a ld k
  | 0, _ => rfl
  | k + 1, h => by
    have ih := goL_grows g k (fun i hi => h i (by omega))
    have hk : (conclL n d m a (goL n d m a ld k).1 (ld.K k) (ld.T k) (ld.A k) (ld.B k) (ld.I k) (ld.J k) (ld.L k) (ld.V k)).2 = true := h k (by omega)
    show (_, _) = (_, _)
    rw [ih, concl_grows g hk]
theorem okAt_grows (g : Grows n d m a n' d' m' a') {ld : LD} {k : Nat} (h : ∀ i, i < k + 1 → okAt n d m a ld i = true) : okAt n' d' m' a' ld k = true := by
  have hk : (conclL n d m a (goL n d m a ld k).1 (ld.K k) (ld.T k) (ld.A k) (ld.B k) (ld.I k) (ld.J k) (ld.L k) (ld.V k)).2 = true := h k (by omega)
  unfold okAt
  rw [goL_grows g k (fun i hi => h i (by omega)), concl_grows g hk]
  exact hk
theorem closeL_grows (g : Grows n d m a n' d' m' a') {ts : List (Int × Int)} {K T I : Int} (h : closeL m a ts K T I = true) : closeL m' a' ts K T I = true := by
  unfold closeL at h ⊢
  by_cases k7 : K = 7
  · rw [if_pos k7] at h ⊢; exact h
  rw [if_neg k7] at h ⊢
  by_cases k6 : K = 6
  · rw [if_pos k6] at h ⊢
    have ho : okL m T = true := by
      simp only [Bool.and_eq_true] at h
      exact h.2.1.1.1
    obtain ⟨h1, h2⟩ := okL_grows g.gm ho
    rw [ho] at h
    rw [h1, g.k _ h2, g.ga _ h2, g.gb _ h2]
    exact h
  · rw [if_neg k6] at h
    simp at h
/-- what closes, closes with more; the literals stay. -/
theorem closes_grows (g : Grows n d m a n' d' m' a') {ld : LD} {N : Nat} (h : ClosesAll n d m a ld N) : ClosesAll n' d' m' a' ld N ∧ litsOf n' d' m' a' ld N = litsOf n d m a ld N := by
  have hg := goL_grows g (N - 1) h.2.1
  refine ⟨⟨h.1, fun i hi => okAt_grows g (fun j hj => h.2.1 j (by omega)), ?_⟩, ?_⟩
  · rw [hg]
    exact closeL_grows g h.2.2
  · unfold litsOf
    rw [hg]
/-- vertices behind others. -/
def joinV (n : Nat) (d e : VD) : VD := ⟨fun i => if i < n then d.F i else e.F (i - n), fun i => if i < n then d.P i else e.P (i - n), fun i => if i < n then d.L i else e.L (i - n), fun i => if i < n then d.C i else e.C (i - n), fun i => if i < n then d.V i else e.V (i - n), fun i => if i < n then d.S i else e.S (i - n), fun i => if i < n then d.X i else e.X (i - n), fun i => if i < n then d.O i else e.O (i - n)⟩
def joinA (m : Nat) (a e : AD) : AD := ⟨fun i => if i < m then a.K i else e.K (i - m), fun i => if i < m then a.A i else e.A (i - m), fun i => if i < m then a.B i else e.B (i - m), fun i => if i < m then a.C i else e.C (i - m)⟩
theorem join_grows (n : Nat) (d e : VD) (m : Nat) (a b : AD) (n' m' : Nat) : Grows n d m a (n + n') (joinV n d e) (m + m') (joinA m a b) := by
  refine ⟨by omega, by omega, ?_, ?_, ?_, ?_, ?_, ?_⟩ <;> intro i hi <;> simp [joinV, joinA, hi]
/-- a vertex's cells; an atom's. -/
def cells5 (d : VD) (i : Nat) : List Value := [.int .i64 (d.F i), .slice (d.P i) (d.L i) (d.C i), .int .i64 (d.S i), .int .i64 (d.X i), .int .i64 (d.O i)]
def cells4 (a : AD) (i : Nat) : List Value := [.int .u8 (a.K i), .int .i64 (a.A i), .int .i64 (a.B i), .int .i64 (a.C i)]
/-- rows of cells. -/
def flatN (f : Nat → List Value) : Nat → List Value
  | 0 => []
  | N + 1 => flatN f N ++ f N
theorem flatN_len (f : Nat → List Value) (z : Nat) (hf : ∀ i, (f i).length = z) : ∀ N, (flatN f N).length = N * z
  | 0 => by simp [flatN]
  | N + 1 => by show (flatN f N ++ f N).length = _; rw [List.length_append, flatN_len f z hf N, hf, Nat.succ_mul]
theorem flatN_get (f : Nat → List Value) (z : Nat) (hf : ∀ i, (f i).length = z) : ∀ (N i j : Nat) (_ : i < N) (_ : j < z), (flatN f N)[i * z + j]? = (f i)[j]?
  | 0, i, j, hi, _ => by omega
  | N + 1, i, j, hi, hj => by
    show (flatN f N ++ f N)[i * z + j]? = _
    by_cases h : i < N
    · have hle : (i + 1) * z ≤ N * z := Nat.mul_le_mul_right z h
      rw [Nat.succ_mul] at hle
      rw [List.getElem?_append_left (by rw [flatN_len f z hf]; omega)]
      exact flatN_get f z hf N i j h hj
    · obtain rfl : i = N := by omega
      rw [List.getElem?_append_right (by rw [flatN_len f z hf]; omega), flatN_len f z hf]
      congr 1
      omega
theorem flatN_one (f : Nat → List Value) (h1 : ∀ i, ∀ u ∈ f i, u.oneCell' = true) : ∀ (N : Nat) (u : Value), u ∈ flatN f N → u.oneCell' = true
  | 0, u, h => by cases h
  | N + 1, u, h => by
    rcases List.mem_append.1 h with h | h
    · exact flatN_one f h1 N u h
    · exact h1 N u h
theorem flatN_app (f g : Nat → List Value) (n : Nat) : ∀ k, flatN (fun i => if i < n then f i else g (i - n)) (n + k) = flatN f n ++ flatN g k
  | 0 => by
    have h : ∀ k, k ≤ n → flatN (fun i => if i < n then f i else g (i - n)) k = flatN f k := by
      intro k
      induction k with
      | zero => intro _; rfl
      | succ k ih =>
        intro hk
        show flatN _ k ++ (if k < n then f k else g (k - n)) = flatN f k ++ f k
        rw [ih (by omega), if_pos (by omega)]
    rw [Nat.add_zero, h n (Nat.le_refl _)]
    simp [flatN]
  | k + 1 => by
    show flatN _ (n + k) ++ (if n + k < n then f (n + k) else g (n + k - n)) = flatN f n ++ (flatN g k ++ g k)
    rw [flatN_app f g n k, if_neg (by omega), List.append_assoc, show n + k - n = k by omega]
theorem cells5_join (n : Nat) (d e : VD) : cells5 (joinV n d e) = fun i => if i < n then cells5 d i else cells5 e (i - n) := by
  funext i
  by_cases h : i < n <;> simp [cells5, joinV, h]
theorem cells4_join (m : Nat) (a e : AD) : cells4 (joinA m a e) = fun i => if i < m then cells4 a i else cells4 e (i - m) := by
  funext i
  by_cases h : i < m <;> simp [cells4, joinA, h]
end Go.Proofs.Ytgdncnalahdjeaa
