/- A base: a clause of it; an append where there is room; what a visit holds in memory. -/
import Derived.Test.YtgdncnalahdjeaaU6
namespace Go.Proofs.Ytgdncnalahdjeaa
open Go Go.RowKit Go.Maps

theorem lits_few {T : List Int} (hn : T.Nodup) (hl : ∀ l, l ∈ T → isLitB l = true) : T.length ≤ 2097153 := by
  have := nodup_sub hn (b := (List.range 2097153).map fun (i : Nat) => (i : Int) - 1048576) (fun x hx => by
    obtain ⟨_, a, b⟩ := litB_in (hl x hx)
    exact List.mem_map.2 ⟨(x + 1048576).toNat, by simp; omega, by omega⟩)
  simpa using this
theorem Struct.tlen {db cl : List (List Int)} {wt : Int → List Nat} {T : List Int} (h : Struct db cl wt T) : T.length ≤ 2097153 := lits_few h.nd h.lit
section
variable {W W' : World} {K K' : Nat → Kd} {a m : Nat} {hl : Int → Prop} {cl : List (List Int)} {wt : Int → List Nat} {T R : List Int} {nx : Nat} {br : Bool}
/-- a clause of a base: its cells, and the way back. -/
theorem BaseAt.clause (h : BaseAt W K a m hl cl wt T R nx br) {j : Nat} {c : List Int} (hj : cl[j]? = some c) (hc : 0 < c.length) : ∃ gC zC g z, K gC = .cls ∧ W.cell? ⟨a, 0, none⟩ = some (.slice (some ⟨gC, 0, none⟩) cl.length zC) ∧ W.cell? ⟨gC, j, none⟩ = some (.slice (some ⟨g, 0, none⟩) c.length z) ∧ K g = .cl j ∧
    W.ownsRow 0 54 1 (.slice (some ⟨g, 0, none⟩) c.length z) c.length (c.map litV) ∧
    ∀ (W1 : World) (c' : List Int), c'.length = c.length → Only (fun k => K k = .cl j) W W1 → W.heap.size ≤ W1.heap.size → W1.ownsRow 0 54 1 (.slice (some ⟨g, 0, none⟩) c.length z) c.length (c'.map litV) → BaseAt W1 K a m hl (cl.set j c') wt T R nx br ∧ StepB Wats W W1 K K := by
  obtain ⟨v0, v2, v3, ob, r0, r2, r3⟩ := h.ob
  obtain ⟨rows, hl0, hr, hcs⟩ := r0.row
  obtain ⟨u, hu, hru⟩ := hcs j c hj
  have hjl := (List.getElem?_eq_some_iff.1 hj).1
  obtain ⟨gC, zC, e0⟩ := own_some hr.own (by omega)
  obtain ⟨g, z, e1⟩ := own_some hru.own (by simpa using hc)
  subst e0 e1
  have ho := hr.own
  have cj := (own_cell ho j _ hu).1
  have c0 := ob.c0
  rw [List.length_map] at hru cj hu
  have hro := hru.own
  rw [List.length_map] at hro
  refine ⟨gC, zC, g, z, hr.tg gC rfl, by rw [← hl0]; exact c0, cj, hru.tg g rfl, hro, fun W1 c' hlen ho1 hs hrow => ?_⟩
  have hx := Ext.refl K W.heap.size
  have nt : ∀ t, t ≠ Kd.cl j → ∀ k, K k = t → ¬ K k = Kd.cl j := fun t ht k hk e => ht (by rw [← hk, e])
  refine ⟨⟨fun k hk => h.fr k (Nat.le_trans hs hk), h.ka, h.mp.only ho1 hx (nt _ (by simp)) (fun k i hk _ => nt (.wat i) (by simp) k hk), _, v2, v3, ob.only ho1 (nt _ (by simp) a h.ka), ?_, r2.only ho1 hx (nt _ (by simp)), r3.only ho1 hx (nt _ (by simp))⟩, ⟨ho1.mono (fun k _ e => by show K k ≠ _ ∧ ¬ _; rw [e]; simp [Wats]), hx⟩⟩
  refine ⟨rows, by simpa using hl0, hr.only ho1 hx (nt _ (by simp)), fun i d hi => ?_⟩
  rw [List.getElem?_set] at hi
  by_cases e : j = i
  · subst e
    simp [hjl] at hi
    subst hi
    exact ⟨_, hu, by rw [List.length_map, hlen]; exact hrow, hru.tg⟩
  · rw [if_neg e] at hi
    obtain ⟨u, hu, hru⟩ := hcs i d hi
    exact ⟨u, hu, hru.only ho1 hx (nt _ (by simp; exact fun h => e h.symm))⟩
theorem BaseAt.clause_again (h : BaseAt W K a m hl cl wt T R nx br) {j : Nat} {c : List Int} (hj : cl[j]? = some c) (hc : 0 < c.length) {gC zC N g n z : Nat} (e0 : W.cell? ⟨a, 0, none⟩ = some (.slice (some ⟨gC, 0, none⟩) N zC)) (e1 : W.cell? ⟨gC, j, none⟩ = some (.slice (some ⟨g, 0, none⟩) n z)) : n = c.length ∧ K g = .cl j ∧
    W.ownsRow 0 54 1 (.slice (some ⟨g, 0, none⟩) c.length z) c.length (c.map litV) ∧
    ∀ (W1 : World) (c' : List Int), c'.length = c.length → Only (fun k => K k = .cl j) W W1 → W.heap.size ≤ W1.heap.size → W1.ownsRow 0 54 1 (.slice (some ⟨g, 0, none⟩) c.length z) c.length (c'.map litV) → BaseAt W1 K a m hl (cl.set j c') wt T R nx br ∧ StepB Wats W W1 K K := by
  obtain ⟨gC', zC', g', z', _, c0, c1, hK, hown, back⟩ := h.clause hj hc
  rw [c0] at e0
  cases e0
  rw [c1] at e1
  cases e1
  exact ⟨rfl, hK, hown, back⟩
end
theorem lit_cell {w : World} {g z : Nat} {c : List Int} (h : w.ownsRow 0 54 1 (.slice (some ⟨g, 0, none⟩) c.length z) c.length (c.map litV)) {k : Nat} (hk : k < c.length) : w.cell? ⟨g, k, none⟩ = some (.int .i64 (c.getD k 0)) ∧ w.frozen? ⟨g, k, none⟩ = false :=
  own_cell h k _ (by rw [List.getElem?_map, List.getElem?_eq_getElem hk, getD_eq hk]; rfl)
theorem swap_own {w : World} {g z : Nat} {c : List Int} (h : w.ownsRow 0 54 1 (.slice (some ⟨g, 0, none⟩) c.length z) c.length (c.map litV)) (i k : Nat) : ((w.setCell ⟨g, i, none⟩ (.int .i64 (c.getD k 0))).setCell ⟨g, k, none⟩ (.int .i64 (c.getD i 0))).ownsRow 0 54 1 (.slice (some ⟨g, 0, none⟩) c.length z) c.length ((swL c i k).map litV) := by
  have := own_set (own_set h i (litV (c.getD k 0))) k (litV (c.getD i 0))
  unfold swL
  rw [List.map_set, List.map_set]
  exact this
/-- an append where there is room, in place. -/
theorem run_append_in (w : World) (ty g N cap : Nat) (ys : List Nat) (h : w.ownsRow 0 3 1 (.slice (some ⟨g, 0, none⟩) N cap) N (ys.map natV)) (n m c : Nat) (ad : Addr) (news : List Nat) (hl : news.length = m) (hn : n + m ≤ N) (hc : ∀ (j : Nat) (x : Nat), news[j]? = some x → w.cell? (ad.add j) = some (natV x)) :
    ∃ w', (Builtin.append_ #[55, 55] ty #[.slice (some ⟨g, 0, none⟩) n cap, .slice (some ad) m c]).run Try.prog w = .ok (.slice (some ⟨g, 0, none⟩) (n + m) cap) w' ∧ w'.ownsRow 0 3 1 (.slice (some ⟨g, 0, none⟩) N cap) N ((ys.take n ++ news ++ ys.drop (n + m)).map natV) ∧ w.grownBy w' (some g) ∧ w'.heap.size = w.heap.size := by
  obtain ⟨i3, hi3, hz0, hz1, hz2⟩ := infoI3
  rcases h with ⟨h0, ⟨h1, _⟩ | ⟨g', cap', cur, hv, hg, hh, hnc, hm, hs, ht⟩⟩
  · cases h1
  cases hv
  have hr := run_append_room (P := Try.prog) w 55 ty 3 i3 Try.underlying55 hi3 g n cap cur hh ad m c (news.map natV) (by rw [List.length_map, hl, hz1]; omega)
    (fun j u hj => by
      rw [List.getElem?_map] at hj
      cases e : news[j]? with
      | none => rw [e] at hj; cases hj
      | some x => rw [e] at hj; cases hj; exact hc j x e) (fun u hu => by obtain ⟨x, _, rfl⟩ := List.mem_map.1 hu; rfl) (by omega) (by rw [hz1, List.length_map]; omega)
  have hyl : ys.length = N := by simpa using h0
  refine ⟨_, hr, ⟨by simp; omega, .inr ⟨g, cap, _, rfl, Nat.zero_le _, setRow_heap w g cur _ 3 _ hh, hnc, hm, ?_, ?_⟩⟩, ⟨rfl, rfl, rfl, by simp, fun k1 _ hk => setRow_other w g k1 _ (fun e => hk (by rw [e]))⟩, by simp⟩
  · simp only [List.size_toArray, List.length_append, List.length_take, List.length_drop, Array.length_toList, List.length_map]
    rw [hz1]; omega
  · have hcur : cur.toList.take N = ys.map natV := by simpa using ht
    have htk : cur.toList.take (n * i3.size) = (ys.take n).map natV := by
      rw [hz1, Nat.mul_one, List.map_take, ← hcur, List.take_take, Nat.min_eq_left (by omega)]
    have hdr : (cur.toList.drop (n + m)).take (N - (n + m)) = (ys.drop (n + m)).map natV := by
      rw [List.map_drop, ← hcur, List.drop_take]
    simp only [Nat.mul_one]
    rw [htk, hz1, Nat.mul_one, List.length_map, hl]
    have hA : ((ys.take n).map natV ++ news.map natV).length = n + m := by rw [List.length_append, List.length_map, List.length_map, List.length_take, hl]; omega
    generalize hB : (ys.take n).map natV ++ news.map natV = B at *
    rw [List.take_append, List.take_of_length_le (by omega), hA, hdr, ← hB, List.map_append, List.map_append]
/-- a visit's round in memory: of the list's row, cur. -/
structure VisM (F : Prop) (W : World) (K0 : Nat → Kd) (db cl : List (List Int)) (T P T0 gv : List Int) (gone : Int) (L0 : List Nat) (a m g cap nx : Nat) (br : Bool) (i : Nat) (kept cur : List Nat) (cl1 : List (List Int)) (wt1 : Int → List Nat) (T1 : List Int) (K1 : Nat → Kd) (wr : World) : Prop where
  le : i ≤ L0.length
  kl : kept.length ≤ i
  cl_ : cur.length = L0.length
  ck : cur.take kept.length = kept
  cd : cur.drop i = L0.drop i
  base : BaseAt wr K1 a m (fun x => x = gone) cl1 wt1 T1 T1 nx br
  row : wr.ownsRow 0 3 1 (.slice (some ⟨g, 0, none⟩) L0.length cap) L0.length (cur.map natV)
  gk : K1 g = .wat gone
  st : StepB NoQ W wr K0 K1
  vis : Vis F db cl1 wt1 T1 P T0 gv gone kept (L0.drop i)
  alk : Alk cl cl1
  pre : ∃ new, T1 = T ++ new
section
variable {F : Prop} {W : World} {K0 : Nat → Kd} {db cl : List (List Int)} {T P T0 gv : List Int} {gone : Int} {L0 : List Nat} {a m g cap nx : Nat} {br : Bool} {i : Nat} {kept cur : List Nat} {cl1 : List (List Int)} {wt1 : Int → List Nat} {T1 : List Int} {K1 : Nat → Kd} {wr : World}
theorem VisM.later (h : VisM F W K0 db cl T P T0 gv gone L0 a m g cap nx br i kept cur cl1 wt1 T1 K1 wr) {w' : World} (hb : Below wr.heap.size wr w') : VisM F W K0 db cl T P T0 gv gone L0 a m g cap nx br i kept cur cl1 wt1 T1 K1 w' :=
  ⟨h.le, h.kl, h.cl_, h.ck, h.cd, h.base.later hb, own_later h.row hb, h.gk, h.st.trans (StepB.below hb), h.vis, h.alk, h.pre⟩
end
end Go.Proofs.Ytgdncnalahdjeaa
