/- LinksMore: the law's walk. -/
import Derived.Test.YtgdncnalahdjeaaL24
namespace Go.Proofs.Ytgdncnalahdjeaa
open Go Go.RowKit

/-- the first check, and what is said where its number is 0. -/
theorem check_zero (n : Nat) (d : VD) (m : Nat) (a : AD) (ld : LD) (N : Nat) (k : Nat) (Z : Nat → Int) (er : Int) (hP : MayP (litsOf n d m a ld N).length (fun i => (litsOf n d m a ld N).getD i 0) → er = 0) (hQ : ¬ MayP (litsOf n d m a ld N).length (fun i => (litsOf n d m a ld N).getD i 0) → er = 2)
    (hn : ∀ W p c, LitsIn W p (litsOf n d m a ld N).length (fun i => (litsOf n d m a ld N).getD i 0) → Calls Try.prog 47 #[.slice p (litsOf n d m a ld N).length c] W fun e w' => Outs k Z er e w' ∧ Below W.heap.size W w')
    (p : Option Addr) (cv : Nat) (q : Option Addr) (ca : Nat) (s : Option Addr) (cs : Nat) (w : World) (hd : VertsIn w p n d) (ha : AtomsIn w q m a) (hl : LinksIn w s N ld) (hn0 : n ≤ 9223372036854775807) (hm : m ≤ 1000000) (hN : N ≤ 20000) (hT : ∀ i, i < N → -9223372036854775808 ≤ ld.T i ∧ ld.T i ≤ 9223372036854775807) :
    Calls Try.prog 37 #[.slice p n cv, .slice q m ca, .slice s N cs] w fun e w' => ∃ (r1 : Option Addr) (k1 c1 : Nat) (er1 : Int), e = .returned (.tuple #[.slice r1 k1 c1, .int .i64 er1]) ∧ (er1 = 0 → mayB n d m a = true ∧ ClosesAll n d m a ld N ∧ (litsOf n d m a ld N).length ≤ 5000 ∧ er = 0 ∧ k1 = k ∧ LitsIn w' r1 k Z) ∧ Below w.heap.size w w' := by
  cases hmay : mayB n d m a with
  | false =>
    refine (check_no n d m a N p cv q ca s cs w hd ha hn0 hm hmay).mono ?_
    rintro e w1 ⟨rfl, hb⟩
    exact ⟨none, 0, 0, 2, rfl, fun h => by omega, hb⟩
  | true =>
    refine (check_run n d m a ld N p cv q ca s cs k Z er w hd ha hl hm hN hT hmay hn).mono ?_
    rintro e w1 ⟨hres, hb⟩
    rcases hres with ⟨_, rfl⟩ | ⟨_, _, rfl⟩ | ⟨hc, h5, p5, c5, rfl, hL5⟩
    · exact ⟨none, 0, 0, 5, rfl, fun h => by omega, hb⟩
    · exact ⟨none, 0, 0, 3, rfl, fun h => by omega, hb⟩
    · refine ⟨p5, k, c5, er, rfl, fun h => ⟨rfl, hc, h5, h, rfl, hL5⟩, hb⟩

set_option maxRecDepth 100000 in
set_option maxHeartbeats 1000000 in
theorem more_any (n : Nat) (d : VD) (n2 : Nat) (d2 : VD) (m : Nat) (a : AD) (m2 : Nat) (a2 : AD) (ld : LD) (N : Nat) (p : Option Addr) (cv : Nat) (p2 : Option Addr) (cv2 : Nat) (q : Option Addr) (ca : Nat) (q2 : Option Addr) (ca2 : Nat) (s : Option Addr) (cs : Nat) (w : World) (hd : VertsIn w p n d) (hd2 : VertsIn w p2 n2 d2) (ha : AtomsIn w q m a) (ha2 : AtomsIn w q2 m2 a2) (hl : LinksIn w s N ld) (hn : n ≤ 9223372036854775807) (hn2 : n2 ≤ 9223372036854775807) (hm : m ≤ 9223372036854775807) (hm2 : m2 ≤ 9223372036854775807) (hN : N ≤ 9223372036854775807) (hp : p = none → n = 0 ∧ cv = 0) (hp2 : p2 = none → n2 = 0 ∧ cv2 = 0) (hq : q = none → m = 0 ∧ ca = 0) (hq2 : q2 = none → m2 = 0 ∧ ca2 = 0) (hT : ∀ i, i < N → -9223372036854775808 ≤ ld.T i ∧ ld.T i ≤ 9223372036854775807) :
    Calls Try.prog 15 #[.slice p n cv, .slice p2 n2 cv2, .slice q m ca, .slice q2 m2 ca2, .slice s N cs] w fun e w' => e = .returned (.bool true) ∧ Below w.heap.size w w' := by
  obtain ⟨i5, hi5, hz50, hz51, hz52⟩ := info84
  obtain ⟨i4, hi4, hz40, hz41, hz42⟩ := info99
  skip
  have HK := Lib.hid (fun W => known_any W)
  have H1 := large_any n d m N ld p cv q ca s cs w hd hl hn hm hN
  have HD := Lib.hid hd
  have HD2 := Lib.hid hd2
  have HA := Lib.hid ha
  have HA2 := Lib.hid ha2
  have HL := Lib.hid hl
  have HT := Lib.hid hT
  have HP := Lib.hid hp
  have HP2 := Lib.hid hp2
  have HQ := Lib.hid hq
  have HQ2 := Lib.hid hq2
  clear hd hd2 ha ha2 hl hT hp hp2 hq hq2
  obtain ⟨lb, hlb⟩ : ∃ lb, largeB n d m N ld = lb := ⟨_, rfl⟩
  rw [hlb] at H1
  go_enter Try.func15, Try.ntmps15
  go_wp2_with fail
  refine H1.mono ?_
  rintro e w1 ⟨rfl, hb1⟩
  have HB1 := Lib.hid hb1
  clear hb1 H1
  have key : lb = true ∨ (lb = false ∧ 20 < n2) ∨ (lb = false ∧ ¬ 20 < n2 ∧ 20 < m2) ∨ (lb = false ∧ ¬ 20 < n2 ∧ ¬ 20 < m2) := by cases lb <;> simp <;> omega
  rcases key with rfl | ⟨rfl, g1⟩ | ⟨rfl, g1, g2⟩ | ⟨rfl, g1, g2⟩
  · clear hlb
    go_wp2_with fail
    refine (HK.out _).mono ?_
    rintro e w2 ⟨rfl, hb2⟩
    have HBK := Lib.hid (chain HB1.out hb2)
    clear hb2
    go_wp2_with fail
    go_ret
    exact ⟨rfl, HBK.out⟩
  · clear hlb
    have u1 : (20 : Int) < (n2 : Int) := by omega
    go_wp2_with fail
    refine (HK.out _).mono ?_
    rintro e w2 ⟨rfl, hb2⟩
    have HBK := Lib.hid (chain HB1.out hb2)
    clear hb2
    go_wp2_with fail
    go_ret
    exact ⟨rfl, HBK.out⟩
  · clear hlb
    have u1 : ¬ (20 : Int) < (n2 : Int) := by omega
    have u2 : (20 : Int) < (m2 : Int) := by omega
    go_wp2_with fail
    refine (HK.out _).mono ?_
    rintro e w2 ⟨rfl, hb2⟩
    have HBK := Lib.hid (chain HB1.out hb2)
    clear hb2
    go_wp2_with fail
    go_ret
    exact ⟨rfl, HBK.out⟩
  have hsz := largeB_no hlb
  clear hlb
  have u1 : ¬ (20 : Int) < (n2 : Int) := by omega
  have u2 : ¬ (20 : Int) < (m2 : Int) := by omega
  have H2 := large_any n2 d2 m2 0 ld p2 cv2 q2 ca2 none 0 w1 (HD2.out.later HB1.out) (fun h => absurd h (by omega)) hn2 hm2 (by omega)
  obtain ⟨lb, hlb⟩ : ∃ lb, largeB n2 d2 m2 0 ld = lb := ⟨_, rfl⟩
  rw [hlb] at H2
  clear hlb
  go_wp2_with fail
  refine H2.mono ?_
  rintro e w2 ⟨rfl, hb2⟩
  have HB2 := Lib.hid (chain HB1.out hb2)
  clear hb2 H2 HB1
  cases lb
  rotate_left
  · skip
    go_wp2_with fail
    refine (HK.out _).mono ?_
    rintro e w2 ⟨rfl, hb2⟩
    have HBK := Lib.hid (chain HB2.out hb2)
    clear hb2
    go_wp2_with fail
    go_ret
    exact ⟨rfl, HBK.out⟩
  obtain ⟨k, Z, er, hk5, hN1, hN0, hNC, _⟩ := normal_same (litsOf n d m a ld N).length (fun i => (litsOf n d m a ld N).getD i 0) (by have := litsOf_len n d m a ld N; omega)
  have H3 := check_zero n d m a ld N k Z er (fun h => (hN1 h).1) (fun h => (hN0 h).1) hNC p cv q ca s cs w2 (HD.out.later HB2.out) (HA.out.later HB2.out) (HL.out.later HB2.out) hn (by omega) (by omega) HT.out
  have HNC := Lib.hid hNC
  clear hN1 hN0 hNC
  go_wp2_with fail
  refine H3.mono ?_
  rintro e w3 ⟨r1, k1, c1, er1, rfl, he1, hb3⟩
  have HB3 := Lib.hid (chain HB2.out hb3)
  have HE1 := Lib.hid he1
  clear hb3 he1 H3 HB2
  have HO := Lib.hid (own_empty84 w3)
  have HBa := Lib.hid (chain HB3.out (below1 w3 (.cells #[] 84)))
  have hza : (w3.alloc (.cells #[] 84)).heap.size = w3.heap.size + 1 := World.size_alloc _ _
  have HZA := Lib.hid hza
  clear hza
  have hml : maxLen = 9223372036854775807 := rfl
  go_wp2_with (at_builtin; refine wpList_append_any rfl _ _ 46 rfl w3.heap.size 84 i5 (.agg #[.int .i64 0, .slice none 0 0, .int .i64 0, .int .i64 0, .int .i64 0]) 5 56 Try.underlying46 hi5 hz50 hz51 hz52 rfl (by omega) _ 0 [] rfl HO.out p n cv (flatN (cells5 d) n) rfl HP.out (flatN_len (cells5 d) 5 (fun _ => rfl) n) (verts_cells (HD.out.later HBa.out)) (flatN_one (cells5 d) (cells5_one d) n) ?qa ?qb ?qc ?_)
  case qa => omega
  case qb => omega
  case qc => rw [HZA.out]; omega
  intro v4 w4 hown hbw
  try rw [Nat.zero_add] at hown
  try rw [List.nil_append] at hown
  have HO2 := Lib.hid hown
  have HBb0 := Lib.hid (((below1 w3 (.cells #[] 84))).trans hbw)
  have HBb := Lib.hid (chain HB3.out HBb0.out)
  clear hown hbw HO HBa
  go_wp2_with (at_builtin; refine wpList_append_any rfl _ _ 46 rfl w3.heap.size 84 i5 (.agg #[.int .i64 0, .slice none 0 0, .int .i64 0, .int .i64 0, .int .i64 0]) 5 56 Try.underlying46 hi5 hz50 hz51 hz52 rfl (by omega) _ n (flatN (cells5 d) n) rfl HO2.out p2 n2 cv2 (flatN (cells5 d2) n2) rfl HP2.out (flatN_len (cells5 d2) 5 (fun _ => rfl) n2) (verts_cells (HD2.out.later HBb.out)) (flatN_one (cells5 d2) (cells5_one d2) n2) ?qa ?qb ?qc ?_)
  case qa => omega
  case qb => omega
  case qc => exact HBb0.out.size
  intro v5 w5 hown hbw
  rw [← flatN_app, ← cells5_join] at hown
  have HBc := Lib.hid (chain HB3.out (HBb0.out.trans hbw))
  have HB35 := Lib.hid (HBb0.out.trans hbw)
  obtain ⟨pJ, cJ, rfl, hvJ⟩ := own_verts hown (join_v (HD.out.later HBc.out) (HD2.out.later HBc.out))
  have HVJ := Lib.hid hvJ
  clear hown hbw HO2 HBb HBb0 hvJ
  have HO := Lib.hid (own_empty99 w5)
  have HBa := Lib.hid (chain HBc.out (below1 w5 (.cells #[] 99)))
  have HZA2 := Lib.hid (show (w5.alloc (.cells #[] 99)).heap.size = w5.heap.size + 1 from World.size_alloc _ _)
  go_wp2_with (at_builtin; refine wpList_append_any rfl _ _ 47 rfl w5.heap.size 99 i4 (.agg #[.int .u8 0, .int .i64 0, .int .i64 0, .int .i64 0]) 4 32 Try.underlying47 hi4 hz40 hz41 hz42 rfl (by omega) _ 0 [] rfl HO.out q m ca (flatN (cells4 a) m) rfl HQ.out (flatN_len (cells4 a) 4 (fun _ => rfl) m) (atoms_cells (HA.out.later HBa.out)) (flatN_one (cells4 a) (cells4_one a) m) ?qa ?qb ?qc ?_)
  case qa => omega
  case qb => omega
  case qc => rw [HZA2.out]; omega
  intro v6 w6 hown hbw
  try rw [Nat.zero_add] at hown
  try rw [List.nil_append] at hown
  have HO2 := Lib.hid hown
  have HBb0 := Lib.hid (((below1 w5 (.cells #[] 99))).trans hbw)
  have HBb := Lib.hid (chain HBc.out HBb0.out)
  clear hown hbw HO HBa
  go_wp2_with (at_builtin; refine wpList_append_any rfl _ _ 47 rfl w5.heap.size 99 i4 (.agg #[.int .u8 0, .int .i64 0, .int .i64 0, .int .i64 0]) 4 32 Try.underlying47 hi4 hz40 hz41 hz42 rfl (by omega) _ m (flatN (cells4 a) m) rfl HO2.out q2 m2 ca2 (flatN (cells4 a2) m2) rfl HQ2.out (flatN_len (cells4 a2) 4 (fun _ => rfl) m2) (atoms_cells (HA2.out.later HBb.out)) (flatN_one (cells4 a2) (cells4_one a2) m2) ?qa ?qb ?qc ?_)
  case qa => omega
  case qb => omega
  case qc => exact HBb0.out.size
  intro v7 w7 hown hbw
  rw [← flatN_app, ← cells4_join] at hown
  have HB7w := Lib.hid (HBb0.out.trans hbw)
  have HB7 := Lib.hid (chain HBc.out HB7w.out)
  obtain ⟨qJ, eJ, rfl, haJ⟩ := own_atoms hown
  replace HVJ := Lib.hid (HVJ.out.later HB7w.out)
  have HAJ := Lib.hid haJ
  clear hown hbw HO2 HBb HBb0 haJ
  have HLB := Lib.hid (show LinksIn w7 s N ld from HL.out.later HB7.out)
  have H4 := linksMay_any pJ (n + n2) cJ (joinV n d d2) qJ (m + m2) eJ (joinA m a a2) w7 HVJ.out (by omega) HAJ.out (by omega)
  obtain ⟨mb, hmb⟩ : ∃ mb, mayB (n + n2) (joinV n d d2) (m + m2) (joinA m a a2) = mb := ⟨_, rfl⟩
  rw [hmb] at H4
  have HMB := Lib.hid hmb
  clear hmb
  by_cases h0 : er1 = 0
  rotate_left
  · have u3 : (er1 != 0) = true := by simpa using h0
    have u4 : (er1 == 0) = false := by simpa using h0
    clear h0
    go_wp2_with fail
    refine (HK.out _).mono ?_
    rintro e w2 ⟨rfl, hb2⟩
    have HBK := Lib.hid (chain HB7.out hb2)
    clear hb2
    go_wp2_with fail
    go_ret
    exact ⟨rfl, HBK.out⟩
  subst h0
  obtain ⟨_, hca, h5, rfl, rfl, hL1⟩ := HE1.out rfl
  have HCA := Lib.hid (closes_grows (join_grows n d d2 m a a2 n2 m2) hca)
  have H5 := Lib.hid h5
  have HL1 := Lib.hid (hL1.later (chain HB35.out HB7w.out))
  clear HE1 hca h5 hL1
  go_wp2_with fail
  refine H4.mono ?_
  rintro e w8 ⟨rfl, hb8⟩
  have HB8 := Lib.hid (chain HB7.out hb8)
  have HB8w := Lib.hid hb8
  clear hb8 H4
  cases mb
  · skip
    go_wp2_with fail
    refine (HK.out _).mono ?_
    rintro e w2 ⟨rfl, hb2⟩
    have HBK := Lib.hid (chain HB8.out hb2)
    clear hb2
    go_wp2_with fail
    go_ret
    exact ⟨rfl, HBK.out⟩
  have H6 := check_run (n + n2) (joinV n d d2) (m + m2) (joinA m a a2) ld N pJ cJ qJ eJ s cs k1 Z 0 w8 (HVJ.out.later HB8w.out) (HAJ.out.later HB8w.out) (HLB.out.later HB8w.out) (by omega) (by omega) HT.out HMB.out (by rw [HCA.out.2]; exact HNC.out)
  go_wp2_with fail
  refine H6.mono ?_
  rintro e w9 ⟨hres, hb9⟩
  rcases hres with ⟨h, _⟩ | ⟨_, h, _⟩ | ⟨_, _, r6, c6, rfl, hL6⟩
  · exact absurd HCA.out.1 h
  · rw [HCA.out.2] at h; exact absurd H5.out (by omega)
  have HB9 := Lib.hid (chain HB8.out hb9)
  have HL6 := Lib.hid hL6
  have HL7 := Lib.hid ((HL1.out.later HB8w.out).later hb9)
  clear hb9 hL6 H6 HL1
  go_wp2_with fail
  go_loopw [82] (fun i wr => ∃ j : Nat, j ≤ k1 ∧ i = .int .i64 j ∧ Below w9.heap.size w9 wr) (fun i _ => k1 - (intOf i).toNat)
  case atStart => exact ⟨0, by omega, rfl, Below.refl _ _⟩
  case round =>
    obtain ⟨j, hj, rfl, hb⟩ := hrel
    have HBr := Lib.hid hb
    clear hb
    by_cases hlt : j < k1
    · have hj0 : (0 : Int) ≤ (j : Int) := by omega
      have hj1 : (j : Int) < (k1 : Int) := by omega
      obtain ⟨b1, o1, rfl, g1⟩ := (HL7.out.later HBr.out) (by omega)
      obtain ⟨b2, o2, rfl, g2⟩ := (HL6.out.later HBr.out) (by omega)
      have x1 := g1 j hlt
      have x2 := g2 j hlt
      clear g1 g2
      generalize Z j = zj at *
      have u9 : (zj != zj) = false := by simp
      have hbz := HBr.out
      go_wp2_with fail
      go_quiet (fail)
      go_wp2_with fail
      go_roundw
      case rel => exact ⟨j + 1, by omega, by go_num, hbz.trans (below_drewN _ _ |>.mono hbz.size)⟩
      case measure => simp [intOf]; omega
    · obtain rfl : j = k1 := by omega
      have HBs := Lib.hid (chain HB9.out HBr.out)
      go_wp2_with fail
      refine (HK.out _).mono ?_
      rintro e w2 ⟨rfl, hb2⟩
      have HBK := Lib.hid (chain HBs.out hb2)
      clear hb2
      go_wp2_with fail
      go_ret
      exact ⟨rfl, HBK.out⟩
end Go.Proofs.Ytgdncnalahdjeaa
