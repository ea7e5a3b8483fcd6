/-
  Operations, sixth part: copies, rows that are made, texts, goings through maps, calls.
-/
import Derived.Test.YtjhaccpljgdlpaaGreatAb8
import Derived.Lib.UnsafeStr
import Derived.Laws.BytesString
namespace Go.Proofs.YtjhaccpljgdlpaaGreat.Ab
open Go
section
variable {P : Program} {ρ : Rn} {A : AW} {w : World}

def vOf (s : Sem Value) : Sem Next := do pure (.value (← s))
def uOf (s : Sem Unit) : Sem Next := do s; pure .skip
theorem gives_v {s : Sem Value} {x : Value} {w w' : World} (h : s.run P w = .ok x w') : Gives ((vOf s).run P w) x w' := by
  left; unfold vOf; rw [Sem.run_bind, h]; rfl
theorem gives_u {s : Sem Unit} {w w' : World} (h : s.run P w = .ok () w') : Gives ((uOf s).run P w) undef w' := by
  right; unfold uOf; rw [Sem.run_bind, h]; exact ⟨rfl, rfl⟩

theorem slLen_spec {x : AV} {n : Nat} {v : Value} (h : slLen x = some n) (hv : VR ρ x v) (w : World) : (Builtin.lenOf v).run P w = .ok n w := by
  unfold slLen at h
  split at h <;> cases h <;> cases hv <;> rfl

theorem rowOf_sound (hs : Sim P ρ A.live w) {s : Nat} {x : AV} {n : Nat} {r : List AV} {v : Value} (h : rowOf P A s x n = some r) (hv : VR ρ x v) : ∃ vs, VRs ρ r vs ∧ (Builtin.firstCells s n v).run P w = .ok vs.toArray w := by
  unfold rowOf at h
  split at h
  · cases h; cases hv; exact ⟨[], .nil, by simp [Builtin.firstCells]⟩
  · cases hv with
    | sl _ _ _ _ hl =>
    split at h
    · rename_i l t hc
      obtain ⟨vs, h1, h2, h3⟩ := hs.row (cellsOf_live hc) hl h
      exact ⟨vs, h1, run_firstCells_some w s n _ _ _ vs h2 h3⟩
    · cases h
  · rename_i st
    cases h; cases hv
    refine ⟨(st.extract 0 n).data.toList.map fun b => Value.int .u8 b.toNat, bytes_flats _, ?_⟩
    simp [Builtin.firstCells]
    apply Array.ext'
    simp
  · cases h

theorem copy_sound (hs : Sim P ρ A.live w) {ats : Array TypeId} {ty : TypeId} {d x : AV} {r : AR} {dv xv : Value} (h : copyA P A ats d x = some r) (hd : VR ρ d dv) (hx : VR ρ x xv) :
    ArOk P ρ A w ((vOf (Builtin.copy_ ats ty #[dv, xv])).run P w) r := by
  unfold copyA at h
  split at h
  · rename_i t tl hats
    have h0 : ats[0]? = some t := by
      have : ats.toList[0]? = some t := by rw [hats]; rfl
      simpa using this
    split at h
    · rename_i e ht
      split at h
      · rename_i size n b o m _ _ hsz hlen
        cases hd with
        | sl _ _ _ _ hl =>
        rename_i l
        split at h
        · rename_i row xs e' hrow hc
          split at h
          · rename_i hone
            split at h
            · rename_i xs' hput
              cases h
              intro _
              obtain ⟨vs, v1, v2⟩ := rowOf_sound hs hrow hx
              obtain ⟨p1, p2, p3, p4⟩ := hs.putCells (cellsOf_live hc) hl hput v1
              have hst := run_storeCells_cells (P := P) l.blk (l.base + o) vs 0 w (by simpa using p3) (by simpa using p4) (v1.one hone)
              refine ⟨_, _, ρ, gives_v (w' := w.setCells l.blk (l.base + o) vs) (x := goInt (Nat.min n m)) ?_, .flat _, p1, p2⟩
              simp only [Builtin.copy_, h0]
              simp [run_und ht, slLen_spec hlen hx, run_size hsz, v2, hst]
            · cases h
          · cases h
        · cases h
      · cases h
    · cases h
  · cases h

theorem zeros_get : ∀ (n : Nat) (z : List AV) (i : Nat) (a : AV), (zerosA z n)[i]? = some a → i < n * z.length ∧ z[i % z.length]? = some a
  | 0, z, i, a, h => by simp [zerosA] at h
  | n + 1, z, i, a, h => by
    simp only [zerosA] at h
    by_cases c : i < z.length
    · rw [List.getElem?_append_left c] at h
      refine ⟨?_, by rw [Nat.mod_eq_of_lt c]; exact h⟩
      rw [Nat.add_mul]; omega
    · rw [List.getElem?_append_right (by omega)] at h
      obtain ⟨h1, h2⟩ := zeros_get n z _ a h
      refine ⟨by rw [Nat.add_mul]; omega, ?_⟩
      have e : i = (i - z.length) + z.length := by omega
      rw [e, Nat.add_mod_right]
      exact h2
theorem zeros_len : ∀ (n : Nat) (z : List AV), (zerosA z n).length = n * z.length
  | 0, z => by simp [zerosA]
  | n + 1, z => by simp [zerosA, zeros_len n z, Nat.add_mul]; omega

theorem zeros_made {z : List AV} {zs : Array Value} (h : VRs ρ z zs.toList) (_h0 : zs.size ≠ 0) (n : Nat) : VRs ρ (zerosA z n) (madeCells zs (n * zs.size)).toList := by
  have hl : zs.size = z.length := by simpa using h.length
  refine .of_get (by simp [madeCells, zeros_len, hl]) fun i a e => ?_
  obtain ⟨h1, h2⟩ := zeros_get n z i a e
  obtain ⟨v, v1, v2⟩ := h.get h2
  refine ⟨v, ?_, v2⟩
  have hi : i < n * zs.size := by rw [hl]; exact h1
  rw [← hl] at v1
  simp [madeCells, hi]
  simp at v1
  rw [getElem!_def, v1]

theorem makeSlice_sound {t e : TypeId} {i : TypeInfo} {z : Value} {l c : Nat} {kl kc : IntKind} (ht : P.underlying t = some (.slice e)) (hi : P.info? e = some i) (hz : i.zero = some z)
    (hlc : l ≤ c) (hb : i.bytes * c ≤ 1000000000) (hc : c ≤ 1000000000) (hsz : z.cells.size = i.size) (h0 : i.size ≠ 0) :
    ∃ obj w', (Instr.makeSlice t (.int kl (l : Int)) (.int kc (c : Int))).run P w = .ok (.slice (some ⟨w.heap.size, 0, none⟩) l c) w' ∧ Pushed w obj w' ∧
      ∀ ρ', Sub ρ ρ' → OR P ρ' ⟨w.heap.size, 0, 0⟩ (.cells (zerosA (fromV z).cells c) e) obj := by
  have hr := run_make (P := P) w t e i z ht hi hz kl kc (l : Int) (c : Int) (by omega) (by omega) (by rw [← Int.natCast_mul]; omega) (by omega)
  simp only [Int.toNat_natCast] at hr
  refine ⟨_, w.alloc (.cells (madeCells z.cells (c * i.size)) e), hr, ⟨rfl, rfl, rfl, rfl⟩, fun ρ' hs => ?_⟩
  have h1 := zeros_made (ρ := ρ) (VR.fromV (ρ := ρ) z).cells (by omega) c
  have := newCells (P := P) (elem := e) h1 0 [] (by simp) hs (l := ⟨w.heap.size, 0, 0⟩) rfl rfl
  rw [hsz] at this
  simpa using this

theorem buildSlice_sound {t e : TypeId} {i : TypeInfo} {z : Value} {len : Nat} {parts : List (Nat × AV)} {ps : List (Nat × Value)} {l : List AV} (ht : P.underlying t = some (.slice e)) (hi : P.info? e = some i) (hz : i.zero = some z)
    (hsz : z.cells.size = i.size) (h0 : i.size ≠ 0) (hb : len * i.size ≤ 1000000) (h : fillA (fun j => some (j * i.size, i.size)) (zerosA (fromV z).cells len) parts = some l) (hp : PRs ρ parts ps) :
    ∃ obj w', (Instr.buildSlice t len ps.toArray).run P w = .ok (.slice (some ⟨w.heap.size, 0, none⟩) len len) w' ∧ Pushed w obj w' ∧
      ∀ ρ', Sub ρ ρ' → OR P ρ' ⟨w.heap.size, 0, 0⟩ (.cells l e) obj := by
  have h1 := zeros_made (ρ := ρ) (VR.fromV (ρ := ρ) z).cells (by omega) len
  rw [hsz] at h1
  obtain ⟨us, h2, h3⟩ := fill_sound _ (fun j => some (j * i.size, i.size)) (fun _ _ _ e => e) hp h1 h
  have e1 : ((madeCells z.cells (len * i.size)).toList).toArray = madeCells z.cells (len * i.size) := by simp
  rw [e1] at h2
  refine ⟨.cells us.toArray e, w.alloc (.cells us.toArray e), ?_, ⟨rfl, rfl, rfl, rfl⟩, fun ρ' hs => ?_⟩
  · have hb' : ¬ (2 ^ 24 < len * i.size) := by omega
    by_cases hn : len * i.size = 0
    · have : len = 0 := by
        rcases Nat.mul_eq_zero.1 hn with h | h
        · exact h
        · exact absurd h h0
      subst this
      have e2 : ∀ f : Nat → Value, Array.map f (Array.range 0) = #[] := fun f => by simp [Array.range_zero']
      simp only [madeCells, Nat.zero_mul, e2] at h2
      simp [Instr.buildSlice, run_und ht, sizeOf, typeInfo, hi, e2, h2, newRow]
    · have hn' : ¬ (len = 0 ∨ i.size = 0) := by
        intro h; exact hn (by rcases h with h | h <;> simp [h])
      simp only [madeCells] at h2
      simp [Instr.buildSlice, run_und ht, sizeOf, typeInfo, hi, zeroValue, hz, hb', h2, newRow]
      exact fun h => absurd h hn
  · have := newCells (P := P) (elem := e) h3 0 [] (by simp) hs (l := ⟨w.heap.size, 0, 0⟩) rfl rfl
    simpa using this

theorem u8s_spec : ∀ {l : List AV} {ns : List Int} {vs : List Value}, u8sOf? l = some ns → VRs ρ l vs → vs = ns.map (Value.int .u8)
  | [], _, _, h, k => by cases k; simp [u8sOf?] at h; subst h; rfl
  | a :: l, ns, vs, h, k => by
    cases k with
    | cons k1 k2 =>
    unfold u8sOf? at h
    split at h
    · rename_i e; cases e
    · rename_i n l' e
      cases e
      split at h
      · rename_i r hr
        cases h
        cases k1
        rw [u8s_spec hr k2]; rfl
      · cases h
    · cases h

theorem bytes_spec : ∀ {l : List AV} {bs : List UInt8} {vs : List Value}, bytesOf? l = some bs → VRs ρ l vs → vs = bs.map (fun b => Value.int .u8 b.toNat)
  | [], _, _, h, k => by cases k; simp [bytesOf?] at h; subst h; rfl
  | a :: l, bs, vs, h, k => by
    cases k with
    | cons k1 k2 =>
    unfold bytesOf? at h
    split at h
    · rename_i e; cases e
    · rename_i n l' e
      cases e
      split at h
      · rename_i r hr
        split at h
        · rename_i hn
          cases h
          cases k1
          rw [bytes_spec hr k2]
          simp only [List.map_cons]
          rw [hn]
        · cases h
      · cases h
    · cases h

theorem bytesOf_length : ∀ {l : List AV} {bs : List UInt8}, bytesOf? l = some bs → bs.length = l.length
  | [], _, h => by simp [bytesOf?] at h; subst h; rfl
  | a :: l, bs, h => by
    unfold bytesOf? at h
    split at h
    · rename_i e; cases e
    · rename_i n l' e
      cases e
      split at h
      · rename_i r hr
        split at h
        · cases h; simp [bytesOf_length hr]
        · cases h
      · cases h
    · cases h

theorem lies_bytes {e : TypeId} (hc : P.cellsOf e = 1) (count off n : Nat) (hn : off + n ≤ count) : liesAt P P.depth e count off e n = true := by
  have hd : P.depth = (2 * (P.types.size + Made.depth) + 1) + 1 := rfl
  rw [hd]
  simp only [liesAt, Bool.or_eq_true]
  left
  rw [hd]
  simp [rowAt, hc, hn, sameLayout, Nat.mod_one]

theorem run_unsafeString_at (pt it ty e : TypeId) (hp : P.underlying pt = some (.pointer e)) (hc : P.cellsOf e = 1) (g off cells : Nat) (hsh : w.shape? g = some (e, cells)) (l : List UInt8) (h0 : l.length ≠ 0) (hn : off + l.length ≤ cells) (h63 : l.length ≤ 9223372036854775807)
    (hcell : ∀ j x, l[j]? = some x → w.cell? ((⟨g, off, none⟩ : Addr).add j) = some (.int .u8 x.toNat)) :
    (Builtin.unsafeString_ #[pt, it] ty #[.pointer (some ⟨g, off, none⟩), .int .i64 l.length]).run P w = .ok (.string ⟨l.toArray⟩) (w.freeze ⟨g, off, none⟩ l.length) := by
  have hlb := Lib.run_loadBytes (P := P) w l ⟨g, off, none⟩ .empty hcell
  have hlies := lies_bytes (P := P) hc (cells / P.cellsOf e) off l.length (by rw [hc]; simpa using hn)
  have h63' : ¬ (9223372036854775807 : Int) < (l.length : Int) := by omega
  have hdef : Builtin.unsafeString_ #[pt, it] ty #[.pointer (some ⟨g, off, none⟩), .int .i64 l.length] =
      (do
        let n ← asInt (.int .i64 l.length)
        if n < 0 then runtimePanic (.error "unsafe.String: len out of range")
        if n > IntKind.i64.max then unsupported (.unsafePointer "String: a length above the largest int")
        if n = 0 then pure (.string .empty)
        else if ← variablesAt ⟨g, off, none⟩ (← elemOf pt) n.toNat then do
          let s ← loadBytes ⟨g, off, none⟩ .empty n.toNat
          freeze ⟨g, off, none⟩ n.toNat
          pure (.string s)
        else unsupported (.unsafePointer "String: not so many bytes at ptr")) := rfl
  rw [hdef]
  have hmax : IntKind.i64.max = 9223372036854775807 := rfl
  have hneg : ¬ (l.length : Int) < 0 := by omega
  simp [asInt, asIntOf, hmax, h63', hneg, h0, variablesAt, hsh, elemOf, run_underlying hp, hlies, hlb]

theorem freeze_rest (w : World) (a : Addr) (n : Nat) : (∀ b, b ≠ a.block → (w.freeze a n).heap[b]? = w.heap[b]?) ∧ (w.freeze a n).heap.size = w.heap.size ∧ (w.freeze a n).os = w.os ∧ (w.freeze a n).tape = w.tape ∧ (w.freeze a n).output = w.output := by
  unfold World.freeze
  split
  · exact ⟨fun _ _ => rfl, rfl, rfl, rfl, rfl⟩
  · refine ⟨fun b hb => ?_, by simp, rfl, rfl, rfl⟩
    simp [Array.getElem?_modify]
    intro e; exact absurd e.symm hb

theorem unsafeString_sound (hs : Sim P ρ A.live w) {pt it ty u e : TypeId} {b o n : Nat} {xs r : List AV} {bs : List UInt8} {l : Loc} (hp : P.underlying pt = some (.pointer u)) (hc : cellsOf A b = some (xs, e)) (hl : ρ b = some l)
    (hcut : cut xs o n = some r) (hb : bytesOf? r = some bs) (hu : u = e) (hsz : sizeA P e = some 1) (h0 : n ≠ 0) (hn : n ≤ 1000000) :
    ∃ w', (Builtin.unsafeString_ #[pt, it] ty #[.pointer (some ⟨l.blk, l.base + o, none⟩), .int .i64 (n : Int)]).run P w = .ok (.string ⟨bs.toArray⟩) w' ∧ Sim P ρ (A.set b .dead).live w' ∧ Ext ρ w A ρ w' (A.set b .dead) := by
  subst hu
  obtain ⟨C, fz, b1, b2, b3, b4⟩ := hs.block (cellsOf_live hc) hl
  obtain ⟨vs, v1, v2, v3⟩ := hs.row (cellsOf_live hc) hl hcut
  have hvs := bytes_spec hb v1
  have hlen := bytesOf_length hb
  obtain ⟨q1, q2, q3⟩ := cut_spec hcut
  have hcell := size_of_sizeA hsz
  have hbl : bs.length = n := by omega
  rw [if_neg h0] at q2
  have hr := run_unsafeString_at (P := P) (w := w) pt it ty u hp hcell l.blk (l.base + o) C.size (by simp [World.shape?, b1]) bs (by omega) (by omega) (by omega)
    (fun j x ej => v3 j _ (by rw [hvs]; simp [ej]))
  rw [hbl] at hr
  obtain ⟨f1, f2, f3, f4, f5⟩ := freeze_rest w ⟨l.blk, l.base + o, none⟩ n
  exact ⟨_, hr, hs.kill (cellsOf_live hc) hl f1, Ext.setAt (cellsOf_live hc) hl f1 f2 f3 f4 f5⟩

theorem clear_sound (hs : Sim P ρ A.live w) {ats : Array TypeId} {ty t : TypeId} {x : AV} {r : AR} {v : Value} (ht : ats[0]? = some t) (h : clearA P A t x = some r) (hv : VR ρ x v) :
    ArOk P ρ A w ((vOf (Builtin.clear_ ats ty #[v])).run P w) r := by
  unfold clearA at h
  split at h
  · rename_i e hu
    cases h; cases hv
    exact ⟨_, gives_v (x := .tuple #[]) (by simp [Builtin.clear_, ht, run_und hu]), .flat _⟩
  · rename_i e n o len cap opn hu
    split at h
    · rename_i i l e' hi hc
      split at h
      · rename_i z hz
        cases hv with
        | sl _ _ _ _ hl =>
        rename_i lo
        split at h
        · rename_i hcc
          simp only [Bool.and_eq_true, decide_eq_true_eq] at hcc
          obtain ⟨⟨⟨c1, c2⟩, c3⟩, c4⟩ := hcc
          have c2' : i.size ≠ 0 := by simpa using c2
          have c3' : len ≠ 0 := by simpa using c3
          split at h
          · rename_i l' hput
            cases h
            intro _
            have hzc : VRs ρ (fromV z).cells z.cells.toList := (VR.fromV (ρ := ρ) z).cells
            have hzeros : VRs ρ (zerosA (fromV z).cells len) (Builtin.zeroCells z.cells len).toList := by
              have := zeros_made hzc (by omega) len
              refine VRs.of_get ?_ fun j a hj => ?_
              · have h1 := this.length
                rw [zeroCells_len, zeros_len, ← hzc.length]; simp
              · obtain ⟨h1, h2⟩ := zeros_get len _ j a hj
                have hl' := hzc.length
                obtain ⟨u, u1, u2⟩ := hzc.get h2
                refine ⟨u, ?_, u2⟩
                have hsz : (fromV z).cells.length = z.cells.size := by rw [← hl']; simp
                rw [hsz] at h1 u1
                have hlt : j % z.cells.size < z.cells.size := Nat.mod_lt _ (by omega)
                simp [Builtin.zeroCells, h1]
                have : z.cells.toList[j % z.cells.size]? = some (z.cells[j % z.cells.size]'hlt) := by simp [hlt]
                rw [this] at u1
                simp at u1
                simp [hlt, u1]
            obtain ⟨p1, p2, p3, p4⟩ := hs.putCells (cellsOf_live hc) hl hput hzeros
            refine ⟨.tuple #[], w.setCells lo.blk (lo.base + o) (Builtin.zeroCells z.cells len).toList, ρ, gives_v ?_, .flat _, p1, p2⟩
            have hone : ∀ v ∈ (Builtin.zeroCells z.cells len).toList, v.oneCell' = true := by
              refine hzeros.one ?_
              rw [List.all_eq_true]
              intro a ha
              obtain ⟨j, hj⟩ := List.mem_iff_getElem?.1 ha
              obtain ⟨_, h2⟩ := zeros_get len _ j a hj
              exact List.all_eq_true.1 c4 a (List.mem_of_getElem? h2)
            have hst := run_storeCells_cells (P := P) lo.blk (lo.base + o) (Builtin.zeroCells z.cells len).toList 0 w (by simpa using p3) (by simpa using p4) hone
            simp at hst
            simp [Builtin.clear_, ht, run_und hu, zeroValue, run_info hi, hz, hst, c3']
          · cases h
        · split at h
          · rename_i h0
            cases h
            subst h0
            exact ⟨_, gives_v (x := .tuple #[]) (by simp [Builtin.clear_, ht, run_und hu]), .flat _⟩
          · cases h
      · cases h
    · cases h
  · rename_i k e n hu
    split at h
    · rename_i es clock hg
      cases h
      intro _
      cases hv with
      | mp hl =>
      obtain ⟨cs, h1, he⟩ := hs.mapAt hg hl
      obtain ⟨w', s1, s2, s3, s4, s5, s6, s7⟩ := setObj_world (P := P) (es' := #[]) (c' := clock) h1
      refine ⟨.tuple #[], w', ρ, gives_v ?_, .flat _, hs.setAt (live_of_get hg (by simp)) hl s2 ⟨[], rfl, .nil⟩ s3, Ext.setAt (live_of_get hg (by simp)) hl s3 s4 s5 s6 s7⟩
      simp [Builtin.clear_, ht, run_und hu, run_getMap h1, s1]
    · cases h
  · cases h
end
end Go.Proofs.YtjhaccpljgdlpaaGreat.Ab
