/- Steps alike: both answers. -/
import Derived.Test.YtookoagcmejkpaaGreatDoorJ4
import Derived.Deep.RegionWith
namespace Go.Proofs.YtookoagcmejkpaaGreatDoor
set_option maxRecDepth 100000
open Go Go.RowKit
set_option maxHeartbeats 1600000 in
theorem same13 (x : Stp) (p : Option Addr) (c : Nat) (q : Option Addr) (d : Nat) (y : Stp) (p2 : Option Addr) (c2 : Nat) (q2 : Option Addr) (d0 : Nat) (W : World) (h1 : IntsIn W p x.lits) (h2 : LksIn W q x.links) (h3 : IntsIn W p2 y.lits) (h4 : LksIn W q2 y.links)
  (n1 : x.lits.length ≤ 9223372036854775807) (n2 : x.links.length ≤ 9223372036854775807) (n3 : y.lits.length ≤ 9223372036854775807) (n4 : y.links.length ≤ 9223372036854775807) :
  Calls Tryz.prog 13 #[stV x p c q d, stV y p2 c2 q2 d0] W fun e w' => e = .returned (.bool (decide (x = y))) ∧ Below W.heap.size W w' := by
 obtain ⟨k, lits, links, a, b⟩ := x
 obtain ⟨k2, lits2, links2, a2, b2⟩ := y
 simp only at h1 h2 h3 h4 n1 n2 n3 n4
 simp only [stV]
 by_cases hk : k = k2
 case neg =>
  have e9 : (k == k2) = false := by simp [hk]
  have e10 : (k != k2) = true := by simp [hk]
  have hne : decide ((⟨k, lits, links, a, b⟩ : Stp) = ⟨k2, lits2, links2, a2, b2⟩) = false := decide_eq_false (fun e => hk (by injection e))
  rw [hne]
  clear h1 h2 h3 h4 hne
  go_enter Tryz.func13, Tryz.ntmps13
  go_wp2_with fail
  exact bodyPost_ret (v := .bool false) (by simp [results, Tryz.results13, go_sem]) rfl ⟨rfl, by repeat (first | exact Below.refl _ _ | refine bdd ?_ | refine Below.alloc ?_ (by simp) _)⟩
 subst hk
 have ek : (k == k) = true := by simp
 by_cases ha : a = a2
 case neg =>
  have e9 : (a == a2) = false := by simp [ha]
  have e10 : (a != a2) = true := by simp [ha]
  have hne : decide ((⟨k, lits, links, a, b⟩ : Stp) = ⟨k, lits2, links2, a2, b2⟩) = false := decide_eq_false (fun e => ha (by injection e))
  rw [hne]
  clear h1 h2 h3 h4 hne
  go_enter Tryz.func13, Tryz.ntmps13
  go_wp2_with fail
  exact bodyPost_ret (v := .bool false) (by simp [results, Tryz.results13, go_sem]) rfl ⟨rfl, by repeat (first | exact Below.refl _ _ | refine bdd ?_ | refine Below.alloc ?_ (by simp) _)⟩
 subst ha
 have ea : (a == a) = true := by simp
 by_cases hb : b = b2
 case neg =>
  have e9 : (b == b2) = false := by simp [hb]
  have e10 : (b != b2) = true := by simp [hb]
  have hne : decide ((⟨k, lits, links, a, b⟩ : Stp) = ⟨k, lits2, links2, a, b2⟩) = false := decide_eq_false (fun e => hb (by injection e))
  rw [hne]
  clear h1 h2 h3 h4 hne
  go_enter Tryz.func13, Tryz.ntmps13
  go_wp2_with fail
  exact bodyPost_ret (v := .bool false) (by simp [results, Tryz.results13, go_sem]) rfl ⟨rfl, by repeat (first | exact Below.refl _ _ | refine bdd ?_ | refine Below.alloc ?_ (by simp) _)⟩
 subst hb
 have eb : (b == b) = true := by simp
 have HAL := Lib.hid (show Below W.heap.size W ((W.alloc (.cells #[.int .u8 k, .slice p lits.length c, .slice q links.length d, .int .i64 a, .int .i64 b] 26)).alloc (.cells #[.int .u8 k, .slice p2 lits2.length c2, .slice q2 links2.length d0, .int .i64 a, .int .i64 b] 26)) from by repeat (first | exact Below.refl _ _ | refine bdd ?_ | refine Below.alloc ?_ (by simp) _))
 have hcl := same44 p c lits.length lits p2 c2 lits2.length lits2 ((W.alloc (.cells #[.int .u8 k, .slice p lits.length c, .slice q links.length d, .int .i64 a, .int .i64 b] 26)).alloc (.cells #[.int .u8 k, .slice p2 lits2.length c2, .slice q2 links2.length d0, .int .i64 a, .int .i64 b] 26)) (h1.later HAL.out) (h3.later HAL.out) rfl rfl n1 n3
 have HCK := Lib.hid (fun (w : World) (hb : Below W.heap.size W w) => links45 q d links.length links q2 d0 links2.length links2 w (h2.later hb) (h4.later hb) rfl rfl n2 n4)
 have hd : decide ((⟨k, lits, links, a, b⟩ : Stp) = ⟨k, lits2, links2, a, b⟩) = (decide (lits = lits2) && decide (links = links2)) := by
  by_cases h1 : lits = lits2
  ·subst h1
   by_cases h : links = links2
   ·subst h; simp
   ·rw [decide_eq_false h]; simpa using fun e => h e
  ·rw [decide_eq_false h1]; simpa using fun e => absurd e h1
 rw [hd]
 clear hd h1 h2 h3 h4
 obtain ⟨b1, hb1⟩ : ∃ b1, b1 = decide (lits = lits2) := ⟨_, rfl⟩
 rw [← hb1] at hcl ⊢
 obtain ⟨b2, hb2⟩ : ∃ b2, b2 = decide (links = links2) := ⟨_, rfl⟩
 rw [← hb2] at HCK ⊢
 have HCL := Lib.hid hcl
 clear hb1 hb2 hcl
 cases b1 with
 | false =>
  clear HCK
  go_enter Tryz.func13, Tryz.ntmps13
  go_wp2_with fail
  refine HCL.out.mono ?_
  rintro e w1 ⟨rfl, nd, rfl⟩
  go_wp2_with fail
  exact bodyPost_ret (v := .bool false) (by simp [results, Tryz.results13, go_sem]) rfl ⟨rfl, bdd HAL.out⟩
 | true =>
  go_enter Tryz.func13, Tryz.ntmps13
  go_wp2_with fail
  refine HCL.out.mono ?_
  rintro e w1 ⟨rfl, nd, rfl⟩
  go_wp2_with fail
  refine (HCK.out _ (bdd HAL.out)).mono ?_
  rintro e w2 ⟨rfl, hb⟩
  go_wp2_with fail
  exact bodyPost_ret (v := .bool b2) (by simp [results, Tryz.results13, go_sem]) rfl ⟨by simp, (bdd HAL.out).trans (hb.mono (bdd HAL.out).size)⟩
end Go.Proofs.YtookoagcmejkpaaGreatDoor
