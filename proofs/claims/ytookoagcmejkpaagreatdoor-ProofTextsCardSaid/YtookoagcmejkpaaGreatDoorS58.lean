/- What the third law says: the walk of ProofTrees. -/
import Derived.Test.YtookoagcmejkpaaGreatDoorJ30
import Derived.Test.YtookoagcmejkpaaGreatDoorS18
import Derived.Test.YtookoagcmejkpaaGreatDoorS13
import Derived.Test.YtookoagcmejkpaaGreatDoorJ16
namespace Go.Proofs.YtookoagcmejkpaaGreatDoor
open Go Go.RowKit Go.Maps
structure StArg (W : World) (x : Stp) (p : Option Addr) (c : Nat) (q : Option Addr) (d : Nat) : Prop where
 h1 : IntsIn W p x.lits
 h2 : LksIn W q x.links
 h3 : LksOK W q x.links
 hp : SlOK p c
 hk : 0 <= x.k /\ x.k <= 255
 hkd : KdL x.links
 n1 : x.lits.length <= 9223372036854775807
 n2 : x.links.length <= 9223372036854775807
theorem StArg.later {W W' : World} {x : Stp} {p : Option Addr} {c : Nat} {q : Option Addr} {d : Nat} (h : StArg W x p c q d) (hb : Below W.heap.size W W') : StArg W' x p c q d :=
 ⟨h.h1.later hb, h.h2.later hb, h.h3.later h.h2 hb, h.hp, h.hk, h.hkd, h.n1, h.n2⟩
end Go.Proofs.YtookoagcmejkpaaGreatDoor
