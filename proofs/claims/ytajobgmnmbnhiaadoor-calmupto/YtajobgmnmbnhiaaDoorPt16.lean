/- WHAT IS PROVED HERE: saplingkeep.leaves cuts rising keys into leaves. Conditions: at most 120 keys; the sizes are ints. -/
import Derived.Test.YtajobgmnmbnhiaaDoorPt15
import Derived.Deep.AppendLies
import Derived.Deep.RegionLaw
namespace Go.Proofs.YtajobgmnmbnhiaaDoor.Sap
open Go.RowKit
structure Nv where
  n : Nd
  kv : Value
  vv : Value
theorem M.lies {w0 w w' : World} {B i g cap : Nat} {l : List As} {e : TypeId} {z n m : Nat} {v : Value} {xs ys : List Value} (h : M w0 B w l) (hi : l[i]? = some (.row e z v n xs)) (ho : w'.ownsRow B e z (.slice (some ⟨g, 0, none⟩) m cap) m ys) (hg : w.grownBy w' v.ownBlock)
    (hat : v.ownBlock = some g ∨ g = w.heap.size) : M w0 B w' (l.set i (.row e z (.slice (some ⟨g, 0, none⟩) m cap) m ys)) :=
  h.append hi ho hg (hat.imp (fun e => e.symm) (fun e => by rw [e]; rfl))
def bnd (ns : List Nv) (i : Nat) : Int := if i = 0 then 0 else ((ns[i]?).map fun x => x.n.ks[0]?.getD 0).getD 0
def lkOf (ns : List Nv) (f : Int) (i : Nat) : Int := if i + 1 < ns.length then f + i + 1 else -1
def hiOf (ns : List Nv) (i : Nat) : Int := if i + 1 < ns.length then bnd ns (i + 1) else 10000
def lnk (ns : List Nv) (f : Int) (i : Nat) (x : Nv) : Nv := (x.lk (lkOf ns f i)).hi (hiOf ns i)
theorem M.consNil {w0 w : World} {B : Nat} {l : List As} {e : TypeId} {z : Nat} (h : M w0 B w l) : M w0 B w (.row e z (.slice none 0 0) 0 [] :: l) :=
  (M.snocNil h).perm (by simpa using List.perm_append_comm (l₁ := [As.row e z (Value.slice none 0 0) 0 []]) (l₂ := l))
end Go.Proofs.YtajobgmnmbnhiaaDoor.Sap
