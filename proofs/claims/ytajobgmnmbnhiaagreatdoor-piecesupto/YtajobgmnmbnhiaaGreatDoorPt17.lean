/- WHAT IS PROVED HERE: plain facts on pages that hold a tree's levels: how a level that is laid behind those below it makes pages that stand; the leaves hold the map's keys in their ranges; with the root laid, the pages stand (no program's function is walked). Conditions: none but those named at each theorem. -/
import Derived.Test.YtajobgmnmbnhiaaGreatDoorPt49
import Derived.Test.YtajobgmnmbnhiaaGreatDoorPt51
namespace Go.Proofs.YtajobgmnmbnhiaaGreatDoor.Sap
open Go.RowKit
def rk3 (rk : Nat → Nat) (p0 : Nat) (p : Nat) : Nat := if p = 0 then p0 - 1 else rk p
theorem pieces_any (sv : Value) (ts : List Tn) (w : World) (htab : Tab w) (hT : TRd w sv ts) (hok : ∀ t ∈ ts, t.ok) (hlen : ts.length ≤ 1048576) :
    Calls Tryz.prog 6 #[sv] w fun e w' => e = .returned (.bool true) ∧ Below w.heap.size w w' := by
  obtain ⟨rk, G⟩ := good_ex
  exact pieces_gen sv ts (InvG false) rk w htab hT hok hlen G fun _ _ ⟨⟨_, _, _, h, _⟩, _⟩ hid _ => h.pcs hid
end Go.Proofs.YtajobgmnmbnhiaaGreatDoor.Sap
