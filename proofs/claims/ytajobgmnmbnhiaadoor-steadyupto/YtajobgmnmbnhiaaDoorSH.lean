/- WHAT IS PROVED HERE: Steady over the program at this commit: each call of Next and Tell that a script makes, made again behind all others, answers what it did. Conditions: the table of powers of ten is laid; the script has at most 1048576 turns. -/
import Derived.Test.YtajobgmnmbnhiaaDoorXSEJA
import Derived.Test.YtajobgmnmbnhiaaDoorXXHSG
namespace Go.Proofs.YtajobgmnmbnhiaaDoor.Sap
open Go.RowKit

theorem steady_any (sv : Value) (ts : List Tn) (w : World) (htab : Tab w) (hT : TRd w sv ts) (hok : ∀ t ∈ ts, t.ok) (hlen : ts.length ≤ 1048576) :
    Calls Tryd.prog 9 #[sv] w fun e w' => e = .returned (.bool true) ∧ Below w.heap.size w w' := by
  obtain ⟨rk0, G⟩ := good_ex
  obtain ⟨rk, hrk⟩ := mck_ex
  exact steady_gen sv ts (InvG false) rk0 InvK rk w htab hT hok hlen G hrk inv_keeps (fun _ _ h => h.2)
end Go.Proofs.YtajobgmnmbnhiaaDoor.Sap
