/- WHAT IS PROVED HERE: the six operations of saplingkeep's proved are answered as the document has it over the program at this commit, and the program is good (Good): scripts are played over it; so Honest answers true. Conditions: the table of powers of ten is laid; the script has at most 1048576 turns. -/
import Derived.Test.YtajobgmnmbnhiaaDoorPt49
import Derived.Test.YtajobgmnmbnhiaaDoorPt48
namespace Go.Proofs.YtajobgmnmbnhiaaDoor.Sap
open Go.RowKit
theorem honest_any (sv : Value) (ts : List Tn) (w : World) (htab : Tab w) (hT : TRd w sv ts) (hok : ∀ t ∈ ts, t.ok) (hlen : ts.length ≤ 1048576) :
    Calls Tryd.prog 8 #[sv] w fun e w' => e = .returned (.bool true) ∧ Below w.heap.size w w' := by
  obtain ⟨rk, G⟩ := good_ex
  exact honest_gen sv ts (InvG false) rk w htab hT hok hlen G
end Go.Proofs.YtajobgmnmbnhiaaDoor.Sap
