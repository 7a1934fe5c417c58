/- WHAT IS PROVED HERE: two rows of numbers of the call's own, and a node in memory that holds them, behind an append and a store. No program's function is walked. Conditions: none. -/
import Derived.Test.YtajobgmnmbnhiaaDoorPt06
import Derived.Maps.AppendAt
namespace Go.Proofs.YtajobgmnmbnhiaaDoor.Sap
open Go.RowKit
theorem len_ints (xs : List Int) : (ints xs).length = xs.length := by simp [ints]
end Go.Proofs.YtajobgmnmbnhiaaDoor.Sap
