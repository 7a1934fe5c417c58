/- WHAT IS PROVED HERE: the first page's text is that of an empty leaf (no program). Conditions: none. -/
import Derived.Test.YtajobgmnmbnhiaaDoorParse
namespace Go.Proofs.YtajobgmnmbnhiaaDoor.Sap
open Go.RowKit

def firstB : ByteArray := ⟨#[48, 45, 45, 45, 45, 45, 45]⟩
theorem first_unp : Unp firstB.data.toList ⟨0, -1, 10000, [], []⟩ := ⟨by decide, by decide⟩
end Go.Proofs.YtajobgmnmbnhiaaDoor.Sap
