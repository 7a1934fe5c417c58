/- WHAT IS PROVED HERE: Full over the program at this commit: no more pages are in use than one and three for each Put, and nobody is refused but a Put whose own Fresh was. Conditions: the table of powers of ten is laid; the script has at most 1048576 turns. -/
import Derived.Test.YtajobgmnmbnhiabDoorXJ2Z2
import Derived.Test.YtajobgmnmbnhiabDoorXXRXI
namespace Go.Proofs.YtajobgmnmbnhiabDoor.Sap
open Go.RowKit

theorem full_any (sv : Value) (ts : List Tn) (w : World) (htab : Tab w) (hT : TRd w sv ts) (hok : ∀ t ∈ ts, t.ok) (hlen : ts.length ≤ 1048576) :
    Calls Tryd.prog 3 #[sv] w fun e w' => e = .returned (.bool true) ∧ Below w.heap.size w w' := by
  obtain ⟨rk, G⟩ := good_ex
  refine full_gen sv ts (InvG false) rk w htab hT hok hlen G (fun gw x ⟨⟨t, S, o, h, X⟩, _⟩ => ⟨h.ul, h.puts.1, h.puts.2, fun A a1 a2 => X.2.pages h a1 a2⟩) (fun gw x ⟨⟨t, S, o, h, X⟩, _⟩ d hd => ?_)
  obtain ⟨i, hi⟩ := List.mem_iff_getElem?.1 hd
  exact X.2.er i d hi
end Go.Proofs.YtajobgmnmbnhiabDoor.Sap
