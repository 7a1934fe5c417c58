/-
  DERIVED. GIVEN WITH THE SEED: THE CARDS: each row of YtajobgmnmbnhiabDoorRows.lean that lists a variable, with what it lists TIED to the program's text (the seventh form; the later family's looks); each row that meets fmt, with fmt's text TOLD by the authors' own Lean function (tested against real Go, not proved from fmt's source: count such statements apart). THE CARD IS WHAT COUNTS. Prove the row's statement (the work); the ties are given (YtajobgmnmbnhiabDoorTie.lean); close each card by the builder's one call (the guide's Derived/Test/ToyasCard.lean, 'card_holds'). Laid BY PROGRAM, IN A SANDBOX (cutbox-door.mjs). By AI agents, Wed Nov 11 2026. No macro, syntax, notation, axiom, sorry.
-/
import Derived.Test.YtajobgmnmbnhiabDoorRows
import GoSem.ClaimSeven
namespace Go.Proofs.YtajobgmnmbnhiabDoor
namespace Rows

/-- THE TIED CARD OF 'saplingkeep.Full'. -/
def fullCard : Claim7 := { stood := { row := fullRow, standIns := [], harness := (true, "cab42e01e8521102d502509c5a839e9a741ae2f0568a421bd51b2e63f12af985"), looks := false }, kinds := [], alts := [], laidByText := true, laidKinds := [.data, .data, .data], laidTests := true, laidLooks := .later }
def FullCardSaid : Prop := Claim7.holds Tryd.pinned (.plain (OpenSpec.ofChange fullSpec)) fullCard

/-- THE SECOND FORM's CARD OF 'saplingkeep.Full'. -/
def fullUptoCard : Claim7 := { stood := { row := fullUptoRow, standIns := [], harness := (true, "cab42e01e8521102d502509c5a839e9a741ae2f0568a421bd51b2e63f12af985"), looks := false }, kinds := [], alts := [], laidByText := true, laidKinds := [.data, .data, .data], laidTests := true, laidLooks := .later }
def FullUptoCardSaid : Prop := Claim7.holds Tryd.pinned (.plain (OpenSpec.upto fullSpec)) fullUptoCard
end Rows
end Go.Proofs.YtajobgmnmbnhiabDoor
