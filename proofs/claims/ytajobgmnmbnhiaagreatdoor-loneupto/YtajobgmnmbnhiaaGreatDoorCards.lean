/-
  DERIVED. GIVEN WITH THE SEED: THE CARDS: each row of YtajobgmnmbnhiaaGreatDoorRows.lean that lists a variable, with what it lists TIED to the program's text (the seventh form; the later family's looks); each row that meets fmt, with fmt's text TOLD by the authors' own Lean function (tested against real Go, not proved from fmt's source: count such statements apart). THE CARD IS WHAT COUNTS. Prove the row's statement (the work); the ties are given (YtajobgmnmbnhiaaGreatDoorTie.lean); close each card by the builder's one call (the guide's Derived/Test/ToyasCard.lean, 'card_holds'). Laid BY PROGRAM, IN A SANDBOX (cutbox-door.mjs). By AI agents, Wed Nov 11 2026. No macro, syntax, notation, axiom, sorry.
-/
import Derived.Test.YtajobgmnmbnhiaaGreatDoorRows
import GoSem.ClaimSeven
namespace Go.Proofs.YtajobgmnmbnhiaaGreatDoor
namespace Rows

/-- THE TIED CARD OF 'saplingkeep.Finds'. -/
def findsCard : Claim7 := { stood := { row := findsRow, standIns := [], harness := (true, "dec1442b8d6733b5bb4f4094f836946601374ecc776fd4ee4b61d02fef617f16"), looks := false }, kinds := [], alts := [], laidByText := true, laidKinds := [.data, .data, .data], laidTests := true, laidLooks := .later }
def FindsCardSaid : Prop := Claim7.holds Tryz.pinned (.plain (OpenSpec.ofChange findsSpec)) findsCard

/-- THE TIED CARD OF 'saplingkeep.Lone'. -/
def loneCard : Claim7 := { stood := { row := loneRow, standIns := [], harness := (true, "dec1442b8d6733b5bb4f4094f836946601374ecc776fd4ee4b61d02fef617f16"), looks := false }, kinds := [], alts := [], laidByText := true, laidKinds := [.data, .data, .data], laidTests := true, laidLooks := .later }
def LoneCardSaid : Prop := Claim7.holds Tryz.pinned (.plain (OpenSpec.ofChange loneSpec)) loneCard

/-- THE TIED CARD OF 'saplingkeep.Linear'. -/
def linearCard : Claim7 := { stood := { row := linearRow, standIns := [], harness := (true, "dec1442b8d6733b5bb4f4094f836946601374ecc776fd4ee4b61d02fef617f16"), looks := false }, kinds := [], alts := [], laidByText := true, laidKinds := [.data, .data, .data], laidTests := true, laidLooks := .later }
def LinearCardSaid : Prop := Claim7.holds Tryz.pinned (.plain (OpenSpec.ofChange linearSpec)) linearCard

/-- THE TIED CARD OF 'saplingkeep.Pieces'. -/
def piecesCard : Claim7 := { stood := { row := piecesRow, standIns := [], harness := (true, "dec1442b8d6733b5bb4f4094f836946601374ecc776fd4ee4b61d02fef617f16"), looks := false }, kinds := [], alts := [], laidByText := true, laidKinds := [.data, .data, .data], laidTests := true, laidLooks := .later }
def PiecesCardSaid : Prop := Claim7.holds Tryz.pinned (.plain (OpenSpec.ofChange piecesSpec)) piecesCard

/-- THE SECOND FORM's CARD OF 'saplingkeep.Finds'. -/
def findsUptoCard : Claim7 := { stood := { row := findsUptoRow, standIns := [], harness := (true, "dec1442b8d6733b5bb4f4094f836946601374ecc776fd4ee4b61d02fef617f16"), looks := false }, kinds := [], alts := [], laidByText := true, laidKinds := [.data, .data, .data], laidTests := true, laidLooks := .later }
def FindsUptoCardSaid : Prop := Claim7.holds Tryz.pinned (.plain (OpenSpec.upto findsSpec)) findsUptoCard

/-- THE SECOND FORM's CARD OF 'saplingkeep.Lone'. -/
def loneUptoCard : Claim7 := { stood := { row := loneUptoRow, standIns := [], harness := (true, "dec1442b8d6733b5bb4f4094f836946601374ecc776fd4ee4b61d02fef617f16"), looks := false }, kinds := [], alts := [], laidByText := true, laidKinds := [.data, .data, .data], laidTests := true, laidLooks := .later }
def LoneUptoCardSaid : Prop := Claim7.holds Tryz.pinned (.plain (OpenSpec.upto loneSpec)) loneUptoCard

/-- THE SECOND FORM's CARD OF 'saplingkeep.Linear'. -/
def linearUptoCard : Claim7 := { stood := { row := linearUptoRow, standIns := [], harness := (true, "dec1442b8d6733b5bb4f4094f836946601374ecc776fd4ee4b61d02fef617f16"), looks := false }, kinds := [], alts := [], laidByText := true, laidKinds := [.data, .data, .data], laidTests := true, laidLooks := .later }
def LinearUptoCardSaid : Prop := Claim7.holds Tryz.pinned (.plain (OpenSpec.upto linearSpec)) linearUptoCard

/-- THE SECOND FORM's CARD OF 'saplingkeep.Pieces'. -/
def piecesUptoCard : Claim7 := { stood := { row := piecesUptoRow, standIns := [], harness := (true, "dec1442b8d6733b5bb4f4094f836946601374ecc776fd4ee4b61d02fef617f16"), looks := false }, kinds := [], alts := [], laidByText := true, laidKinds := [.data, .data, .data], laidTests := true, laidLooks := .later }
def PiecesUptoCardSaid : Prop := Claim7.holds Tryz.pinned (.plain (OpenSpec.upto piecesSpec)) piecesUptoCard
end Rows
end Go.Proofs.YtajobgmnmbnhiaaGreatDoor
