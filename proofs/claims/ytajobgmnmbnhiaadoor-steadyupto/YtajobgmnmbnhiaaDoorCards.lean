/-
  DERIVED. GIVEN WITH THE SEED: THE CARDS: each row of YtajobgmnmbnhiaaDoorRows.lean that lists a variable, with what it lists TIED to the program's text (the seventh form; the later family's looks); each row that meets fmt, with fmt's text TOLD by the authors' own Lean function (tested against real Go, not proved from fmt's source: count such statements apart). THE CARD IS WHAT COUNTS. Prove the row's statement (the work); the ties are given (YtajobgmnmbnhiaaDoorTie.lean); close each card by the builder's one call (the guide's Derived/Test/ToyasCard.lean, 'card_holds'). Laid BY PROGRAM, IN A SANDBOX (cutbox-door.mjs). By AI agents, Wed Nov 11 2026. No macro, syntax, notation, axiom, sorry.
-/
import Derived.Test.YtajobgmnmbnhiaaDoorRows
import GoSem.ClaimSeven
namespace Go.Proofs.YtajobgmnmbnhiaaDoor
namespace Rows

/-- THE TIED CARD OF 'saplinglaw.Packs'. -/
def packsCard : Claim7 := { stood := { row := packsRow, standIns := [], harness := (true, "ce15eebe1024ca8c8489444f2897dbf927632e88376619811df9198281fcbe0e"), looks := false }, kinds := [], alts := [], laidByText := true, laidKinds := [.data, .data, .data], laidTests := true, laidLooks := .later }
def PacksCardSaid : Prop := Claim7.holds Tryd.pinned (.plain (OpenSpec.ofChange packsSpec)) packsCard

/-- THE TIED CARD OF 'saplinglaw.Begins'. -/
def beginsCard : Claim7 := { stood := { row := beginsRow, standIns := [], harness := (true, "ce15eebe1024ca8c8489444f2897dbf927632e88376619811df9198281fcbe0e"), looks := false }, kinds := [], alts := [], laidByText := true, laidKinds := [.data, .data, .data], laidTests := true, laidLooks := .later }
def BeginsCardSaid : Prop := Claim7.holds Tryd.pinned (.plain (OpenSpec.ofChange beginsSpec)) beginsCard

/-- THE TIED CARD OF 'saplingkeep.Round'. -/
def roundCard : Claim7 := { stood := { row := roundRow, standIns := [], harness := (true, "ce15eebe1024ca8c8489444f2897dbf927632e88376619811df9198281fcbe0e"), looks := false }, kinds := [], alts := [], laidByText := true, laidKinds := [.data, .data, .data], laidTests := true, laidLooks := .later }
def RoundCardSaid : Prop := Claim7.holds Tryd.pinned (.plain (OpenSpec.ofChange roundSpec)) roundCard

/-- THE TIED CARD OF 'saplingkeep.Begun'. -/
def begunCard : Claim7 := { stood := { row := begunRow, standIns := [], harness := (true, "ce15eebe1024ca8c8489444f2897dbf927632e88376619811df9198281fcbe0e"), looks := false }, kinds := [], alts := [], laidByText := true, laidKinds := [.data, .data, .data], laidTests := true, laidLooks := .later }
def BegunCardSaid : Prop := Claim7.holds Tryd.pinned (.plain (OpenSpec.ofChange begunSpec)) begunCard

/-- THE TIED CARD OF 'saplingkeep.Standing'. -/
def standingCard : Claim7 := { stood := { row := standingRow, standIns := [], harness := (true, "ce15eebe1024ca8c8489444f2897dbf927632e88376619811df9198281fcbe0e"), looks := false }, kinds := [], alts := [], laidByText := true, laidKinds := [.data, .data, .data], laidTests := true, laidLooks := .later }
def StandingCardSaid : Prop := Claim7.holds Tryd.pinned (.plain (OpenSpec.ofChange standingSpec)) standingCard

/-- THE TIED CARD OF 'saplingkeep.Honest'. -/
def honestCard : Claim7 := { stood := { row := honestRow, standIns := [], harness := (true, "ce15eebe1024ca8c8489444f2897dbf927632e88376619811df9198281fcbe0e"), looks := false }, kinds := [], alts := [], laidByText := true, laidKinds := [.data, .data, .data], laidTests := true, laidLooks := .later }
def HonestCardSaid : Prop := Claim7.holds Tryd.pinned (.plain (OpenSpec.ofChange honestSpec)) honestCard

/-- THE TIED CARD OF 'saplingkeep.Steady'. -/
def steadyCard : Claim7 := { stood := { row := steadyRow, standIns := [], harness := (true, "ce15eebe1024ca8c8489444f2897dbf927632e88376619811df9198281fcbe0e"), looks := false }, kinds := [], alts := [], laidByText := true, laidKinds := [.data, .data, .data], laidTests := true, laidLooks := .later }
def SteadyCardSaid : Prop := Claim7.holds Tryd.pinned (.plain (OpenSpec.ofChange steadySpec)) steadyCard

/-- THE TIED CARD OF 'saplingkeep.Calm'. -/
def calmCard : Claim7 := { stood := { row := calmRow, standIns := [], harness := (true, "ce15eebe1024ca8c8489444f2897dbf927632e88376619811df9198281fcbe0e"), looks := false }, kinds := [], alts := [], laidByText := true, laidKinds := [.data, .data, .data], laidTests := true, laidLooks := .later }
def CalmCardSaid : Prop := Claim7.holds Tryd.pinned (.plain (OpenSpec.ofChange calmSpec)) calmCard

/-- THE SECOND FORM's CARD OF 'saplinglaw.Packs'. -/
def packsUptoCard : Claim7 := { stood := { row := packsUptoRow, standIns := [], harness := (true, "ce15eebe1024ca8c8489444f2897dbf927632e88376619811df9198281fcbe0e"), looks := false }, kinds := [], alts := [], laidByText := true, laidKinds := [.data, .data, .data], laidTests := true, laidLooks := .later }
def PacksUptoCardSaid : Prop := Claim7.holds Tryd.pinned (.plain (OpenSpec.upto packsSpec)) packsUptoCard

/-- THE SECOND FORM's CARD OF 'saplinglaw.Begins'. -/
def beginsUptoCard : Claim7 := { stood := { row := beginsUptoRow, standIns := [], harness := (true, "ce15eebe1024ca8c8489444f2897dbf927632e88376619811df9198281fcbe0e"), looks := false }, kinds := [], alts := [], laidByText := true, laidKinds := [.data, .data, .data], laidTests := true, laidLooks := .later }
def BeginsUptoCardSaid : Prop := Claim7.holds Tryd.pinned (.plain (OpenSpec.upto beginsSpec)) beginsUptoCard

/-- THE SECOND FORM's CARD OF 'saplingkeep.Round'. -/
def roundUptoCard : Claim7 := { stood := { row := roundUptoRow, standIns := [], harness := (true, "ce15eebe1024ca8c8489444f2897dbf927632e88376619811df9198281fcbe0e"), looks := false }, kinds := [], alts := [], laidByText := true, laidKinds := [.data, .data, .data], laidTests := true, laidLooks := .later }
def RoundUptoCardSaid : Prop := Claim7.holds Tryd.pinned (.plain (OpenSpec.upto roundSpec)) roundUptoCard

/-- THE SECOND FORM's CARD OF 'saplingkeep.Begun'. -/
def begunUptoCard : Claim7 := { stood := { row := begunUptoRow, standIns := [], harness := (true, "ce15eebe1024ca8c8489444f2897dbf927632e88376619811df9198281fcbe0e"), looks := false }, kinds := [], alts := [], laidByText := true, laidKinds := [.data, .data, .data], laidTests := true, laidLooks := .later }
def BegunUptoCardSaid : Prop := Claim7.holds Tryd.pinned (.plain (OpenSpec.upto begunSpec)) begunUptoCard

/-- THE SECOND FORM's CARD OF 'saplingkeep.Standing'. -/
def standingUptoCard : Claim7 := { stood := { row := standingUptoRow, standIns := [], harness := (true, "ce15eebe1024ca8c8489444f2897dbf927632e88376619811df9198281fcbe0e"), looks := false }, kinds := [], alts := [], laidByText := true, laidKinds := [.data, .data, .data], laidTests := true, laidLooks := .later }
def StandingUptoCardSaid : Prop := Claim7.holds Tryd.pinned (.plain (OpenSpec.upto standingSpec)) standingUptoCard

/-- THE SECOND FORM's CARD OF 'saplingkeep.Honest'. -/
def honestUptoCard : Claim7 := { stood := { row := honestUptoRow, standIns := [], harness := (true, "ce15eebe1024ca8c8489444f2897dbf927632e88376619811df9198281fcbe0e"), looks := false }, kinds := [], alts := [], laidByText := true, laidKinds := [.data, .data, .data], laidTests := true, laidLooks := .later }
def HonestUptoCardSaid : Prop := Claim7.holds Tryd.pinned (.plain (OpenSpec.upto honestSpec)) honestUptoCard

/-- THE SECOND FORM's CARD OF 'saplingkeep.Steady'. -/
def steadyUptoCard : Claim7 := { stood := { row := steadyUptoRow, standIns := [], harness := (true, "ce15eebe1024ca8c8489444f2897dbf927632e88376619811df9198281fcbe0e"), looks := false }, kinds := [], alts := [], laidByText := true, laidKinds := [.data, .data, .data], laidTests := true, laidLooks := .later }
def SteadyUptoCardSaid : Prop := Claim7.holds Tryd.pinned (.plain (OpenSpec.upto steadySpec)) steadyUptoCard

/-- THE SECOND FORM's CARD OF 'saplingkeep.Calm'. -/
def calmUptoCard : Claim7 := { stood := { row := calmUptoRow, standIns := [], harness := (true, "ce15eebe1024ca8c8489444f2897dbf927632e88376619811df9198281fcbe0e"), looks := false }, kinds := [], alts := [], laidByText := true, laidKinds := [.data, .data, .data], laidTests := true, laidLooks := .later }
def CalmUptoCardSaid : Prop := Claim7.holds Tryd.pinned (.plain (OpenSpec.upto calmSpec)) calmUptoCard
end Rows
end Go.Proofs.YtajobgmnmbnhiaaDoor
