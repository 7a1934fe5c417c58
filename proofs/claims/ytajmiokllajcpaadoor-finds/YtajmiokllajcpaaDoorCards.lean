/-
  DERIVED. GIVEN WITH THE SEED: THE CARDS: each row of YtajmiokllajcpaaDoorRows.lean that lists a variable, with what it lists TIED to the program's text (the seventh form; the later family's looks); each row that meets fmt, with fmt's text TOLD by the authors' own Lean function (tested against real Go, not proved from fmt's source: count such statements apart). THE CARD IS WHAT COUNTS. Prove the row's statement (the work); the ties are given (YtajmiokllajcpaaDoorTie.lean); close each card by the builder's one call (the guide's Derived/Test/ToyasCard.lean, 'card_holds'). Laid BY PROGRAM, IN A SANDBOX (cutbox-door.mjs). By AI agents, Wed Nov 11 2026. No macro, syntax, notation, axiom, sorry.
-/
import Derived.Test.YtajmiokllajcpaaDoorRows
import GoSem.ClaimSeven
namespace Go.Proofs.YtajmiokllajcpaaDoor
namespace Rows

/-- THE TIED CARD OF 'saplinglaw.Packs'. -/
def packsCard : Claim7 := { stood := { row := packsRow, standIns := [], harness := (true, "6952042e0d3967afe23f1fc867de3d2b97fd58fac797820a33c05cbf16c00b00"), looks := false }, kinds := [], alts := [], laidByText := true, laidKinds := [.data, .data, .data], laidTests := true, laidLooks := .later }
def PacksCardSaid : Prop := Claim7.holds Tryd.pinned (.plain (OpenSpec.ofChange packsSpec)) packsCard

/-- THE TIED CARD OF 'saplinglaw.Begins'. -/
def beginsCard : Claim7 := { stood := { row := beginsRow, standIns := [], harness := (true, "6952042e0d3967afe23f1fc867de3d2b97fd58fac797820a33c05cbf16c00b00"), looks := false }, kinds := [], alts := [], laidByText := true, laidKinds := [.data, .data, .data], laidTests := true, laidLooks := .later }
def BeginsCardSaid : Prop := Claim7.holds Tryd.pinned (.plain (OpenSpec.ofChange beginsSpec)) beginsCard

/-- THE TIED CARD OF 'saplingkeep.Round'. -/
def roundCard : Claim7 := { stood := { row := roundRow, standIns := [], harness := (true, "6952042e0d3967afe23f1fc867de3d2b97fd58fac797820a33c05cbf16c00b00"), looks := false }, kinds := [], alts := [], laidByText := true, laidKinds := [.data, .data, .data], laidTests := true, laidLooks := .later }
def RoundCardSaid : Prop := Claim7.holds Tryd.pinned (.plain (OpenSpec.ofChange roundSpec)) roundCard

/-- THE TIED CARD OF 'saplingkeep.Begun'. -/
def begunCard : Claim7 := { stood := { row := begunRow, standIns := [], harness := (true, "6952042e0d3967afe23f1fc867de3d2b97fd58fac797820a33c05cbf16c00b00"), looks := false }, kinds := [], alts := [], laidByText := true, laidKinds := [.data, .data, .data], laidTests := true, laidLooks := .later }
def BegunCardSaid : Prop := Claim7.holds Tryd.pinned (.plain (OpenSpec.ofChange begunSpec)) begunCard

/-- THE TIED CARD OF 'saplingkeep.Finds'. -/
def findsCard : Claim7 := { stood := { row := findsRow, standIns := [], harness := (true, "6952042e0d3967afe23f1fc867de3d2b97fd58fac797820a33c05cbf16c00b00"), looks := false }, kinds := [], alts := [], laidByText := true, laidKinds := [.data, .data, .data], laidTests := true, laidLooks := .later }
def FindsCardSaid : Prop := Claim7.holds Tryd.pinned (.plain (OpenSpec.ofChange findsSpec)) findsCard

/-- THE SECOND FORM's CARD OF 'saplinglaw.Packs'. -/
def packsUptoCard : Claim7 := { stood := { row := packsUptoRow, standIns := [], harness := (true, "6952042e0d3967afe23f1fc867de3d2b97fd58fac797820a33c05cbf16c00b00"), looks := false }, kinds := [], alts := [], laidByText := true, laidKinds := [.data, .data, .data], laidTests := true, laidLooks := .later }
def PacksUptoCardSaid : Prop := Claim7.holds Tryd.pinned (.plain (OpenSpec.upto packsSpec)) packsUptoCard

/-- THE SECOND FORM's CARD OF 'saplinglaw.Begins'. -/
def beginsUptoCard : Claim7 := { stood := { row := beginsUptoRow, standIns := [], harness := (true, "6952042e0d3967afe23f1fc867de3d2b97fd58fac797820a33c05cbf16c00b00"), looks := false }, kinds := [], alts := [], laidByText := true, laidKinds := [.data, .data, .data], laidTests := true, laidLooks := .later }
def BeginsUptoCardSaid : Prop := Claim7.holds Tryd.pinned (.plain (OpenSpec.upto beginsSpec)) beginsUptoCard

/-- THE SECOND FORM's CARD OF 'saplingkeep.Round'. -/
def roundUptoCard : Claim7 := { stood := { row := roundUptoRow, standIns := [], harness := (true, "6952042e0d3967afe23f1fc867de3d2b97fd58fac797820a33c05cbf16c00b00"), looks := false }, kinds := [], alts := [], laidByText := true, laidKinds := [.data, .data, .data], laidTests := true, laidLooks := .later }
def RoundUptoCardSaid : Prop := Claim7.holds Tryd.pinned (.plain (OpenSpec.upto roundSpec)) roundUptoCard

/-- THE SECOND FORM's CARD OF 'saplingkeep.Begun'. -/
def begunUptoCard : Claim7 := { stood := { row := begunUptoRow, standIns := [], harness := (true, "6952042e0d3967afe23f1fc867de3d2b97fd58fac797820a33c05cbf16c00b00"), looks := false }, kinds := [], alts := [], laidByText := true, laidKinds := [.data, .data, .data], laidTests := true, laidLooks := .later }
def BegunUptoCardSaid : Prop := Claim7.holds Tryd.pinned (.plain (OpenSpec.upto begunSpec)) begunUptoCard

/-- THE SECOND FORM's CARD OF 'saplingkeep.Finds'. -/
def findsUptoCard : Claim7 := { stood := { row := findsUptoRow, standIns := [], harness := (true, "6952042e0d3967afe23f1fc867de3d2b97fd58fac797820a33c05cbf16c00b00"), looks := false }, kinds := [], alts := [], laidByText := true, laidKinds := [.data, .data, .data], laidTests := true, laidLooks := .later }
def FindsUptoCardSaid : Prop := Claim7.holds Tryd.pinned (.plain (OpenSpec.upto findsSpec)) findsUptoCard
end Rows
end Go.Proofs.YtajmiokllajcpaaDoor
