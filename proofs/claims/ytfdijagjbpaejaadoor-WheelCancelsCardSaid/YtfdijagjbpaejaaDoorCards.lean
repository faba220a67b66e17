/-
  DERIVED. GIVEN WITH THE SEED: THE CARDS: each row of YtfdijagjbpaejaaDoorRows.lean that lists a variable, with what it lists TIED to the program's text (the seventh form; the later family's looks); each row that meets fmt, with fmt's text TOLD by the authors' own Lean function (tested against real Go, not proved from fmt's source: count such statements apart). THE CARD IS WHAT COUNTS. Prove the row's statement (the work); the ties are given (YtfdijagjbpaejaaDoorTie.lean); close each card by the builder's one call (the guide's Derived/Test/ToyasCard.lean, 'card_holds'). Laid BY PROGRAM, IN A SANDBOX (cutbox-door.mjs). By AI agents, Wed Nov 11 2026. No macro, syntax, notation, axiom, sorry.
-/
import Derived.Test.YtfdijagjbpaejaaDoorRows
import GoSem.ClaimSeven
namespace Go.Proofs.YtfdijagjbpaejaaDoor
namespace Rows

/-- THE TIED CARD OF 'mizzenlaw2.WheelPlays'. -/
def wheelPlaysCard : Claim7 := { stood := { row := wheelPlaysRow, standIns := [], harness := (true, "ce86fcedcdc64014d2e7c91b841eb26c422d78267a3e6ffc9f3ccadf34e99134"), looks := false }, kinds := [], alts := [], laidByText := true, laidKinds := [.data], laidTests := true, laidLooks := .later }
def WheelPlaysCardSaid : Prop := Claim7.holds Tryd.pinned (.plain (OpenSpec.ofChange wheelPlaysSpec)) wheelPlaysCard

/-- THE TIED CARD OF 'mizzenlaw2.WheelSteps'. -/
def wheelStepsCard : Claim7 := { stood := { row := wheelStepsRow, standIns := [], harness := (true, "ce86fcedcdc64014d2e7c91b841eb26c422d78267a3e6ffc9f3ccadf34e99134"), looks := false }, kinds := [], alts := [], laidByText := true, laidKinds := [.data], laidTests := true, laidLooks := .later }
def WheelStepsCardSaid : Prop := Claim7.holds Tryd.pinned (.plain (OpenSpec.ofChange wheelStepsSpec)) wheelStepsCard

/-- THE TIED CARD OF 'mizzenlaw2.WheelCancels'. -/
def wheelCancelsCard : Claim7 := { stood := { row := wheelCancelsRow, standIns := [], harness := (true, "ce86fcedcdc64014d2e7c91b841eb26c422d78267a3e6ffc9f3ccadf34e99134"), looks := false }, kinds := [], alts := [], laidByText := true, laidKinds := [.data], laidTests := true, laidLooks := .later }
def WheelCancelsCardSaid : Prop := Claim7.holds Tryd.pinned (.plain (OpenSpec.ofChange wheelCancelsSpec)) wheelCancelsCard

/-- THE TIED CARD OF 'mizzenlaw2.WheelNothing'. -/
def wheelNothingCard : Claim7 := { stood := { row := wheelNothingRow, standIns := [], harness := (true, "ce86fcedcdc64014d2e7c91b841eb26c422d78267a3e6ffc9f3ccadf34e99134"), looks := false }, kinds := [], alts := [], laidByText := true, laidKinds := [.data], laidTests := true, laidLooks := .later }
def WheelNothingCardSaid : Prop := Claim7.holds Tryd.pinned (.plain (OpenSpec.ofChange wheelNothingSpec)) wheelNothingCard

/-- THE TIED CARD OF 'mizzenlaw2.WheelFull'. -/
def wheelFullCard : Claim7 := { stood := { row := wheelFullRow, standIns := [], harness := (true, "ce86fcedcdc64014d2e7c91b841eb26c422d78267a3e6ffc9f3ccadf34e99134"), looks := false }, kinds := [], alts := [], laidByText := true, laidKinds := [.data], laidTests := true, laidLooks := .later }
def WheelFullCardSaid : Prop := Claim7.holds Tryd.pinned (.plain (OpenSpec.ofChange wheelFullSpec)) wheelFullCard

/-- THE SECOND FORM's CARD OF 'mizzenlaw2.WheelPlays'. -/
def wheelPlaysUptoCard : Claim7 := { stood := { row := wheelPlaysUptoRow, standIns := [], harness := (true, "ce86fcedcdc64014d2e7c91b841eb26c422d78267a3e6ffc9f3ccadf34e99134"), looks := false }, kinds := [], alts := [], laidByText := true, laidKinds := [.data], laidTests := true, laidLooks := .later }
def WheelPlaysUptoCardSaid : Prop := Claim7.holds Tryd.pinned (.plain (OpenSpec.upto wheelPlaysSpec)) wheelPlaysUptoCard

/-- THE SECOND FORM's CARD OF 'mizzenlaw2.WheelSteps'. -/
def wheelStepsUptoCard : Claim7 := { stood := { row := wheelStepsUptoRow, standIns := [], harness := (true, "ce86fcedcdc64014d2e7c91b841eb26c422d78267a3e6ffc9f3ccadf34e99134"), looks := false }, kinds := [], alts := [], laidByText := true, laidKinds := [.data], laidTests := true, laidLooks := .later }
def WheelStepsUptoCardSaid : Prop := Claim7.holds Tryd.pinned (.plain (OpenSpec.upto wheelStepsSpec)) wheelStepsUptoCard

/-- THE SECOND FORM's CARD OF 'mizzenlaw2.WheelCancels'. -/
def wheelCancelsUptoCard : Claim7 := { stood := { row := wheelCancelsUptoRow, standIns := [], harness := (true, "ce86fcedcdc64014d2e7c91b841eb26c422d78267a3e6ffc9f3ccadf34e99134"), looks := false }, kinds := [], alts := [], laidByText := true, laidKinds := [.data], laidTests := true, laidLooks := .later }
def WheelCancelsUptoCardSaid : Prop := Claim7.holds Tryd.pinned (.plain (OpenSpec.upto wheelCancelsSpec)) wheelCancelsUptoCard

/-- THE SECOND FORM's CARD OF 'mizzenlaw2.WheelNothing'. -/
def wheelNothingUptoCard : Claim7 := { stood := { row := wheelNothingUptoRow, standIns := [], harness := (true, "ce86fcedcdc64014d2e7c91b841eb26c422d78267a3e6ffc9f3ccadf34e99134"), looks := false }, kinds := [], alts := [], laidByText := true, laidKinds := [.data], laidTests := true, laidLooks := .later }
def WheelNothingUptoCardSaid : Prop := Claim7.holds Tryd.pinned (.plain (OpenSpec.upto wheelNothingSpec)) wheelNothingUptoCard

/-- THE SECOND FORM's CARD OF 'mizzenlaw2.WheelFull'. -/
def wheelFullUptoCard : Claim7 := { stood := { row := wheelFullUptoRow, standIns := [], harness := (true, "ce86fcedcdc64014d2e7c91b841eb26c422d78267a3e6ffc9f3ccadf34e99134"), looks := false }, kinds := [], alts := [], laidByText := true, laidKinds := [.data], laidTests := true, laidLooks := .later }
def WheelFullUptoCardSaid : Prop := Claim7.holds Tryd.pinned (.plain (OpenSpec.upto wheelFullSpec)) wheelFullUptoCard
end Rows
end Go.Proofs.YtfdijagjbpaejaaDoor
