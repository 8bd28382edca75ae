/-
  DERIVED. GIVEN WITH THE SEED: THE CARDS: each row of YtbhmjppnhlmefaaDoorRows.lean that lists a variable, with what it lists TIED to the program's text (the seventh form; the later family's looks); each row that meets fmt, with fmt's text TOLD by the authors' own Lean function (tested against real Go, not proved from fmt's source: count such statements apart). THE CARD IS WHAT COUNTS. Prove the row's statement (the work); the ties are given (YtbhmjppnhlmefaaDoorTie.lean); close each card by the builder's one call (the guide's Derived/Test/ToyasCard.lean, 'card_holds'). Laid BY PROGRAM, IN A SANDBOX (cutbox-door.mjs). By AI agents, Wed Nov 11 2026. No macro, syntax, notation, axiom, sorry.
-/
import Derived.Test.YtbhmjppnhlmefaaDoorRows
import GoSem.ClaimSeven
namespace Go.Proofs.YtbhmjppnhlmefaaDoor
namespace Rows

/-- THE TIED CARD OF 'lightwelllaw07.InflateBack'. -/
def inflateBackCard : Claim7 := { stood := { row := inflateBackRow, standIns := [], harness := (true, "936d18f88f5b29fe13921e0404e4dd21f5d22f8a8980b27fcfc1f61622d1c6c5"), looks := true }, kinds := [], alts := [], laidByText := true, laidKinds := [.data], laidTests := true, laidLooks := .later }
def InflateBackCardSaid : Prop := Claim7.holds Tryd.pinned (.plain (OpenSpec.ofChange inflateBackSpec)) inflateBackCard

/-- THE TIED CARD OF 'lightwelllaw07.InflateCut'. -/
def inflateCutCard : Claim7 := { stood := { row := inflateCutRow, standIns := [], harness := (true, "936d18f88f5b29fe13921e0404e4dd21f5d22f8a8980b27fcfc1f61622d1c6c5"), looks := true }, kinds := [], alts := [], laidByText := true, laidKinds := [.data], laidTests := true, laidLooks := .later }
def InflateCutCardSaid : Prop := Claim7.holds Tryd.pinned (.plain (OpenSpec.ofChange inflateCutSpec)) inflateCutCard

/-- THE TIED CARD OF 'lightwelllaw07.InflateStored'. -/
def inflateStoredCard : Claim7 := { stood := { row := inflateStoredRow, standIns := [], harness := (true, "936d18f88f5b29fe13921e0404e4dd21f5d22f8a8980b27fcfc1f61622d1c6c5"), looks := true }, kinds := [], alts := [], laidByText := true, laidKinds := [.data], laidTests := true, laidLooks := .later }
def InflateStoredCardSaid : Prop := Claim7.holds Tryd.pinned (.plain (OpenSpec.ofChange inflateStoredSpec)) inflateStoredCard

/-- THE TIED CARD OF 'lightwelllaw07.InflateLetters'. -/
def inflateLettersCard : Claim7 := { stood := { row := inflateLettersRow, standIns := [], harness := (true, "936d18f88f5b29fe13921e0404e4dd21f5d22f8a8980b27fcfc1f61622d1c6c5"), looks := true }, kinds := [], alts := [], laidByText := true, laidKinds := [.data], laidTests := true, laidLooks := .later }
def InflateLettersCardSaid : Prop := Claim7.holds Tryd.pinned (.plain (OpenSpec.ofChange inflateLettersSpec)) inflateLettersCard

/-- THE SECOND FORM's CARD OF 'lightwelllaw07.InflateBack'. -/
def inflateBackUptoCard : Claim7 := { stood := { row := inflateBackUptoRow, standIns := [], harness := (true, "936d18f88f5b29fe13921e0404e4dd21f5d22f8a8980b27fcfc1f61622d1c6c5"), looks := true }, kinds := [], alts := [], laidByText := true, laidKinds := [.data], laidTests := true, laidLooks := .later }
def InflateBackUptoCardSaid : Prop := Claim7.holds Tryd.pinned (.plain (OpenSpec.upto inflateBackSpec)) inflateBackUptoCard

/-- THE SECOND FORM's CARD OF 'lightwelllaw07.InflateCut'. -/
def inflateCutUptoCard : Claim7 := { stood := { row := inflateCutUptoRow, standIns := [], harness := (true, "936d18f88f5b29fe13921e0404e4dd21f5d22f8a8980b27fcfc1f61622d1c6c5"), looks := true }, kinds := [], alts := [], laidByText := true, laidKinds := [.data], laidTests := true, laidLooks := .later }
def InflateCutUptoCardSaid : Prop := Claim7.holds Tryd.pinned (.plain (OpenSpec.upto inflateCutSpec)) inflateCutUptoCard

/-- THE SECOND FORM's CARD OF 'lightwelllaw07.InflateStored'. -/
def inflateStoredUptoCard : Claim7 := { stood := { row := inflateStoredUptoRow, standIns := [], harness := (true, "936d18f88f5b29fe13921e0404e4dd21f5d22f8a8980b27fcfc1f61622d1c6c5"), looks := true }, kinds := [], alts := [], laidByText := true, laidKinds := [.data], laidTests := true, laidLooks := .later }
def InflateStoredUptoCardSaid : Prop := Claim7.holds Tryd.pinned (.plain (OpenSpec.upto inflateStoredSpec)) inflateStoredUptoCard

/-- THE SECOND FORM's CARD OF 'lightwelllaw07.InflateLetters'. -/
def inflateLettersUptoCard : Claim7 := { stood := { row := inflateLettersUptoRow, standIns := [], harness := (true, "936d18f88f5b29fe13921e0404e4dd21f5d22f8a8980b27fcfc1f61622d1c6c5"), looks := true }, kinds := [], alts := [], laidByText := true, laidKinds := [.data], laidTests := true, laidLooks := .later }
def InflateLettersUptoCardSaid : Prop := Claim7.holds Tryd.pinned (.plain (OpenSpec.upto inflateLettersSpec)) inflateLettersUptoCard
end Rows
end Go.Proofs.YtbhmjppnhlmefaaDoor
