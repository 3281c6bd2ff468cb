/-
  DERIVED. GIVEN WITH THE SEED: THE CARDS: each row of YtjnmoddcodnadaaGreatDoorRows.lean that lists a variable, with what it lists TIED to the program's text (the seventh form; the later family's looks); each row that meets fmt, with fmt's text TOLD by the authors' own Lean function (tested against real Go, not proved from fmt's source: count such statements apart). THE CARD IS WHAT COUNTS. Prove the row's statement (the work); the ties are given (YtjnmoddcodnadaaGreatDoorTie.lean); close each card by the builder's one call (the guide's Derived/Test/ToyasCard.lean, 'card_holds'). Laid BY PROGRAM, IN A SANDBOX (cutbox-door.mjs). By AI agents, Wed Nov 11 2026. No macro, syntax, notation, axiom, sorry.
-/
import Derived.Test.YtjnmoddcodnadaaGreatDoorRows
import GoSem.ClaimSeven
namespace Go.Proofs.YtjnmoddcodnadaaGreatDoor
namespace Rows

/-- THE TIED CARD OF 'annallaw.Posts'. -/
def postsCard : Claim7 := { stood := { row := postsRow, standIns := [], harness := (true, "a5257e851ce92df1bb6a8b69eaefc94f828f2f4b2d1b261c8b0c1056aa0cc4de"), looks := true }, kinds := [], alts := [], laidByText := true, laidKinds := [.data, .data, .data, .sentinel, .sentinel], laidTests := true, laidLooks := .later }
def PostsCardSaid : Prop := Claim7.holds Tryz.pinned (.plain (OpenSpec.ofChange postsSpec)) postsCard

/-- THE TIED CARD OF 'annallaw.Changes'. -/
def changesCard : Claim7 := { stood := { row := changesRow, standIns := [], harness := (true, "a5257e851ce92df1bb6a8b69eaefc94f828f2f4b2d1b261c8b0c1056aa0cc4de"), looks := true }, kinds := [], alts := [], laidByText := true, laidKinds := [.data, .data, .data, .sentinel, .sentinel], laidTests := true, laidLooks := .later }
def ChangesCardSaid : Prop := Claim7.holds Tryz.pinned (.plain (OpenSpec.ofChange changesSpec)) changesCard

/-- THE TIED CARD OF 'annalkeep.Rewritten'. -/
def rewrittenCard : Claim7 := { stood := { row := rewrittenRow, standIns := [], harness := (true, "a5257e851ce92df1bb6a8b69eaefc94f828f2f4b2d1b261c8b0c1056aa0cc4de"), looks := true }, kinds := [], alts := [], laidByText := true, laidKinds := [.data, .data, .data, .sentinel, .sentinel], laidTests := true, laidLooks := .later }
def RewrittenCardSaid : Prop := Claim7.holds Tryz.pinned (.plain (OpenSpec.ofChange rewrittenSpec)) rewrittenCard

/-- THE TIED CARD OF 'annalkeep.Refused'. -/
def refusedCard : Claim7 := { stood := { row := refusedRow, standIns := [], harness := (true, "a5257e851ce92df1bb6a8b69eaefc94f828f2f4b2d1b261c8b0c1056aa0cc4de"), looks := true }, kinds := [], alts := [], laidByText := true, laidKinds := [.data, .data, .data, .sentinel, .sentinel], laidTests := true, laidLooks := .later }
def RefusedCardSaid : Prop := Claim7.holds Tryz.pinned (.plain (OpenSpec.ofChange refusedSpec)) refusedCard

/-- THE TIED CARD OF 'annallaw.All'. -/
def allCard : Claim7 := { stood := { row := allRow, standIns := [], harness := (true, "a5257e851ce92df1bb6a8b69eaefc94f828f2f4b2d1b261c8b0c1056aa0cc4de"), looks := true }, kinds := [], alts := [], laidByText := true, laidKinds := [.data, .data, .data, .sentinel, .sentinel], laidTests := true, laidLooks := .later }
def AllCardSaid : Prop := Claim7.holds Tryz.pinned (.plain (OpenSpec.ofChange allSpec)) allCard

/-- THE SECOND FORM's CARD OF 'annallaw.Posts'. -/
def postsUptoCard : Claim7 := { stood := { row := postsUptoRow, standIns := [], harness := (true, "a5257e851ce92df1bb6a8b69eaefc94f828f2f4b2d1b261c8b0c1056aa0cc4de"), looks := true }, kinds := [], alts := [], laidByText := true, laidKinds := [.data, .data, .data, .sentinel, .sentinel], laidTests := true, laidLooks := .later }
def PostsUptoCardSaid : Prop := Claim7.holds Tryz.pinned (.plain (OpenSpec.upto postsSpec)) postsUptoCard

/-- THE SECOND FORM's CARD OF 'annallaw.Changes'. -/
def changesUptoCard : Claim7 := { stood := { row := changesUptoRow, standIns := [], harness := (true, "a5257e851ce92df1bb6a8b69eaefc94f828f2f4b2d1b261c8b0c1056aa0cc4de"), looks := true }, kinds := [], alts := [], laidByText := true, laidKinds := [.data, .data, .data, .sentinel, .sentinel], laidTests := true, laidLooks := .later }
def ChangesUptoCardSaid : Prop := Claim7.holds Tryz.pinned (.plain (OpenSpec.upto changesSpec)) changesUptoCard

/-- THE SECOND FORM's CARD OF 'annalkeep.Rewritten'. -/
def rewrittenUptoCard : Claim7 := { stood := { row := rewrittenUptoRow, standIns := [], harness := (true, "a5257e851ce92df1bb6a8b69eaefc94f828f2f4b2d1b261c8b0c1056aa0cc4de"), looks := true }, kinds := [], alts := [], laidByText := true, laidKinds := [.data, .data, .data, .sentinel, .sentinel], laidTests := true, laidLooks := .later }
def RewrittenUptoCardSaid : Prop := Claim7.holds Tryz.pinned (.plain (OpenSpec.upto rewrittenSpec)) rewrittenUptoCard

/-- THE SECOND FORM's CARD OF 'annalkeep.Refused'. -/
def refusedUptoCard : Claim7 := { stood := { row := refusedUptoRow, standIns := [], harness := (true, "a5257e851ce92df1bb6a8b69eaefc94f828f2f4b2d1b261c8b0c1056aa0cc4de"), looks := true }, kinds := [], alts := [], laidByText := true, laidKinds := [.data, .data, .data, .sentinel, .sentinel], laidTests := true, laidLooks := .later }
def RefusedUptoCardSaid : Prop := Claim7.holds Tryz.pinned (.plain (OpenSpec.upto refusedSpec)) refusedUptoCard

/-- THE SECOND FORM's CARD OF 'annallaw.All'. -/
def allUptoCard : Claim7 := { stood := { row := allUptoRow, standIns := [], harness := (true, "a5257e851ce92df1bb6a8b69eaefc94f828f2f4b2d1b261c8b0c1056aa0cc4de"), looks := true }, kinds := [], alts := [], laidByText := true, laidKinds := [.data, .data, .data, .sentinel, .sentinel], laidTests := true, laidLooks := .later }
def AllUptoCardSaid : Prop := Claim7.holds Tryz.pinned (.plain (OpenSpec.upto allSpec)) allUptoCard
end Rows
end Go.Proofs.YtjnmoddcodnadaaGreatDoor
