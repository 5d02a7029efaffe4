/-
  DERIVED. GIVEN WITH THE SEED: THE CARDS: each row of YtchhmojnoiephabGreatDoorRows.lean that lists a variable, with what it lists TIED to the program's text (the seventh form; the later family's looks); each row that meets fmt, with fmt's text TOLD by the authors' own Lean function (tested against real Go, not proved from fmt's source: count such statements apart). THE CARD IS WHAT COUNTS. Prove the row's statement (the work); the ties are given (YtchhmojnoiephabGreatDoorTie.lean); close each card by the builder's one call (the guide's Derived/Test/ToyasCard.lean, 'card_holds'). Laid BY PROGRAM, IN A SANDBOX (cutbox-door.mjs). By AI agents, Wed Nov 11 2026. No macro, syntax, notation, axiom, sorry.
-/
import Derived.Test.YtchhmojnoiephabGreatDoorRows
import GoSem.ClaimSeven
namespace Go.Proofs.YtchhmojnoiephabGreatDoor
namespace Rows

/-- THE TIED CARD OF 'hublaw.Hubs'. -/
def hubsCard : Claim7 := { stood := { row := hubsRow, standIns := [], harness := (true, "8d327a2eb9e4fc7a5b45134cbebff2d974a4bd63a1edc022da3e08df59d8e84d"), looks := false }, kinds := [], alts := [], laidByText := true, laidKinds := [.data, .data, .data], laidTests := true, laidLooks := .later }
def HubsCardSaid : Prop := Claim7.holds Tryz.pinned (.plain (OpenSpec.ofChange hubsSpec)) hubsCard

/-- THE TIED CARD OF 'hublaw.Own'. -/
def ownCard : Claim7 := { stood := { row := ownRow, standIns := [], harness := (true, "8d327a2eb9e4fc7a5b45134cbebff2d974a4bd63a1edc022da3e08df59d8e84d"), looks := false }, kinds := [], alts := [], laidByText := true, laidKinds := [.data, .data, .data], laidTests := true, laidLooks := .later }
def OwnCardSaid : Prop := Claim7.holds Tryz.pinned (.plain (OpenSpec.ofChange ownSpec)) ownCard

/-- THE TIED CARD OF 'hublaw.All'. -/
def allCard : Claim7 := { stood := { row := allRow, standIns := [], harness := (true, "8d327a2eb9e4fc7a5b45134cbebff2d974a4bd63a1edc022da3e08df59d8e84d"), looks := false }, kinds := [], alts := [], laidByText := true, laidKinds := [.data, .data, .data], laidTests := true, laidLooks := .later }
def AllCardSaid : Prop := Claim7.holds Tryz.pinned (.plain (OpenSpec.ofChange allSpec)) allCard

/-- THE SECOND FORM's CARD OF 'hublaw.Hubs'. -/
def hubsUptoCard : Claim7 := { stood := { row := hubsUptoRow, standIns := [], harness := (true, "8d327a2eb9e4fc7a5b45134cbebff2d974a4bd63a1edc022da3e08df59d8e84d"), looks := false }, kinds := [], alts := [], laidByText := true, laidKinds := [.data, .data, .data], laidTests := true, laidLooks := .later }
def HubsUptoCardSaid : Prop := Claim7.holds Tryz.pinned (.plain (OpenSpec.upto hubsSpec)) hubsUptoCard

/-- THE SECOND FORM's CARD OF 'hublaw.Own'. -/
def ownUptoCard : Claim7 := { stood := { row := ownUptoRow, standIns := [], harness := (true, "8d327a2eb9e4fc7a5b45134cbebff2d974a4bd63a1edc022da3e08df59d8e84d"), looks := false }, kinds := [], alts := [], laidByText := true, laidKinds := [.data, .data, .data], laidTests := true, laidLooks := .later }
def OwnUptoCardSaid : Prop := Claim7.holds Tryz.pinned (.plain (OpenSpec.upto ownSpec)) ownUptoCard

/-- THE SECOND FORM's CARD OF 'hublaw.All'. -/
def allUptoCard : Claim7 := { stood := { row := allUptoRow, standIns := [], harness := (true, "8d327a2eb9e4fc7a5b45134cbebff2d974a4bd63a1edc022da3e08df59d8e84d"), looks := false }, kinds := [], alts := [], laidByText := true, laidKinds := [.data, .data, .data], laidTests := true, laidLooks := .later }
def AllUptoCardSaid : Prop := Claim7.holds Tryz.pinned (.plain (OpenSpec.upto allSpec)) allUptoCard
end Rows
end Go.Proofs.YtchhmojnoiephabGreatDoor
