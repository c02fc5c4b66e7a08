/-
  DERIVED. GIVEN WITH THE SEED: THE CARDS: each row of YtehmlkcnhccjmabDoorRows.lean that lists a variable, with what it lists TIED to the program's text (the seventh form; the later family's looks); each row that meets fmt, with fmt's text TOLD by the authors' own Lean function (tested against real Go, not proved from fmt's source: count such statements apart). THE CARD IS WHAT COUNTS. Prove the row's statement (the work); the ties are given (YtehmlkcnhccjmabDoorTie.lean); close each card by the builder's one call (the guide's Derived/Test/ToyasCard.lean, 'card_holds'). Laid BY PROGRAM, IN A SANDBOX (cutbox-door.mjs). By AI agents, Wed Nov 11 2026. No macro, syntax, notation, axiom, sorry.
-/
import Derived.Test.YtehmlkcnhccjmabDoorRows
import GoSem.ClaimSeven
namespace Go.Proofs.YtehmlkcnhccjmabDoor
namespace Rows

/-- THE TIED CARD OF 'laws.FnExactEndState'. -/
def fnExactEndStateCard : Claim7 := { stood := { row := fnExactEndStateRow, standIns := [], harness := (true, "82ad0bb28aae61356e4016d61b1cccc142bcd4e41723b785a1d655566cd2caed"), looks := false }, kinds := [], alts := [], laidByText := true, laidKinds := [.data], laidTests := true, laidLooks := .later }
def FnExactEndStateCardSaid : Prop := Claim7.holds Tryd.pinned (.plain (OpenSpec.ofChange fnExactEndStateSpec)) fnExactEndStateCard

/-- THE TIED CARD OF 'laws.FnExactFeedState'. -/
def fnExactFeedStateCard : Claim7 := { stood := { row := fnExactFeedStateRow, standIns := [], harness := (true, "82ad0bb28aae61356e4016d61b1cccc142bcd4e41723b785a1d655566cd2caed"), looks := false }, kinds := [], alts := [], laidByText := true, laidKinds := [.data], laidTests := true, laidLooks := .later }
def FnExactFeedStateCardSaid : Prop := Claim7.holds Tryd.pinned (.plain (OpenSpec.ofChange fnExactFeedStateSpec)) fnExactFeedStateCard

/-- THE TIED CARD OF 'laws.FnExactDigestOf'. -/
def fnExactDigestOfCard : Claim7 := { stood := { row := fnExactDigestOfRow, standIns := [], harness := (true, "82ad0bb28aae61356e4016d61b1cccc142bcd4e41723b785a1d655566cd2caed"), looks := false }, kinds := [], alts := [], laidByText := true, laidKinds := [.data, .data], laidTests := true, laidLooks := .later }
def FnExactDigestOfCardSaid : Prop := Claim7.holds Tryd.pinned (.plain (OpenSpec.ofChange fnExactDigestOfSpec)) fnExactDigestOfCard

/-- THE TIED CARD OF 'laws.FnDigests'. -/
def fnDigestsCard : Claim7 := { stood := { row := fnDigestsRow, standIns := [], harness := (true, "82ad0bb28aae61356e4016d61b1cccc142bcd4e41723b785a1d655566cd2caed"), looks := false }, kinds := [], alts := [], laidByText := true, laidKinds := [.data, .data], laidTests := true, laidLooks := .later }
def FnDigestsCardSaid : Prop := Claim7.holds Tryd.pinned (.plain (OpenSpec.ofChange fnDigestsSpec)) fnDigestsCard

/-- THE TIED CARD OF 'laws.FnRunes'. -/
def fnRunesCard : Claim7 := { stood := { row := fnRunesRow, standIns := [], harness := (true, "82ad0bb28aae61356e4016d61b1cccc142bcd4e41723b785a1d655566cd2caed"), looks := false }, kinds := [], alts := [], laidByText := true, laidKinds := [.data, .pinned], laidTests := true, laidLooks := .later }
def FnRunesCardSaid : Prop := Claim7.holds Tryd.pinned (.plain (OpenSpec.ofChange fnRunesSpec)) fnRunesCard

/-- THE SECOND FORM's CARD OF 'laws.FnExactEndState'. -/
def fnExactEndStateUptoCard : Claim7 := { stood := { row := fnExactEndStateUptoRow, standIns := [], harness := (true, "82ad0bb28aae61356e4016d61b1cccc142bcd4e41723b785a1d655566cd2caed"), looks := false }, kinds := [], alts := [], laidByText := true, laidKinds := [.data], laidTests := true, laidLooks := .later }
def FnExactEndStateUptoCardSaid : Prop := Claim7.holds Tryd.pinned (.plain (OpenSpec.upto fnExactEndStateSpec)) fnExactEndStateUptoCard

/-- THE SECOND FORM's CARD OF 'laws.FnExactFeedState'. -/
def fnExactFeedStateUptoCard : Claim7 := { stood := { row := fnExactFeedStateUptoRow, standIns := [], harness := (true, "82ad0bb28aae61356e4016d61b1cccc142bcd4e41723b785a1d655566cd2caed"), looks := false }, kinds := [], alts := [], laidByText := true, laidKinds := [.data], laidTests := true, laidLooks := .later }
def FnExactFeedStateUptoCardSaid : Prop := Claim7.holds Tryd.pinned (.plain (OpenSpec.upto fnExactFeedStateSpec)) fnExactFeedStateUptoCard

/-- THE SECOND FORM's CARD OF 'laws.FnExactDigestOf'. -/
def fnExactDigestOfUptoCard : Claim7 := { stood := { row := fnExactDigestOfUptoRow, standIns := [], harness := (true, "82ad0bb28aae61356e4016d61b1cccc142bcd4e41723b785a1d655566cd2caed"), looks := false }, kinds := [], alts := [], laidByText := true, laidKinds := [.data, .data], laidTests := true, laidLooks := .later }
def FnExactDigestOfUptoCardSaid : Prop := Claim7.holds Tryd.pinned (.plain (OpenSpec.upto fnExactDigestOfSpec)) fnExactDigestOfUptoCard

/-- THE SECOND FORM's CARD OF 'laws.FnDigests'. -/
def fnDigestsUptoCard : Claim7 := { stood := { row := fnDigestsUptoRow, standIns := [], harness := (true, "82ad0bb28aae61356e4016d61b1cccc142bcd4e41723b785a1d655566cd2caed"), looks := false }, kinds := [], alts := [], laidByText := true, laidKinds := [.data, .data], laidTests := true, laidLooks := .later }
def FnDigestsUptoCardSaid : Prop := Claim7.holds Tryd.pinned (.plain (OpenSpec.upto fnDigestsSpec)) fnDigestsUptoCard

/-- THE SECOND FORM's CARD OF 'laws.FnRunes'. -/
def fnRunesUptoCard : Claim7 := { stood := { row := fnRunesUptoRow, standIns := [], harness := (true, "82ad0bb28aae61356e4016d61b1cccc142bcd4e41723b785a1d655566cd2caed"), looks := false }, kinds := [], alts := [], laidByText := true, laidKinds := [.data, .pinned], laidTests := true, laidLooks := .later }
def FnRunesUptoCardSaid : Prop := Claim7.holds Tryd.pinned (.plain (OpenSpec.upto fnRunesSpec)) fnRunesUptoCard
end Rows
end Go.Proofs.YtehmlkcnhccjmabDoor
