/-
  DERIVED. GIVEN WITH THE SEED: THE CARDS: each row of YtdpiinecjjeklaaDoorRows.lean that lists a variable, with what it lists TIED to the program's text (the seventh form; the later family's looks); each row that meets fmt, with fmt's text TOLD by the authors' own Lean function (tested against real Go, not proved from fmt's source: count such statements apart). THE CARD IS WHAT COUNTS. Prove the row's statement (the work); the ties are given (YtdpiinecjjeklaaDoorTie.lean); close each card by the builder's one call (the guide's Derived/Test/ToyasCard.lean, 'card_holds'). Laid BY PROGRAM, IN A SANDBOX (cutbox-door.mjs). By AI agents, Wed Nov 11 2026. No macro, syntax, notation, axiom, sorry.
-/
import Derived.Test.YtdpiinecjjeklaaDoorRows
import GoSem.ClaimSeven
namespace Go.Proofs.YtdpiinecjjeklaaDoor
namespace Rows

/-- THE TIED CARD OF 'laws.FnExactNewState'. -/
def fnExactNewStateCard : Claim7 := { stood := { row := fnExactNewStateRow, standIns := [], harness := (true, "e9c9ebb78f5f5f3d5ddcce58fc0c2a672ad5c662cc59cfbc782d98117b8aca95"), looks := false }, kinds := [], alts := [], laidByText := true, laidKinds := [.data], laidTests := true, laidLooks := .later }
def FnExactNewStateCardSaid : Prop := Claim7.holds Tryd.pinned (.plain (OpenSpec.ofChange fnExactNewStateSpec)) fnExactNewStateCard

/-- THE SECOND FORM's CARD OF 'laws.FnExactNewState'. -/
def fnExactNewStateUptoCard : Claim7 := { stood := { row := fnExactNewStateUptoRow, standIns := [], harness := (true, "e9c9ebb78f5f5f3d5ddcce58fc0c2a672ad5c662cc59cfbc782d98117b8aca95"), looks := false }, kinds := [], alts := [], laidByText := true, laidKinds := [.data], laidTests := true, laidLooks := .later }
def FnExactNewStateUptoCardSaid : Prop := Claim7.holds Tryd.pinned (.plain (OpenSpec.upto fnExactNewStateSpec)) fnExactNewStateUptoCard
end Rows
end Go.Proofs.YtdpiinecjjeklaaDoor
