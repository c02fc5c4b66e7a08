/-
  DERIVED. GIVEN WITH THE SEED: THE CARDS: each row of YtfoclgijhkibeabDoorRows.lean that lists a variable, with what it lists TIED to the program's text (the seventh form; the later family's looks); each row that meets fmt, with fmt's text TOLD by the authors' own Lean function (tested against real Go, not proved from fmt's source: count such statements apart). THE CARD IS WHAT COUNTS. Prove the row's statement (the work); the ties are given (YtfoclgijhkibeabDoorTie.lean); close each card by the builder's one call (the guide's Derived/Test/ToyasCard.lean, 'card_holds'). Laid BY PROGRAM, IN A SANDBOX (cutbox-door.mjs). By AI agents, Wed Nov 11 2026. No macro, syntax, notation, axiom, sorry.
-/
import Derived.Test.YtfoclgijhkibeabDoorRows
import GoSem.ClaimSeven
namespace Go.Proofs.YtfoclgijhkibeabDoor
namespace Rows

/-- THE TIED CARD OF 'laws.FnSecrets'. -/
def fnSecretsCard : Claim7 := { stood := { row := fnSecretsRow, standIns := [], harness := (true, "81c8b1b82bcce581f47ed84f844f4cfed652608b86172dd235caefff6adb6352"), looks := false }, kinds := [], alts := [], laidByText := true, laidKinds := [.data, .data, .data, .data, .data], laidTests := true, laidLooks := .later }
def FnSecretsCardSaid : Prop := Claim7.holds Tryd.pinned (.plain (OpenSpec.ofChange fnSecretsSpec)) fnSecretsCard

/-- THE TIED CARD OF 'laws.FnExactOfArmor'. -/
def fnExactOfArmorCard : Claim7 := { stood := { row := fnExactOfArmorRow, standIns := [], harness := (true, "81c8b1b82bcce581f47ed84f844f4cfed652608b86172dd235caefff6adb6352"), looks := false }, kinds := [], alts := [], laidByText := true, laidKinds := [.data, .pinned], laidTests := true, laidLooks := .later }
def FnExactOfArmorCardSaid : Prop := Claim7.holds Tryd.pinned (.plain (OpenSpec.ofChange fnExactOfArmorSpec)) fnExactOfArmorCard

/-- THE TIED CARD OF 'laws.FnArmor'. -/
def fnArmorCard : Claim7 := { stood := { row := fnArmorRow, standIns := [], harness := (true, "81c8b1b82bcce581f47ed84f844f4cfed652608b86172dd235caefff6adb6352"), looks := false }, kinds := [], alts := [], laidByText := true, laidKinds := [.data, .pinned], laidTests := true, laidLooks := .later }
def FnArmorCardSaid : Prop := Claim7.holds Tryd.pinned (.plain (OpenSpec.ofChange fnArmorSpec)) fnArmorCard

/-- THE TIED CARD OF 'laws.FnDigests'. -/
def fnDigestsCard : Claim7 := { stood := { row := fnDigestsRow, standIns := [], harness := (true, "81c8b1b82bcce581f47ed84f844f4cfed652608b86172dd235caefff6adb6352"), looks := false }, kinds := [], alts := [], laidByText := true, laidKinds := [.data, .data], laidTests := true, laidLooks := .later }
def FnDigestsCardSaid : Prop := Claim7.holds Tryd.pinned (.plain (OpenSpec.ofChange fnDigestsSpec)) fnDigestsCard

/-- THE SECOND FORM's CARD OF 'laws.FnSecrets'. -/
def fnSecretsUptoCard : Claim7 := { stood := { row := fnSecretsUptoRow, standIns := [], harness := (true, "81c8b1b82bcce581f47ed84f844f4cfed652608b86172dd235caefff6adb6352"), looks := false }, kinds := [], alts := [], laidByText := true, laidKinds := [.data, .data, .data, .data, .data], laidTests := true, laidLooks := .later }
def FnSecretsUptoCardSaid : Prop := Claim7.holds Tryd.pinned (.plain (OpenSpec.upto fnSecretsSpec)) fnSecretsUptoCard

/-- THE SECOND FORM's CARD OF 'laws.FnExactOfArmor'. -/
def fnExactOfArmorUptoCard : Claim7 := { stood := { row := fnExactOfArmorUptoRow, standIns := [], harness := (true, "81c8b1b82bcce581f47ed84f844f4cfed652608b86172dd235caefff6adb6352"), looks := false }, kinds := [], alts := [], laidByText := true, laidKinds := [.data, .pinned], laidTests := true, laidLooks := .later }
def FnExactOfArmorUptoCardSaid : Prop := Claim7.holds Tryd.pinned (.plain (OpenSpec.upto fnExactOfArmorSpec)) fnExactOfArmorUptoCard

/-- THE SECOND FORM's CARD OF 'laws.FnArmor'. -/
def fnArmorUptoCard : Claim7 := { stood := { row := fnArmorUptoRow, standIns := [], harness := (true, "81c8b1b82bcce581f47ed84f844f4cfed652608b86172dd235caefff6adb6352"), looks := false }, kinds := [], alts := [], laidByText := true, laidKinds := [.data, .pinned], laidTests := true, laidLooks := .later }
def FnArmorUptoCardSaid : Prop := Claim7.holds Tryd.pinned (.plain (OpenSpec.upto fnArmorSpec)) fnArmorUptoCard

/-- THE SECOND FORM's CARD OF 'laws.FnDigests'. -/
def fnDigestsUptoCard : Claim7 := { stood := { row := fnDigestsUptoRow, standIns := [], harness := (true, "81c8b1b82bcce581f47ed84f844f4cfed652608b86172dd235caefff6adb6352"), looks := false }, kinds := [], alts := [], laidByText := true, laidKinds := [.data, .data], laidTests := true, laidLooks := .later }
def FnDigestsUptoCardSaid : Prop := Claim7.holds Tryd.pinned (.plain (OpenSpec.upto fnDigestsSpec)) fnDigestsUptoCard
end Rows
end Go.Proofs.YtfoclgijhkibeabDoor
