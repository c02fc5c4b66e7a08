/-
  DERIVED. GIVEN WITH THE SEED: THE CARDS: each row of YtbljmgmpmmajeaaDoorRows.lean that lists a variable, with what it lists TIED to the program's text (the seventh form; the later family's looks); each row that meets fmt, with fmt's text TOLD by the authors' own Lean function (tested against real Go, not proved from fmt's source: count such statements apart). THE CARD IS WHAT COUNTS. Prove the row's statement (the work); the ties are given (YtbljmgmpmmajeaaDoorTie.lean); close each card by the builder's one call (the guide's Derived/Test/ToyasCard.lean, 'card_holds'). Laid BY PROGRAM, IN A SANDBOX (cutbox-door.mjs). By AI agents, Wed Nov 11 2026. No macro, syntax, notation, axiom, sorry.
-/
import Derived.Test.YtbljmgmpmmajeaaDoorRows
import GoSem.ClaimSeven
namespace Go.Proofs.YtbljmgmpmmajeaaDoor
namespace Rows

/-- THE TIED CARD OF 'laws.FnExactNonceFor'. -/
def fnExactNonceForCard : Claim7 := { stood := { row := fnExactNonceForRow, standIns := [], harness := (true, "5e44b2ab00786876c8c4163b85688e282b2cdd2205697f19577119d78ff66fa5"), looks := false }, kinds := [], alts := [], laidByText := true, laidKinds := [.data, .data, .data, .data, .data], laidTests := true, laidLooks := .later }
def FnExactNonceForCardSaid : Prop := Claim7.holds Tryd.pinned (.plain (OpenSpec.ofChange fnExactNonceForSpec)) fnExactNonceForCard

/-- THE TIED CARD OF 'laws.FnExactChallengeOf'. -/
def fnExactChallengeOfCard : Claim7 := { stood := { row := fnExactChallengeOfRow, standIns := [], harness := (true, "5e44b2ab00786876c8c4163b85688e282b2cdd2205697f19577119d78ff66fa5"), looks := false }, kinds := [], alts := [], laidByText := true, laidKinds := [.data, .data, .data, .data, .data], laidTests := true, laidLooks := .later }
def FnExactChallengeOfCardSaid : Prop := Claim7.holds Tryd.pinned (.plain (OpenSpec.ofChange fnExactChallengeOfSpec)) fnExactChallengeOfCard

/-- THE TIED CARD OF 'laws.FnExactSignText'. -/
def fnExactSignTextCard : Claim7 := { stood := { row := fnExactSignTextRow, standIns := [], harness := (true, "5e44b2ab00786876c8c4163b85688e282b2cdd2205697f19577119d78ff66fa5"), looks := false }, kinds := [], alts := [], laidByText := true, laidKinds := [.data, .data, .data, .data, .data], laidTests := true, laidLooks := .later }
def FnExactSignTextCardSaid : Prop := Claim7.holds Tryd.pinned (.plain (OpenSpec.ofChange fnExactSignTextSpec)) fnExactSignTextCard

/-- THE TIED CARD OF 'laws.FnExactSignWith'. -/
def fnExactSignWithCard : Claim7 := { stood := { row := fnExactSignWithRow, standIns := [], harness := (true, "5e44b2ab00786876c8c4163b85688e282b2cdd2205697f19577119d78ff66fa5"), looks := false }, kinds := [], alts := [], laidByText := true, laidKinds := [.data, .data, .data, .data, .data], laidTests := true, laidLooks := .later }
def FnExactSignWithCardSaid : Prop := Claim7.holds Tryd.pinned (.plain (OpenSpec.ofChange fnExactSignWithSpec)) fnExactSignWithCard

/-- THE TIED CARD OF 'laws.FnExactCheckSigned'. -/
def fnExactCheckSignedCard : Claim7 := { stood := { row := fnExactCheckSignedRow, standIns := [], harness := (true, "5e44b2ab00786876c8c4163b85688e282b2cdd2205697f19577119d78ff66fa5"), looks := false }, kinds := [], alts := [], laidByText := true, laidKinds := [.data, .data, .data, .data, .data], laidTests := true, laidLooks := .later }
def FnExactCheckSignedCardSaid : Prop := Claim7.holds Tryd.pinned (.plain (OpenSpec.ofChange fnExactCheckSignedSpec)) fnExactCheckSignedCard

/-- THE TIED CARD OF 'laws.FnExactSecretFrom'. -/
def fnExactSecretFromCard : Claim7 := { stood := { row := fnExactSecretFromRow, standIns := [], harness := (true, "5e44b2ab00786876c8c4163b85688e282b2cdd2205697f19577119d78ff66fa5"), looks := false }, kinds := [], alts := [], laidByText := true, laidKinds := [.data, .data, .data, .data, .data], laidTests := true, laidLooks := .later }
def FnExactSecretFromCardSaid : Prop := Claim7.holds Tryd.pinned (.plain (OpenSpec.ofChange fnExactSecretFromSpec)) fnExactSecretFromCard

/-- THE TIED CARD OF 'laws.FnExactBothHold'. -/
def fnExactBothHoldCard : Claim7 := { stood := { row := fnExactBothHoldRow, standIns := [], harness := (true, "5e44b2ab00786876c8c4163b85688e282b2cdd2205697f19577119d78ff66fa5"), looks := false }, kinds := [], alts := [], laidByText := true, laidKinds := [.data, .data, .data, .data, .data], laidTests := true, laidLooks := .later }
def FnExactBothHoldCardSaid : Prop := Claim7.holds Tryd.pinned (.plain (OpenSpec.ofChange fnExactBothHoldSpec)) fnExactBothHoldCard

/-- THE TIED CARD OF 'laws.FnSigned'. -/
def fnSignedCard : Claim7 := { stood := { row := fnSignedRow, standIns := [], harness := (true, "5e44b2ab00786876c8c4163b85688e282b2cdd2205697f19577119d78ff66fa5"), looks := false }, kinds := [], alts := [], laidByText := true, laidKinds := [.data, .data, .data, .data, .data], laidTests := true, laidLooks := .later }
def FnSignedCardSaid : Prop := Claim7.holds Tryd.pinned (.plain (OpenSpec.ofChange fnSignedSpec)) fnSignedCard

/-- THE TIED CARD OF 'laws.FnSecrets'. -/
def fnSecretsCard : Claim7 := { stood := { row := fnSecretsRow, standIns := [], harness := (true, "5e44b2ab00786876c8c4163b85688e282b2cdd2205697f19577119d78ff66fa5"), looks := false }, kinds := [], alts := [], laidByText := true, laidKinds := [.data, .data, .data, .data, .data], laidTests := true, laidLooks := .later }
def FnSecretsCardSaid : Prop := Claim7.holds Tryd.pinned (.plain (OpenSpec.ofChange fnSecretsSpec)) fnSecretsCard

/-- THE SECOND FORM's CARD OF 'laws.FnExactNonceFor'. -/
def fnExactNonceForUptoCard : Claim7 := { stood := { row := fnExactNonceForUptoRow, standIns := [], harness := (true, "5e44b2ab00786876c8c4163b85688e282b2cdd2205697f19577119d78ff66fa5"), looks := false }, kinds := [], alts := [], laidByText := true, laidKinds := [.data, .data, .data, .data, .data], laidTests := true, laidLooks := .later }
def FnExactNonceForUptoCardSaid : Prop := Claim7.holds Tryd.pinned (.plain (OpenSpec.upto fnExactNonceForSpec)) fnExactNonceForUptoCard

/-- THE SECOND FORM's CARD OF 'laws.FnExactChallengeOf'. -/
def fnExactChallengeOfUptoCard : Claim7 := { stood := { row := fnExactChallengeOfUptoRow, standIns := [], harness := (true, "5e44b2ab00786876c8c4163b85688e282b2cdd2205697f19577119d78ff66fa5"), looks := false }, kinds := [], alts := [], laidByText := true, laidKinds := [.data, .data, .data, .data, .data], laidTests := true, laidLooks := .later }
def FnExactChallengeOfUptoCardSaid : Prop := Claim7.holds Tryd.pinned (.plain (OpenSpec.upto fnExactChallengeOfSpec)) fnExactChallengeOfUptoCard

/-- THE SECOND FORM's CARD OF 'laws.FnExactSignText'. -/
def fnExactSignTextUptoCard : Claim7 := { stood := { row := fnExactSignTextUptoRow, standIns := [], harness := (true, "5e44b2ab00786876c8c4163b85688e282b2cdd2205697f19577119d78ff66fa5"), looks := false }, kinds := [], alts := [], laidByText := true, laidKinds := [.data, .data, .data, .data, .data], laidTests := true, laidLooks := .later }
def FnExactSignTextUptoCardSaid : Prop := Claim7.holds Tryd.pinned (.plain (OpenSpec.upto fnExactSignTextSpec)) fnExactSignTextUptoCard

/-- THE SECOND FORM's CARD OF 'laws.FnExactSignWith'. -/
def fnExactSignWithUptoCard : Claim7 := { stood := { row := fnExactSignWithUptoRow, standIns := [], harness := (true, "5e44b2ab00786876c8c4163b85688e282b2cdd2205697f19577119d78ff66fa5"), looks := false }, kinds := [], alts := [], laidByText := true, laidKinds := [.data, .data, .data, .data, .data], laidTests := true, laidLooks := .later }
def FnExactSignWithUptoCardSaid : Prop := Claim7.holds Tryd.pinned (.plain (OpenSpec.upto fnExactSignWithSpec)) fnExactSignWithUptoCard

/-- THE SECOND FORM's CARD OF 'laws.FnExactCheckSigned'. -/
def fnExactCheckSignedUptoCard : Claim7 := { stood := { row := fnExactCheckSignedUptoRow, standIns := [], harness := (true, "5e44b2ab00786876c8c4163b85688e282b2cdd2205697f19577119d78ff66fa5"), looks := false }, kinds := [], alts := [], laidByText := true, laidKinds := [.data, .data, .data, .data, .data], laidTests := true, laidLooks := .later }
def FnExactCheckSignedUptoCardSaid : Prop := Claim7.holds Tryd.pinned (.plain (OpenSpec.upto fnExactCheckSignedSpec)) fnExactCheckSignedUptoCard

/-- THE SECOND FORM's CARD OF 'laws.FnExactSecretFrom'. -/
def fnExactSecretFromUptoCard : Claim7 := { stood := { row := fnExactSecretFromUptoRow, standIns := [], harness := (true, "5e44b2ab00786876c8c4163b85688e282b2cdd2205697f19577119d78ff66fa5"), looks := false }, kinds := [], alts := [], laidByText := true, laidKinds := [.data, .data, .data, .data, .data], laidTests := true, laidLooks := .later }
def FnExactSecretFromUptoCardSaid : Prop := Claim7.holds Tryd.pinned (.plain (OpenSpec.upto fnExactSecretFromSpec)) fnExactSecretFromUptoCard

/-- THE SECOND FORM's CARD OF 'laws.FnExactBothHold'. -/
def fnExactBothHoldUptoCard : Claim7 := { stood := { row := fnExactBothHoldUptoRow, standIns := [], harness := (true, "5e44b2ab00786876c8c4163b85688e282b2cdd2205697f19577119d78ff66fa5"), looks := false }, kinds := [], alts := [], laidByText := true, laidKinds := [.data, .data, .data, .data, .data], laidTests := true, laidLooks := .later }
def FnExactBothHoldUptoCardSaid : Prop := Claim7.holds Tryd.pinned (.plain (OpenSpec.upto fnExactBothHoldSpec)) fnExactBothHoldUptoCard

/-- THE SECOND FORM's CARD OF 'laws.FnSigned'. -/
def fnSignedUptoCard : Claim7 := { stood := { row := fnSignedUptoRow, standIns := [], harness := (true, "5e44b2ab00786876c8c4163b85688e282b2cdd2205697f19577119d78ff66fa5"), looks := false }, kinds := [], alts := [], laidByText := true, laidKinds := [.data, .data, .data, .data, .data], laidTests := true, laidLooks := .later }
def FnSignedUptoCardSaid : Prop := Claim7.holds Tryd.pinned (.plain (OpenSpec.upto fnSignedSpec)) fnSignedUptoCard

/-- THE SECOND FORM's CARD OF 'laws.FnSecrets'. -/
def fnSecretsUptoCard : Claim7 := { stood := { row := fnSecretsUptoRow, standIns := [], harness := (true, "5e44b2ab00786876c8c4163b85688e282b2cdd2205697f19577119d78ff66fa5"), looks := false }, kinds := [], alts := [], laidByText := true, laidKinds := [.data, .data, .data, .data, .data], laidTests := true, laidLooks := .later }
def FnSecretsUptoCardSaid : Prop := Claim7.holds Tryd.pinned (.plain (OpenSpec.upto fnSecretsSpec)) fnSecretsUptoCard
end Rows
end Go.Proofs.YtbljmgmpmmajeaaDoor
