/-
  DERIVED. GIVEN WITH THE SEED: THE CARDS: each row of YtiiklednbhklhaaDoorRows.lean that lists a variable, with what it lists TIED to the program's text (the seventh form; the later family's looks); each row that meets fmt, with fmt's text TOLD by the authors' own Lean function (tested against real Go, not proved from fmt's source: count such statements apart). THE CARD IS WHAT COUNTS. Prove the row's statement (the work); the ties are given (YtiiklednbhklhaaDoorTie.lean); close each card by the builder's one call (the guide's Derived/Test/ToyasCard.lean, 'card_holds'). Laid BY PROGRAM, IN A SANDBOX (cutbox-door.mjs). By AI agents, Wed Nov 11 2026. No macro, syntax, notation, axiom, sorry.
-/
import Derived.Test.YtiiklednbhklhaaDoorRows
import GoSem.ClaimSeven
namespace Go.Proofs.YtiiklednbhklhaaDoor
namespace Rows

/-- THE TIED CARD OF 'laws.FnProofs'. -/
def fnProofsCard : Claim7 := { stood := { row := fnProofsRow, standIns := [], harness := (true, "0740714f8e455c9a4bf9326a1bee83670107c745992da724b17d0736f689ca11"), looks := false }, kinds := [], alts := [], laidByText := true, laidKinds := [.data, .data], laidTests := true, laidLooks := .later }
def FnProofsCardSaid : Prop := Claim7.holds Tryd.pinned (.plain (OpenSpec.ofChange fnProofsSpec)) fnProofsCard

/-- THE TIED CARD OF 'laws.FnGrown'. -/
def fnGrownCard : Claim7 := { stood := { row := fnGrownRow, standIns := [], harness := (true, "0740714f8e455c9a4bf9326a1bee83670107c745992da724b17d0736f689ca11"), looks := false }, kinds := [], alts := [], laidByText := true, laidKinds := [.data, .data], laidTests := true, laidLooks := .later }
def FnGrownCardSaid : Prop := Claim7.holds Tryd.pinned (.plain (OpenSpec.ofChange fnGrownSpec)) fnGrownCard

/-- THE TIED CARD OF 'laws.FnExactLeafDigest'. -/
def fnExactLeafDigestCard : Claim7 := { stood := { row := fnExactLeafDigestRow, standIns := [], harness := (true, "0740714f8e455c9a4bf9326a1bee83670107c745992da724b17d0736f689ca11"), looks := false }, kinds := [], alts := [], laidByText := true, laidKinds := [.data, .data], laidTests := true, laidLooks := .later }
def FnExactLeafDigestCardSaid : Prop := Claim7.holds Tryd.pinned (.plain (OpenSpec.ofChange fnExactLeafDigestSpec)) fnExactLeafDigestCard

/-- THE TIED CARD OF 'laws.FnExactPairDigest'. -/
def fnExactPairDigestCard : Claim7 := { stood := { row := fnExactPairDigestRow, standIns := [], harness := (true, "0740714f8e455c9a4bf9326a1bee83670107c745992da724b17d0736f689ca11"), looks := false }, kinds := [], alts := [], laidByText := true, laidKinds := [.data, .data], laidTests := true, laidLooks := .later }
def FnExactPairDigestCardSaid : Prop := Claim7.holds Tryd.pinned (.plain (OpenSpec.ofChange fnExactPairDigestSpec)) fnExactPairDigestCard

/-- THE TIED CARD OF 'laws.FnExactRootOf'. -/
def fnExactRootOfCard : Claim7 := { stood := { row := fnExactRootOfRow, standIns := [], harness := (true, "0740714f8e455c9a4bf9326a1bee83670107c745992da724b17d0736f689ca11"), looks := false }, kinds := [], alts := [], laidByText := true, laidKinds := [.data, .data], laidTests := true, laidLooks := .later }
def FnExactRootOfCardSaid : Prop := Claim7.holds Tryd.pinned (.plain (OpenSpec.ofChange fnExactRootOfSpec)) fnExactRootOfCard

/-- THE TIED CARD OF 'laws.FnExactProofOf'. -/
def fnExactProofOfCard : Claim7 := { stood := { row := fnExactProofOfRow, standIns := [], harness := (true, "0740714f8e455c9a4bf9326a1bee83670107c745992da724b17d0736f689ca11"), looks := false }, kinds := [], alts := [], laidByText := true, laidKinds := [.data, .data], laidTests := true, laidLooks := .later }
def FnExactProofOfCardSaid : Prop := Claim7.holds Tryd.pinned (.plain (OpenSpec.ofChange fnExactProofOfSpec)) fnExactProofOfCard

/-- THE TIED CARD OF 'laws.FnExactCheckProof'. -/
def fnExactCheckProofCard : Claim7 := { stood := { row := fnExactCheckProofRow, standIns := [], harness := (true, "0740714f8e455c9a4bf9326a1bee83670107c745992da724b17d0736f689ca11"), looks := false }, kinds := [], alts := [], laidByText := true, laidKinds := [.data, .data], laidTests := true, laidLooks := .later }
def FnExactCheckProofCardSaid : Prop := Claim7.holds Tryd.pinned (.plain (OpenSpec.ofChange fnExactCheckProofSpec)) fnExactCheckProofCard

/-- THE TIED CARD OF 'laws.FnExactGrowthOf'. -/
def fnExactGrowthOfCard : Claim7 := { stood := { row := fnExactGrowthOfRow, standIns := [], harness := (true, "0740714f8e455c9a4bf9326a1bee83670107c745992da724b17d0736f689ca11"), looks := false }, kinds := [], alts := [], laidByText := true, laidKinds := [.data, .data], laidTests := true, laidLooks := .later }
def FnExactGrowthOfCardSaid : Prop := Claim7.holds Tryd.pinned (.plain (OpenSpec.ofChange fnExactGrowthOfSpec)) fnExactGrowthOfCard

/-- THE TIED CARD OF 'laws.FnExactCheckGrowth'. -/
def fnExactCheckGrowthCard : Claim7 := { stood := { row := fnExactCheckGrowthRow, standIns := [], harness := (true, "0740714f8e455c9a4bf9326a1bee83670107c745992da724b17d0736f689ca11"), looks := false }, kinds := [], alts := [], laidByText := true, laidKinds := [.data, .data], laidTests := true, laidLooks := .later }
def FnExactCheckGrowthCardSaid : Prop := Claim7.holds Tryd.pinned (.plain (OpenSpec.ofChange fnExactCheckGrowthSpec)) fnExactCheckGrowthCard

/-- THE TIED CARD OF 'laws.FnExactCollisionOf'. -/
def fnExactCollisionOfCard : Claim7 := { stood := { row := fnExactCollisionOfRow, standIns := [], harness := (true, "0740714f8e455c9a4bf9326a1bee83670107c745992da724b17d0736f689ca11"), looks := false }, kinds := [], alts := [], laidByText := true, laidKinds := [.data, .data], laidTests := true, laidLooks := .later }
def FnExactCollisionOfCardSaid : Prop := Claim7.holds Tryd.pinned (.plain (OpenSpec.ofChange fnExactCollisionOfSpec)) fnExactCollisionOfCard

/-- THE SECOND FORM's CARD OF 'laws.FnProofs'. -/
def fnProofsUptoCard : Claim7 := { stood := { row := fnProofsUptoRow, standIns := [], harness := (true, "0740714f8e455c9a4bf9326a1bee83670107c745992da724b17d0736f689ca11"), looks := false }, kinds := [], alts := [], laidByText := true, laidKinds := [.data, .data], laidTests := true, laidLooks := .later }
def FnProofsUptoCardSaid : Prop := Claim7.holds Tryd.pinned (.plain (OpenSpec.upto fnProofsSpec)) fnProofsUptoCard

/-- THE SECOND FORM's CARD OF 'laws.FnGrown'. -/
def fnGrownUptoCard : Claim7 := { stood := { row := fnGrownUptoRow, standIns := [], harness := (true, "0740714f8e455c9a4bf9326a1bee83670107c745992da724b17d0736f689ca11"), looks := false }, kinds := [], alts := [], laidByText := true, laidKinds := [.data, .data], laidTests := true, laidLooks := .later }
def FnGrownUptoCardSaid : Prop := Claim7.holds Tryd.pinned (.plain (OpenSpec.upto fnGrownSpec)) fnGrownUptoCard

/-- THE SECOND FORM's CARD OF 'laws.FnExactLeafDigest'. -/
def fnExactLeafDigestUptoCard : Claim7 := { stood := { row := fnExactLeafDigestUptoRow, standIns := [], harness := (true, "0740714f8e455c9a4bf9326a1bee83670107c745992da724b17d0736f689ca11"), looks := false }, kinds := [], alts := [], laidByText := true, laidKinds := [.data, .data], laidTests := true, laidLooks := .later }
def FnExactLeafDigestUptoCardSaid : Prop := Claim7.holds Tryd.pinned (.plain (OpenSpec.upto fnExactLeafDigestSpec)) fnExactLeafDigestUptoCard

/-- THE SECOND FORM's CARD OF 'laws.FnExactPairDigest'. -/
def fnExactPairDigestUptoCard : Claim7 := { stood := { row := fnExactPairDigestUptoRow, standIns := [], harness := (true, "0740714f8e455c9a4bf9326a1bee83670107c745992da724b17d0736f689ca11"), looks := false }, kinds := [], alts := [], laidByText := true, laidKinds := [.data, .data], laidTests := true, laidLooks := .later }
def FnExactPairDigestUptoCardSaid : Prop := Claim7.holds Tryd.pinned (.plain (OpenSpec.upto fnExactPairDigestSpec)) fnExactPairDigestUptoCard

/-- THE SECOND FORM's CARD OF 'laws.FnExactRootOf'. -/
def fnExactRootOfUptoCard : Claim7 := { stood := { row := fnExactRootOfUptoRow, standIns := [], harness := (true, "0740714f8e455c9a4bf9326a1bee83670107c745992da724b17d0736f689ca11"), looks := false }, kinds := [], alts := [], laidByText := true, laidKinds := [.data, .data], laidTests := true, laidLooks := .later }
def FnExactRootOfUptoCardSaid : Prop := Claim7.holds Tryd.pinned (.plain (OpenSpec.upto fnExactRootOfSpec)) fnExactRootOfUptoCard

/-- THE SECOND FORM's CARD OF 'laws.FnExactProofOf'. -/
def fnExactProofOfUptoCard : Claim7 := { stood := { row := fnExactProofOfUptoRow, standIns := [], harness := (true, "0740714f8e455c9a4bf9326a1bee83670107c745992da724b17d0736f689ca11"), looks := false }, kinds := [], alts := [], laidByText := true, laidKinds := [.data, .data], laidTests := true, laidLooks := .later }
def FnExactProofOfUptoCardSaid : Prop := Claim7.holds Tryd.pinned (.plain (OpenSpec.upto fnExactProofOfSpec)) fnExactProofOfUptoCard

/-- THE SECOND FORM's CARD OF 'laws.FnExactCheckProof'. -/
def fnExactCheckProofUptoCard : Claim7 := { stood := { row := fnExactCheckProofUptoRow, standIns := [], harness := (true, "0740714f8e455c9a4bf9326a1bee83670107c745992da724b17d0736f689ca11"), looks := false }, kinds := [], alts := [], laidByText := true, laidKinds := [.data, .data], laidTests := true, laidLooks := .later }
def FnExactCheckProofUptoCardSaid : Prop := Claim7.holds Tryd.pinned (.plain (OpenSpec.upto fnExactCheckProofSpec)) fnExactCheckProofUptoCard

/-- THE SECOND FORM's CARD OF 'laws.FnExactGrowthOf'. -/
def fnExactGrowthOfUptoCard : Claim7 := { stood := { row := fnExactGrowthOfUptoRow, standIns := [], harness := (true, "0740714f8e455c9a4bf9326a1bee83670107c745992da724b17d0736f689ca11"), looks := false }, kinds := [], alts := [], laidByText := true, laidKinds := [.data, .data], laidTests := true, laidLooks := .later }
def FnExactGrowthOfUptoCardSaid : Prop := Claim7.holds Tryd.pinned (.plain (OpenSpec.upto fnExactGrowthOfSpec)) fnExactGrowthOfUptoCard

/-- THE SECOND FORM's CARD OF 'laws.FnExactCheckGrowth'. -/
def fnExactCheckGrowthUptoCard : Claim7 := { stood := { row := fnExactCheckGrowthUptoRow, standIns := [], harness := (true, "0740714f8e455c9a4bf9326a1bee83670107c745992da724b17d0736f689ca11"), looks := false }, kinds := [], alts := [], laidByText := true, laidKinds := [.data, .data], laidTests := true, laidLooks := .later }
def FnExactCheckGrowthUptoCardSaid : Prop := Claim7.holds Tryd.pinned (.plain (OpenSpec.upto fnExactCheckGrowthSpec)) fnExactCheckGrowthUptoCard

/-- THE SECOND FORM's CARD OF 'laws.FnExactCollisionOf'. -/
def fnExactCollisionOfUptoCard : Claim7 := { stood := { row := fnExactCollisionOfUptoRow, standIns := [], harness := (true, "0740714f8e455c9a4bf9326a1bee83670107c745992da724b17d0736f689ca11"), looks := false }, kinds := [], alts := [], laidByText := true, laidKinds := [.data, .data], laidTests := true, laidLooks := .later }
def FnExactCollisionOfUptoCardSaid : Prop := Claim7.holds Tryd.pinned (.plain (OpenSpec.upto fnExactCollisionOfSpec)) fnExactCollisionOfUptoCard
end Rows
end Go.Proofs.YtiiklednbhklhaaDoor
