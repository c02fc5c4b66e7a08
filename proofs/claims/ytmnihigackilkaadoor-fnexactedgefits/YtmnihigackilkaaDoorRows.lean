/-
  NARROWER THAN 'FOR EVERY INPUT', by the rows' own cells (each row's printed sentence says how): FnProofs: laid · FnGrown: laid · FnEdges: laid · FnParts: laid · FnExactPutEdge: laid · FnExactEdgeRoot: laid · FnExactEdgeOf: laid · FnExactEdgeFits: laid.
  DERIVED. THE GIVEN ROWS OF THIS SEAT. 8 by the template 'for every input the law returns true; each argument reads behind the call as it read before'; 0 by the template 'total and deterministic' (their statements: YtmnihigackilkaaDoorTotals.lean).
  GIVEN WITH THE SEED: the statements are not yours to turn. If you find one false, say at which input.
  Laid BY PROGRAM, IN A SANDBOX (cutbox-rows.mjs): the forced cells as the released guide's own fill.sh prints them over the translation e755e12cf7b9507f… (all of the seat's roots in one cut). By AI agents, Wed Nov 11 2026. No macro, syntax, notation, axiom, sorry.
-/
import Derived.Test.YtmnihigackilkaaDoorChecked
import GoSem.Claim
import GoSem.ClaimJoined
import GoSem.ClaimMapViews
import Derived.JoinedTies
import Derived.KernelRfl
namespace Go.Proofs.YtmnihigackilkaaDoor
/- THE CELL 'sum', in the pinned program and in every row, IS THE sha256 OF THE DUMP (.gsa) THAT YtmnihigackilkaaDoorProg.lean LOADS. Nothing in Lean hashes anything: it is a label: what it is worth is what the hold of that sum in a sandbox is worth. -/
noncomputable def Tryd.pinned : Pinned := { name := "ytmnihigackilkaadoor", sum := "e755e12cf7b9507f4e19861a79112178f33c7cb15ad30f38da34aed59fea2979", checked := Tryd.checked }
namespace Rows
def none {H : Type} : Left H := { results := [], args := [] }

/- WHAT THE LISTED PACKAGE-LEVEL VARIABLES READ AS WHEN THE CALL BEGINS. Each datum BY PROGRAM (the guide's laid-datum.mjs) off the statement by which the dump's own 'gosem.cut.vars' lays the variable. In a bare row this is a premise. The card (YtmnihigackilkaaDoorCards.lean) ties it to the program's text. -/
def laid_loop_example_g00532_impl_firstWords {H : Type} : DataW H := .agg [.lit (.int .u32 1779033703), .lit (.int .u32 3144134277), .lit (.int .u32 1013904242), .lit (.int .u32 2773480762), .lit (.int .u32 1359893119), .lit (.int .u32 2600822924), .lit (.int .u32 528734635), .lit (.int .u32 1541459225)]
def laid_loop_example_g00532_impl_roundWords {H : Type} : DataW H := .agg [.lit (.int .u32 1116352408), .lit (.int .u32 1899447441), .lit (.int .u32 3049323471), .lit (.int .u32 3921009573), .lit (.int .u32 961987163), .lit (.int .u32 1508970993), .lit (.int .u32 2453635748), .lit (.int .u32 2870763221), .lit (.int .u32 3624381080), .lit (.int .u32 310598401), .lit (.int .u32 607225278), .lit (.int .u32 1426881987), .lit (.int .u32 1925078388), .lit (.int .u32 2162078206), .lit (.int .u32 2614888103), .lit (.int .u32 3248222580), .lit (.int .u32 3835390401), .lit (.int .u32 4022224774), .lit (.int .u32 264347078), .lit (.int .u32 604807628), .lit (.int .u32 770255983), .lit (.int .u32 1249150122), .lit (.int .u32 1555081692), .lit (.int .u32 1996064986), .lit (.int .u32 2554220882), .lit (.int .u32 2821834349), .lit (.int .u32 2952996808), .lit (.int .u32 3210313671), .lit (.int .u32 3336571891), .lit (.int .u32 3584528711), .lit (.int .u32 113926993), .lit (.int .u32 338241895), .lit (.int .u32 666307205), .lit (.int .u32 773529912), .lit (.int .u32 1294757372), .lit (.int .u32 1396182291), .lit (.int .u32 1695183700), .lit (.int .u32 1986661051), .lit (.int .u32 2177026350), .lit (.int .u32 2456956037), .lit (.int .u32 2730485921), .lit (.int .u32 2820302411), .lit (.int .u32 3259730800), .lit (.int .u32 3345764771), .lit (.int .u32 3516065817), .lit (.int .u32 3600352804), .lit (.int .u32 4094571909), .lit (.int .u32 275423344), .lit (.int .u32 430227734), .lit (.int .u32 506948616), .lit (.int .u32 659060556), .lit (.int .u32 883997877), .lit (.int .u32 958139571), .lit (.int .u32 1322822218), .lit (.int .u32 1537002063), .lit (.int .u32 1747873779), .lit (.int .u32 1955562222), .lit (.int .u32 2024104815), .lit (.int .u32 2227730452), .lit (.int .u32 2361852424), .lit (.int .u32 2428436474), .lit (.int .u32 2756734187), .lit (.int .u32 3204031479), .lit (.int .u32 3329325298)]

/-- 'laws.FnProofs': WHATEVER THE INPUT: true; the input reads as it did. -/
def fnProofsSpec : ChangeSpec := { name := "fnProofs", vars := ["loop.example/g00532/impl.firstWords", "loop.example/g00532/impl.roundWords"], fn := fun _ => fun
  | [d1, d2, g1, g2] => { results := [.lit (.bool true)], args := [d1, d2], vars := [g1, g2] }
  | _ => none }
def fnProofsRow : OpenClaim := { program := "ytmnihigackilkaadoor", sum := "e755e12cf7b9507f4e19861a79112178f33c7cb15ad30f38da34aed59fea2979", func := "loop.example/g00532/laws.FnProofs", spec := "fnProofs", unfollowed := true, recurses := true, named := ["loop.example/g00532/impl.firstWords", "loop.example/g00532/impl.roundWords"], apart := false, laid := [("loop.example/g00532/impl.firstWords", laid_loop_example_g00532_impl_firstWords), ("loop.example/g00532/impl.roundWords", laid_loop_example_g00532_impl_roundWords)] }
def FnProofsSaid : Prop := fnProofsRow.holds Tryd.pinned (OpenSpec.ofChange fnProofsSpec)

/-- ITS FALSE NEIGHBOUR: 'it returns false'. Refute it at one input. -/
def fnProofsWrong : ChangeSpec := { name := "fnProofs", vars := ["loop.example/g00532/impl.firstWords", "loop.example/g00532/impl.roundWords"], fn := fun _ => fun
  | [d1, d2, g1, g2] => { results := [.lit (.bool false)], args := [d1, d2], vars := [g1, g2] }
  | _ => none }
def FnProofsWrongFalsely : Prop := fnProofsRow.holds Tryd.pinned (OpenSpec.ofChange fnProofsWrong)

/-- 'laws.FnGrown': WHATEVER THE INPUT: true; the input reads as it did. -/
def fnGrownSpec : ChangeSpec := { name := "fnGrown", vars := ["loop.example/g00532/impl.firstWords", "loop.example/g00532/impl.roundWords"], fn := fun _ => fun
  | [d1, d2, g1, g2] => { results := [.lit (.bool true)], args := [d1, d2], vars := [g1, g2] }
  | _ => none }
def fnGrownRow : OpenClaim := { program := "ytmnihigackilkaadoor", sum := "e755e12cf7b9507f4e19861a79112178f33c7cb15ad30f38da34aed59fea2979", func := "loop.example/g00532/laws.FnGrown", spec := "fnGrown", inPlace := ["slices.overlaps[string]"], unfollowed := true, recurses := true, named := ["loop.example/g00532/impl.firstWords", "loop.example/g00532/impl.roundWords"], apart := false, laid := [("loop.example/g00532/impl.firstWords", laid_loop_example_g00532_impl_firstWords), ("loop.example/g00532/impl.roundWords", laid_loop_example_g00532_impl_roundWords)] }
def FnGrownSaid : Prop := fnGrownRow.holds Tryd.pinned (OpenSpec.ofChange fnGrownSpec)

/-- ITS FALSE NEIGHBOUR: 'it returns false'. Refute it at one input. -/
def fnGrownWrong : ChangeSpec := { name := "fnGrown", vars := ["loop.example/g00532/impl.firstWords", "loop.example/g00532/impl.roundWords"], fn := fun _ => fun
  | [d1, d2, g1, g2] => { results := [.lit (.bool false)], args := [d1, d2], vars := [g1, g2] }
  | _ => none }
def FnGrownWrongFalsely : Prop := fnGrownRow.holds Tryd.pinned (OpenSpec.ofChange fnGrownWrong)

/-- 'laws.FnEdges': WHATEVER THE INPUT: true; the input reads as it did. -/
def fnEdgesSpec : ChangeSpec := { name := "fnEdges", vars := ["loop.example/g00532/impl.firstWords", "loop.example/g00532/impl.roundWords"], fn := fun _ => fun
  | [d1, d2, g1, g2] => { results := [.lit (.bool true)], args := [d1, d2], vars := [g1, g2] }
  | _ => none }
def fnEdgesRow : OpenClaim := { program := "ytmnihigackilkaadoor", sum := "e755e12cf7b9507f4e19861a79112178f33c7cb15ad30f38da34aed59fea2979", func := "loop.example/g00532/laws.FnEdges", spec := "fnEdges", unfollowed := true, recurses := true, named := ["loop.example/g00532/impl.firstWords", "loop.example/g00532/impl.roundWords"], apart := false, laid := [("loop.example/g00532/impl.firstWords", laid_loop_example_g00532_impl_firstWords), ("loop.example/g00532/impl.roundWords", laid_loop_example_g00532_impl_roundWords)] }
def FnEdgesSaid : Prop := fnEdgesRow.holds Tryd.pinned (OpenSpec.ofChange fnEdgesSpec)

/-- ITS FALSE NEIGHBOUR: 'it returns false'. Refute it at one input. -/
def fnEdgesWrong : ChangeSpec := { name := "fnEdges", vars := ["loop.example/g00532/impl.firstWords", "loop.example/g00532/impl.roundWords"], fn := fun _ => fun
  | [d1, d2, g1, g2] => { results := [.lit (.bool false)], args := [d1, d2], vars := [g1, g2] }
  | _ => none }
def FnEdgesWrongFalsely : Prop := fnEdgesRow.holds Tryd.pinned (OpenSpec.ofChange fnEdgesWrong)

/-- 'laws.FnParts': WHATEVER THE INPUT: true; the input reads as it did. -/
def fnPartsSpec : ChangeSpec := { name := "fnParts", vars := ["loop.example/g00532/impl.firstWords", "loop.example/g00532/impl.roundWords"], fn := fun _ => fun
  | [d1, d2, g1, g2] => { results := [.lit (.bool true)], args := [d1, d2], vars := [g1, g2] }
  | _ => none }
def fnPartsRow : OpenClaim := { program := "ytmnihigackilkaadoor", sum := "e755e12cf7b9507f4e19861a79112178f33c7cb15ad30f38da34aed59fea2979", func := "loop.example/g00532/laws.FnParts", spec := "fnParts", named := ["loop.example/g00532/impl.firstWords", "loop.example/g00532/impl.roundWords"], apart := false, laid := [("loop.example/g00532/impl.firstWords", laid_loop_example_g00532_impl_firstWords), ("loop.example/g00532/impl.roundWords", laid_loop_example_g00532_impl_roundWords)] }
def FnPartsSaid : Prop := fnPartsRow.holds Tryd.pinned (OpenSpec.ofChange fnPartsSpec)

/-- ITS FALSE NEIGHBOUR: 'it returns false'. Refute it at one input. -/
def fnPartsWrong : ChangeSpec := { name := "fnParts", vars := ["loop.example/g00532/impl.firstWords", "loop.example/g00532/impl.roundWords"], fn := fun _ => fun
  | [d1, d2, g1, g2] => { results := [.lit (.bool false)], args := [d1, d2], vars := [g1, g2] }
  | _ => none }
def FnPartsWrongFalsely : Prop := fnPartsRow.holds Tryd.pinned (OpenSpec.ofChange fnPartsWrong)

/-- 'laws.FnExactPutEdge': WHATEVER THE INPUT: true; the input reads as it did. -/
def fnExactPutEdgeSpec : ChangeSpec := { name := "fnExactPutEdge", vars := ["loop.example/g00532/impl.firstWords", "loop.example/g00532/impl.roundWords"], fn := fun _ => fun
  | [d1, d2, g1, g2] => { results := [.lit (.bool true)], args := [d1, d2], vars := [g1, g2] }
  | _ => none }
def fnExactPutEdgeRow : OpenClaim := { program := "ytmnihigackilkaadoor", sum := "e755e12cf7b9507f4e19861a79112178f33c7cb15ad30f38da34aed59fea2979", func := "loop.example/g00532/laws.FnExactPutEdge", spec := "fnExactPutEdge", named := ["loop.example/g00532/impl.firstWords", "loop.example/g00532/impl.roundWords"], apart := false, laid := [("loop.example/g00532/impl.firstWords", laid_loop_example_g00532_impl_firstWords), ("loop.example/g00532/impl.roundWords", laid_loop_example_g00532_impl_roundWords)] }
def FnExactPutEdgeSaid : Prop := fnExactPutEdgeRow.holds Tryd.pinned (OpenSpec.ofChange fnExactPutEdgeSpec)

/-- ITS FALSE NEIGHBOUR: 'it returns false'. Refute it at one input. -/
def fnExactPutEdgeWrong : ChangeSpec := { name := "fnExactPutEdge", vars := ["loop.example/g00532/impl.firstWords", "loop.example/g00532/impl.roundWords"], fn := fun _ => fun
  | [d1, d2, g1, g2] => { results := [.lit (.bool false)], args := [d1, d2], vars := [g1, g2] }
  | _ => none }
def FnExactPutEdgeWrongFalsely : Prop := fnExactPutEdgeRow.holds Tryd.pinned (OpenSpec.ofChange fnExactPutEdgeWrong)

/-- 'laws.FnExactEdgeRoot': WHATEVER THE INPUT: true; the input reads as it did. -/
def fnExactEdgeRootSpec : ChangeSpec := { name := "fnExactEdgeRoot", vars := ["loop.example/g00532/impl.firstWords", "loop.example/g00532/impl.roundWords"], fn := fun _ => fun
  | [d, g1, g2] => { results := [.lit (.bool true)], args := [d], vars := [g1, g2] }
  | _ => none }
def fnExactEdgeRootRow : OpenClaim := { program := "ytmnihigackilkaadoor", sum := "e755e12cf7b9507f4e19861a79112178f33c7cb15ad30f38da34aed59fea2979", func := "loop.example/g00532/laws.FnExactEdgeRoot", spec := "fnExactEdgeRoot", named := ["loop.example/g00532/impl.firstWords", "loop.example/g00532/impl.roundWords"], apart := false, laid := [("loop.example/g00532/impl.firstWords", laid_loop_example_g00532_impl_firstWords), ("loop.example/g00532/impl.roundWords", laid_loop_example_g00532_impl_roundWords)] }
def FnExactEdgeRootSaid : Prop := fnExactEdgeRootRow.holds Tryd.pinned (OpenSpec.ofChange fnExactEdgeRootSpec)

/-- ITS FALSE NEIGHBOUR: 'it returns false'. Refute it at one input. -/
def fnExactEdgeRootWrong : ChangeSpec := { name := "fnExactEdgeRoot", vars := ["loop.example/g00532/impl.firstWords", "loop.example/g00532/impl.roundWords"], fn := fun _ => fun
  | [d, g1, g2] => { results := [.lit (.bool false)], args := [d], vars := [g1, g2] }
  | _ => none }
def FnExactEdgeRootWrongFalsely : Prop := fnExactEdgeRootRow.holds Tryd.pinned (OpenSpec.ofChange fnExactEdgeRootWrong)

/-- 'laws.FnExactEdgeOf': WHATEVER THE INPUT: true; the input reads as it did. -/
def fnExactEdgeOfSpec : ChangeSpec := { name := "fnExactEdgeOf", vars := ["loop.example/g00532/impl.firstWords", "loop.example/g00532/impl.roundWords"], fn := fun _ => fun
  | [d, g1, g2] => { results := [.lit (.bool true)], args := [d], vars := [g1, g2] }
  | _ => none }
def fnExactEdgeOfRow : OpenClaim := { program := "ytmnihigackilkaadoor", sum := "e755e12cf7b9507f4e19861a79112178f33c7cb15ad30f38da34aed59fea2979", func := "loop.example/g00532/laws.FnExactEdgeOf", spec := "fnExactEdgeOf", named := ["loop.example/g00532/impl.firstWords", "loop.example/g00532/impl.roundWords"], apart := false, laid := [("loop.example/g00532/impl.firstWords", laid_loop_example_g00532_impl_firstWords), ("loop.example/g00532/impl.roundWords", laid_loop_example_g00532_impl_roundWords)] }
def FnExactEdgeOfSaid : Prop := fnExactEdgeOfRow.holds Tryd.pinned (OpenSpec.ofChange fnExactEdgeOfSpec)

/-- ITS FALSE NEIGHBOUR: 'it returns false'. Refute it at one input. -/
def fnExactEdgeOfWrong : ChangeSpec := { name := "fnExactEdgeOf", vars := ["loop.example/g00532/impl.firstWords", "loop.example/g00532/impl.roundWords"], fn := fun _ => fun
  | [d, g1, g2] => { results := [.lit (.bool false)], args := [d], vars := [g1, g2] }
  | _ => none }
def FnExactEdgeOfWrongFalsely : Prop := fnExactEdgeOfRow.holds Tryd.pinned (OpenSpec.ofChange fnExactEdgeOfWrong)

/-- 'laws.FnExactEdgeFits': WHATEVER THE INPUT: true; the input reads as it did. -/
def fnExactEdgeFitsSpec : ChangeSpec := { name := "fnExactEdgeFits", vars := ["loop.example/g00532/impl.firstWords", "loop.example/g00532/impl.roundWords"], fn := fun _ => fun
  | [d1, d2, g1, g2] => { results := [.lit (.bool true)], args := [d1, d2], vars := [g1, g2] }
  | _ => none }
def fnExactEdgeFitsRow : OpenClaim := { program := "ytmnihigackilkaadoor", sum := "e755e12cf7b9507f4e19861a79112178f33c7cb15ad30f38da34aed59fea2979", func := "loop.example/g00532/laws.FnExactEdgeFits", spec := "fnExactEdgeFits", named := ["loop.example/g00532/impl.firstWords", "loop.example/g00532/impl.roundWords"], apart := false, laid := [("loop.example/g00532/impl.firstWords", laid_loop_example_g00532_impl_firstWords), ("loop.example/g00532/impl.roundWords", laid_loop_example_g00532_impl_roundWords)] }
def FnExactEdgeFitsSaid : Prop := fnExactEdgeFitsRow.holds Tryd.pinned (OpenSpec.ofChange fnExactEdgeFitsSpec)

/-- ITS FALSE NEIGHBOUR: 'it returns false'. Refute it at one input. -/
def fnExactEdgeFitsWrong : ChangeSpec := { name := "fnExactEdgeFits", vars := ["loop.example/g00532/impl.firstWords", "loop.example/g00532/impl.roundWords"], fn := fun _ => fun
  | [d1, d2, g1, g2] => { results := [.lit (.bool false)], args := [d1, d2], vars := [g1, g2] }
  | _ => none }
def FnExactEdgeFitsWrongFalsely : Prop := fnExactEdgeFitsRow.holds Tryd.pinned (OpenSpec.ofChange fnExactEdgeFitsWrong)

/- THE SECOND FORM. 'bulk': how many values and letters a reading holds, each counted each time it is reached (what is shared counts as often as it is met; a slice's spare places count too). A statement '..UptoSaid' is the law's where the arguments, and the package variables that the reading takes, are together of bulk at most 1048576: NARROWER than '..Said'. Prove '..Said' where nothing that the law and all that it calls make is longer than what came in: it says more and counts as full. Else prove '..UptoSaid'. A law counts once. -/
mutual
def uptoBulk {H : Type} : DataW H → Nat
  | .lit (.string bytes) => bytes.length + 1
  | .lit _ => 1
  | .nil => 1
  | .ptr d => uptoBulk d + 1
  | .slice elems spare => uptoBulkAll elems + uptoBulkAll spare + 1
  | .agg parts => uptoBulkAll parts + 1
  | .iface _ d => uptoBulk d + 1
  | .map entries => uptoBulkEntries entries + 1
  | .held _ => 1
def uptoBulkAll {H : Type} : List (DataW H) → Nat
  | [] => 0
  | d :: r => uptoBulk d + uptoBulkAll r
def uptoBulkEntries {H : Type} : List (Lit × DataW H) → Nat
  | [] => 0
  | x :: r => uptoBulkEntry x + uptoBulkEntries r
def uptoBulkEntry {H : Type} : Lit × DataW H → Nat
  | (.string bytes, d) => bytes.length + uptoBulk d + 1
  | (_, d) => uptoBulk d + 1
 end
def uptoSmall : (H : Type) → List (DataW H) → Bool := fun _ ds => decide (uptoBulkAll ds ≤ 1048576)
def OpenSpec.upto (s : _root_.Go.ChangeSpec) : _root_.Go.OpenSpec := { _root_.Go.OpenSpec.ofChange s with cond := some uptoSmall }

/-- 'laws.FnProofs', WHERE WHAT IT READS IS OF BULK AT MOST 1048576: true; the input reads as it did. -/
def fnProofsUptoRow : OpenClaim := { program := "ytmnihigackilkaadoor", sum := "e755e12cf7b9507f4e19861a79112178f33c7cb15ad30f38da34aed59fea2979", func := "loop.example/g00532/laws.FnProofs", spec := "fnProofs", unfollowed := true, recurses := true, named := ["loop.example/g00532/impl.firstWords", "loop.example/g00532/impl.roundWords"], apart := false, laid := [("loop.example/g00532/impl.firstWords", laid_loop_example_g00532_impl_firstWords), ("loop.example/g00532/impl.roundWords", laid_loop_example_g00532_impl_roundWords)], narrowed := true }
def FnProofsUptoSaid : Prop := fnProofsUptoRow.holds Tryd.pinned (OpenSpec.upto fnProofsSpec)

/-- 'laws.FnGrown', WHERE WHAT IT READS IS OF BULK AT MOST 1048576: true; the input reads as it did. -/
def fnGrownUptoRow : OpenClaim := { program := "ytmnihigackilkaadoor", sum := "e755e12cf7b9507f4e19861a79112178f33c7cb15ad30f38da34aed59fea2979", func := "loop.example/g00532/laws.FnGrown", spec := "fnGrown", inPlace := ["slices.overlaps[string]"], unfollowed := true, recurses := true, named := ["loop.example/g00532/impl.firstWords", "loop.example/g00532/impl.roundWords"], apart := false, laid := [("loop.example/g00532/impl.firstWords", laid_loop_example_g00532_impl_firstWords), ("loop.example/g00532/impl.roundWords", laid_loop_example_g00532_impl_roundWords)], narrowed := true }
def FnGrownUptoSaid : Prop := fnGrownUptoRow.holds Tryd.pinned (OpenSpec.upto fnGrownSpec)

/-- 'laws.FnEdges', WHERE WHAT IT READS IS OF BULK AT MOST 1048576: true; the input reads as it did. -/
def fnEdgesUptoRow : OpenClaim := { program := "ytmnihigackilkaadoor", sum := "e755e12cf7b9507f4e19861a79112178f33c7cb15ad30f38da34aed59fea2979", func := "loop.example/g00532/laws.FnEdges", spec := "fnEdges", unfollowed := true, recurses := true, named := ["loop.example/g00532/impl.firstWords", "loop.example/g00532/impl.roundWords"], apart := false, laid := [("loop.example/g00532/impl.firstWords", laid_loop_example_g00532_impl_firstWords), ("loop.example/g00532/impl.roundWords", laid_loop_example_g00532_impl_roundWords)], narrowed := true }
def FnEdgesUptoSaid : Prop := fnEdgesUptoRow.holds Tryd.pinned (OpenSpec.upto fnEdgesSpec)

/-- 'laws.FnParts', WHERE WHAT IT READS IS OF BULK AT MOST 1048576: true; the input reads as it did. -/
def fnPartsUptoRow : OpenClaim := { program := "ytmnihigackilkaadoor", sum := "e755e12cf7b9507f4e19861a79112178f33c7cb15ad30f38da34aed59fea2979", func := "loop.example/g00532/laws.FnParts", spec := "fnParts", named := ["loop.example/g00532/impl.firstWords", "loop.example/g00532/impl.roundWords"], apart := false, laid := [("loop.example/g00532/impl.firstWords", laid_loop_example_g00532_impl_firstWords), ("loop.example/g00532/impl.roundWords", laid_loop_example_g00532_impl_roundWords)], narrowed := true }
def FnPartsUptoSaid : Prop := fnPartsUptoRow.holds Tryd.pinned (OpenSpec.upto fnPartsSpec)

/-- 'laws.FnExactPutEdge', WHERE WHAT IT READS IS OF BULK AT MOST 1048576: true; the input reads as it did. -/
def fnExactPutEdgeUptoRow : OpenClaim := { program := "ytmnihigackilkaadoor", sum := "e755e12cf7b9507f4e19861a79112178f33c7cb15ad30f38da34aed59fea2979", func := "loop.example/g00532/laws.FnExactPutEdge", spec := "fnExactPutEdge", named := ["loop.example/g00532/impl.firstWords", "loop.example/g00532/impl.roundWords"], apart := false, laid := [("loop.example/g00532/impl.firstWords", laid_loop_example_g00532_impl_firstWords), ("loop.example/g00532/impl.roundWords", laid_loop_example_g00532_impl_roundWords)], narrowed := true }
def FnExactPutEdgeUptoSaid : Prop := fnExactPutEdgeUptoRow.holds Tryd.pinned (OpenSpec.upto fnExactPutEdgeSpec)

/-- 'laws.FnExactEdgeRoot', WHERE WHAT IT READS IS OF BULK AT MOST 1048576: true; the input reads as it did. -/
def fnExactEdgeRootUptoRow : OpenClaim := { program := "ytmnihigackilkaadoor", sum := "e755e12cf7b9507f4e19861a79112178f33c7cb15ad30f38da34aed59fea2979", func := "loop.example/g00532/laws.FnExactEdgeRoot", spec := "fnExactEdgeRoot", named := ["loop.example/g00532/impl.firstWords", "loop.example/g00532/impl.roundWords"], apart := false, laid := [("loop.example/g00532/impl.firstWords", laid_loop_example_g00532_impl_firstWords), ("loop.example/g00532/impl.roundWords", laid_loop_example_g00532_impl_roundWords)], narrowed := true }
def FnExactEdgeRootUptoSaid : Prop := fnExactEdgeRootUptoRow.holds Tryd.pinned (OpenSpec.upto fnExactEdgeRootSpec)

/-- 'laws.FnExactEdgeOf', WHERE WHAT IT READS IS OF BULK AT MOST 1048576: true; the input reads as it did. -/
def fnExactEdgeOfUptoRow : OpenClaim := { program := "ytmnihigackilkaadoor", sum := "e755e12cf7b9507f4e19861a79112178f33c7cb15ad30f38da34aed59fea2979", func := "loop.example/g00532/laws.FnExactEdgeOf", spec := "fnExactEdgeOf", named := ["loop.example/g00532/impl.firstWords", "loop.example/g00532/impl.roundWords"], apart := false, laid := [("loop.example/g00532/impl.firstWords", laid_loop_example_g00532_impl_firstWords), ("loop.example/g00532/impl.roundWords", laid_loop_example_g00532_impl_roundWords)], narrowed := true }
def FnExactEdgeOfUptoSaid : Prop := fnExactEdgeOfUptoRow.holds Tryd.pinned (OpenSpec.upto fnExactEdgeOfSpec)

/-- 'laws.FnExactEdgeFits', WHERE WHAT IT READS IS OF BULK AT MOST 1048576: true; the input reads as it did. -/
def fnExactEdgeFitsUptoRow : OpenClaim := { program := "ytmnihigackilkaadoor", sum := "e755e12cf7b9507f4e19861a79112178f33c7cb15ad30f38da34aed59fea2979", func := "loop.example/g00532/laws.FnExactEdgeFits", spec := "fnExactEdgeFits", named := ["loop.example/g00532/impl.firstWords", "loop.example/g00532/impl.roundWords"], apart := false, laid := [("loop.example/g00532/impl.firstWords", laid_loop_example_g00532_impl_firstWords), ("loop.example/g00532/impl.roundWords", laid_loop_example_g00532_impl_roundWords)], narrowed := true }
def FnExactEdgeFitsUptoSaid : Prop := fnExactEdgeFitsUptoRow.holds Tryd.pinned (OpenSpec.upto fnExactEdgeFitsSpec)

end Rows
end Go.Proofs.YtmnihigackilkaaDoor
