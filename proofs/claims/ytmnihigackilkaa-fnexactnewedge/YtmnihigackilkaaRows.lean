/-
  No cell of these rows narrows 'for every input' (looked for: loops, veiled, ifaces, maps, wideKeys, modest, calm, conditions, laid).
  DERIVED. THE GIVEN ROWS OF THIS SEAT. 3 by the template 'for every input the law returns true; each argument reads behind the call as it read before'; 0 by the template 'total and deterministic' (their statements: YtmnihigackilkaaTotals.lean).
  GIVEN WITH THE SEED: the statements are not yours to turn. If you find one false, say at which input.
  Laid BY PROGRAM, IN A SANDBOX (cutbox-rows.mjs): the forced cells as the released guide's own fill.sh prints them over the translation fd2d9469a6bcc182… (all of the seat's roots in one cut). By AI agents, Wed Nov 11 2026. No macro, syntax, notation, axiom, sorry.
-/
import Derived.Test.YtmnihigackilkaaChecked
import GoSem.Claim
import GoSem.ClaimJoined
import GoSem.ClaimMapViews
import Derived.JoinedTies
import Derived.KernelRfl
namespace Go.Proofs.Ytmnihigackilkaa
/- THE CELL 'sum', in the pinned program and in every row, IS THE sha256 OF THE DUMP (.gsa) THAT YtmnihigackilkaaProg.lean LOADS. Nothing in Lean hashes anything: it is a label: what it is worth is what the hold of that sum in a sandbox is worth. -/
noncomputable def Try.pinned : Pinned := { name := "ytmnihigackilkaa", sum := "fd2d9469a6bcc18225b713234bee17b942f0f505474502c2459e26283d172abf", checked := Try.checked }
namespace Rows
def none {H : Type} : Left H := { results := [], args := [] }

/-- 'laws.FnExactNewEdge': WHATEVER THE INPUT: true; the input reads as it did. -/
def fnExactNewEdgeSpec : ChangeSpec := { name := "fnExactNewEdge", fn := fun _ => fun
  | [d1, d2] => { results := [.lit (.bool true)], args := [d1, d2] }
  | _ => none }
def fnExactNewEdgeRow : OpenClaim := { program := "ytmnihigackilkaa", sum := "fd2d9469a6bcc18225b713234bee17b942f0f505474502c2459e26283d172abf", func := "loop.example/g00532/laws.FnExactNewEdge", spec := "fnExactNewEdge", apart := false }
def FnExactNewEdgeSaid : Prop := fnExactNewEdgeRow.holds Try.pinned (OpenSpec.ofChange fnExactNewEdgeSpec)

/-- ITS FALSE NEIGHBOUR: 'it returns false'. Refute it at one input. -/
def fnExactNewEdgeWrong : ChangeSpec := { name := "fnExactNewEdge", fn := fun _ => fun
  | [d1, d2] => { results := [.lit (.bool false)], args := [d1, d2] }
  | _ => none }
def FnExactNewEdgeWrongFalsely : Prop := fnExactNewEdgeRow.holds Try.pinned (OpenSpec.ofChange fnExactNewEdgeWrong)

/-- 'laws.FnExactGoodEdge': WHATEVER THE INPUT: true; the input reads as it did. -/
def fnExactGoodEdgeSpec : ChangeSpec := { name := "fnExactGoodEdge", fn := fun _ => fun
  | [d] => { results := [.lit (.bool true)], args := [d] }
  | _ => none }
def fnExactGoodEdgeRow : OpenClaim := { program := "ytmnihigackilkaa", sum := "fd2d9469a6bcc18225b713234bee17b942f0f505474502c2459e26283d172abf", func := "loop.example/g00532/laws.FnExactGoodEdge", spec := "fnExactGoodEdge", apart := false }
def FnExactGoodEdgeSaid : Prop := fnExactGoodEdgeRow.holds Try.pinned (OpenSpec.ofChange fnExactGoodEdgeSpec)

/-- ITS FALSE NEIGHBOUR: 'it returns false'. Refute it at one input. -/
def fnExactGoodEdgeWrong : ChangeSpec := { name := "fnExactGoodEdge", fn := fun _ => fun
  | [d] => { results := [.lit (.bool false)], args := [d] }
  | _ => none }
def FnExactGoodEdgeWrongFalsely : Prop := fnExactGoodEdgeRow.holds Try.pinned (OpenSpec.ofChange fnExactGoodEdgeWrong)

/-- 'laws.FnExactPartsFor': WHATEVER THE INPUT: true; the input reads as it did. -/
def fnExactPartsForSpec : ChangeSpec := { name := "fnExactPartsFor", fn := fun _ => fun
  | [d] => { results := [.lit (.bool true)], args := [d] }
  | _ => none }
def fnExactPartsForRow : OpenClaim := { program := "ytmnihigackilkaa", sum := "fd2d9469a6bcc18225b713234bee17b942f0f505474502c2459e26283d172abf", func := "loop.example/g00532/laws.FnExactPartsFor", spec := "fnExactPartsFor", apart := false }
def FnExactPartsForSaid : Prop := fnExactPartsForRow.holds Try.pinned (OpenSpec.ofChange fnExactPartsForSpec)

/-- ITS FALSE NEIGHBOUR: 'it returns false'. Refute it at one input. -/
def fnExactPartsForWrong : ChangeSpec := { name := "fnExactPartsFor", fn := fun _ => fun
  | [d] => { results := [.lit (.bool false)], args := [d] }
  | _ => none }
def FnExactPartsForWrongFalsely : Prop := fnExactPartsForRow.holds Try.pinned (OpenSpec.ofChange fnExactPartsForWrong)

/- THE SECOND FORM. 'bulk': how many values and letters a reading holds, each counted each time it is reached (what is shared counts as often as it is met; a slice's spare places count too). A statement '..UptoSaid' is the law's where the arguments, and the package variables that the reading takes, are together of bulk at most 1048576: NARROWER than '..Said'. Prove '..Said' where nothing that the law and all that it calls make is longer than what came in: it says more and counts as full. Else prove '..UptoSaid'. A law counts once. -/
mutual
def uptoBulk {H : Type} : DataW H → Nat
  | .lit (.string bytes) => bytes.length + 1
  | .lit _ => 1
  | .nil => 1
  | .ptr d => uptoBulk d + 1
  | .slice elems spare => uptoBulkAll elems + uptoBulkAll spare + 1
  | .agg parts => uptoBulkAll parts + 1
  | .iface _ d => uptoBulk d + 1
  | .map entries => uptoBulkEntries entries + 1
  | .held _ => 1
def uptoBulkAll {H : Type} : List (DataW H) → Nat
  | [] => 0
  | d :: r => uptoBulk d + uptoBulkAll r
def uptoBulkEntries {H : Type} : List (Lit × DataW H) → Nat
  | [] => 0
  | x :: r => uptoBulkEntry x + uptoBulkEntries r
def uptoBulkEntry {H : Type} : Lit × DataW H → Nat
  | (.string bytes, d) => bytes.length + uptoBulk d + 1
  | (_, d) => uptoBulk d + 1
 end
def uptoSmall : (H : Type) → List (DataW H) → Bool := fun _ ds => decide (uptoBulkAll ds ≤ 1048576)
def OpenSpec.upto (s : _root_.Go.ChangeSpec) : _root_.Go.OpenSpec := { _root_.Go.OpenSpec.ofChange s with cond := some uptoSmall }

/-- 'laws.FnExactNewEdge', WHERE WHAT IT READS IS OF BULK AT MOST 1048576: true; the input reads as it did. -/
def fnExactNewEdgeUptoRow : OpenClaim := { program := "ytmnihigackilkaa", sum := "fd2d9469a6bcc18225b713234bee17b942f0f505474502c2459e26283d172abf", func := "loop.example/g00532/laws.FnExactNewEdge", spec := "fnExactNewEdge", apart := false, narrowed := true }
def FnExactNewEdgeUptoSaid : Prop := fnExactNewEdgeUptoRow.holds Try.pinned (OpenSpec.upto fnExactNewEdgeSpec)

/-- 'laws.FnExactGoodEdge', WHERE WHAT IT READS IS OF BULK AT MOST 1048576: true; the input reads as it did. -/
def fnExactGoodEdgeUptoRow : OpenClaim := { program := "ytmnihigackilkaa", sum := "fd2d9469a6bcc18225b713234bee17b942f0f505474502c2459e26283d172abf", func := "loop.example/g00532/laws.FnExactGoodEdge", spec := "fnExactGoodEdge", apart := false, narrowed := true }
def FnExactGoodEdgeUptoSaid : Prop := fnExactGoodEdgeUptoRow.holds Try.pinned (OpenSpec.upto fnExactGoodEdgeSpec)

/-- 'laws.FnExactPartsFor', WHERE WHAT IT READS IS OF BULK AT MOST 1048576: true; the input reads as it did. -/
def fnExactPartsForUptoRow : OpenClaim := { program := "ytmnihigackilkaa", sum := "fd2d9469a6bcc18225b713234bee17b942f0f505474502c2459e26283d172abf", func := "loop.example/g00532/laws.FnExactPartsFor", spec := "fnExactPartsFor", apart := false, narrowed := true }
def FnExactPartsForUptoSaid : Prop := fnExactPartsForUptoRow.holds Try.pinned (OpenSpec.upto fnExactPartsForSpec)

end Rows
end Go.Proofs.Ytmnihigackilkaa
