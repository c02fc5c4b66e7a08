/-
  No cell of these rows narrows 'for every input' (looked for: loops, veiled, ifaces, maps, wideKeys, modest, calm, conditions, laid).
  DERIVED. THE GIVEN ROWS OF THIS SEAT. 6 by the template 'for every input the law returns true; each argument reads behind the call as it read before'; 0 by the template 'total and deterministic' (their statements: YtgbdieghphbcfaaTotals.lean).
  GIVEN WITH THE SEED: the statements are not yours to turn. If you find one false, say at which input.
  Laid BY PROGRAM, IN A SANDBOX (cutbox-rows.mjs): the forced cells as the released guide's own fill.sh prints them over the translation c89201aca7feb47a… (all of the seat's roots in one cut). By AI agents, Wed Nov 11 2026. No macro, syntax, notation, axiom, sorry.
-/
import Derived.Test.YtgbdieghphbcfaaChecked
import GoSem.Claim
import GoSem.ClaimJoined
import GoSem.ClaimMapViews
import Derived.JoinedTies
import Derived.KernelRfl
namespace Go.Proofs.Ytgbdieghphbcfaa
/- THE CELL 'sum', in the pinned program and in every row, IS THE sha256 OF THE DUMP (.gsa) THAT YtgbdieghphbcfaaProg.lean LOADS. Nothing in Lean hashes anything: it is a label: what it is worth is what the hold of that sum in a sandbox is worth. -/
noncomputable def Try.pinned : Pinned := { name := "ytgbdieghphbcfaa", sum := "c89201aca7feb47aee2e4e5017ef1830684433ac08c0463697f24df0b312cc5c", checked := Try.checked }
namespace Rows
def none {H : Type} : Left H := { results := [], args := [] }

/-- 'laws.FnExactGoodRune': WHATEVER THE INPUT: true; the input reads as it did. -/
def fnExactGoodRuneSpec : ChangeSpec := { name := "fnExactGoodRune", fn := fun _ => fun
  | [d] => { results := [.lit (.bool true)], args := [d] }
  | _ => none }
def fnExactGoodRuneRow : OpenClaim := { program := "ytgbdieghphbcfaa", sum := "c89201aca7feb47aee2e4e5017ef1830684433ac08c0463697f24df0b312cc5c", func := "loop.example/g00532/laws.FnExactGoodRune", spec := "fnExactGoodRune", apart := false }
def FnExactGoodRuneSaid : Prop := fnExactGoodRuneRow.holds Try.pinned (OpenSpec.ofChange fnExactGoodRuneSpec)

/-- ITS FALSE NEIGHBOUR: 'it returns false'. Refute it at one input. -/
def fnExactGoodRuneWrong : ChangeSpec := { name := "fnExactGoodRune", fn := fun _ => fun
  | [d] => { results := [.lit (.bool false)], args := [d] }
  | _ => none }
def FnExactGoodRuneWrongFalsely : Prop := fnExactGoodRuneRow.holds Try.pinned (OpenSpec.ofChange fnExactGoodRuneWrong)

/-- 'laws.FnExactIsStart': WHATEVER THE INPUT: true; the input reads as it did. -/
def fnExactIsStartSpec : ChangeSpec := { name := "fnExactIsStart", fn := fun _ => fun
  | [d] => { results := [.lit (.bool true)], args := [d] }
  | _ => none }
def fnExactIsStartRow : OpenClaim := { program := "ytgbdieghphbcfaa", sum := "c89201aca7feb47aee2e4e5017ef1830684433ac08c0463697f24df0b312cc5c", func := "loop.example/g00532/laws.FnExactIsStart", spec := "fnExactIsStart", apart := false }
def FnExactIsStartSaid : Prop := fnExactIsStartRow.holds Try.pinned (OpenSpec.ofChange fnExactIsStartSpec)

/-- ITS FALSE NEIGHBOUR: 'it returns false'. Refute it at one input. -/
def fnExactIsStartWrong : ChangeSpec := { name := "fnExactIsStart", fn := fun _ => fun
  | [d] => { results := [.lit (.bool false)], args := [d] }
  | _ => none }
def FnExactIsStartWrongFalsely : Prop := fnExactIsStartRow.holds Try.pinned (OpenSpec.ofChange fnExactIsStartWrong)

/-- 'laws.FnExactNextStart': WHATEVER THE INPUT: true; the input reads as it did. -/
def fnExactNextStartSpec : ChangeSpec := { name := "fnExactNextStart", fn := fun _ => fun
  | [d1, d2] => { results := [.lit (.bool true)], args := [d1, d2] }
  | _ => none }
def fnExactNextStartRow : OpenClaim := { program := "ytgbdieghphbcfaa", sum := "c89201aca7feb47aee2e4e5017ef1830684433ac08c0463697f24df0b312cc5c", func := "loop.example/g00532/laws.FnExactNextStart", spec := "fnExactNextStart", apart := false }
def FnExactNextStartSaid : Prop := fnExactNextStartRow.holds Try.pinned (OpenSpec.ofChange fnExactNextStartSpec)

/-- ITS FALSE NEIGHBOUR: 'it returns false'. Refute it at one input. -/
def fnExactNextStartWrong : ChangeSpec := { name := "fnExactNextStart", fn := fun _ => fun
  | [d1, d2] => { results := [.lit (.bool false)], args := [d1, d2] }
  | _ => none }
def FnExactNextStartWrongFalsely : Prop := fnExactNextStartRow.holds Try.pinned (OpenSpec.ofChange fnExactNextStartWrong)

/-- 'laws.FnExactRuneBytes': WHATEVER THE INPUT: true; the input reads as it did. -/
def fnExactRuneBytesSpec : ChangeSpec := { name := "fnExactRuneBytes", fn := fun _ => fun
  | [d] => { results := [.lit (.bool true)], args := [d] }
  | _ => none }
def fnExactRuneBytesRow : OpenClaim := { program := "ytgbdieghphbcfaa", sum := "c89201aca7feb47aee2e4e5017ef1830684433ac08c0463697f24df0b312cc5c", func := "loop.example/g00532/laws.FnExactRuneBytes", spec := "fnExactRuneBytes", apart := false }
def FnExactRuneBytesSaid : Prop := fnExactRuneBytesRow.holds Try.pinned (OpenSpec.ofChange fnExactRuneBytesSpec)

/-- ITS FALSE NEIGHBOUR: 'it returns false'. Refute it at one input. -/
def fnExactRuneBytesWrong : ChangeSpec := { name := "fnExactRuneBytes", fn := fun _ => fun
  | [d] => { results := [.lit (.bool false)], args := [d] }
  | _ => none }
def FnExactRuneBytesWrongFalsely : Prop := fnExactRuneBytesRow.holds Try.pinned (OpenSpec.ofChange fnExactRuneBytesWrong)

/-- 'laws.FnExactPairsOf': WHATEVER THE INPUT: true; the input reads as it did. -/
def fnExactPairsOfSpec : ChangeSpec := { name := "fnExactPairsOf", fn := fun _ => fun
  | [d] => { results := [.lit (.bool true)], args := [d] }
  | _ => none }
def fnExactPairsOfRow : OpenClaim := { program := "ytgbdieghphbcfaa", sum := "c89201aca7feb47aee2e4e5017ef1830684433ac08c0463697f24df0b312cc5c", func := "loop.example/g00532/laws.FnExactPairsOf", spec := "fnExactPairsOf", apart := false }
def FnExactPairsOfSaid : Prop := fnExactPairsOfRow.holds Try.pinned (OpenSpec.ofChange fnExactPairsOfSpec)

/-- ITS FALSE NEIGHBOUR: 'it returns false'. Refute it at one input. -/
def fnExactPairsOfWrong : ChangeSpec := { name := "fnExactPairsOf", fn := fun _ => fun
  | [d] => { results := [.lit (.bool false)], args := [d] }
  | _ => none }
def FnExactPairsOfWrongFalsely : Prop := fnExactPairsOfRow.holds Try.pinned (OpenSpec.ofChange fnExactPairsOfWrong)

/-- 'laws.FnExactOfPairs': WHATEVER THE INPUT: true; the input reads as it did. -/
def fnExactOfPairsSpec : ChangeSpec := { name := "fnExactOfPairs", fn := fun _ => fun
  | [d] => { results := [.lit (.bool true)], args := [d] }
  | _ => none }
def fnExactOfPairsRow : OpenClaim := { program := "ytgbdieghphbcfaa", sum := "c89201aca7feb47aee2e4e5017ef1830684433ac08c0463697f24df0b312cc5c", func := "loop.example/g00532/laws.FnExactOfPairs", spec := "fnExactOfPairs", apart := false }
def FnExactOfPairsSaid : Prop := fnExactOfPairsRow.holds Try.pinned (OpenSpec.ofChange fnExactOfPairsSpec)

/-- ITS FALSE NEIGHBOUR: 'it returns false'. Refute it at one input. -/
def fnExactOfPairsWrong : ChangeSpec := { name := "fnExactOfPairs", fn := fun _ => fun
  | [d] => { results := [.lit (.bool false)], args := [d] }
  | _ => none }
def FnExactOfPairsWrongFalsely : Prop := fnExactOfPairsRow.holds Try.pinned (OpenSpec.ofChange fnExactOfPairsWrong)

/- THE SECOND FORM. 'bulk': how many values and letters a reading holds, each counted each time it is reached (what is shared counts as often as it is met; a slice's spare places count too). A statement '..UptoSaid' is the law's where the arguments, and the package variables that the reading takes, are together of bulk at most 1048576: NARROWER than '..Said'. Prove '..Said' where nothing that the law and all that it calls make is longer than what came in: it says more and counts as full. Else prove '..UptoSaid'. A law counts once. -/
mutual
def uptoBulk {H : Type} : DataW H → Nat
  | .lit (.string bytes) => bytes.length + 1
  | .lit _ => 1
  | .nil => 1
  | .ptr d => uptoBulk d + 1
  | .slice elems spare => uptoBulkAll elems + uptoBulkAll spare + 1
  | .agg parts => uptoBulkAll parts + 1
  | .iface _ d => uptoBulk d + 1
  | .map entries => uptoBulkEntries entries + 1
  | .held _ => 1
def uptoBulkAll {H : Type} : List (DataW H) → Nat
  | [] => 0
  | d :: r => uptoBulk d + uptoBulkAll r
def uptoBulkEntries {H : Type} : List (Lit × DataW H) → Nat
  | [] => 0
  | x :: r => uptoBulkEntry x + uptoBulkEntries r
def uptoBulkEntry {H : Type} : Lit × DataW H → Nat
  | (.string bytes, d) => bytes.length + uptoBulk d + 1
  | (_, d) => uptoBulk d + 1
 end
def uptoSmall : (H : Type) → List (DataW H) → Bool := fun _ ds => decide (uptoBulkAll ds ≤ 1048576)
def OpenSpec.upto (s : _root_.Go.ChangeSpec) : _root_.Go.OpenSpec := { _root_.Go.OpenSpec.ofChange s with cond := some uptoSmall }

/-- 'laws.FnExactGoodRune', WHERE WHAT IT READS IS OF BULK AT MOST 1048576: true; the input reads as it did. -/
def fnExactGoodRuneUptoRow : OpenClaim := { program := "ytgbdieghphbcfaa", sum := "c89201aca7feb47aee2e4e5017ef1830684433ac08c0463697f24df0b312cc5c", func := "loop.example/g00532/laws.FnExactGoodRune", spec := "fnExactGoodRune", apart := false, narrowed := true }
def FnExactGoodRuneUptoSaid : Prop := fnExactGoodRuneUptoRow.holds Try.pinned (OpenSpec.upto fnExactGoodRuneSpec)

/-- 'laws.FnExactIsStart', WHERE WHAT IT READS IS OF BULK AT MOST 1048576: true; the input reads as it did. -/
def fnExactIsStartUptoRow : OpenClaim := { program := "ytgbdieghphbcfaa", sum := "c89201aca7feb47aee2e4e5017ef1830684433ac08c0463697f24df0b312cc5c", func := "loop.example/g00532/laws.FnExactIsStart", spec := "fnExactIsStart", apart := false, narrowed := true }
def FnExactIsStartUptoSaid : Prop := fnExactIsStartUptoRow.holds Try.pinned (OpenSpec.upto fnExactIsStartSpec)

/-- 'laws.FnExactNextStart', WHERE WHAT IT READS IS OF BULK AT MOST 1048576: true; the input reads as it did. -/
def fnExactNextStartUptoRow : OpenClaim := { program := "ytgbdieghphbcfaa", sum := "c89201aca7feb47aee2e4e5017ef1830684433ac08c0463697f24df0b312cc5c", func := "loop.example/g00532/laws.FnExactNextStart", spec := "fnExactNextStart", apart := false, narrowed := true }
def FnExactNextStartUptoSaid : Prop := fnExactNextStartUptoRow.holds Try.pinned (OpenSpec.upto fnExactNextStartSpec)

/-- 'laws.FnExactRuneBytes', WHERE WHAT IT READS IS OF BULK AT MOST 1048576: true; the input reads as it did. -/
def fnExactRuneBytesUptoRow : OpenClaim := { program := "ytgbdieghphbcfaa", sum := "c89201aca7feb47aee2e4e5017ef1830684433ac08c0463697f24df0b312cc5c", func := "loop.example/g00532/laws.FnExactRuneBytes", spec := "fnExactRuneBytes", apart := false, narrowed := true }
def FnExactRuneBytesUptoSaid : Prop := fnExactRuneBytesUptoRow.holds Try.pinned (OpenSpec.upto fnExactRuneBytesSpec)

/-- 'laws.FnExactPairsOf', WHERE WHAT IT READS IS OF BULK AT MOST 1048576: true; the input reads as it did. -/
def fnExactPairsOfUptoRow : OpenClaim := { program := "ytgbdieghphbcfaa", sum := "c89201aca7feb47aee2e4e5017ef1830684433ac08c0463697f24df0b312cc5c", func := "loop.example/g00532/laws.FnExactPairsOf", spec := "fnExactPairsOf", apart := false, narrowed := true }
def FnExactPairsOfUptoSaid : Prop := fnExactPairsOfUptoRow.holds Try.pinned (OpenSpec.upto fnExactPairsOfSpec)

/-- 'laws.FnExactOfPairs', WHERE WHAT IT READS IS OF BULK AT MOST 1048576: true; the input reads as it did. -/
def fnExactOfPairsUptoRow : OpenClaim := { program := "ytgbdieghphbcfaa", sum := "c89201aca7feb47aee2e4e5017ef1830684433ac08c0463697f24df0b312cc5c", func := "loop.example/g00532/laws.FnExactOfPairs", spec := "fnExactOfPairs", apart := false, narrowed := true }
def FnExactOfPairsUptoSaid : Prop := fnExactOfPairsUptoRow.holds Try.pinned (OpenSpec.upto fnExactOfPairsSpec)

end Rows
end Go.Proofs.Ytgbdieghphbcfaa
