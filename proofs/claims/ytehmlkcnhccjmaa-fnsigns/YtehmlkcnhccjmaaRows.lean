/-
  No cell of these rows narrows 'for every input' (looked for: loops, veiled, ifaces, maps, wideKeys, modest, calm, conditions, laid).
  DERIVED. THE GIVEN ROWS OF THIS SEAT. 8 by the template 'for every input the law returns true; each argument reads behind the call as it read before'; 0 by the template 'total and deterministic' (their statements: YtehmlkcnhccjmaaTotals.lean).
  GIVEN WITH THE SEED: the statements are not yours to turn. If you find one false, say at which input.
  Laid BY PROGRAM, IN A SANDBOX (cutbox-rows.mjs): the forced cells as the released guide's own fill.sh prints them over the translation 3c80c3dcb2f75fd8… (all of the seat's roots in one cut). By AI agents, Wed Nov 11 2026. No macro, syntax, notation, axiom, sorry.
-/
import Derived.Test.YtehmlkcnhccjmaaChecked
import GoSem.Claim
import GoSem.ClaimJoined
import GoSem.ClaimMapViews
import Derived.JoinedTies
import Derived.KernelRfl
namespace Go.Proofs.Ytehmlkcnhccjmaa
/- THE CELL 'sum', in the pinned program and in every row, IS THE sha256 OF THE DUMP (.gsa) THAT YtehmlkcnhccjmaaProg.lean LOADS. Nothing in Lean hashes anything: it is a label: what it is worth is what the hold of that sum in a sandbox is worth. -/
noncomputable def Try.pinned : Pinned := { name := "ytehmlkcnhccjmaa", sum := "3c80c3dcb2f75fd80a9ac978026da216d059a4244b826cbf7a6ec7e5eab33780", checked := Try.checked }
namespace Rows
def none {H : Type} : Left H := { results := [], args := [] }

/-- 'laws.FnExactLengthAs': WHATEVER THE INPUT: true; the input reads as it did. -/
def fnExactLengthAsSpec : ChangeSpec := { name := "fnExactLengthAs", fn := fun _ => fun
  | [d] => { results := [.lit (.bool true)], args := [d] }
  | _ => none }
def fnExactLengthAsRow : OpenClaim := { program := "ytehmlkcnhccjmaa", sum := "3c80c3dcb2f75fd80a9ac978026da216d059a4244b826cbf7a6ec7e5eab33780", func := "loop.example/g00532/laws.FnExactLengthAs", spec := "fnExactLengthAs", apart := false }
def FnExactLengthAsSaid : Prop := fnExactLengthAsRow.holds Try.pinned (OpenSpec.ofChange fnExactLengthAsSpec)

/-- ITS FALSE NEIGHBOUR: 'it returns false'. Refute it at one input. -/
def fnExactLengthAsWrong : ChangeSpec := { name := "fnExactLengthAs", fn := fun _ => fun
  | [d] => { results := [.lit (.bool false)], args := [d] }
  | _ => none }
def FnExactLengthAsWrongFalsely : Prop := fnExactLengthAsRow.holds Try.pinned (OpenSpec.ofChange fnExactLengthAsWrong)

/-- 'laws.FnExactSignAt': WHATEVER THE INPUT: true; the input reads as it did. -/
def fnExactSignAtSpec : ChangeSpec := { name := "fnExactSignAt", fn := fun _ => fun
  | [d] => { results := [.lit (.bool true)], args := [d] }
  | _ => none }
def fnExactSignAtRow : OpenClaim := { program := "ytehmlkcnhccjmaa", sum := "3c80c3dcb2f75fd80a9ac978026da216d059a4244b826cbf7a6ec7e5eab33780", func := "loop.example/g00532/laws.FnExactSignAt", spec := "fnExactSignAt", apart := false }
def FnExactSignAtSaid : Prop := fnExactSignAtRow.holds Try.pinned (OpenSpec.ofChange fnExactSignAtSpec)

/-- ITS FALSE NEIGHBOUR: 'it returns false'. Refute it at one input. -/
def fnExactSignAtWrong : ChangeSpec := { name := "fnExactSignAt", fn := fun _ => fun
  | [d] => { results := [.lit (.bool false)], args := [d] }
  | _ => none }
def FnExactSignAtWrongFalsely : Prop := fnExactSignAtRow.holds Try.pinned (OpenSpec.ofChange fnExactSignAtWrong)

/-- 'laws.FnExactOfHex': WHATEVER THE INPUT: true; the input reads as it did. -/
def fnExactOfHexSpec : ChangeSpec := { name := "fnExactOfHex", fn := fun _ => fun
  | [d] => { results := [.lit (.bool true)], args := [d] }
  | _ => none }
def fnExactOfHexRow : OpenClaim := { program := "ytehmlkcnhccjmaa", sum := "3c80c3dcb2f75fd80a9ac978026da216d059a4244b826cbf7a6ec7e5eab33780", func := "loop.example/g00532/laws.FnExactOfHex", spec := "fnExactOfHex", inPlace := ["internal/bytealg.IndexByteString"], apart := false }
def FnExactOfHexSaid : Prop := fnExactOfHexRow.holds Try.pinned (OpenSpec.ofChange fnExactOfHexSpec)

/-- ITS FALSE NEIGHBOUR: 'it returns false'. Refute it at one input. -/
def fnExactOfHexWrong : ChangeSpec := { name := "fnExactOfHex", fn := fun _ => fun
  | [d] => { results := [.lit (.bool false)], args := [d] }
  | _ => none }
def FnExactOfHexWrongFalsely : Prop := fnExactOfHexRow.holds Try.pinned (OpenSpec.ofChange fnExactOfHexWrong)

/-- 'laws.FnExactLinesOf': WHATEVER THE INPUT: true; the input reads as it did. -/
def fnExactLinesOfSpec : ChangeSpec := { name := "fnExactLinesOf", fn := fun _ => fun
  | [d1, d2] => { results := [.lit (.bool true)], args := [d1, d2] }
  | _ => none }
def fnExactLinesOfRow : OpenClaim := { program := "ytehmlkcnhccjmaa", sum := "3c80c3dcb2f75fd80a9ac978026da216d059a4244b826cbf7a6ec7e5eab33780", func := "loop.example/g00532/laws.FnExactLinesOf", spec := "fnExactLinesOf", apart := false }
def FnExactLinesOfSaid : Prop := fnExactLinesOfRow.holds Try.pinned (OpenSpec.ofChange fnExactLinesOfSpec)

/-- ITS FALSE NEIGHBOUR: 'it returns false'. Refute it at one input. -/
def fnExactLinesOfWrong : ChangeSpec := { name := "fnExactLinesOf", fn := fun _ => fun
  | [d1, d2] => { results := [.lit (.bool false)], args := [d1, d2] }
  | _ => none }
def FnExactLinesOfWrongFalsely : Prop := fnExactLinesOfRow.holds Try.pinned (OpenSpec.ofChange fnExactLinesOfWrong)

/-- 'laws.FnExactSignsOf': WHATEVER THE INPUT: true; the input reads as it did. -/
def fnExactSignsOfSpec : ChangeSpec := { name := "fnExactSignsOf", fn := fun _ => fun
  | [d] => { results := [.lit (.bool true)], args := [d] }
  | _ => none }
def fnExactSignsOfRow : OpenClaim := { program := "ytehmlkcnhccjmaa", sum := "3c80c3dcb2f75fd80a9ac978026da216d059a4244b826cbf7a6ec7e5eab33780", func := "loop.example/g00532/laws.FnExactSignsOf", spec := "fnExactSignsOf", apart := false }
def FnExactSignsOfSaid : Prop := fnExactSignsOfRow.holds Try.pinned (OpenSpec.ofChange fnExactSignsOfSpec)

/-- ITS FALSE NEIGHBOUR: 'it returns false'. Refute it at one input. -/
def fnExactSignsOfWrong : ChangeSpec := { name := "fnExactSignsOf", fn := fun _ => fun
  | [d] => { results := [.lit (.bool false)], args := [d] }
  | _ => none }
def FnExactSignsOfWrongFalsely : Prop := fnExactSignsOfRow.holds Try.pinned (OpenSpec.ofChange fnExactSignsOfWrong)

/-- 'laws.FnExactOfSigns': WHATEVER THE INPUT: true; the input reads as it did. -/
def fnExactOfSignsSpec : ChangeSpec := { name := "fnExactOfSigns", fn := fun _ => fun
  | [d] => { results := [.lit (.bool true)], args := [d] }
  | _ => none }
def fnExactOfSignsRow : OpenClaim := { program := "ytehmlkcnhccjmaa", sum := "3c80c3dcb2f75fd80a9ac978026da216d059a4244b826cbf7a6ec7e5eab33780", func := "loop.example/g00532/laws.FnExactOfSigns", spec := "fnExactOfSigns", inPlace := ["internal/bytealg.IndexByteString"], apart := false }
def FnExactOfSignsSaid : Prop := fnExactOfSignsRow.holds Try.pinned (OpenSpec.ofChange fnExactOfSignsSpec)

/-- ITS FALSE NEIGHBOUR: 'it returns false'. Refute it at one input. -/
def fnExactOfSignsWrong : ChangeSpec := { name := "fnExactOfSigns", fn := fun _ => fun
  | [d] => { results := [.lit (.bool false)], args := [d] }
  | _ => none }
def FnExactOfSignsWrongFalsely : Prop := fnExactOfSignsRow.holds Try.pinned (OpenSpec.ofChange fnExactOfSignsWrong)

/-- 'laws.FnExactArmorOf': WHATEVER THE INPUT: true; the input reads as it did. -/
def fnExactArmorOfSpec : ChangeSpec := { name := "fnExactArmorOf", fn := fun _ => fun
  | [d1, d2] => { results := [.lit (.bool true)], args := [d1, d2] }
  | _ => none }
def fnExactArmorOfRow : OpenClaim := { program := "ytehmlkcnhccjmaa", sum := "3c80c3dcb2f75fd80a9ac978026da216d059a4244b826cbf7a6ec7e5eab33780", func := "loop.example/g00532/laws.FnExactArmorOf", spec := "fnExactArmorOf", inPlace := ["internal/abi.NoEscape"], apart := false }
def FnExactArmorOfSaid : Prop := fnExactArmorOfRow.holds Try.pinned (OpenSpec.ofChange fnExactArmorOfSpec)

/-- ITS FALSE NEIGHBOUR: 'it returns false'. Refute it at one input. -/
def fnExactArmorOfWrong : ChangeSpec := { name := "fnExactArmorOf", fn := fun _ => fun
  | [d1, d2] => { results := [.lit (.bool false)], args := [d1, d2] }
  | _ => none }
def FnExactArmorOfWrongFalsely : Prop := fnExactArmorOfRow.holds Try.pinned (OpenSpec.ofChange fnExactArmorOfWrong)

/-- 'laws.FnSigns': WHATEVER THE INPUT: true; the input reads as it did. -/
def fnSignsSpec : ChangeSpec := { name := "fnSigns", fn := fun _ => fun
  | [d1, d2] => { results := [.lit (.bool true)], args := [d1, d2] }
  | _ => none }
def fnSignsRow : OpenClaim := { program := "ytehmlkcnhccjmaa", sum := "3c80c3dcb2f75fd80a9ac978026da216d059a4244b826cbf7a6ec7e5eab33780", func := "loop.example/g00532/laws.FnSigns", spec := "fnSigns", inPlace := ["internal/bytealg.IndexByteString"], apart := false }
def FnSignsSaid : Prop := fnSignsRow.holds Try.pinned (OpenSpec.ofChange fnSignsSpec)

/-- ITS FALSE NEIGHBOUR: 'it returns false'. Refute it at one input. -/
def fnSignsWrong : ChangeSpec := { name := "fnSigns", fn := fun _ => fun
  | [d1, d2] => { results := [.lit (.bool false)], args := [d1, d2] }
  | _ => none }
def FnSignsWrongFalsely : Prop := fnSignsRow.holds Try.pinned (OpenSpec.ofChange fnSignsWrong)

/- THE SECOND FORM. 'bulk': how many values and letters a reading holds, each counted each time it is reached (what is shared counts as often as it is met; a slice's spare places count too). A statement '..UptoSaid' is the law's where the arguments, and the package variables that the reading takes, are together of bulk at most 1048576: NARROWER than '..Said'. Prove '..Said' where nothing that the law and all that it calls make is longer than what came in: it says more and counts as full. Else prove '..UptoSaid'. A law counts once. -/
mutual
def uptoBulk {H : Type} : DataW H → Nat
  | .lit (.string bytes) => bytes.length + 1
  | .lit _ => 1
  | .nil => 1
  | .ptr d => uptoBulk d + 1
  | .slice elems spare => uptoBulkAll elems + uptoBulkAll spare + 1
  | .agg parts => uptoBulkAll parts + 1
  | .iface _ d => uptoBulk d + 1
  | .map entries => uptoBulkEntries entries + 1
  | .held _ => 1
def uptoBulkAll {H : Type} : List (DataW H) → Nat
  | [] => 0
  | d :: r => uptoBulk d + uptoBulkAll r
def uptoBulkEntries {H : Type} : List (Lit × DataW H) → Nat
  | [] => 0
  | x :: r => uptoBulkEntry x + uptoBulkEntries r
def uptoBulkEntry {H : Type} : Lit × DataW H → Nat
  | (.string bytes, d) => bytes.length + uptoBulk d + 1
  | (_, d) => uptoBulk d + 1
 end
def uptoSmall : (H : Type) → List (DataW H) → Bool := fun _ ds => decide (uptoBulkAll ds ≤ 1048576)
def OpenSpec.upto (s : _root_.Go.ChangeSpec) : _root_.Go.OpenSpec := { _root_.Go.OpenSpec.ofChange s with cond := some uptoSmall }

/-- 'laws.FnExactLengthAs', WHERE WHAT IT READS IS OF BULK AT MOST 1048576: true; the input reads as it did. -/
def fnExactLengthAsUptoRow : OpenClaim := { program := "ytehmlkcnhccjmaa", sum := "3c80c3dcb2f75fd80a9ac978026da216d059a4244b826cbf7a6ec7e5eab33780", func := "loop.example/g00532/laws.FnExactLengthAs", spec := "fnExactLengthAs", apart := false, narrowed := true }
def FnExactLengthAsUptoSaid : Prop := fnExactLengthAsUptoRow.holds Try.pinned (OpenSpec.upto fnExactLengthAsSpec)

/-- 'laws.FnExactSignAt', WHERE WHAT IT READS IS OF BULK AT MOST 1048576: true; the input reads as it did. -/
def fnExactSignAtUptoRow : OpenClaim := { program := "ytehmlkcnhccjmaa", sum := "3c80c3dcb2f75fd80a9ac978026da216d059a4244b826cbf7a6ec7e5eab33780", func := "loop.example/g00532/laws.FnExactSignAt", spec := "fnExactSignAt", apart := false, narrowed := true }
def FnExactSignAtUptoSaid : Prop := fnExactSignAtUptoRow.holds Try.pinned (OpenSpec.upto fnExactSignAtSpec)

/-- 'laws.FnExactOfHex', WHERE WHAT IT READS IS OF BULK AT MOST 1048576: true; the input reads as it did. -/
def fnExactOfHexUptoRow : OpenClaim := { program := "ytehmlkcnhccjmaa", sum := "3c80c3dcb2f75fd80a9ac978026da216d059a4244b826cbf7a6ec7e5eab33780", func := "loop.example/g00532/laws.FnExactOfHex", spec := "fnExactOfHex", inPlace := ["internal/bytealg.IndexByteString"], apart := false, narrowed := true }
def FnExactOfHexUptoSaid : Prop := fnExactOfHexUptoRow.holds Try.pinned (OpenSpec.upto fnExactOfHexSpec)

/-- 'laws.FnExactLinesOf', WHERE WHAT IT READS IS OF BULK AT MOST 1048576: true; the input reads as it did. -/
def fnExactLinesOfUptoRow : OpenClaim := { program := "ytehmlkcnhccjmaa", sum := "3c80c3dcb2f75fd80a9ac978026da216d059a4244b826cbf7a6ec7e5eab33780", func := "loop.example/g00532/laws.FnExactLinesOf", spec := "fnExactLinesOf", apart := false, narrowed := true }
def FnExactLinesOfUptoSaid : Prop := fnExactLinesOfUptoRow.holds Try.pinned (OpenSpec.upto fnExactLinesOfSpec)

/-- 'laws.FnExactSignsOf', WHERE WHAT IT READS IS OF BULK AT MOST 1048576: true; the input reads as it did. -/
def fnExactSignsOfUptoRow : OpenClaim := { program := "ytehmlkcnhccjmaa", sum := "3c80c3dcb2f75fd80a9ac978026da216d059a4244b826cbf7a6ec7e5eab33780", func := "loop.example/g00532/laws.FnExactSignsOf", spec := "fnExactSignsOf", apart := false, narrowed := true }
def FnExactSignsOfUptoSaid : Prop := fnExactSignsOfUptoRow.holds Try.pinned (OpenSpec.upto fnExactSignsOfSpec)

/-- 'laws.FnExactOfSigns', WHERE WHAT IT READS IS OF BULK AT MOST 1048576: true; the input reads as it did. -/
def fnExactOfSignsUptoRow : OpenClaim := { program := "ytehmlkcnhccjmaa", sum := "3c80c3dcb2f75fd80a9ac978026da216d059a4244b826cbf7a6ec7e5eab33780", func := "loop.example/g00532/laws.FnExactOfSigns", spec := "fnExactOfSigns", inPlace := ["internal/bytealg.IndexByteString"], apart := false, narrowed := true }
def FnExactOfSignsUptoSaid : Prop := fnExactOfSignsUptoRow.holds Try.pinned (OpenSpec.upto fnExactOfSignsSpec)

/-- 'laws.FnExactArmorOf', WHERE WHAT IT READS IS OF BULK AT MOST 1048576: true; the input reads as it did. -/
def fnExactArmorOfUptoRow : OpenClaim := { program := "ytehmlkcnhccjmaa", sum := "3c80c3dcb2f75fd80a9ac978026da216d059a4244b826cbf7a6ec7e5eab33780", func := "loop.example/g00532/laws.FnExactArmorOf", spec := "fnExactArmorOf", inPlace := ["internal/abi.NoEscape"], apart := false, narrowed := true }
def FnExactArmorOfUptoSaid : Prop := fnExactArmorOfUptoRow.holds Try.pinned (OpenSpec.upto fnExactArmorOfSpec)

/-- 'laws.FnSigns', WHERE WHAT IT READS IS OF BULK AT MOST 1048576: true; the input reads as it did. -/
def fnSignsUptoRow : OpenClaim := { program := "ytehmlkcnhccjmaa", sum := "3c80c3dcb2f75fd80a9ac978026da216d059a4244b826cbf7a6ec7e5eab33780", func := "loop.example/g00532/laws.FnSigns", spec := "fnSigns", inPlace := ["internal/bytealg.IndexByteString"], apart := false, narrowed := true }
def FnSignsUptoSaid : Prop := fnSignsUptoRow.holds Try.pinned (OpenSpec.upto fnSignsSpec)

end Rows
end Go.Proofs.Ytehmlkcnhccjmaa
