/-
  The end of a state, by the specification and by the program, whatever the state is.
-/
import Derived.Test.YtmnihigackilkaaDoorFeed2
namespace Go.Proofs.YtmnihigackilkaaDoor.SpecEnd
open Go.ChangeShapes Go.WideShapes Go.ChangeAt Go.RowKit
open Go.Proofs.YtmnihigackilkaaDoor.Mem Go.Proofs.YtmnihigackilkaaDoor.Ints Go.Proofs.YtmnihigackilkaaDoor.State Go.Proofs.YtmnihigackilkaaDoor.ShaComp Go.Proofs.YtmnihigackilkaaDoor.ShaSched Go.Proofs.YtmnihigackilkaaDoor.ShaRound Go.Proofs.YtmnihigackilkaaDoor.Absorb Go.Proofs.YtmnihigackilkaaDoor.Mix Go.Proofs.YtmnihigackilkaaDoor.End Go.Proofs.YtmnihigackilkaaDoor.Feed Go.Proofs.YtmnihigackilkaaDoor.Feed2 Go.Proofs.YtmnihigackilkaaDoor.GoodState
set_option linter.unusedVariables false
set_option maxRecDepth 100000

theorem tail_size (L : Nat) : (ByteArray.mk (Pad.tailL L).toArray).size ≤ 72 := by
  rw [mk_size, Pad.tailL_len]; have := Pad.zeros_lt L; omega
end Go.Proofs.YtmnihigackilkaaDoor.SpecEnd
