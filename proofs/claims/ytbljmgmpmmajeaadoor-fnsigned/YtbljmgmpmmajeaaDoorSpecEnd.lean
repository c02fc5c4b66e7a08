/-
  The end of a state, by the specification and by the program, whatever the state is.
-/
import Derived.Test.YtbljmgmpmmajeaaDoorFeed2
namespace Go.Proofs.YtbljmgmpmmajeaaDoor.SpecEnd
open Go.ChangeShapes Go.WideShapes Go.ChangeAt Go.RowKit
open Go.Proofs.YtbljmgmpmmajeaaDoor.Mem Go.Proofs.YtbljmgmpmmajeaaDoor.Ints Go.Proofs.YtbljmgmpmmajeaaDoor.State Go.Proofs.YtbljmgmpmmajeaaDoor.ShaComp Go.Proofs.YtbljmgmpmmajeaaDoor.ShaSched Go.Proofs.YtbljmgmpmmajeaaDoor.ShaRound Go.Proofs.YtbljmgmpmmajeaaDoor.Absorb Go.Proofs.YtbljmgmpmmajeaaDoor.Mix Go.Proofs.YtbljmgmpmmajeaaDoor.End Go.Proofs.YtbljmgmpmmajeaaDoor.Feed Go.Proofs.YtbljmgmpmmajeaaDoor.Feed2 Go.Proofs.YtbljmgmpmmajeaaDoor.GoodState
set_option linter.unusedVariables false
set_option maxRecDepth 100000

theorem tail_size (L : Nat) : (ByteArray.mk (Pad.tailL L).toArray).size ≤ 72 := by
  rw [mk_size, Pad.tailL_len]; have := Pad.zeros_lt L; omega
end Go.Proofs.YtbljmgmpmmajeaaDoor.SpecEnd
