/-
  The end of a state, by the specification and by the program, whatever the state is.
-/
import Derived.Test.YtiiklednbhklhaaDoorFeed2
namespace Go.Proofs.YtiiklednbhklhaaDoor.SpecEnd
open Go.ChangeShapes Go.WideShapes Go.ChangeAt Go.RowKit
open Go.Proofs.YtiiklednbhklhaaDoor.Mem Go.Proofs.YtiiklednbhklhaaDoor.Ints Go.Proofs.YtiiklednbhklhaaDoor.State Go.Proofs.YtiiklednbhklhaaDoor.ShaComp Go.Proofs.YtiiklednbhklhaaDoor.ShaSched Go.Proofs.YtiiklednbhklhaaDoor.ShaRound Go.Proofs.YtiiklednbhklhaaDoor.Absorb Go.Proofs.YtiiklednbhklhaaDoor.Mix Go.Proofs.YtiiklednbhklhaaDoor.End Go.Proofs.YtiiklednbhklhaaDoor.Feed Go.Proofs.YtiiklednbhklhaaDoor.Feed2 Go.Proofs.YtiiklednbhklhaaDoor.GoodState
set_option linter.unusedVariables false
set_option maxRecDepth 100000

theorem tail_size (L : Nat) : (ByteArray.mk (Pad.tailL L).toArray).size ≤ 72 := by
  rw [mk_size, Pad.tailL_len]; have := Pad.zeros_lt L; omega
end Go.Proofs.YtiiklednbhklhaaDoor.SpecEnd
