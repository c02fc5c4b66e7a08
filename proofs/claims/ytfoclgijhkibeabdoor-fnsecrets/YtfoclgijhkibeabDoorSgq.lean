/-
  Slices of signatures and of strings: the laws' own helpers that size, copy and compare them.
-/
import Derived.Test.YtfoclgijhkibeabDoorSgs
namespace Go.Proofs.YtfoclgijhkibeabDoor.Sgq
open Go.ChangeShapes Go.WideShapes Go.ChangeAt Go.RowKit
open Go.Proofs.YtfoclgijhkibeabDoor.Mem Go.Proofs.YtfoclgijhkibeabDoor.Ints Go.Proofs.YtfoclgijhkibeabDoor.Strs Go.Proofs.YtfoclgijhkibeabDoor.Rec Go.Proofs.YtfoclgijhkibeabDoor.Chl Go.Proofs.YtfoclgijhkibeabDoor.Sgs
set_option linter.unusedVariables false
set_option maxRecDepth 100000

end Go.Proofs.YtfoclgijhkibeabDoor.Sgq
