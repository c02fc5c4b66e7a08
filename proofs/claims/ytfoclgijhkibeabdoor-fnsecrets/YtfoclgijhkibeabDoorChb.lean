/-
  Nonces and challenges by the program: contracts, and the walks of the laws on NonceFor and ChallengeOf.
-/
import Derived.Test.YtfoclgijhkibeabDoorCha
import Derived.Deep.RegionHeld3
import Derived.Deep.QuietTactic
import Derived.BigQuiet
namespace Go.Proofs.YtfoclgijhkibeabDoor.Chb
open Go.ChangeShapes Go.WideShapes Go.ChangeAt Go.RowKit
open Go.Proofs.YtfoclgijhkibeabDoor.Mem Go.Proofs.YtfoclgijhkibeabDoor.Num Go.Proofs.YtfoclgijhkibeabDoor.Mod Go.Proofs.YtfoclgijhkibeabDoor.Pow Go.Proofs.YtfoclgijhkibeabDoor.Sch Go.Proofs.YtfoclgijhkibeabDoor.Key Go.Proofs.YtfoclgijhkibeabDoor.Txt Go.Proofs.YtfoclgijhkibeabDoor.Cha
set_option linter.unusedVariables false
set_option maxRecDepth 100000

theorem okT_of {t : ByteArray} (h : t.size ≤ 200) : okT t = true := by simp [okT, h]
theorem okT_yes {t : ByteArray} (h : okT t = true) : t.size ≤ 200 := by simpa [okT] using h
theorem then2 {a b c : World} (h : Below a.heap.size a b) (k : Below b.heap.size b c) : Below a.heap.size a c := h.trans (k.mono h.size)
end Go.Proofs.YtfoclgijhkibeabDoor.Chb
