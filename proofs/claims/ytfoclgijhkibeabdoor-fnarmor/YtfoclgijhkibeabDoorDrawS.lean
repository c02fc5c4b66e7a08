/-
  What the laws of chapter 3 draw: each drawing function returns, and changes nothing that was in memory.
-/
import Derived.Test.YtfoclgijhkibeabDoorDrawA
import Derived.Test.YtfoclgijhkibeabDoorHex
import Derived.Test.YtfoclgijhkibeabDoorSigI
namespace Go.Proofs.YtfoclgijhkibeabDoor.DrawS
open Go.ChangeShapes Go.WideShapes Go.ChangeAt Go.RowKit
open Go.Proofs.YtfoclgijhkibeabDoor.Mem Go.Proofs.YtfoclgijhkibeabDoor.Ints Go.Proofs.YtfoclgijhkibeabDoor.Cur Go.Proofs.YtfoclgijhkibeabDoor.DrawA
set_option linter.unusedVariables false
set_option maxRecDepth 100000

theorem someHex (t : ByteArray) (w : World) (ht : t.size ≤ 601) : Calls Tryd.prog 32 #[.string t] w fun e w' => ∃ (u : ByteArray) (b : Bool), e = .returned (.tuple #[.string u, .bool b]) ∧ u.size ≤ 1200 ∧ Below w.heap.size w w' := by
  by_cases h : t.size ≤ 600
  · refine (Hex.specHex t w h).mono ?_
    rintro e w' ⟨rfl, hb⟩
    refine ⟨_, true, rfl, ?_, hb⟩
    rw [mk_size, Hex.hexL_len]; simp; omega
  · refine (Hex.specLong t w (by omega) (by unfold maxLen; omega)).mono ?_
    rintro e w' ⟨rfl, rfl⟩
    exact ⟨_, false, rfl, by simp [ByteArray.size], Below.refl _ _⟩
theorem upd_bel {p : Nat} {a w w' : World} (h : Upd p a w) (hb : Below w.heap.size w w') : Upd p a w' := h.trans (Upd.of_below hb (Nat.le_refl _))
theorem cur_bel {w w' : World} {p B K : Nat} (h : Cur w p B K) (hb : Below w.heap.size w w') : Cur w' p B K := h.below hb h.lt
theorem box_bel {w w1 : World} {o : Obj} (h : Upd w.heap.size (w.alloc o) w1) : Below w.heap.size w w1 := ((Below.refl _ w).alloc (Nat.le_refl _) _).trans (h.below (Nat.le_refl _) (by simp))
end Go.Proofs.YtfoclgijhkibeabDoor.DrawS
