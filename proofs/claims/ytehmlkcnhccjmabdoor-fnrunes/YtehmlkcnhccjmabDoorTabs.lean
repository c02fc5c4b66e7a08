/-
  What the listed variables give: the library's two tables of UTF-8, as its contracts read them.
-/
import Derived.Test.YtehmlkcnhccjmabDoorRows
import Derived.Test.YtehmlkcnhccjmabDoorShelf
import Derived.PinnedBridge
import Derived.Lib.LaidU8T
import Derived.MakeChecks
import Derived.LaidMore
namespace Go.Proofs.YtehmlkcnhccjmabDoor.Tabs
open Go Go.Lib
theorem first_eq : Rows.laid_unicode_utf8_first = firstData := Pinned.utf8First_eq
theorem accept_eq : (Rows.laid_unicode_utf8_acceptRanges : DataW Unit) = acceptData := by kernel_rfl
theorem of_laid {W : World} (h : laidMetH Tryd.prog Rows.fnRunesRow.laid W) : Lib.Utf8Tabs 1 2 W := by
  rw [MakeChecks.laidMetH_plain _ _ _ (by kernel_rfl)] at h
  have r0 := Lib.laidMet.reads h (.head _)
  have r1 := Lib.laidMet.reads h (.tail _ (.head _))
  rw [accept_eq] at r0
  rw [first_eq] at r1
  exact utf8Tabs_of_readsT (U8Types.of196 Tryd.lays196) ⟨by kernel_rfl, by kernel_rfl, by kernel_rfl, by kernel_rfl, by kernel_rfl, by kernel_rfl, by kernel_rfl⟩ r1 r0
end Go.Proofs.YtehmlkcnhccjmabDoor.Tabs
