/-
  What the listed variables give: the program's two tables of words, read off their data.
-/
import Derived.Test.YtehmlkcnhccjmabDoorLaid
import Derived.Test.YtehmlkcnhccjmabDoorShaComp
namespace Go.Proofs.YtehmlkcnhccjmabDoor.LaidK
open Go.ChangeShapes Go.WideShapes Go.ChangeAt Go.RowKit
open Go.Proofs.YtehmlkcnhccjmabDoor.Mem Go.Proofs.YtehmlkcnhccjmabDoor.Words Go.Proofs.YtehmlkcnhccjmabDoor.ShaComp
set_option linter.unusedVariables false
set_option maxRecDepth 100000
theorem gRound : Tryd.prog.globalNamed "loop.example/g00532/impl.roundWords" = some 3 := by kernel_rfl
theorem tRound : (Tryd.prog.globals[3]?).map (·.type) = some 108 := by kernel_rfl
theorem round_eq : (Rows.laid_loop_example_g00532_impl_roundWords : DataW Unit) = .agg (consts.map fun z => DataW.lit (Lit.int .u32 z)) := by kernel_rfl
theorem of_end {W : World} (h : laidMetH Tryd.prog Rows.fnExactEndStateRow.laid W) : W.rangeAt 3 0 (u32s consts) := by
  rw [MakeChecks.laidMetH_plain _ _ _ (by kernel_rfl)] at h
  obtain ⟨ps, ⟨g0, t0, cs0, f0, p0, q0, hg0, ht0, hv0, hd0, _, _⟩, _⟩ := h
  obtain rfl := Option.some.inj (gRound.symm.trans hg0)
  obtain rfl := Option.some.inj (tRound.symm.trans ht0)
  rw [round_eq] at hd0
  exact Laid.arr_laid hg0 Tryd.underlying108 Tryd.underlying70 (by kernel_rfl) hv0 hd0 rfl
theorem of_feed {W : World} (h : laidMetH Tryd.prog Rows.fnExactFeedStateRow.laid W) : W.rangeAt 3 0 (u32s consts) := by
  rw [MakeChecks.laidMetH_plain _ _ _ (by kernel_rfl)] at h
  obtain ⟨ps, ⟨g0, t0, cs0, f0, p0, q0, hg0, ht0, hv0, hd0, _, _⟩, _⟩ := h
  obtain rfl := Option.some.inj (gRound.symm.trans hg0)
  obtain rfl := Option.some.inj (tRound.symm.trans ht0)
  rw [round_eq] at hd0
  exact Laid.arr_laid hg0 Tryd.underlying108 Tryd.underlying70 (by kernel_rfl) hv0 hd0 rfl
end Go.Proofs.YtehmlkcnhccjmabDoor.LaidK
