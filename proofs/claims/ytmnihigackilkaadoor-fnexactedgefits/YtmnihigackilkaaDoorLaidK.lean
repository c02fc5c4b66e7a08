/-
  What the listed variables give: the program's two tables of words, read off their data.
-/
import Derived.Test.YtmnihigackilkaaDoorLaid
import Derived.Test.YtmnihigackilkaaDoorShaComp
import Derived.Lib.LaidU8
namespace Go.Proofs.YtmnihigackilkaaDoor.LaidK
open Go.ChangeShapes Go.WideShapes Go.ChangeAt Go.RowKit
open Go.Proofs.YtmnihigackilkaaDoor.Mem Go.Proofs.YtmnihigackilkaaDoor.Words Go.Proofs.YtmnihigackilkaaDoor.ShaComp
set_option linter.unusedVariables false
set_option maxRecDepth 100000
theorem gRound : Tryd.prog.globalNamed "loop.example/g00532/impl.roundWords" = some 1 := by kernel_rfl
theorem tRound : (Tryd.prog.globals[1]?).map (·.type) = some 173 := by kernel_rfl
theorem round_eq : (Rows.laid_loop_example_g00532_impl_roundWords : DataW Unit) = .agg (consts.map fun z => DataW.lit (Lit.int .u32 z)) := by kernel_rfl
theorem gFirst : Tryd.prog.globalNamed "loop.example/g00532/impl.firstWords" = some 0 := by kernel_rfl
theorem tFirst : (Tryd.prog.globals[0]?).map (·.type) = some 150 := by kernel_rfl
theorem first_eq : (Rows.laid_loop_example_g00532_impl_firstWords : DataW Unit) = .agg (firsts.map fun z => DataW.lit (Lit.int .u32 z)) := by kernel_rfl
theorem both {W : World} (h : laidMetH Tryd.prog [("loop.example/g00532/impl.firstWords", Rows.laid_loop_example_g00532_impl_firstWords), ("loop.example/g00532/impl.roundWords", Rows.laid_loop_example_g00532_impl_roundWords)] W) : W.rangeAt 0 0 (u32s firsts) ∧ W.rangeAt 1 0 (u32s consts) := by
  rw [MakeChecks.laidMetH_plain _ _ _ (by kernel_rfl)] at h
  have r0 := Lib.laidMet.reads h (.head _)
  have r1 := Lib.laidMet.reads h (.tail _ (.head _))
  obtain ⟨g0, t0, cs0, f0, p0, hg0, ht0, hv0, hd0⟩ := r0
  obtain ⟨g1, t1, cs1, f1, p1, hg1, ht1, hv1, hd1⟩ := r1
  obtain rfl := Option.some.inj (gFirst.symm.trans hg0)
  obtain rfl := Option.some.inj (tFirst.symm.trans ht0)
  obtain rfl := Option.some.inj (gRound.symm.trans hg1)
  obtain rfl := Option.some.inj (tRound.symm.trans ht1)
  rw [first_eq] at hd0
  rw [round_eq] at hd1
  exact ⟨Laid.arr_laid hg0 Tryd.underlying150 Tryd.underlying149 (by kernel_rfl) hv0 hd0 rfl, Laid.arr_laid hg1 Tryd.underlying173 Tryd.underlying149 (by kernel_rfl) hv1 hd1 rfl⟩
end Go.Proofs.YtmnihigackilkaaDoor.LaidK
