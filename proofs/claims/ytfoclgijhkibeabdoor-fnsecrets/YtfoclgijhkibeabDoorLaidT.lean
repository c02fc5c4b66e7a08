/-
  What the listed variables give where numerals are written too: the program's two tables of words and the library's table of powers of ten.
-/
import Derived.Test.YtfoclgijhkibeabDoorLaid
import Derived.Test.YtfoclgijhkibeabDoorShaComp
import Derived.Test.YtfoclgijhkibeabDoorCha
import Derived.Lib.LaidU8
import Derived.Lib.LaidTab
namespace Go.Proofs.YtfoclgijhkibeabDoor.LaidT
open Go.ChangeShapes Go.WideShapes Go.ChangeAt Go.RowKit
open Go.Proofs.YtfoclgijhkibeabDoor.Mem Go.Proofs.YtfoclgijhkibeabDoor.Words Go.Proofs.YtfoclgijhkibeabDoor.ShaComp Go.Proofs.YtfoclgijhkibeabDoor.Cha
set_option linter.unusedVariables false
set_option maxRecDepth 100000
theorem gRound : Tryd.prog.globalNamed "loop.example/g00532/impl.roundWords" = some 1 := by kernel_rfl
theorem tRound : (Tryd.prog.globals[1]?).map (·.type) = some 149 := by kernel_rfl
theorem round_eq : (Rows.laid_loop_example_g00532_impl_roundWords : DataW Unit) = .agg (consts.map fun z => DataW.lit (Lit.int .u32 z)) := by kernel_rfl
theorem gFirst : Tryd.prog.globalNamed "loop.example/g00532/impl.firstWords" = some 0 := by kernel_rfl
theorem tFirst : (Tryd.prog.globals[0]?).map (·.type) = some 108 := by kernel_rfl
theorem first_eq : (Rows.laid_loop_example_g00532_impl_firstWords : DataW Unit) = .agg (firsts.map fun z => DataW.lit (Lit.int .u32 z)) := by kernel_rfl
theorem tPow : (Tryd.prog.globals[5]?).map (·.type) = some 168 := by kernel_rfl
theorem pow_eq : (Rows.laid_internal_strconv_uint64pow10 : DataW Unit) = Lib.tabData .u64 Lib.pow10Tab := by kernel_rfl
def five : List (String × DataW Unit) := [("math/bits.deBruijn32tab", Rows.laid_math_bits_deBruijn32tab), ("math/bits.deBruijn64tab", Rows.laid_math_bits_deBruijn64tab), ("internal/strconv.uint64pow10", Rows.laid_internal_strconv_uint64pow10), ("loop.example/g00532/impl.firstWords", Rows.laid_loop_example_g00532_impl_firstWords), ("loop.example/g00532/impl.roundWords", Rows.laid_loop_example_g00532_impl_roundWords)]
theorem of {W : World} (h : laidMetH Tryd.prog five W) : Tb W := by
  unfold five at h
  rw [MakeChecks.laidMetH_plain _ _ _ (by kernel_rfl)] at h
  have rp := Lib.laidMet.reads h (.tail _ (.tail _ (.head _)))
  have r0 := Lib.laidMet.reads h (.tail _ (.tail _ (.tail _ (.head _))))
  have r1 := Lib.laidMet.reads h (.tail _ (.tail _ (.tail _ (.tail _ (.head _)))))
  obtain ⟨gp, tp, csp, fp, pp, hgp, htp, hvp, hdp⟩ := rp
  obtain ⟨g0, t0, cs0, f0, p0, hg0, ht0, hv0, hd0⟩ := r0
  obtain ⟨g1, t1, cs1, f1, p1, hg1, ht1, hv1, hd1⟩ := r1
  obtain rfl := Option.some.inj (gPow.symm.trans hgp)
  obtain rfl := Option.some.inj (tPow.symm.trans htp)
  obtain rfl := Option.some.inj (gFirst.symm.trans hg0)
  obtain rfl := Option.some.inj (tFirst.symm.trans ht0)
  obtain rfl := Option.some.inj (gRound.symm.trans hg1)
  obtain rfl := Option.some.inj (tRound.symm.trans ht1)
  rw [first_eq] at hd0
  rw [round_eq] at hd1
  rw [pow_eq] at hdp
  refine ⟨Laid.arr_laid hg0 Tryd.underlying108 Tryd.underlying107 (by kernel_rfl) hv0 hd0 rfl, Laid.arr_laid hg1 Tryd.underlying149 Tryd.underlying107 (by kernel_rfl) hv1 hd1 rfl, ?_⟩
  have := Lib.cells_of_tab Tryd.underlying168 Tryd.underlying71 (by kernel_rfl) (by kernel_rfl) hdp
  unfold Lib.TabIs
  rw [hvp, ← this]
end Go.Proofs.YtfoclgijhkibeabDoor.LaidT
