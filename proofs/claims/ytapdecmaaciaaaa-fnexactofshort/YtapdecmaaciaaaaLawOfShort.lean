/-
  The walk of the law on OfShort.
-/
import Derived.Test.YtapdecmaaciaaaaLawCrv
import Derived.Test.YtapdecmaaciaaaaShrt2
namespace Go.Proofs.Ytapdecmaaciaaaa.LawOfShort
open Go.ChangeShapes Go.WideShapes Go.ChangeAt Go.RowKit
open Go.Proofs.Ytapdecmaaciaaaa.Mem Go.Proofs.Ytapdecmaaciaaaa.Num Go.Proofs.Ytapdecmaaciaaaa.Crv Go.Proofs.Ytapdecmaaciaaaa.Crv2 Go.Proofs.Ytapdecmaaciaaaa.Crv3 Go.Proofs.Ytapdecmaaciaaaa.LawCrv Go.Proofs.Ytapdecmaaciaaaa.Shrt2
set_option linter.unusedVariables false
set_option maxRecDepth 100000
namespace S
set_option maxHeartbeats 1000000 in
theorem walk (P D n : Int) (w0 : (Lit.int .i64 P).wf = true) (w1 : (Lit.int .i64 D).wf = true) (w2 : (Lit.int .i64 n).wf = true) (w : World) :
    Calls Try.prog 12 #[pv P D, .int .i64 n] w fun e w' => e = .returned (.bool true) ∧ Below w.heap.size w w' := by
  obtain ⟨uu, vv, bb, h1, h2⟩ := shortBoth P D n
  have T := Lib.hid (fun W => toCurve P D W)
  have C1 := Lib.hid h1
  have C2 := Lib.hid h2
  have Q := Lib.hid (fun X Y W => eqPoint X Y W)
  clear w0 w1 w2 h1 h2
  unfold pv at *
  go_enter Try.func12, Try.ntmps12
  go_wp2_with fail
  refine (T.out _).mono ?_
  rintro e v1 ⟨rfl, b1⟩
  have B1 := Lib.hid (then_ (n := 0) (al1 _ _) b1)
  have K1 := Lib.hid (bx (nw1 w _) b1)
  clear b1
  go_wp2_with fail
  refine (C1.out _).mono ?_
  rintro e v2 ⟨rfl, b2⟩
  have K2 := Lib.hid (bx K1.out b2)
  obtain ⟨d0, d1⟩ := row2 K2.out
  have hz2 : w.heap.size < v2.heap.size := bx_lt K2.out
  have B2 := Lib.hid (then_ (n := 0) B1.out b2)
  clear b2 K1 B1
  go_wp2_with fail
  refine (T.out _).mono ?_
  rintro e v3 ⟨rfl, b3⟩
  have K3 := Lib.hid (bx (nw1 v2 _) b3)
  have B3 := Lib.hid (then_ (n := 0) B2.out (then_ (n := 0) (al1 _ _) b3))
  clear b3 d0 d1 B2 hz2 K2
  go_wp2_with fail
  refine (C2.out _).mono ?_
  rintro e v4 ⟨rfl, b4⟩
  have K4 := Lib.hid (bx K3.out b4)
  obtain ⟨d0, d1⟩ := row2 K4.out
  have hz4 : v2.heap.size < v4.heap.size := bx_lt K4.out
  have B4 := Lib.hid (then_ (n := 0) B3.out b4)
  clear b4 K3 B3
  go_wp2_with fail
  refine (Q.out _ _ _).mono ?_
  rintro e v5 ⟨rfl, b5⟩
  have B5 := (then_ (n := 0) B4.out (then_ (n := 0) (al1 _ _) b5))
  clear b5 K4 B4 d0 d1
  go_wp2
  go_ret
  exact ⟨rfl, B5⟩
end S
end Go.Proofs.Ytapdecmaaciaaaa.LawOfShort
