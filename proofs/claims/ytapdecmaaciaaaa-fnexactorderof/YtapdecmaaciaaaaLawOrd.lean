/-
  The walk of the law on OrderOf.
-/
import Derived.Test.YtapdecmaaciaaaaLawCrv
import Derived.Deep.Cut
import Derived.Test.YtapdecmaaciaaaaLawNeg
import Derived.Test.YtapdecmaaciaaaaOrdP
namespace Go.Proofs.Ytapdecmaaciaaaa.LawOrd
open Go.ChangeShapes Go.WideShapes Go.ChangeAt Go.RowKit
open Go.Proofs.Ytapdecmaaciaaaa.Mem Go.Proofs.Ytapdecmaaciaaaa.Num Go.Proofs.Ytapdecmaaciaaaa.Mod Go.Proofs.Ytapdecmaaciaaaa.Pow Go.Proofs.Ytapdecmaaciaaaa.Kind Go.Proofs.Ytapdecmaaciaaaa.Ed Go.Proofs.Ytapdecmaaciaaaa.Grp Go.Proofs.Ytapdecmaaciaaaa.Crv Go.Proofs.Ytapdecmaaciaaaa.Crv2 Go.Proofs.Ytapdecmaaciaaaa.Crv3 Go.Proofs.Ytapdecmaaciaaaa.LawCrv Go.Proofs.Ytapdecmaaciaaaa.LawNeg Go.Proofs.Ytapdecmaaciaaaa.OrdP
set_option linter.unusedVariables false
set_option maxRecDepth 100000
namespace R
set_option maxHeartbeats 2000000 in
theorem walk (P D X Y : Int) (w0 : (Lit.int .i64 P).wf = true) (w1 : (Lit.int .i64 D).wf = true) (w2 : (Lit.int .i64 X).wf = true) (w3 : (Lit.int .i64 Y).wf = true) (w : World) :
    Calls Try.prog 10 #[pv P D, pv X Y] w fun e w' => e = .returned (.bool true) ∧ Below w.heap.size w w' := by
  clear w0 w1 w2 w3
  have T := Lib.hid (fun W => toCurve P D W)
  have Ua := Lib.hid (fun W => toPoint X Y W)
  obtain ⟨uu, bb, c1, c2⟩ := ordBoth P D X Y
  have C1 := Lib.hid c1
  have C2 := Lib.hid c2
  clear c1 c2
  unfold pv at *
  go_enter Try.func10, Try.ntmps10
  go_wp2_with fail
  obtain ⟨k0, k1⟩ := nw2 w (.cells #[.int .i64 P, .int .i64 D] 23) (.cells #[.int .i64 X, .int .i64 Y] 29)
  have B0 := Lib.hid (al2 w (.cells #[.int .i64 P, .int .i64 D] 23) (.cells #[.int .i64 X, .int .i64 Y] 29))
  generalize World.alloc (World.alloc w _) _ = W0 at *
  have H0 := Lib.hid k0
  have H1 := Lib.hid k1
  have z0 : w.heap.size + 1 < W0.heap.size := bx_lt k1
  clear k0 k1
  go_cut [5, 6] from 9 (fun s5 s6 wc => s5 = .int .i64 uu ∧ s6 = .bool bb ∧ Below W0.heap.size W0 wc)
  case first =>
    have RT := Lib.hid (rel2 W0 T.out)
    have RUa := Lib.hid (rel2 W0 Ua.out)
    have RS := Lib.hid (rel2 W0 C1.out)
    obtain ⟨c0, c1⟩ := row2 H0.out
    obtain ⟨c2, c3⟩ := row2 H1.out
    have BW := Below.refl W0.heap.size W0
    have BD : Below W0.heap.size W0 W0.drew := BW.drew
    clear T C1 C2 Ua
    go_region_held3 (fun w' => w'.cell? ⟨w.heap.size, 0, none⟩ = some (.int .i64 P) ∧ w'.cell? ⟨w.heap.size, 1, none⟩ = some (.int .i64 D) ∧ w'.cell? ⟨w.heap.size + 1, 0, none⟩ = some (.int .i64 X) ∧ w'.cell? ⟨w.heap.size + 1, 1, none⟩ = some (.int .i64 Y))
      (first | (refine ⟨?_, ?_, ?_, ?_⟩ <;> with_reducible assumption) | (refine ⟨?_, ?_, ?_, ?_⟩ <;> (refine cell_set2 ?_ ?_; with_reducible assumption; omega)) | (go_keep; done) | (simp [*, go_sem]; done))
      (first
        | (go_at_call 16; (with_reducible refine (RT.out _ ?hb).mono ?_); (case hb => first | with_reducible assumption | (refine Below.alloc ?_ ?_ _; with_reducible assumption; exact Below.size (by with_reducible assumption)) | (refine Below.drew (Below.alloc ?_ ?_ _); with_reducible assumption; exact Below.size (by with_reducible assumption))); rintro e vt ⟨rfl, dt, bt⟩; obtain ⟨pt0, pt1⟩ := row2 (bx H0.out bt); obtain ⟨pt2, pt3⟩ := row2 (bx H1.out bt); have zt := Nat.lt_of_lt_of_le z0 bt.size)
        | (go_at_call 19; (with_reducible refine (RUa.out _ ?hb).mono ?_); (case hb => first | with_reducible assumption | (refine Below.alloc ?_ ?_ _; with_reducible assumption; exact Below.size (by with_reducible assumption)) | (refine Below.drew (Below.alloc ?_ ?_ _); with_reducible assumption; exact Below.size (by with_reducible assumption))); rintro e vu ⟨rfl, du, bu⟩; obtain ⟨pu0, pu1⟩ := row2 (bx H0.out bu); obtain ⟨pu2, pu3⟩ := row2 (bx H1.out bu); have zu := Nat.lt_of_lt_of_le z0 bu.size)
        | (go_at_call 32; (with_reducible refine (RS.out _ ?hb).mono ?_); (case hb => first | with_reducible assumption | (refine Below.alloc ?_ ?_ _; with_reducible assumption; exact Below.size (by with_reducible assumption)) | (refine Below.drew (Below.alloc ?_ ?_ _); with_reducible assumption; exact Below.size (by with_reducible assumption))); rintro e vs ⟨rfl, ds, bs⟩; obtain ⟨ps0, ps1⟩ := row2 (bx H0.out bs); obtain ⟨ps2, ps3⟩ := row2 (bx H1.out bs); have zs := Nat.lt_of_lt_of_le z0 bs.size))
    all_goals
      go_wp2
      go_meet
      case rel => exact ⟨rfl, rfl, by first | exact bs | exact bs.drew⟩
  case rest =>
    obtain ⟨rfl, rfl, BW⟩ := hcut
    have B1 := Lib.hid (then_ (n := 0) B0.out BW)
    have z1 := Nat.lt_of_lt_of_le z0 BW.size
    have H0 := Lib.hid (bx H0.out BW)
    have H1 := Lib.hid (bx H1.out BW)
    clear BW z0 C1 B0
    generalize wc = V1 at *
    have z0 := z1
    clear z1
    go_wp2_with fail
    go_cut [7, 8] from 9 (fun s7 s8 wc => s7 = .int .i64 uu ∧ s8 = .bool bb ∧ Below V1.heap.size V1 wc)
    case first =>
      have RT := Lib.hid (rel2 V1 T.out)
      have RUa := Lib.hid (rel2 V1 Ua.out)
      have RS := Lib.hid (rel2 V1 C2.out)
      obtain ⟨c0, c1⟩ := row2 H0.out
      obtain ⟨c2, c3⟩ := row2 H1.out
      have BW := Below.refl V1.heap.size V1
      have BD : Below V1.heap.size V1 V1.drew := BW.drew
      clear T C2 Ua
      go_region_held3 (fun w' => w'.cell? ⟨w.heap.size, 0, none⟩ = some (.int .i64 P) ∧ w'.cell? ⟨w.heap.size, 1, none⟩ = some (.int .i64 D) ∧ w'.cell? ⟨w.heap.size + 1, 0, none⟩ = some (.int .i64 X) ∧ w'.cell? ⟨w.heap.size + 1, 1, none⟩ = some (.int .i64 Y))
        (first | (refine ⟨?_, ?_, ?_, ?_⟩ <;> with_reducible assumption) | (refine ⟨?_, ?_, ?_, ?_⟩ <;> (refine cell_set2 ?_ ?_; with_reducible assumption; omega)) | (go_keep; done) | (simp [*, go_sem]; done))
        (first
          | (go_at_call 16; (with_reducible refine (RT.out _ ?hb).mono ?_); (case hb => first | with_reducible assumption | (refine Below.alloc ?_ ?_ _; with_reducible assumption; exact Below.size (by with_reducible assumption)) | (refine Below.drew (Below.alloc ?_ ?_ _); with_reducible assumption; exact Below.size (by with_reducible assumption))); rintro e vt ⟨rfl, dt, bt⟩; obtain ⟨pt0, pt1⟩ := row2 (bx H0.out bt); obtain ⟨pt2, pt3⟩ := row2 (bx H1.out bt); have zt := Nat.lt_of_lt_of_le z0 bt.size)
          | (go_at_call 19; (with_reducible refine (RUa.out _ ?hb).mono ?_); (case hb => first | with_reducible assumption | (refine Below.alloc ?_ ?_ _; with_reducible assumption; exact Below.size (by with_reducible assumption)) | (refine Below.drew (Below.alloc ?_ ?_ _); with_reducible assumption; exact Below.size (by with_reducible assumption))); rintro e vu ⟨rfl, du, bu⟩; obtain ⟨pu0, pu1⟩ := row2 (bx H0.out bu); obtain ⟨pu2, pu3⟩ := row2 (bx H1.out bu); have zu := Nat.lt_of_lt_of_le z0 bu.size)
          | (go_at_call 33; (with_reducible refine (RS.out _ ?hb).mono ?_); (case hb => first | with_reducible assumption | (refine Below.alloc ?_ ?_ _; with_reducible assumption; exact Below.size (by with_reducible assumption)) | (refine Below.drew (Below.alloc ?_ ?_ _); with_reducible assumption; exact Below.size (by with_reducible assumption))); rintro e vs ⟨rfl, ds, bs⟩; obtain ⟨ps0, ps1⟩ := row2 (bx H0.out bs); obtain ⟨ps2, ps3⟩ := row2 (bx H1.out bs); have zs := Nat.lt_of_lt_of_le z0 bs.size))
      all_goals
        go_wp2
        go_meet
        case rel => exact ⟨rfl, rfl, by first | exact bs | exact bs.drew⟩
    case rest =>
      obtain ⟨rfl, rfl, BW⟩ := hcut
      have B := then_ (n := 0) B1.out BW
      clear BW z0 C2 T Ua
      go_wp2
      go_ret
      exact ⟨rfl, B⟩
end R
end Go.Proofs.Ytapdecmaaciaaaa.LawOrd
