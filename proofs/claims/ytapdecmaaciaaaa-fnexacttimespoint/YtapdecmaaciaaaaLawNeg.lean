/-
  The walk of the law on NegPoint.
-/
import Derived.Test.YtapdecmaaciaaaaLawCrv
import Derived.Deep.Cut
namespace Go.Proofs.Ytapdecmaaciaaaa.LawNeg
open Go.ChangeShapes Go.WideShapes Go.ChangeAt Go.RowKit
open Go.Proofs.Ytapdecmaaciaaaa.Mem Go.Proofs.Ytapdecmaaciaaaa.Num Go.Proofs.Ytapdecmaaciaaaa.Mod Go.Proofs.Ytapdecmaaciaaaa.Pow Go.Proofs.Ytapdecmaaciaaaa.Kind Go.Proofs.Ytapdecmaaciaaaa.Ed Go.Proofs.Ytapdecmaaciaaaa.Grp Go.Proofs.Ytapdecmaaciaaaa.Crv Go.Proofs.Ytapdecmaaciaaaa.Crv2 Go.Proofs.Ytapdecmaaciaaaa.Crv3 Go.Proofs.Ytapdecmaaciaaaa.LawCrv
set_option linter.unusedVariables false
set_option maxRecDepth 100000
theorem if_pv (b : Bool) (x y x' y' : Int) : ∃ u v : Int, (if b then pv x y else pv x' y') = pv u v := by cases b <;> exact ⟨_, _, rfl⟩
theorem rel2 {P : Program} {f : Nat} {args : Array Value} {v : Value} (W0 : World) (C : ∀ W, Calls P f args W fun e w' => e = .returned v ∧ Below W.heap.size W w') (W : World) (h : Below W0.heap.size W0 W) :
    Calls P f args W fun e w' => e = .returned v ∧ Below W.heap.size W w' ∧ Below W0.heap.size W0 w' := (C W).mono fun e w' q => ⟨q.1, q.2, then_ (n := 0) h q.2⟩
theorem xa_of {v w1 : World} {o : Obj} (b : Below (v.alloc o).heap.size (v.alloc o) w1) : w1.heap[v.heap.size]? = some o := bx (nw1 v o) b
theorem xa_drew {v w1 : World} {o : Obj} (b : Below (v.alloc o).drew.heap.size (v.alloc o).drew w1) : w1.heap[v.heap.size]? = some o := bx (W := (v.alloc o).drew) (nw1 v o) b
theorem heap_set2 {v : World} {a t : Nat} {x y x' y' : Value} (h : v.heap[a]? = some (.cells #[x', y'] t)) : ((v.setCell ⟨a, 0, none⟩ x).setCell ⟨a, 1, none⟩ y).heap[a]? = some (.cells #[x, y] t) := by
  have h1 := heap_setCell_same v a 0 #[x', y'] t x h
  have h2 := heap_setCell_same (v.setCell ⟨a, 0, none⟩ x) a 1 _ t y h1
  simpa using h2
theorem cell_set2 {v : World} {a b i : Nat} {x y r : Value} (h : v.cell? ⟨b, i, none⟩ = some r) (hne : b ≠ a) : ((v.setCell ⟨a, 0, none⟩ x).setCell ⟨a, 1, none⟩ y).cell? ⟨b, i, none⟩ = some r := by
  have e : ((v.setCell ⟨a, 0, none⟩ x).setCell ⟨a, 1, none⟩ y).heap[b]? = v.heap[b]? := by
    rw [heap_setCell_other _ _ _ _ hne, heap_setCell_other _ _ _ _ hne]
  rw [← h]; simp only [World.cell?, e]
namespace N
set_option maxHeartbeats 2000000 in
theorem walk (P D X Y : Int) (w0 : (Lit.int .i64 P).wf = true) (w1 : (Lit.int .i64 D).wf = true) (w2 : (Lit.int .i64 X).wf = true) (w3 : (Lit.int .i64 Y).wf = true) (w : World) :
    Calls Try.prog 5 #[pv P D, pv X Y] w fun e w' => e = .returned (.bool true) ∧ Below w.heap.size w w' := by
  clear w0 w1 w2 w3
  have C1 := Lib.hid (fun W => specNeg P D X Y W)
  have C2 := Lib.hid (fun W => implNeg P D X Y W)
  have T := Lib.hid (fun W => toCurve P D W)
  have Ua := Lib.hid (fun W => toPoint X Y W)
  have Q := Lib.hid (fun X Y W => eqPoint X Y W)
  generalize okA P D X Y = bb at *
  obtain ⟨uu, vv, hv⟩ := if_pv bb (-X % P) Y 0 0
  rw [hv] at C1 C2
  clear hv
  unfold pv at *
  go_enter Try.func5, Try.ntmps5
  go_wp2_with fail
  obtain ⟨k0, k1⟩ := nw2 w (.cells #[.int .i64 P, .int .i64 D] 23) (.cells #[.int .i64 X, .int .i64 Y] 29)
  have B0 := Lib.hid (al2 w (.cells #[.int .i64 P, .int .i64 D] 23) (.cells #[.int .i64 X, .int .i64 Y] 29))
  generalize World.alloc (World.alloc w _) _ = W0 at *
  have H0 := Lib.hid k0
  have H1 := Lib.hid k1
  have z0 : w.heap.size + 1 < W0.heap.size := bx_lt k1
  clear k0 k1
  go_cut [5, 6] from 9 (fun s5 s6 wc => ∃ a, s5 = .pointer (some ⟨a, 0, none⟩) ∧ s6 = .bool bb ∧ Below W0.heap.size W0 wc ∧ W0.heap.size ≤ a ∧ wc.heap[a]? = some (.cells #[.int .i64 uu, .int .i64 vv] 32))
  case first =>
    have RT := Lib.hid (rel2 W0 T.out)
    have RUa := Lib.hid (rel2 W0 Ua.out)
    have RS := Lib.hid (rel2 W0 C1.out)
    obtain ⟨c0, c1⟩ := row2 H0.out
    obtain ⟨c2, c3⟩ := row2 H1.out
    have BW := Below.refl W0.heap.size W0
    have BD : Below W0.heap.size W0 W0.drew := BW.drew
    clear T C1 C2 Ua
    go_region_held3 (fun w' => w'.cell? ⟨w.heap.size, 0, none⟩ = some (.int .i64 P) ∧ w'.cell? ⟨w.heap.size, 1, none⟩ = some (.int .i64 D) ∧ w'.cell? ⟨w.heap.size + 1, 0, none⟩ = some (.int .i64 X) ∧ w'.cell? ⟨w.heap.size + 1, 1, none⟩ = some (.int .i64 Y))
      (first | (refine ⟨?_, ?_, ?_, ?_⟩ <;> with_reducible assumption) | (refine ⟨?_, ?_, ?_, ?_⟩ <;> (refine cell_set2 ?_ ?_; with_reducible assumption; omega)) | (go_keep; done) | (simp [*, go_sem]; done))
      (first
        | (go_at_call 16; (with_reducible refine (RT.out _ ?hb).mono ?_); (case hb => first | with_reducible assumption | (refine Below.alloc ?_ ?_ _; with_reducible assumption; exact Below.size (by with_reducible assumption)) | (refine Below.drew (Below.alloc ?_ ?_ _); with_reducible assumption; exact Below.size (by with_reducible assumption))); rintro e vt ⟨rfl, dt, bt⟩; obtain ⟨pt0, pt1⟩ := row2 (bx H0.out bt); obtain ⟨pt2, pt3⟩ := row2 (bx H1.out bt); have zt := Nat.lt_of_lt_of_le z0 bt.size; (first | (have xt := xa_of (by with_reducible exact dt)) | (have xt := xa_drew (by with_reducible exact dt)) | skip))
        | (go_at_call 19; (with_reducible refine (RUa.out _ ?hb).mono ?_); (case hb => first | with_reducible assumption | (refine Below.alloc ?_ ?_ _; with_reducible assumption; exact Below.size (by with_reducible assumption)) | (refine Below.drew (Below.alloc ?_ ?_ _); with_reducible assumption; exact Below.size (by with_reducible assumption))); rintro e vu ⟨rfl, du, bu⟩; obtain ⟨pu0, pu1⟩ := row2 (bx H0.out bu); obtain ⟨pu2, pu3⟩ := row2 (bx H1.out bu); have zu := Nat.lt_of_lt_of_le z0 bu.size; (first | (have xu := xa_of (by with_reducible exact du)) | (have xu := xa_drew (by with_reducible exact du)) | (have xu := bx xt du) | skip))
        | (go_at_call 21; (with_reducible refine (RS.out _ ?hb).mono ?_); (case hb => first | with_reducible assumption | (refine Below.alloc ?_ ?_ _; with_reducible assumption; exact Below.size (by with_reducible assumption)) | (refine Below.drew (Below.alloc ?_ ?_ _); with_reducible assumption; exact Below.size (by with_reducible assumption))); rintro e vs ⟨rfl, ds, bs⟩; obtain ⟨ps0, ps1⟩ := row2 (bx H0.out bs); obtain ⟨ps2, ps3⟩ := row2 (bx H1.out bs); have zs := Nat.lt_of_lt_of_le z0 bs.size; (first | (have xs := xa_of (by with_reducible exact ds)) | (have xs := xa_drew (by with_reducible exact ds)) | (have xs := bx xu ds) | (have xs := bx xt ds) | skip); (first | (obtain ⟨y0, y1⟩ := row2 xs; obtain ⟨f0, f1⟩ := frz2 xs; have zx := bx_lt xs) | skip)))
    all_goals
      go_wp2
      go_meet
      case rel => first | exact ⟨_, rfl, rfl, bs.alloc bs.size _, bs.size, nw1 _ _⟩ | exact ⟨_, rfl, rfl, (bs.setCell (by first | exact bu.size | exact bt.size | exact Nat.le_refl _ | (simp; done)) _).setCell (by first | exact bu.size | exact bt.size | exact Nat.le_refl _ | (simp; done)) _, (by first | exact bu.size | exact bt.size | exact Nat.le_refl _ | (simp; done)), heap_set2 xs⟩ | exact ⟨_, rfl, rfl, ((bs.setCell (by first | exact bu.size | exact bt.size | exact Nat.le_refl _ | (simp; done)) _).setCell (by first | exact bu.size | exact bt.size | exact Nat.le_refl _ | (simp; done)) _).drew, (by first | exact bu.size | exact bt.size | exact Nat.le_refl _ | (simp; done)), heap_set2 xs⟩
  case rest =>
    obtain ⟨a1, rfl, rfl, BW, la, K1⟩ := hcut
    have B1 := Lib.hid (then_ (n := 0) B0.out BW)
    have z1 := Nat.lt_of_lt_of_le z0 BW.size
    have H0 := Lib.hid (bx H0.out BW)
    have H1 := Lib.hid (bx H1.out BW)
    have H9 := Lib.hid K1
    clear K1
    clear BW z0 C1 B0
    generalize wc = V1 at *
    have z0 := z1
    clear z1
    go_wp2_with fail
    go_cut [7, 8] from 9 (fun s7 s8 wc => ∃ a, s7 = .pointer (some ⟨a, 0, none⟩) ∧ s8 = .bool bb ∧ Below V1.heap.size V1 wc ∧ V1.heap.size ≤ a ∧ wc.heap[a]? = some (.cells #[.int .i64 uu, .int .i64 vv] 32))
    case first =>
      have RT := Lib.hid (rel2 V1 T.out)
      have RUa := Lib.hid (rel2 V1 Ua.out)
      have RS := Lib.hid (rel2 V1 C2.out)
      obtain ⟨c0, c1⟩ := row2 H0.out
      obtain ⟨c2, c3⟩ := row2 H1.out
      have BW := Below.refl V1.heap.size V1
      have BD : Below V1.heap.size V1 V1.drew := BW.drew
      clear T C2 Ua
      go_region_held3 (fun w' => w'.cell? ⟨w.heap.size, 0, none⟩ = some (.int .i64 P) ∧ w'.cell? ⟨w.heap.size, 1, none⟩ = some (.int .i64 D) ∧ w'.cell? ⟨w.heap.size + 1, 0, none⟩ = some (.int .i64 X) ∧ w'.cell? ⟨w.heap.size + 1, 1, none⟩ = some (.int .i64 Y))
        (first | (refine ⟨?_, ?_, ?_, ?_⟩ <;> with_reducible assumption) | (refine ⟨?_, ?_, ?_, ?_⟩ <;> (refine cell_set2 ?_ ?_; with_reducible assumption; omega)) | (go_keep; done) | (simp [*, go_sem]; done))
        (first
          | (go_at_call 16; (with_reducible refine (RT.out _ ?hb).mono ?_); (case hb => first | with_reducible assumption | (refine Below.alloc ?_ ?_ _; with_reducible assumption; exact Below.size (by with_reducible assumption)) | (refine Below.drew (Below.alloc ?_ ?_ _); with_reducible assumption; exact Below.size (by with_reducible assumption))); rintro e vt ⟨rfl, dt, bt⟩; obtain ⟨pt0, pt1⟩ := row2 (bx H0.out bt); obtain ⟨pt2, pt3⟩ := row2 (bx H1.out bt); have zt := Nat.lt_of_lt_of_le z0 bt.size; (first | (have xt := xa_of (by with_reducible exact dt)) | (have xt := xa_drew (by with_reducible exact dt)) | skip))
          | (go_at_call 19; (with_reducible refine (RUa.out _ ?hb).mono ?_); (case hb => first | with_reducible assumption | (refine Below.alloc ?_ ?_ _; with_reducible assumption; exact Below.size (by with_reducible assumption)) | (refine Below.drew (Below.alloc ?_ ?_ _); with_reducible assumption; exact Below.size (by with_reducible assumption))); rintro e vu ⟨rfl, du, bu⟩; obtain ⟨pu0, pu1⟩ := row2 (bx H0.out bu); obtain ⟨pu2, pu3⟩ := row2 (bx H1.out bu); have zu := Nat.lt_of_lt_of_le z0 bu.size; (first | (have xu := xa_of (by with_reducible exact du)) | (have xu := xa_drew (by with_reducible exact du)) | (have xu := bx xt du) | skip))
          | (go_at_call 22; (with_reducible refine (RS.out _ ?hb).mono ?_); (case hb => first | with_reducible assumption | (refine Below.alloc ?_ ?_ _; with_reducible assumption; exact Below.size (by with_reducible assumption)) | (refine Below.drew (Below.alloc ?_ ?_ _); with_reducible assumption; exact Below.size (by with_reducible assumption))); rintro e vs ⟨rfl, ds, bs⟩; obtain ⟨ps0, ps1⟩ := row2 (bx H0.out bs); obtain ⟨ps2, ps3⟩ := row2 (bx H1.out bs); have zs := Nat.lt_of_lt_of_le z0 bs.size; (first | (have xs := xa_of (by with_reducible exact ds)) | (have xs := xa_drew (by with_reducible exact ds)) | (have xs := bx xu ds) | (have xs := bx xt ds) | skip); (first | (obtain ⟨y0, y1⟩ := row2 xs; obtain ⟨f0, f1⟩ := frz2 xs; have zx := bx_lt xs) | skip)))
      all_goals
        go_wp2
        go_meet
        case rel => first | exact ⟨_, rfl, rfl, bs.alloc bs.size _, bs.size, nw1 _ _⟩ | exact ⟨_, rfl, rfl, (bs.setCell (by first | exact bu.size | exact bt.size | exact Nat.le_refl _ | (simp; done)) _).setCell (by first | exact bu.size | exact bt.size | exact Nat.le_refl _ | (simp; done)) _, (by first | exact bu.size | exact bt.size | exact Nat.le_refl _ | (simp; done)), heap_set2 xs⟩ | exact ⟨_, rfl, rfl, ((bs.setCell (by first | exact bu.size | exact bt.size | exact Nat.le_refl _ | (simp; done)) _).setCell (by first | exact bu.size | exact bt.size | exact Nat.le_refl _ | (simp; done)) _).drew, (by first | exact bu.size | exact bt.size | exact Nat.le_refl _ | (simp; done)), heap_set2 xs⟩
    case rest =>
      obtain ⟨a2, rfl, rfl, BW, la2, K2⟩ := hcut
      have H8 := Lib.hid (bx H9.out BW)
      have H7 := Lib.hid K2
      obtain ⟨e0, e1⟩ := row2 H8.out
      obtain ⟨e2, e3⟩ := row2 H7.out
      have B2 := Lib.hid (then_ (n := 0) B1.out BW)
      clear BW K2 la la2 z0 H9 C2 T Ua
      go_wp2_with fail
      refine (Q.out _ _ _).mono ?_
      rintro e v5 ⟨rfl, b5⟩
      have B := then_ (n := 0) B2.out b5
      clear b5 B2 e0 e1 e2 e3
      go_wp2
      go_ret
      exact ⟨rfl, B⟩
end N
end Go.Proofs.Ytapdecmaaciaaaa.LawNeg
