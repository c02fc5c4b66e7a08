/-
  What the laws of chapter 5 draw: points.
-/
import Derived.Test.YtapdecmaaciaaaaDrawC
import Derived.Deep.CutRange
import Derived.Deep.RegionHeld3
namespace Go.Proofs.Ytapdecmaaciaaaa.DrawP
open Go.ChangeShapes Go.WideShapes Go.ChangeAt Go.RowKit
open Go.Proofs.Ytapdecmaaciaaaa.Mem Go.Proofs.Ytapdecmaaciaaaa.Ints Go.Proofs.Ytapdecmaaciaaaa.Cur Go.Proofs.Ytapdecmaaciaaaa.DrawM Go.Proofs.Ytapdecmaaciaaaa.Num Go.Proofs.Ytapdecmaaciaaaa.Crv Go.Proofs.Ytapdecmaaciaaaa.Crv2 Go.Proofs.Ytapdecmaaciaaaa.Crv3 Go.Proofs.Ytapdecmaaciaaaa.Times Go.Proofs.Ytapdecmaaciaaaa.Shrt2 Go.Proofs.Ytapdecmaaciaaaa.DrawC
set_option linter.unusedVariables false
set_option maxRecDepth 100000
theorem relP {P : Program} {f : Nat} {args : Array Value} {v : Value} (W0 : World) (C : ∀ W, Calls P f args W fun e w' => e = .returned v ∧ Below W.heap.size W w') (W : World) (h : Below W0.heap.size W0 W) :
    Calls P f args W fun e w' => e = .returned v ∧ Below W.heap.size W w' ∧ Below W0.heap.size W0 w' := (C W).mono fun e w' q => ⟨q.1, q.2, then_ (n := 0) h q.2⟩
theorem xaP {v w1 : World} {o : Obj} (b : Below (v.alloc o).heap.size (v.alloc o) w1) : w1.heap[v.heap.size]? = some o := bx (nw1 v o) b
theorem xaD {v w1 : World} {o : Obj} (b : Below (v.alloc o).drew.heap.size (v.alloc o).drew w1) : w1.heap[v.heap.size]? = some o := bx (W := (v.alloc o).drew) (nw1 v o) b
theorem cellP {v : World} {a b i : Nat} {x y r : Value} (h : v.cell? ⟨b, i, none⟩ = some r) (hne : b ≠ a) : ((v.setCell ⟨a, 0, none⟩ x).setCell ⟨a, 1, none⟩ y).cell? ⟨b, i, none⟩ = some r := by
  have e := set2_other (v := v) (x := x) (y := y) hne
  rw [← h]; simp only [World.cell?, e]
/-- Some point. -/
def SomeP (p B K : Nat) (w : World) (e : Ending) (w' : World) : Prop := ∃ X Y : Int, e = .returned (pv X Y) ∧ Cur w' p B (K + 20) ∧ Upd p w w'
set_option maxHeartbeats 2000000 in
theorem point (p B K : Nat) (P D : Int) (w : World) (hK : K ≤ 900000) (hP0 : 0 ≤ P) (hP1 : P ≤ 211) (hc : Cur w p B K) :
    Calls Try.prog 65 #[.pointer (some ⟨p, 0, none⟩), pv P D] w (SomeP p B K w) := by
  have CG := Lib.hid (fun W => specGood P D W)
  have CO := Lib.hid (fun n => shortBoth P D n)
  have hp := hc.lt
  have kA := al2 w (.cells #[.int .i64 P, .int .i64 D] 25) (.cells #[.int .i64 0, .int .i64 0] 32)
  obtain ⟨k0, k1⟩ := nw2 w (.cells #[.int .i64 P, .int .i64 D] 25) (.cells #[.int .i64 0, .int .i64 0] 32)
  have hc0 := hc.below kA hp
  have hu0 := upd_of (Upd.refl p w) kA
  have G0 : Hid (Bx _ w.heap.size 25 P D) := Lib.hid k0
  have G1 : Hid (Bx _ (w.heap.size + 1) 32 0 0) := Lib.hid k1
  clear k0 k1 kA
  generalize okC P D = ok at *
  unfold pv at *
  go_enter Try.func65, Try.ntmps65
  go_wp2_with fail
  generalize World.alloc (World.alloc w _) _ = W0 at *
  refine (CG.out W0).mono ?_
  rintro e w1 ⟨rfl, b1⟩
  have G0 := Lib.hid (G0.out.below b1)
  have G1 := Lib.hid (G1.out.below b1)
  have GC := Lib.hid (hc0.below b1 hc0.lt)
  have GU := Lib.hid (upd_of hu0 b1)
  clear b1 hc0 hu0
  obtain ⟨c0, c1⟩ := G0.out.cells
  cases ok
  · go_wp2_with fail
    refine (pick p B (K) 9 w1 (by omega) (by omega) GC.out).mono ?_
    rintro e w5 ⟨x, rfl, x0, x1, hc5, hu5⟩
    have G1 := Lib.hid (Bx.upd G1.out hu5 (by omega))
    have hu6 := GU.out.trans hu5
    clear hu5 GC GU
    go_wp2_with fail
    refine (pick p B (K + 2) 9 w5 (by omega) (by omega) hc5).mono ?_
    rintro e w6 ⟨y, rfl, y0, y1, hc6, hu7⟩
    have G1 := Lib.hid (Bx.upd G1.out hu7 (by omega))
    have hu := hu6.trans hu7
    obtain ⟨c2, c3⟩ := G1.out.cells
    obtain ⟨f2, f3⟩ := G1.out.frz
    have hz := G1.out.lt
    have hx : x ≤ 8 := by omega
    have RC : Hid (SomeP p B K w (.returned (pv (x - 1) y)) ((w6.setCell ⟨w.heap.size + 1, 0, none⟩ (.int .i64 (x - 1))).setCell ⟨w.heap.size + 1, 1, none⟩ (.int .i64 y))) := Lib.hid ⟨x - 1, y, rfl, (cur_set (cur_set hc6 (by omega) 0 _) (by omega) 1 _).mono (by omega), upd_set (upd_set hu (by omega) 0 _) (by omega) 1 _⟩
    clear x1 y1 hc5 hc6 hu6 hu7 hu
    go_wp2
    exact bodyPost_ret (v := .agg #[.int .i64 (x - 1), .int .i64 y]) (by simp [results, Try.results65, go_sem, c2, c3]) rfl RC.out
  · go_wp2_with fail
    refine (one p B K 20 w1 (by omega) (by omega) GC.out).mono ?_
    rintro e w2 ⟨b, rfl, hc2, hu2⟩
    have G0 := Lib.hid (Bx.upd G0.out hu2 (by omega))
    have G1 := Lib.hid (Bx.upd G1.out hu2 (by omega))
    have GC := Lib.hid hc2
    have GU := Lib.hid (GU.out.trans hu2)
    clear hc2 hu2 c0 c1
    obtain ⟨c0, c1⟩ := G0.out.cells
    cases b
    · go_wp2_with fail
      refine (pick p B (K + 2) (2 * P) w2 (by omega) (by omega) GC.out).mono ?_
      rintro e w3 ⟨fr, rfl, fr0, fr1, hc3, hu3⟩
      have hfr : fr ≤ 422 := by omega
      have G0 := Lib.hid (Bx.upd G0.out hu3 (by omega))
      have G1 := Lib.hid (Bx.upd G1.out hu3 (by omega))
      have GC := Lib.hid (hc3.mono (show K + 2 + 2 ≤ K + 8 by omega))
      have GU := Lib.hid (GU.out.trans hu3)
      clear hc3 hu3 c0 c1 fr1
      go_wp2_with fail
      go_loopw [6] (fun v wr => ∃ k : Nat, k ≤ 422 ∧ v = .int .i64 k ∧ Hid (Bx wr w.heap.size 25 P D) ∧ Hid (Bx wr (w.heap.size + 1) 32 0 0) ∧ Hid (Cur wr p B (K + 8)) ∧ Hid (Upd p w wr)) (fun v _ => 500 - (intOf v).toNat)
      case atStart => exact ⟨0, by omega, rfl, G0, G1, GC, GU⟩
      case round =>
        obtain ⟨k, hk, rfl, F0, F1, FC, FU⟩ := hrel
        clear G0 G1 GC GU
        obtain ⟨c0, c1⟩ := F0.out.cells
        by_cases hlt : (k : Int) < 2 * P
        · have m0 := Int.emod_nonneg (fr + k) (show 2 * P ≠ 0 by omega)
          have m1 := Int.emod_lt_of_pos (fr + k) (show 0 < 2 * P by omega)
          obtain ⟨u, v, ok, h1, _⟩ := CO.out ((fr + k) % (2 * P))
          have C := Lib.hid h1
          clear h1
          unfold pv at C
          have hw1 : IntKind.i64.wrap (fr + k) = fr + k := IntWalk.i64_in _ (by omega)
          have hw2 : IntKind.i64.wrap (2 * P) = 2 * P := IntWalk.i64_in _ (by omega)
          have hm : (fr + (k : Int)).tmod (2 * P) = (fr + k) % (2 * P) := Int.tmod_eq_emod_of_nonneg (by omega)
          have hp0 : ¬ 2 * P = 0 := by omega
          have hp1 : ¬ P = 0 := by omega
          go_wp2_with fail
          go_cut [7, 8] from 34 to 47 (fun s7 s8 wc => ∃ g, s7 = .pointer (some ⟨g, 0, none⟩) ∧ s8 = .bool ok ∧ Below wr.heap.size wr wc ∧ wr.heap.size ≤ g ∧ Bx wc g 32 u v)
          case first =>
            have RO := Lib.hid (relP wr C.out)
            have BD : Below wr.heap.size wr wr.drew := (Below.refl _ wr).drew
            have z0 := F1.out.lt
            clear CO CG C
            go_region_held3 (fun w' => w'.cell? ⟨w.heap.size, 0, none⟩ = some (.int .i64 P) ∧ w'.cell? ⟨w.heap.size, 1, none⟩ = some (.int .i64 D))
              (first | (refine ⟨?_, ?_⟩ <;> with_reducible assumption) | (refine ⟨?_, ?_⟩ <;> (refine cellP ?_ ?_; with_reducible assumption; omega)) | (go_keep; done) | (simp [*, go_sem]; done))
              (first
                | (go_at_call 36; (with_reducible refine (RO.out _ ?hb).mono ?_); (case hb => first | with_reducible assumption | (refine Below.alloc ?_ ?_ _; with_reducible assumption; exact Below.size (by with_reducible assumption)) | (refine Below.drew (Below.alloc ?_ ?_ _); with_reducible assumption; exact Below.size (by with_reducible assumption)) | (refine Below.drew (Below.alloc (Below.refl _ _) (Nat.le_refl _) _)) | (refine Below.alloc (Below.refl _ _) (Nat.le_refl _) _)); rintro e v1 ⟨rfl, d1, b1⟩; obtain ⟨p0, p1⟩ := (F0.out.below b1).cells; have z1 := Nat.lt_of_lt_of_le z0 b1.size; (first | (have x1 := xaP (by with_reducible exact d1)) | (have x1 := xaD (by with_reducible exact d1)) | skip); (first | (obtain ⟨y0, y1⟩ := row2 x1; obtain ⟨f0, f1⟩ := frz2 x1; have zx := bx_lt x1) | skip)))
            all_goals
              go_wp2
              go_meet
              case rel => first | exact ⟨_, rfl, rfl, b1.alloc b1.size _, b1.size, nw1 _ _⟩ | exact ⟨_, rfl, rfl, (b1.setCell (by first | exact Nat.le_refl _ | (simp; done)) _).setCell (by first | exact Nat.le_refl _ | (simp; done)) _, by first | exact Nat.le_refl _ | (simp; done), set2_same x1⟩ | exact ⟨_, rfl, rfl, ((b1.setCell (by first | exact Nat.le_refl _ | (simp; done)) _).setCell (by first | exact Nat.le_refl _ | (simp; done)) _).drew, by first | exact Nat.le_refl _ | (simp; done), set2_same x1⟩
          case rest =>
            obtain ⟨g, rfl, rfl, BW, hg, HG⟩ := hcut
            have F0 := Lib.hid (F0.out.below BW)
            have F1 := Lib.hid (F1.out.below BW)
            have FC := Lib.hid (FC.out.below BW FC.out.lt)
            have FU := Lib.hid (upd_of FU.out BW)
            have HG := Lib.hid HG
            clear BW C hw1 hw2 hm hp0 hp1 c0 c1
            cases ok
            · obtain ⟨c0, c1⟩ := F0.out.cells
              go_wp2
              go_roundw
              case rel => exact ⟨k + 1, by omega, by go_num, F0, F1, FC, FU⟩
              case measure => simp [intOf]; omega
            · obtain ⟨c0, c1⟩ := HG.out.cells
              obtain ⟨c2, c3⟩ := F1.out.cells
              obtain ⟨f2, f3⟩ := F1.out.frz
              have hz := F1.out.lt
              have RC : Hid (SomeP p B K w (.returned (pv u v)) ((wc.setCell ⟨w.heap.size + 1, 0, none⟩ (.int .i64 u)).setCell ⟨w.heap.size + 1, 1, none⟩ (.int .i64 v))) := Lib.hid ⟨u, v, rfl, (cur_set (cur_set FC.out (by omega) 0 _) (by omega) 1 _).mono (by omega), upd_set (upd_set FU.out (by omega) 0 _) (by omega) 1 _⟩
              go_wp2
              exact bodyPost_ret (v := .agg #[.int .i64 u, .int .i64 v]) (by simp [results, Try.results65, go_sem, c2, c3]) rfl RC.out
        · obtain ⟨c2, c3⟩ := F1.out.cells
          obtain ⟨f2, f3⟩ := F1.out.frz
          have hz := F1.out.lt
          have RC : Hid (SomeP p B K w (.returned (pv 0 1)) ((wr.setCell ⟨w.heap.size + 1, 0, none⟩ (.int .i64 0)).setCell ⟨w.heap.size + 1, 1, none⟩ (.int .i64 1))) := Lib.hid ⟨0, 1, rfl, (cur_set (cur_set FC.out (by omega) 0 _) (by omega) 1 _).mono (by omega), upd_set (upd_set FU.out (by omega) 0 _) (by omega) 1 _⟩
          go_wp2
          exact bodyPost_ret (v := .agg #[.int .i64 0, .int .i64 1]) (by simp [results, Try.results65, go_sem, c2, c3]) rfl RC.out
    · go_wp2_with fail
      refine (pick p B (K + 2) 9 w2 (by omega) (by omega) GC.out).mono ?_
      rintro e w5 ⟨x, rfl, x0, x1, hc5, hu5⟩
      have G1 := Lib.hid (Bx.upd G1.out hu5 (by omega))
      have hu6 := GU.out.trans hu5
      clear hu5 GC GU
      go_wp2_with fail
      refine (pick p B (K + 2 + 2) 9 w5 (by omega) (by omega) hc5).mono ?_
      rintro e w6 ⟨y, rfl, y0, y1, hc6, hu7⟩
      have G1 := Lib.hid (Bx.upd G1.out hu7 (by omega))
      have hu := hu6.trans hu7
      obtain ⟨c2, c3⟩ := G1.out.cells
      obtain ⟨f2, f3⟩ := G1.out.frz
      have hz := G1.out.lt
      have hx : x ≤ 8 := by omega
      have RC : Hid (SomeP p B K w (.returned (pv (x - 1) y)) ((w6.setCell ⟨w.heap.size + 1, 0, none⟩ (.int .i64 (x - 1))).setCell ⟨w.heap.size + 1, 1, none⟩ (.int .i64 y))) := Lib.hid ⟨x - 1, y, rfl, (cur_set (cur_set hc6 (by omega) 0 _) (by omega) 1 _).mono (by omega), upd_set (upd_set hu (by omega) 0 _) (by omega) 1 _⟩
      clear x1 y1 hc5 hc6 hu6 hu7 hu
      go_wp2
      exact bodyPost_ret (v := .agg #[.int .i64 (x - 1), .int .i64 y]) (by simp [results, Try.results65, go_sem, c2, c3]) rfl RC.out
end Go.Proofs.Ytapdecmaaciaaaa.DrawP
