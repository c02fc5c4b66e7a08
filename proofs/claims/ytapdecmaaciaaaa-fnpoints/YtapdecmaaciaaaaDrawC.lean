/-
  What the laws of chapter 5 draw: curves and points.
-/
import Derived.Test.YtapdecmaaciaaaaDrawM
import Derived.Test.YtapdecmaaciaaaaShrt2
namespace Go.Proofs.Ytapdecmaaciaaaa.DrawC
open Go.ChangeShapes Go.WideShapes Go.ChangeAt Go.RowKit
open Go.Proofs.Ytapdecmaaciaaaa.Mem Go.Proofs.Ytapdecmaaciaaaa.Ints Go.Proofs.Ytapdecmaaciaaaa.Cur Go.Proofs.Ytapdecmaaciaaaa.DrawM Go.Proofs.Ytapdecmaaciaaaa.Num Go.Proofs.Ytapdecmaaciaaaa.Crv Go.Proofs.Ytapdecmaaciaaaa.Crv2 Go.Proofs.Ytapdecmaaciaaaa.Crv3 Go.Proofs.Ytapdecmaaciaaaa.Times Go.Proofs.Ytapdecmaaciaaaa.Shrt2
set_option linter.unusedVariables false
set_option maxRecDepth 100000
theorem upd_of {p : Nat} {a b c : World} (h : Upd p a b) (k : Below b.heap.size b c) : Upd p a c := h.trans (Upd.of_below k (Nat.le_refl _))
theorem Bx.upd {p : Nat} {a b : World} {k t : Nat} {x y : Int} (h : Bx a k t x y) (u : Upd p a b) (hk : k ≠ p) : Bx b k t x y := (u.block k h.lt hk).trans h
theorem upd_set {p : Nat} {w wr : World} (h : Upd p w wr) {g : Nat} (hg : w.heap.size ≤ g) (i : Nat) (u : Value) : Upd p w (wr.setCell ⟨g, i, none⟩ u) :=
  ⟨h.os, h.tape, h.output, by rw [World.size_setCell]; exact h.size, fun k hk hp => (heap_setCell_other _ _ _ _ (by show k ≠ g; omega)).trans (h.block k hk hp)⟩
theorem cur_set {p B K : Nat} {w : World} (h : Cur w p B K) {g : Nat} (hg : p < g) (i : Nat) (u : Value) : Cur (w.setCell ⟨g, i, none⟩ u) p B K :=
  h.below ((Below.refl g w).setCell (Nat.le_refl g) u) hg
theorem Bx.set1 {wr : World} {b t : Nat} {x y y' : Int} (h : Bx wr b t x y) : Bx (wr.setCell ⟨b, 1, none⟩ (.int .i64 y')) b t x y' := by
  have h1 := heap_setCell_same wr b 1 _ _ (.int .i64 y') h
  simpa [Bx] using h1
theorem Bx.oth1 {wr : World} {b t g i : Nat} {x y : Int} {u : Value} (h : Bx wr b t x y) (hne : b ≠ g) : Bx (wr.setCell ⟨g, i, none⟩ u) b t x y := (heap_setCell_other _ _ _ _ hne).trans h
/-- Some curve with small numbers. -/
def SomeC (p B K : Nat) (w : World) (e : Ending) (w' : World) : Prop := ∃ P D : Int, e = .returned (pv P D) ∧ 0 ≤ P ∧ P ≤ 211 ∧ 0 ≤ D ∧ D ≤ 211 ∧ Cur w' p B (K + 20) ∧ Upd p w w'
set_option maxHeartbeats 2000000 in
theorem curve (p B K : Nat) (w : World) (hK : K ≤ 900000) (hc : Cur w p B K) :
    Calls Try.prog 64 #[.pointer (some ⟨p, 0, none⟩)] w (SomeC p B K w) := by
  have CG := Lib.hid (fun P D W => specGood P D W)
  have hp := hc.lt
  have k0 : Bx (w.alloc (.cells #[.int .i64 0, .int .i64 0] 25)) w.heap.size 25 0 0 := nw1 w _
  have hc0 := cur_alloc hc (.cells #[.int .i64 0, .int .i64 0] 25)
  have hu0 := upd_alloc (Upd.refl p w) (.cells #[.int .i64 0, .int .i64 0] 25)
  have CA := amongLit p B K _ [5, 7, 13, 17, 29, 37, 101, 197] (w.alloc (.cells #[.int .i64 0, .int .i64 0] 25)) (by omega) (by simp) (by simp) rfl hc0
  rw [World.size_alloc] at CA
  have CA := Lib.hid CA
  unfold pv at *
  go_enter Try.func64, Try.ntmps64
  go_wp2_with fail
  refine CA.out.mono ?_
  rintro e w1 ⟨z, rfl, hz, hc1, hu1⟩
  have H0 := Lib.hid (Bx.upd k0 hu1 (by omega))
  have hu := hu0.trans hu1
  have hb : 5 ≤ z ∧ z ≤ 197 := by simp at hz; omega
  obtain ⟨z0, z1⟩ := hb
  have hz1 := H0.out.lt
  clear hz hc0 hu0 hu1 CA k0
  have k1 : Bx (w1.alloc (.cells #[.int .i64 z, .int .i64 0] 25)) w1.heap.size 25 z 0 := nw1 w1 _
  have kA := al1 w1 (.cells #[.int .i64 z, .int .i64 0] 25)
  have H0 := Lib.hid (H0.out.below kA)
  have hc2 := cur_alloc hc1 (.cells #[.int .i64 z, .int .i64 0] 25)
  have hu2 := upd_of hu kA
  go_wp2_with fail
  clear kA hc1 hu
  generalize World.alloc w1 _ = W1 at *
  generalize w1.heap.size = g at *
  refine (pick p B (K + 2) (z - 2) W1 (by omega) (by omega) hc2).mono ?_
  rintro e w2 ⟨x, rfl, x0, x1, hc3, hu3⟩
  have H1 := Lib.hid (Bx.upd k1 hu3 (by omega))
  have H0 := Lib.hid (Bx.upd H0.out hu3 (by omega))
  have hu := hu2.trans hu3
  clear k1 hc2 hu2 hu3
  obtain ⟨c0, c1⟩ := H1.out.cells
  obtain ⟨f0, f1⟩ := H1.out.frz
  have hx : x ≤ z - 3 := by omega
  clear x1
  have N1 := Lib.hid (Bx.set1 (y' := 2 + x) H1.out)
  have N0 := Lib.hid (Bx.oth1 (g := g) (i := 1) (u := .int .i64 (2 + x)) H0.out (by omega))
  have NC := Lib.hid (cur_set hc3 (g := g) (by omega) 1 (.int .i64 (2 + x)))
  have NU := Lib.hid (upd_set hu (g := g) (by omega) 1 (.int .i64 (2 + x)))
  clear hc3 hu H0 H1
  go_wp2_with fail
  clear c0 c1 f0 f1
  generalize World.setCell w2 _ _ = W2 at *
  clear CA
  go_loopw [4] (fun v wr => ∃ (k : Nat) (D : Int), k ≤ 20 ∧ v = .int .i64 k ∧ 2 ≤ D ∧ D ≤ z - 1 ∧ Hid (Bx wr g 25 z D) ∧ Hid (Bx wr w.heap.size 25 0 0) ∧ Hid (Cur wr p B (K + 2 + 2)) ∧ Hid (Upd p w wr)) (fun v _ => 20 - (intOf v).toNat)
  case atStart => exact ⟨0, 2 + x, by omega, rfl, by omega, by omega, N1, N0, NC, NU⟩
  case round =>
    obtain ⟨k, D, hk, rfl, D0, D1, G1, G0, GC, GU⟩ := hrel
    clear N1 N0 NC NU
    by_cases hk2 : k < 20
    · have t1 : (k : Int) < 20 := by omega
      obtain ⟨c0, c1⟩ := G1.out.cells
      go_wp2_with fail
      refine (CG.out z D wr).mono ?_
      rintro e w3 ⟨rfl, b3⟩
      have G1 := Lib.hid (G1.out.below b3)
      have G0 := Lib.hid (G0.out.below b3)
      have GC := Lib.hid (GC.out.below b3 GC.out.lt)
      have GU := Lib.hid (upd_of GU.out b3)
      clear b3 c0 c1
      obtain ⟨c0, c1⟩ := G1.out.cells
      obtain ⟨f0, f1⟩ := G1.out.frz
      generalize okC z D = ok
      cases ok
      · have m0 := Int.emod_nonneg (D - 1) (show z - 2 ≠ 0 by omega)
        have m1 := Int.emod_lt_of_pos (D - 1) (show 0 < z - 2 by omega)
        have N1 := Lib.hid (Bx.set1 (y' := 2 + (D - 1) % (z - 2)) G1.out)
        have N0 := Lib.hid (Bx.oth1 (g := g) (i := 1) (u := .int .i64 (2 + (D - 1) % (z - 2))) G0.out (by omega))
        have NC := Lib.hid (cur_set GC.out (g := g) (by omega) 1 (.int .i64 (2 + (D - 1) % (z - 2))))
        have NU := Lib.hid (upd_set GU.out (g := g) (by omega) 1 (.int .i64 (2 + (D - 1) % (z - 2))))
        go_wp2
        go_roundw
        case rel => exact ⟨k + 1, 2 + (D - 1) % (z - 2), by omega, by go_num, by omega, by omega, N1, N0, NC, NU⟩
        case measure => simp [intOf]; omega
      · clear c0 c1 f0 f1
        go_wp2_with fail
        refine (one p B (K + 2 + 2) 30 w3 (by omega) (by omega) GC.out).mono ?_
        rintro e w5 ⟨b, rfl, hc5, hu5⟩
        have H1 := Lib.hid (Bx.upd G1.out hu5 (by omega))
        have H0 := Lib.hid (Bx.upd G0.out hu5 (by omega))
        have hu6 := GU.out.trans hu5
        clear hu5 G0 G1 GC GU
        obtain ⟨c0, c1⟩ := H1.out.cells
        obtain ⟨f0, f1⟩ := H1.out.frz
        obtain ⟨c2, c3⟩ := H0.out.cells
        obtain ⟨f2, f3⟩ := H0.out.frz
        have hz5 := H0.out.lt
        have hz6 := H1.out.lt
        cases b
        · have RC : Hid (SomeC p B K w (.returned (pv z D)) ((w5.setCell ⟨w.heap.size, 0, none⟩ (.int .i64 z)).setCell ⟨w.heap.size, 1, none⟩ (.int .i64 D))) := Lib.hid ⟨z, D, rfl, by omega, by omega, by omega, by omega, (cur_set (cur_set hc5 (by omega) 0 _) (by omega) 1 _).mono (by omega), upd_set (upd_set hu6 (Nat.le_refl _) 0 _) (Nat.le_refl _) 1 _⟩
          clear hc5 hu6
          go_wp2
          exact bodyPost_ret (v := .agg #[.int .i64 z, .int .i64 D]) (by simp [results, Try.results64, go_sem, c2, c3]) rfl RC.out
        · have CA2 := Lib.hid (amongLit p B (K + 2 + 2 + 2) _ [0, 3, 9, 199, 211] w5 (by omega) (by simp) (by simp) rfl hc5)
          have hp5 : p < w5.heap.size := hc5.lt
          clear hc5
          go_wp2_with fail
          refine CA2.out.mono ?_
          rintro e w6 ⟨P2, rfl, hP2, hc6, hu7⟩
          have hb2 : 0 ≤ P2 ∧ P2 ≤ 211 := by simp at hP2; omega
          obtain ⟨P0, P1⟩ := hb2
          have H1 := Lib.hid (Bx.upd H1.out hu7 (by omega))
          have H0 := Lib.hid (Bx.upd H0.out hu7 (by omega))
          have hu9 := hu6.trans hu7
          clear hP2 hu6 hu7 CA2 c0 c1 c2 c3 f0 f1 f2 f3
          go_wp2_with fail
          refine (pick p B (K + 2 + 2 + 2 + 2) 9 w6 (by omega) (by omega) hc6).mono ?_
          rintro e w7 ⟨D2, rfl, y0, y1, hc7, hu8⟩
          have H1 := Lib.hid (Bx.upd H1.out hu8 (by omega))
          have H0 := Lib.hid (Bx.upd H0.out hu8 (by omega))
          have hu := hu9.trans hu8
          have hD2 : D2 ≤ 8 := by omega
          obtain ⟨c0, c1⟩ := H1.out.cells
          obtain ⟨f0, f1⟩ := H1.out.frz
          obtain ⟨c2, c3⟩ := H0.out.cells
          obtain ⟨f2, f3⟩ := H0.out.frz
          have hz7 := H0.out.lt
          have hz8 := H1.out.lt
          have ng0 : ¬ g = w.heap.size := by omega
          have ng1 : ¬ w.heap.size = g := by omega
          have RC : Hid (SomeC p B K w (.returned (pv P2 D2)) ((((w7.setCell ⟨g, 0, none⟩ (.int .i64 P2)).setCell ⟨g, 1, none⟩ (.int .i64 D2)).setCell ⟨w.heap.size, 0, none⟩ (.int .i64 P2)).setCell ⟨w.heap.size, 1, none⟩ (.int .i64 D2))) := Lib.hid ⟨P2, D2, rfl, by omega, by omega, by omega, by omega, (cur_set (cur_set (cur_set (cur_set hc7 (by omega) 0 _) (by omega) 1 _) (by omega) 0 _) (by omega) 1 _).mono (by omega), upd_set (upd_set (upd_set (upd_set hu (by omega) 0 _) (by omega) 1 _) (Nat.le_refl _) 0 _) (Nat.le_refl _) 1 _⟩
          clear y1 hc6 hc7 hu8 hu9 hu
          go_wp2
          exact bodyPost_ret (v := .agg #[.int .i64 P2, .int .i64 D2]) (by simp [results, Try.results64, go_sem, c2, c3]) rfl RC.out
    · have t1 : ¬ (k : Int) < 20 := by omega
      go_wp2_with fail
      refine (one p B (K + 2 + 2) 30 wr (by omega) (by omega) GC.out).mono ?_
      rintro e w5 ⟨b, rfl, hc5, hu5⟩
      have H1 := Lib.hid (Bx.upd G1.out hu5 (by omega))
      have H0 := Lib.hid (Bx.upd G0.out hu5 (by omega))
      have hu6 := GU.out.trans hu5
      clear hu5 G0 G1 GC GU
      obtain ⟨c0, c1⟩ := H1.out.cells
      obtain ⟨f0, f1⟩ := H1.out.frz
      obtain ⟨c2, c3⟩ := H0.out.cells
      obtain ⟨f2, f3⟩ := H0.out.frz
      have hz5 := H0.out.lt
      have hz6 := H1.out.lt
      cases b
      · have RC : Hid (SomeC p B K w (.returned (pv z D)) ((w5.setCell ⟨w.heap.size, 0, none⟩ (.int .i64 z)).setCell ⟨w.heap.size, 1, none⟩ (.int .i64 D))) := Lib.hid ⟨z, D, rfl, by omega, by omega, by omega, by omega, (cur_set (cur_set hc5 (by omega) 0 _) (by omega) 1 _).mono (by omega), upd_set (upd_set hu6 (Nat.le_refl _) 0 _) (Nat.le_refl _) 1 _⟩
        clear hc5 hu6
        go_wp2
        exact bodyPost_ret (v := .agg #[.int .i64 z, .int .i64 D]) (by simp [results, Try.results64, go_sem, c2, c3]) rfl RC.out
      · have CA2 := Lib.hid (amongLit p B (K + 2 + 2 + 2) _ [0, 3, 9, 199, 211] w5 (by omega) (by simp) (by simp) rfl hc5)
        have hp5 : p < w5.heap.size := hc5.lt
        clear hc5
        go_wp2_with fail
        refine CA2.out.mono ?_
        rintro e w6 ⟨P2, rfl, hP2, hc6, hu7⟩
        have hb2 : 0 ≤ P2 ∧ P2 ≤ 211 := by simp at hP2; omega
        obtain ⟨P0, P1⟩ := hb2
        have H1 := Lib.hid (Bx.upd H1.out hu7 (by omega))
        have H0 := Lib.hid (Bx.upd H0.out hu7 (by omega))
        have hu9 := hu6.trans hu7
        clear hP2 hu6 hu7 CA2 c0 c1 c2 c3 f0 f1 f2 f3
        go_wp2_with fail
        refine (pick p B (K + 2 + 2 + 2 + 2) 9 w6 (by omega) (by omega) hc6).mono ?_
        rintro e w7 ⟨D2, rfl, y0, y1, hc7, hu8⟩
        have H1 := Lib.hid (Bx.upd H1.out hu8 (by omega))
        have H0 := Lib.hid (Bx.upd H0.out hu8 (by omega))
        have hu := hu9.trans hu8
        have hD2 : D2 ≤ 8 := by omega
        obtain ⟨c0, c1⟩ := H1.out.cells
        obtain ⟨f0, f1⟩ := H1.out.frz
        obtain ⟨c2, c3⟩ := H0.out.cells
        obtain ⟨f2, f3⟩ := H0.out.frz
        have hz7 := H0.out.lt
        have hz8 := H1.out.lt
        have ng0 : ¬ g = w.heap.size := by omega
        have ng1 : ¬ w.heap.size = g := by omega
        have RC : Hid (SomeC p B K w (.returned (pv P2 D2)) ((((w7.setCell ⟨g, 0, none⟩ (.int .i64 P2)).setCell ⟨g, 1, none⟩ (.int .i64 D2)).setCell ⟨w.heap.size, 0, none⟩ (.int .i64 P2)).setCell ⟨w.heap.size, 1, none⟩ (.int .i64 D2))) := Lib.hid ⟨P2, D2, rfl, by omega, by omega, by omega, by omega, (cur_set (cur_set (cur_set (cur_set hc7 (by omega) 0 _) (by omega) 1 _) (by omega) 0 _) (by omega) 1 _).mono (by omega), upd_set (upd_set (upd_set (upd_set hu (by omega) 0 _) (by omega) 1 _) (Nat.le_refl _) 0 _) (Nat.le_refl _) 1 _⟩
        clear y1 hc6 hc7 hu8 hu9 hu
        go_wp2
        exact bodyPost_ret (v := .agg #[.int .i64 P2, .int .i64 D2]) (by simp [results, Try.results64, go_sem, c2, c3]) rfl RC.out
end Go.Proofs.Ytapdecmaaciaaaa.DrawC
