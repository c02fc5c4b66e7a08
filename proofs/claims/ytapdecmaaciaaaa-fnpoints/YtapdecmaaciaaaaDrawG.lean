/-
  What the law FnGroup draws.
-/
import Derived.Test.YtapdecmaaciaaaaDrawP
namespace Go.Proofs.Ytapdecmaaciaaaa.DrawG
open Go.ChangeShapes Go.WideShapes Go.ChangeAt Go.RowKit
open Go.Proofs.Ytapdecmaaciaaaa.Mem Go.Proofs.Ytapdecmaaciaaaa.Ints Go.Proofs.Ytapdecmaaciaaaa.Cur Go.Proofs.Ytapdecmaaciaaaa.DrawM Go.Proofs.Ytapdecmaaciaaaa.Num Go.Proofs.Ytapdecmaaciaaaa.Crv Go.Proofs.Ytapdecmaaciaaaa.Crv2 Go.Proofs.Ytapdecmaaciaaaa.Crv3 Go.Proofs.Ytapdecmaaciaaaa.Times Go.Proofs.Ytapdecmaaciaaaa.Shrt2 Go.Proofs.Ytapdecmaaciaaaa.DrawC Go.Proofs.Ytapdecmaaciaaaa.DrawP
set_option linter.unusedVariables false
set_option maxRecDepth 100000
/-- Some curve and some point. -/
def SomeCP (w : World) (e : Ending) (w' : World) : Prop := ∃ P D X Y : Int, e = .returned (.tuple #[pv P D, pv X Y]) ∧ 0 ≤ P ∧ P ≤ 211 ∧ Below w.heap.size w w'
set_option maxHeartbeats 2000000 in
theorem drawOn (A : Option Addr) (n c : Nat) (cs : List UInt8) (w : World) (hn : n ≤ maxLen) (hx : Rd w w.heap.size 1 A n (Cur.bytes cs)) :
    Calls Try.prog 40 #[.slice A n c] w (SomeCP w) := by
  have CC := Lib.hid curve
  have CP := Lib.hid point
  have B0 := al2 w (.cells #[.int .i64 0, .int .i64 0] 25) (.cells #[.int .i64 0, .int .i64 0] 32)
  obtain ⟨k0, k1⟩ := nw2 w (.cells #[.int .i64 0, .int .i64 0] 25) (.cells #[.int .i64 0, .int .i64 0] 32)
  have hx2 := (hx.below B0 (Nat.le_refl _)).mono B0.size
  have CU := boxed_cur A n c cs _ hn hx2
  rw [World.size_alloc, World.size_alloc] at CU
  have kA := al1 ((w.alloc (.cells #[.int .i64 0, .int .i64 0] 25)).alloc (.cells #[.int .i64 0, .int .i64 0] 32)) (.cells #[.slice A n c, .int .i64 0, .int .u64 0] 78)
  have G0 : Hid (Bx _ w.heap.size 25 0 0) := Lib.hid (bx k0 kA)
  have G1 : Hid (Bx _ (w.heap.size + 1) 32 0 0) := Lib.hid (bx k1 kA)
  have GB := Lib.hid (then_ (n := 0) B0 kA)
  have CU := Lib.hid CU
  clear k0 k1 hx2 B0 kA hx
  unfold pv at *
  go_enter Try.func40, Try.ntmps40
  go_wp2_with fail
  generalize World.alloc (World.alloc (World.alloc w _) _) _ = W0 at *
  refine (CC.out _ _ 0 W0 (by omega) CU.out).mono ?_
  rintro e w1 ⟨P, D, rfl, P0, P1, D0, D1, hc1, hu1⟩
  have G0 := Lib.hid (Bx.upd G0.out hu1 (by omega))
  have G1 := Lib.hid (Bx.upd G1.out hu1 (by omega))
  have GC := Lib.hid hc1
  have GB := Lib.hid (GB.out.trans (hu1.below (by omega) GB.out.size))
  have zp := hc1.lt
  clear CU hc1 hu1
  unfold pv
  have kA := al1 w1 (.cells #[.int .i64 P, .int .i64 D] 25)
  have kV := nw1 w1 (.cells #[.int .i64 P, .int .i64 D] 25)
  have E0 := Lib.hid (G0.out.below kA)
  have E1 := Lib.hid (G1.out.below kA)
  have EC := Lib.hid (GC.out.below kA GC.out.lt)
  have EB := Lib.hid (then_ (n := 0) GB.out kA)
  have EV : Hid (Bx _ w1.heap.size 25 P D) := Lib.hid kV
  have z0 := G1.out.lt
  clear kA kV G0 G1 GC GB
  go_wp2_with fail
  generalize World.alloc w1 _ = W1 at *
  generalize w1.heap.size = g at *
  obtain ⟨c0, c1⟩ := EV.out.cells
  have hcD : Cur W1.drew (w.heap.size + 1 + 1) (w.heap.size + 1 + 1) (0 + 20) := EC.out.alike rfl
  have J0 : Hid (Bx W1.drew w.heap.size 25 0 0) := Lib.hid E0.out
  have J1 : Hid (Bx W1.drew (w.heap.size + 1) 32 0 0) := Lib.hid E1.out
  have JV : Hid (Bx W1.drew g 25 P D) := Lib.hid EV.out
  have JB : Hid (Below w.heap.size w W1.drew) := Lib.hid EB.out.drew
  have ng0 : ¬ g = w.heap.size := by omega
  have ng1 : ¬ g = w.heap.size + 1 := by omega
  have ng2 : ¬ w.heap.size = g := by omega
  have ng3 : ¬ w.heap.size + 1 = g := by omega
  have i0 : w.heap.size ≠ w.heap.size + 1 + 1 := by omega
  have i1 : w.heap.size + 1 ≠ w.heap.size + 1 + 1 := by omega
  have ig : g ≠ w.heap.size + 1 + 1 := by omega
  have i2 : w.heap.size ≤ w.heap.size + 1 + 1 := by omega
  have h20 : 0 + 20 ≤ 900000 := by omega
  clear E0 E1 EB EC CC
  go_region_held3 (fun w' => w'.cell? ⟨g, 0, none⟩ = some (.int .i64 P) ∧ w'.cell? ⟨g, 1, none⟩ = some (.int .i64 D))
    (first | (refine ⟨?_, ?_⟩ <;> with_reducible assumption) | (refine ⟨?_, ?_⟩ <;> ((with_reducible refine cellP ?_ ?_); with_reducible assumption; omega)) | (go_keep; done) | (simp [*, go_sem]; done))
    (first
      | (go_at_call 65; (with_reducible refine (CP.out _ _ (0 + 20) P D _ h20 P0 P1 hcD).mono ?_); rintro e v1 ⟨X, Y, rfl, hcv, huv⟩; have V0 := Bx.upd J0.out huv i0; have V1 := Bx.upd J1.out huv i1; obtain ⟨p0, p1⟩ := (Bx.upd JV.out huv ig).cells; obtain ⟨q0, q1⟩ := V0.cells; obtain ⟨f0, f1⟩ := V0.frz; obtain ⟨q2, q3⟩ := V1.cells; obtain ⟨f2, f3⟩ := V1.frz; have VB := Lib.hid (JB.out.trans (huv.below i2 JB.out.size)); have zv := V1.lt; clear V0 V1 huv hcv; unfold pv))
  rename_i hH
  have RC : Hid (SomeCP w (.returned (.tuple #[pv P D, pv X Y])) ((((v1.setCell ⟨w.heap.size, 0, none⟩ (.int .i64 P)).setCell ⟨w.heap.size, 1, none⟩ (.int .i64 D)).setCell ⟨w.heap.size + 1, 0, none⟩ (.int .i64 X)).setCell ⟨w.heap.size + 1, 1, none⟩ (.int .i64 Y))) := Lib.hid ⟨P, D, X, Y, rfl, P0, P1, (((VB.out.setCell (Nat.le_refl _) _).setCell (Nat.le_refl _) _).setCell (Nat.le_succ _) _).setCell (Nat.le_succ _) _⟩
  clear hH p0 p1 c0 c1
  go_wp2
  exact bodyPost_ret (v := .tuple #[.agg #[.int .i64 P, .int .i64 D], .agg #[.int .i64 X, .int .i64 Y]]) (by simp [results, Try.results40, go_sem, q0, q1, q2, q3]) rfl RC.out
/-- Some curve and two points. -/
def SomeCPP (w : World) (e : Ending) (w' : World) : Prop := ∃ P D X Y S T : Int, e = .returned (.tuple #[pv P D, pv X Y, pv S T]) ∧ 0 ≤ P ∧ P ≤ 211 ∧ Below w.heap.size w w'
set_option maxHeartbeats 2000000 in
theorem drawAdd (A : Option Addr) (n c : Nat) (cs : List UInt8) (w : World) (hn : n ≤ maxLen) (hx : Rd w w.heap.size 1 A n (Cur.bytes cs)) :
    Calls Try.prog 38 #[.slice A n c] w (SomeCPP w) := by
  have CC := Lib.hid curve
  have CP := Lib.hid point
  have B0 := al3 w (.cells #[.int .i64 0, .int .i64 0] 25) (.cells #[.int .i64 0, .int .i64 0] 32) (.cells #[.int .i64 0, .int .i64 0] 32)
  obtain ⟨k0, k1, k2⟩ := nw3 w (.cells #[.int .i64 0, .int .i64 0] 25) (.cells #[.int .i64 0, .int .i64 0] 32) (.cells #[.int .i64 0, .int .i64 0] 32)
  have hx2 := (hx.below B0 (Nat.le_refl _)).mono B0.size
  have CU := boxed_cur A n c cs _ hn hx2
  rw [World.size_alloc, World.size_alloc, World.size_alloc] at CU
  have kA := al1 (((w.alloc (.cells #[.int .i64 0, .int .i64 0] 25)).alloc (.cells #[.int .i64 0, .int .i64 0] 32)).alloc (.cells #[.int .i64 0, .int .i64 0] 32)) (.cells #[.slice A n c, .int .i64 0, .int .u64 0] 78)
  have G0 : Hid (Bx _ w.heap.size 25 0 0) := Lib.hid (bx k0 kA)
  have G1 : Hid (Bx _ (w.heap.size + 1) 32 0 0) := Lib.hid (bx k1 kA)
  have G2 : Hid (Bx _ (w.heap.size + 1 + 1) 32 0 0) := Lib.hid (bx k2 kA)
  have GB := Lib.hid (then_ (n := 0) B0 kA)
  have CU := Lib.hid CU
  clear k0 k1 k2 hx2 B0 kA hx
  unfold pv at *
  go_enter Try.func38, Try.ntmps38
  go_wp2_with fail
  generalize World.alloc (World.alloc (World.alloc (World.alloc w _) _) _) _ = W0 at *
  refine (CC.out _ _ 0 W0 (by omega) CU.out).mono ?_
  rintro e w1 ⟨P, D, rfl, P0, P1, D0, D1, hc1, hu1⟩
  have G0 := Lib.hid (Bx.upd G0.out hu1 (by omega))
  have G1 := Lib.hid (Bx.upd G1.out hu1 (by omega))
  have G2 := Lib.hid (Bx.upd G2.out hu1 (by omega))
  have GC := Lib.hid hc1
  have GB := Lib.hid (GB.out.trans (hu1.below (by omega) GB.out.size))
  have zp := hc1.lt
  clear CU hc1 hu1
  unfold pv
  have kA := al1 w1 (.cells #[.int .i64 P, .int .i64 D] 25)
  have kV := nw1 w1 (.cells #[.int .i64 P, .int .i64 D] 25)
  have E0 := Lib.hid (G0.out.below kA)
  have E1 := Lib.hid (G1.out.below kA)
  have E2 := Lib.hid (G2.out.below kA)
  have EC := Lib.hid (GC.out.below kA GC.out.lt)
  have EB := Lib.hid (then_ (n := 0) GB.out kA)
  have EV : Hid (Bx _ w1.heap.size 25 P D) := Lib.hid kV
  clear kA kV G0 G1 G2 GC GB CC
  go_wp2_with fail
  generalize World.alloc w1 _ = W1 at *
  generalize w1.heap.size = g at *
  refine (CP.out _ _ (0 + 20) P D W1 (by omega) P0 P1 EC.out).mono ?_
  rintro e w2 ⟨X, Y, rfl, hc2, hu2⟩
  have E0 := Lib.hid (Bx.upd E0.out hu2 (by omega))
  have E1 := Lib.hid (Bx.upd E1.out hu2 (by omega))
  have E2 := Lib.hid (Bx.upd E2.out hu2 (by omega))
  have EV := Lib.hid (Bx.upd EV.out hu2 (by omega))
  have EC := Lib.hid hc2
  have EB := Lib.hid (EB.out.trans (hu2.below (by omega) EB.out.size))
  clear hc2 hu2
  unfold pv
  have kA := al1 w2 (.cells #[.int .i64 X, .int .i64 Y] 32)
  have kV := nw1 w2 (.cells #[.int .i64 X, .int .i64 Y] 32)
  have zg := EV.out.lt
  have E0 := Lib.hid (E0.out.below kA)
  have E1 := Lib.hid (E1.out.below kA)
  have E2 := Lib.hid (E2.out.below kA)
  have EV := Lib.hid (EV.out.below kA)
  have EC := Lib.hid (EC.out.below kA EC.out.lt)
  have EB := Lib.hid (then_ (n := 0) EB.out kA)
  have EA : Hid (Bx _ w2.heap.size 32 X Y) := Lib.hid kV
  clear kA kV
  go_wp2_with fail
  generalize World.alloc w2 _ = W2 at *
  generalize w2.heap.size = h at *
  refine (one _ _ (0 + 20 + 20) 6 W2 (by omega) (by omega) EC.out).mono ?_
  rintro e w3 ⟨b, rfl, hc3, hu3⟩
  have E0 := Lib.hid (Bx.upd E0.out hu3 (by omega))
  have E1 := Lib.hid (Bx.upd E1.out hu3 (by omega))
  have E2 := Lib.hid (Bx.upd E2.out hu3 (by omega))
  have EV := Lib.hid (Bx.upd EV.out hu3 (by omega))
  have EA := Lib.hid (Bx.upd EA.out hu3 (by omega))
  have EC := Lib.hid hc3
  have EB := Lib.hid (EB.out.trans (hu3.below (by omega) EB.out.size))
  clear hc3 hu3
  obtain ⟨c0, c1⟩ := EV.out.cells
  obtain ⟨c2, c3⟩ := EA.out.cells
  have ng : ¬ g = w.heap.size ∧ ¬ g = w.heap.size + 1 ∧ ¬ g = w.heap.size + 1 + 1 ∧ ¬ w.heap.size = g ∧ ¬ w.heap.size + 1 = g ∧ ¬ w.heap.size + 1 + 1 = g ∧ ¬ h = w.heap.size ∧ ¬ h = w.heap.size + 1 ∧ ¬ h = w.heap.size + 1 + 1 ∧ ¬ w.heap.size = h ∧ ¬ w.heap.size + 1 = h ∧ ¬ w.heap.size + 1 + 1 = h := by omega
  obtain ⟨g1, g2, g3, g4, g5, g6, h1, h2, h3, h4, h5, h6⟩ := ng
  cases b
  · have hcD : Cur w3.drew (w.heap.size + 1 + 1 + 1) (w.heap.size + 1 + 1 + 1) (0 + 20 + 20 + 2) := EC.out.alike rfl
    have J0 : Hid (Bx w3.drew w.heap.size 25 0 0) := Lib.hid E0.out
    have J1 : Hid (Bx w3.drew (w.heap.size + 1) 32 0 0) := Lib.hid E1.out
    have J2 : Hid (Bx w3.drew (w.heap.size + 1 + 1) 32 0 0) := Lib.hid E2.out
    have JV : Hid (Bx w3.drew g 25 P D) := Lib.hid EV.out
    have JA : Hid (Bx w3.drew h 32 X Y) := Lib.hid EA.out
    have JB : Hid (Below w.heap.size w w3.drew) := Lib.hid EB.out.drew
    have i0 : w.heap.size ≠ w.heap.size + 1 + 1 + 1 := by omega
    have i1 : w.heap.size + 1 ≠ w.heap.size + 1 + 1 + 1 := by omega
    have i2 : w.heap.size + 1 + 1 ≠ w.heap.size + 1 + 1 + 1 := by omega
    have ig : g ≠ w.heap.size + 1 + 1 + 1 := by omega
    have ih : h ≠ w.heap.size + 1 + 1 + 1 := by omega
    have i3 : w.heap.size ≤ w.heap.size + 1 + 1 + 1 := by omega
    have h20 : 0 + 20 + 20 + 2 ≤ 900000 := by omega
    clear E0 E1 E2 EB EC EV EA
    go_wp2_with fail
    go_region_held3 (fun w' => w'.cell? ⟨g, 0, none⟩ = some (.int .i64 P) ∧ w'.cell? ⟨g, 1, none⟩ = some (.int .i64 D) ∧ w'.cell? ⟨h, 0, none⟩ = some (.int .i64 X) ∧ w'.cell? ⟨h, 1, none⟩ = some (.int .i64 Y))
      (first | (refine ⟨?_, ?_, ?_, ?_⟩ <;> with_reducible assumption) | (refine ⟨?_, ?_, ?_, ?_⟩ <;> ((with_reducible refine cellP ?_ ?_); with_reducible assumption; omega)) | (refine ⟨?_, ?_, ?_, ?_⟩ <;> ((with_reducible refine cellP (cellP ?_ ?_) ?_); with_reducible assumption; omega; omega)) | (refine ⟨?_, ?_, ?_, ?_⟩ <;> ((with_reducible refine cellP (cellP (cellP ?_ ?_) ?_) ?_); with_reducible assumption; omega; omega; omega)) | (go_keep; done) | (simp [*, go_sem]; done))
      (first
        | (go_at_call 65; (with_reducible refine (CP.out _ _ (0 + 20 + 20 + 2) P D _ h20 P0 P1 hcD).mono ?_); rintro e v1 ⟨S, T, rfl, hcv, huv⟩; have V0 := Bx.upd J0.out huv i0; have V1 := Bx.upd J1.out huv i1; have V2 := Bx.upd J2.out huv i2; obtain ⟨p0, p1⟩ := (Bx.upd JV.out huv ig).cells; obtain ⟨p2, p3⟩ := (Bx.upd JA.out huv ih).cells; obtain ⟨q0, q1⟩ := V0.cells; obtain ⟨f0, f1⟩ := V0.frz; obtain ⟨q2, q3⟩ := V1.cells; obtain ⟨f2, f3⟩ := V1.frz; obtain ⟨q4, q5⟩ := V2.cells; obtain ⟨f4, f5⟩ := V2.frz; have VB := Lib.hid (JB.out.trans (huv.below i3 JB.out.size)); have zv := V2.lt; clear V0 V1 V2 huv hcv; unfold pv))
    rename_i hH
    have RC : Hid (SomeCPP w (.returned (.tuple #[pv P D, pv X Y, pv S T])) ((((((v1.setCell ⟨w.heap.size, 0, none⟩ (.int .i64 P)).setCell ⟨w.heap.size, 1, none⟩ (.int .i64 D)).setCell ⟨w.heap.size + 1, 0, none⟩ (.int .i64 X)).setCell ⟨w.heap.size + 1, 1, none⟩ (.int .i64 Y)).setCell ⟨w.heap.size + 1 + 1, 0, none⟩ (.int .i64 S)).setCell ⟨w.heap.size + 1 + 1, 1, none⟩ (.int .i64 T))) := Lib.hid ⟨P, D, X, Y, S, T, rfl, P0, P1, (((((VB.out.setCell (by simp) _).setCell (by simp) _).setCell (by simp) _).setCell (by simp) _).setCell (by simp; omega) _).setCell (by simp; omega) _⟩
    clear hH p0 p1 p2 p3 c0 c1 c2 c3
    go_wp2
    exact bodyPost_ret (v := .tuple #[.agg #[.int .i64 P, .int .i64 D], .agg #[.int .i64 X, .int .i64 Y], .agg #[.int .i64 S, .int .i64 T]]) (by simp [results, Try.results38, go_sem, q0, q1, q2, q3, q4, q5]) rfl RC.out
  · obtain ⟨q0, q1⟩ := E0.out.cells
    obtain ⟨f0, f1⟩ := E0.out.frz
    obtain ⟨q2, q3⟩ := E1.out.cells
    obtain ⟨f2, f3⟩ := E1.out.frz
    obtain ⟨q4, q5⟩ := E2.out.cells
    obtain ⟨f4, f5⟩ := E2.out.frz
    have zv := E2.out.lt
    have VB := EB
    go_wp2_with fail
    go_region_held3 (fun w' => w'.cell? ⟨g, 0, none⟩ = some (.int .i64 P) ∧ w'.cell? ⟨g, 1, none⟩ = some (.int .i64 D) ∧ w'.cell? ⟨h, 0, none⟩ = some (.int .i64 X) ∧ w'.cell? ⟨h, 1, none⟩ = some (.int .i64 Y))
      (first | (refine ⟨?_, ?_, ?_, ?_⟩ <;> with_reducible assumption) | (refine ⟨?_, ?_, ?_, ?_⟩ <;> ((with_reducible refine cellP ?_ ?_); with_reducible assumption; omega)) | (refine ⟨?_, ?_, ?_, ?_⟩ <;> ((with_reducible refine cellP (cellP ?_ ?_) ?_); with_reducible assumption; omega; omega)) | (go_keep; done) | (simp [*, go_sem]; done)) (fail)
    rename_i hH
    have RC : Hid (SomeCPP w (.returned (.tuple #[pv P D, pv X Y, pv X Y])) ((((((w3.setCell ⟨w.heap.size, 0, none⟩ (.int .i64 P)).setCell ⟨w.heap.size, 1, none⟩ (.int .i64 D)).setCell ⟨w.heap.size + 1, 0, none⟩ (.int .i64 X)).setCell ⟨w.heap.size + 1, 1, none⟩ (.int .i64 Y)).setCell ⟨w.heap.size + 1 + 1, 0, none⟩ (.int .i64 X)).setCell ⟨w.heap.size + 1 + 1, 1, none⟩ (.int .i64 Y)).drew) := Lib.hid ⟨P, D, X, Y, X, Y, rfl, P0, P1, ((((((VB.out.setCell (by simp) _).setCell (by simp) _).setCell (by simp) _).setCell (by simp) _).setCell (by simp; omega) _).setCell (by simp; omega) _).drew⟩
    clear hH c0 c1 c2 c3
    go_wp2
    exact bodyPost_ret (v := .tuple #[.agg #[.int .i64 P, .int .i64 D], .agg #[.int .i64 X, .int .i64 Y], .agg #[.int .i64 X, .int .i64 Y]]) (by simp [results, Try.results38, go_sem, q0, q1, q2, q3, q4, q5]) rfl RC.out
end Go.Proofs.Ytapdecmaaciaaaa.DrawG
