/-
  What the law FnPoints draws.
-/
import Derived.Test.YtapdecmaaciaaaaDrawG
import Derived.IntWalk
namespace Go.Proofs.Ytapdecmaaciaaaa.DrawH
open Go.ChangeShapes Go.WideShapes Go.ChangeAt Go.RowKit
open Go.Proofs.Ytapdecmaaciaaaa.Mem Go.Proofs.Ytapdecmaaciaaaa.Ints Go.Proofs.Ytapdecmaaciaaaa.Cur Go.Proofs.Ytapdecmaaciaaaa.DrawM Go.Proofs.Ytapdecmaaciaaaa.Num Go.Proofs.Ytapdecmaaciaaaa.Crv Go.Proofs.Ytapdecmaaciaaaa.Crv2 Go.Proofs.Ytapdecmaaciaaaa.Crv3 Go.Proofs.Ytapdecmaaciaaaa.Times Go.Proofs.Ytapdecmaaciaaaa.Shrt2 Go.Proofs.Ytapdecmaaciaaaa.DrawC Go.Proofs.Ytapdecmaaciaaaa.DrawP Go.Proofs.Ytapdecmaaciaaaa.DrawG
set_option linter.unusedVariables false
set_option maxRecDepth 100000
theorem drawOrder (A : Option Addr) (n c : Nat) (cs : List UInt8) (w : World) (hn : n ≤ maxLen) (hx : Rd w w.heap.size 1 A n (Cur.bytes cs)) :
    Calls Try.prog 41 #[.slice A n c] w (SomeCP w) := by
  have C := Lib.hid (fun W (h : Below w.heap.size w W) => drawOn A n c cs W hn ((hx.below h (Nat.le_refl _)).mono h.size))
  clear hx
  have B0 := al2 w (.cells #[.int .i64 0, .int .i64 0] 25) (.cells #[.int .i64 0, .int .i64 0] 32)
  obtain ⟨k0, k1⟩ := nw2 w (.cells #[.int .i64 0, .int .i64 0] 25) (.cells #[.int .i64 0, .int .i64 0] 32)
  have G0 : Hid (Bx _ w.heap.size 25 0 0) := Lib.hid k0
  have G1 : Hid (Bx _ (w.heap.size + 1) 32 0 0) := Lib.hid k1
  have GB := Lib.hid B0
  clear k0 k1 B0
  go_enter Try.func41, Try.ntmps41
  go_wp2_with fail
  generalize World.alloc (World.alloc w _) _ = W0 at *
  refine (C.out W0 GB.out).mono ?_
  rintro e w1 ⟨P, D, X, Y, rfl, P0, P1, b⟩
  replace G0 := Lib.hid (G0.out.below b)
  replace G1 := Lib.hid (G1.out.below b)
  replace GB := Lib.hid (then_ (n := 0) GB.out b)
  clear b C
  unfold pv
  obtain ⟨q0, q1⟩ := G0.out.cells
  obtain ⟨f0, f1⟩ := G0.out.frz
  obtain ⟨q2, q3⟩ := G1.out.cells
  obtain ⟨f2, f3⟩ := G1.out.frz
  have zv := G1.out.lt
  have RC : Hid (SomeCP w (.returned (.tuple #[pv P D, pv X Y])) ((((w1.setCell ⟨w.heap.size, 0, none⟩ (.int .i64 P)).setCell ⟨w.heap.size, 1, none⟩ (.int .i64 D)).setCell ⟨w.heap.size + 1, 0, none⟩ (.int .i64 X)).setCell ⟨w.heap.size + 1, 1, none⟩ (.int .i64 Y))) := Lib.hid ⟨P, D, X, Y, rfl, P0, P1, (((GB.out.setCell (Nat.le_refl _) _).setCell (Nat.le_refl _) _).setCell (Nat.le_succ _) _).setCell (Nat.le_succ _) _⟩
  go_wp2
  exact bodyPost_ret (v := .tuple #[.agg #[.int .i64 P, .int .i64 D], .agg #[.int .i64 X, .int .i64 Y]]) (by simp [results, Try.results41, go_sem, q0, q1, q2, q3]) rfl RC.out
theorem sub1 {x n : Int} (h0 : 0 ≤ x) (h1 : x < n ∨ x = 0) (hn : n ≤ 60000) : IntKind.i64.wrap (x - 1) = x - 1 := IntWalk.i64_in _ (by omega)
/-- Some curve and some number. -/
def SomeCN (w : World) (e : Ending) (w' : World) : Prop := ∃ P D m : Int, e = .returned (.tuple #[pv P D, .int .i64 m]) ∧ 0 ≤ P ∧ P ≤ 211 ∧ Below w.heap.size w w'
set_option maxHeartbeats 2000000 in
theorem drawShort (A : Option Addr) (n c : Nat) (cs : List UInt8) (w : World) (hn : n ≤ maxLen) (hx : Rd w w.heap.size 1 A n (Cur.bytes cs)) :
    Calls Try.prog 43 #[.slice A n c] w (SomeCN w) := by
  have CC := Lib.hid curve
  have B0 := al1 w (.cells #[.int .i64 0, .int .i64 0] 25)
  have k0 := nw1 w (.cells #[.int .i64 0, .int .i64 0] 25)
  have hx2 := (hx.below B0 (Nat.le_refl _)).mono B0.size
  have CU := boxed_cur A n c cs _ hn hx2
  rw [World.size_alloc] at CU
  have kA := al1 (w.alloc (.cells #[.int .i64 0, .int .i64 0] 25)) (.cells #[.slice A n c, .int .i64 0, .int .u64 0] 78)
  have G0 : Hid (Bx _ w.heap.size 25 0 0) := Lib.hid (bx k0 kA)
  have GB := Lib.hid (then_ (n := 0) B0 kA)
  have CU := Lib.hid CU
  clear k0 hx2 B0 kA hx
  unfold pv at *
  go_enter Try.func43, Try.ntmps43
  go_wp2_with fail
  generalize World.alloc (World.alloc w _) _ = W0 at *
  refine (CC.out _ _ 0 W0 (by omega) CU.out).mono ?_
  rintro e w1 ⟨P, D, rfl, P0, P1, D0, D1, hc1, hu1⟩
  have G0 := Lib.hid (Bx.upd G0.out hu1 (by omega))
  have GC := Lib.hid hc1
  have GB := Lib.hid (GB.out.trans (hu1.below (by omega) GB.out.size))
  have zp := hc1.lt
  clear CU hc1 hu1
  unfold pv
  have kA := al1 w1 (.cells #[.int .i64 P, .int .i64 D] 25)
  have kV := nw1 w1 (.cells #[.int .i64 P, .int .i64 D] 25)
  have E0 := Lib.hid (G0.out.below kA)
  have EC := Lib.hid (GC.out.below kA GC.out.lt)
  have EB := Lib.hid (then_ (n := 0) GB.out kA)
  have EV : Hid (Bx _ w1.heap.size 25 P D) := Lib.hid kV
  have z0 := G0.out.lt
  clear kA kV G0 GC GB
  go_wp2_with fail
  generalize World.alloc w1 _ = W1 at *
  generalize w1.heap.size = g at *
  obtain ⟨c0, c1⟩ := EV.out.cells
  have hcD : Cur W1.drew (w.heap.size + 1) (w.heap.size + 1) (0 + 20) := EC.out.alike rfl
  have J0 : Hid (Bx W1.drew w.heap.size 25 0 0) := Lib.hid E0.out
  have JV : Hid (Bx W1.drew g 25 P D) := Lib.hid EV.out
  have JB : Hid (Below w.heap.size w W1.drew) := Lib.hid EB.out.drew
  have ng0 : ¬ g = w.heap.size := by omega
  have ng2 : ¬ w.heap.size = g := by omega
  have i0 : w.heap.size ≠ w.heap.size + 1 := by omega
  have ig : g ≠ w.heap.size + 1 := by omega
  have i2 : w.heap.size ≤ w.heap.size + 1 := by omega
  have h20 : 0 + 20 ≤ 999990 := by omega
  have hpk : 2 * P + 3 ≤ 60000 := by omega
  have hw1 : IntKind.i64.wrap (2 * P) = 2 * P := IntWalk.i64_in _ (by omega)
  have hw2 : IntKind.i64.wrap (2 * P + 3) = 2 * P + 3 := IntWalk.i64_in _ (by omega)
  clear E0 EB EC CC
  go_region_held3 (fun w' => w'.cell? ⟨g, 0, none⟩ = some (.int .i64 P) ∧ w'.cell? ⟨g, 1, none⟩ = some (.int .i64 D))
    (first | (refine ⟨?_, ?_⟩ <;> with_reducible assumption) | (refine ⟨?_, ?_⟩ <;> ((with_reducible refine cellP ?_ ?_); with_reducible assumption; omega)) | (go_keep; done) | (simp [*, go_sem]; done))
    (first
      | (go_at_call 68; (with_reducible refine (pick _ _ (0 + 20) _ _ h20 hpk hcD).mono ?_); rintro e v1 ⟨x, rfl, x0, x1, hcv, huv⟩; have V0 := Bx.upd J0.out huv i0; obtain ⟨p0, p1⟩ := (Bx.upd JV.out huv ig).cells; obtain ⟨q0, q1⟩ := V0.cells; obtain ⟨f0, f1⟩ := V0.frz; have VB := Lib.hid (JB.out.trans (huv.below i2 JB.out.size)); have zv := V0.lt; have hw3 := sub1 x0 x1 hpk; clear V0 huv hcv))
  rename_i hH
  have RC : Hid (SomeCN w (.returned (.tuple #[pv P D, .int .i64 (x - 1)])) ((v1.setCell ⟨w.heap.size, 0, none⟩ (.int .i64 P)).setCell ⟨w.heap.size, 1, none⟩ (.int .i64 D))) := Lib.hid ⟨P, D, x - 1, rfl, P0, P1, (VB.out.setCell (Nat.le_refl _) _).setCell (Nat.le_refl _) _⟩
  clear hH p0 p1 c0 c1
  go_wp2
  exact bodyPost_ret (v := .tuple #[.agg #[.int .i64 P, .int .i64 D], .int .i64 (x - 1)]) (by simp [results, Try.results43, go_sem, q0, q1]) rfl RC.out
/-- Some curve, some number and some point. -/
def SomeCNP (w : World) (e : Ending) (w' : World) : Prop := ∃ P D k X Y : Int, e = .returned (.tuple #[pv P D, .int .i64 k, pv X Y]) ∧ 0 ≤ P ∧ P ≤ 211 ∧ -1 ≤ k ∧ k ≤ 100001 ∧ Below w.heap.size w w'
set_option maxHeartbeats 2000000 in
theorem drawTimes (A : Option Addr) (n c : Nat) (cs : List UInt8) (w : World) (hn : n ≤ maxLen) (hx : Rd w w.heap.size 1 A n (Cur.bytes cs)) :
    Calls Try.prog 42 #[.slice A n c] w (SomeCNP w) := by
  have CC := Lib.hid curve
  have CP := Lib.hid point
  have B0 := al2 w (.cells #[.int .i64 0, .int .i64 0] 25) (.cells #[.int .i64 0, .int .i64 0] 32)
  obtain ⟨k0, k1⟩ := nw2 w (.cells #[.int .i64 0, .int .i64 0] 25) (.cells #[.int .i64 0, .int .i64 0] 32)
  have hx2 := (hx.below B0 (Nat.le_refl _)).mono B0.size
  have CU := boxed_cur A n c cs _ hn hx2
  rw [World.size_alloc, World.size_alloc] at CU
  have kA := al1 ((w.alloc (.cells #[.int .i64 0, .int .i64 0] 25)).alloc (.cells #[.int .i64 0, .int .i64 0] 32)) (.cells #[.slice A n c, .int .i64 0, .int .u64 0] 78)
  have G0 : Hid (Bx _ w.heap.size 25 0 0) := Lib.hid (bx k0 kA)
  have G1 : Hid (Bx _ (w.heap.size + 1) 32 0 0) := Lib.hid (bx k1 kA)
  have GB := Lib.hid (then_ (n := 0) B0 kA)
  have CU := Lib.hid CU
  clear k0 k1 hx2 B0 kA hx
  unfold pv at *
  go_enter Try.func42, Try.ntmps42
  go_wp2_with fail
  generalize World.alloc (World.alloc (World.alloc w _) _) _ = W0 at *
  refine (CC.out _ _ 0 W0 (by omega) CU.out).mono ?_
  rintro e w1 ⟨P, D, rfl, P0, P1, D0, D1, hc1, hu1⟩
  have G0 := Lib.hid (Bx.upd G0.out hu1 (by omega))
  have G1 := Lib.hid (Bx.upd G1.out hu1 (by omega))
  have GC := Lib.hid hc1
  have GB := Lib.hid (GB.out.trans (hu1.below (by omega) GB.out.size))
  have zp := hc1.lt
  clear CU hc1 hu1
  unfold pv
  have kA := al1 w1 (.cells #[.int .i64 P, .int .i64 D] 25)
  have kV := nw1 w1 (.cells #[.int .i64 P, .int .i64 D] 25)
  have E0 := Lib.hid (G0.out.below kA)
  have E1 := Lib.hid (G1.out.below kA)
  have EC := Lib.hid (GC.out.below kA GC.out.lt)
  have EB := Lib.hid (then_ (n := 0) GB.out kA)
  have EV : Hid (Bx _ w1.heap.size 25 P D) := Lib.hid kV
  have z0 := G1.out.lt
  clear kA kV G0 G1 GC GB
  go_wp2_with fail
  generalize World.alloc w1 _ = W1 at *
  generalize w1.heap.size = g at *
  obtain ⟨c0, c1⟩ := EV.out.cells
  have hcD : Cur W1.drew (w.heap.size + 1 + 1) (w.heap.size + 1 + 1) (0 + 20) := EC.out.alike rfl
  have J0 : Hid (Bx W1.drew w.heap.size 25 0 0) := Lib.hid E0.out
  have J1 : Hid (Bx W1.drew (w.heap.size + 1) 32 0 0) := Lib.hid E1.out
  have JV : Hid (Bx W1.drew g 25 P D) := Lib.hid EV.out
  have JB : Hid (Below w.heap.size w W1.drew) := Lib.hid EB.out.drew
  have i0 : w.heap.size ≠ w.heap.size + 1 + 1 := by omega
  have i1 : w.heap.size + 1 ≠ w.heap.size + 1 + 1 := by omega
  have ig : g ≠ w.heap.size + 1 + 1 := by omega
  have i2 : w.heap.size ≤ w.heap.size + 1 + 1 := by omega
  have h20 : 0 + 20 + 2 ≤ 900000 := by omega
  have ng : ¬ g = w.heap.size ∧ ¬ g = w.heap.size + 1 ∧ ¬ w.heap.size = g ∧ ¬ w.heap.size + 1 = g := by omega
  obtain ⟨g1, g2, g3, g4⟩ := ng
  have zg := EV.out.lt
  have CA := Lib.hid (amongLit _ _ (0 + 20) _ [-1, 0, 1, 2, 3, 10, 77, 100000, 100001] W1.drew (by omega) (by simp) (by simp) rfl hcD)
  clear E0 E1 EB EC CC hcD
  go_region_held3 (fun w' => w'.cell? ⟨g, 0, none⟩ = some (.int .i64 P) ∧ w'.cell? ⟨g, 1, none⟩ = some (.int .i64 D))
    (first | (refine ⟨?_, ?_⟩ <;> with_reducible assumption) | (refine ⟨?_, ?_⟩ <;> ((with_reducible refine cellP ?_ ?_); with_reducible assumption; omega)) | (refine ⟨?_, ?_⟩ <;> ((with_reducible refine cellP (cellP ?_ ?_) ?_); with_reducible assumption; omega; omega)) | (go_keep; done) | (simp [*, go_sem]; done))
    (first
      | (go_at_call 67; (refine CA.out.mono ?_); rintro e v0 ⟨k, rfl, hk, hcv, huv⟩; have K0 := Lib.hid (Bx.upd J0.out huv i0); have K1 := Lib.hid (Bx.upd J1.out huv i1); have KV := Lib.hid (Bx.upd JV.out huv ig); obtain ⟨o0, o1⟩ := KV.out.cells; have KB := Lib.hid (JB.out.trans (huv.below i2 JB.out.size)); clear huv)
      | (go_at_call 65; (with_reducible refine (CP.out _ _ (0 + 20 + 2) P D _ h20 P0 P1 hcv).mono ?_); rintro e v1 ⟨X, Y, rfl, hcv2, huv2⟩; have V0 := Bx.upd K0.out huv2 i0; have V1 := Bx.upd K1.out huv2 i1; obtain ⟨p0, p1⟩ := (Bx.upd KV.out huv2 ig).cells; obtain ⟨q0, q1⟩ := V0.cells; obtain ⟨f0, f1⟩ := V0.frz; obtain ⟨q2, q3⟩ := V1.cells; obtain ⟨f2, f3⟩ := V1.frz; have VB := Lib.hid (KB.out.trans (huv2.below i2 KB.out.size)); have zv := V1.lt; clear V0 V1 huv2 hcv2; unfold pv))
  rename_i hH
  have hkb : -1 ≤ k ∧ k ≤ 100001 := by simp at hk; omega
  have RC : Hid (SomeCNP w (.returned (.tuple #[pv P D, .int .i64 k, pv X Y])) ((((v1.setCell ⟨w.heap.size, 0, none⟩ (.int .i64 P)).setCell ⟨w.heap.size, 1, none⟩ (.int .i64 D)).setCell ⟨w.heap.size + 1, 0, none⟩ (.int .i64 X)).setCell ⟨w.heap.size + 1, 1, none⟩ (.int .i64 Y))) := Lib.hid ⟨P, D, k, X, Y, rfl, P0, P1, hkb.1, hkb.2, (((VB.out.setCell (Nat.le_refl _) _).setCell (Nat.le_refl _) _).setCell (Nat.le_succ _) _).setCell (Nat.le_succ _) _⟩
  clear hH p0 p1 c0 c1 o0 o1 hk hkb hcv
  go_wp2
  exact bodyPost_ret (v := .tuple #[.agg #[.int .i64 P, .int .i64 D], .int .i64 k, .agg #[.int .i64 X, .int .i64 Y]]) (by simp [results, Try.results42, go_sem, q0, q1, q2, q3]) rfl RC.out
end Go.Proofs.Ytapdecmaaciaaaa.DrawH
