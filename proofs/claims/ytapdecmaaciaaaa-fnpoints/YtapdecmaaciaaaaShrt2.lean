/-
  Points of a short form by the program: contracts, and both sides joined.
-/
import Derived.Test.YtapdecmaaciaaaaShrt
namespace Go.Proofs.Ytapdecmaaciaaaa.Shrt2
open Go.ChangeShapes Go.WideShapes Go.ChangeAt Go.RowKit
open Go.Proofs.Ytapdecmaaciaaaa.Mem Go.Proofs.Ytapdecmaaciaaaa.Num Go.Proofs.Ytapdecmaaciaaaa.Mod Go.Proofs.Ytapdecmaaciaaaa.Pow Go.Proofs.Ytapdecmaaciaaaa.Kind Go.Proofs.Ytapdecmaaciaaaa.Ed Go.Proofs.Ytapdecmaaciaaaa.Grp Go.Proofs.Ytapdecmaaciaaaa.Crv Go.Proofs.Ytapdecmaaciaaaa.Crv2 Go.Proofs.Ytapdecmaaciaaaa.Crv3 Go.Proofs.Ytapdecmaaciaaaa.Add Go.Proofs.Ytapdecmaaciaaaa.Times Go.Proofs.Ytapdecmaaciaaaa.Cnt Go.Proofs.Ytapdecmaaciaaaa.Shrt
set_option linter.unusedVariables false
set_option maxRecDepth 100000
set_option linter.unusedSectionVars false
set_option maxHeartbeats 2000000 in
theorem implShN {p : Nat} [NeZero p] {d : Fin p} (hc : Cv p d) (hC : okC p (vl d) = true) (h5 : 5 ≤ p) (h9 : p ≤ 199) (n : Nat) (hn : n < 2 * p) (hr : ¬ ∃ x, x < p ∧ x * x % p = (sqX d (rs p (n / 2 : Nat))).val) (w : World) :
    Calls Try.prog 37 #[pv p (vl d), .int .i64 n] w fun e w' => e = .returned (.tuple #[pv 0 0, .bool false]) ∧ Below w.heap.size w w' := by
  have C1 := Lib.hid (fun W => implGood p (vl d) W)
  rw [hC] at C1
  have d0 := vl_ge d; have d1 := vl_lt d
  have C2 := Lib.hid (fun W => squareX hc.pr h5 h9 d (show n / 2 < p by omega) W)
  have en : (n : Int) / 2 = ((n / 2 : Nat) : Int) := by omega
  have y0 : 0 ≤ (n : Int) / 2 := by omega
  have y1 : (n : Int) / 2 ≤ 199 := by omega
  have n0 : ¬ (n : Int) < 0 := by omega
  have n1 : ¬ (2 * (p : Int) ≤ n) := by omega
  have C3 : Hid (∀ W, Calls Try.prog 63 #[.int .i64 (vl (sqX d (rs p (n / 2 : Nat)))), .int .i64 p] W fun e w' => e = .returned (.tuple #[.int .i64 0, .bool false]) ∧ W = w') := Lib.hid (fun W => implRootNo (sqX d (rs p (n / 2 : Nat))).val p W hc.pr (sqX d (rs p (n / 2 : Nat))).isLt hr)
  clear hr
  generalize vl (sqX d (rs p (n / 2 : Nat))) = sx at *
  rw [← en] at C2
  clear en
  unfold pv at *
  go_enter Try.func37, Try.ntmps37
  go_wp2_with fail
  refine (C1.out _).mono ?_
  rintro e w1 ⟨rfl, b1⟩
  obtain ⟨k0, k1⟩ := box_a b1
  obtain ⟨c0, c1⟩ := row2 k0
  have H0 : Hid (Bx w1 w.heap.size 25 p (vl d)) := Lib.hid k0
  have H1 : Hid (Bx w1 (w.heap.size + 1) 32 0 0) := Lib.hid k1
  have HB := Lib.hid (then_ (n := 0) (al2 _ _ _) b1)
  clear b1 C1 k0 k1
  go_wp2_with fail
  have D1 : Below w1.heap.size w1 w1.drew := (Below.refl _ w1).drew
  have R2 := Lib.hid (relA w1 C2.out)
  have R3 := Lib.hid (relS w1 C3.out)
  clear C2 C3
  go_region_held3 (fun w' => w'.cell? ⟨w.heap.size, 0, none⟩ = some (.int .i64 p) ∧ w'.cell? ⟨w.heap.size, 1, none⟩ = some (.int .i64 (vl d)))
    (first | (refine ⟨?_, ?_⟩ <;> with_reducible assumption) | (go_keep; done) | (simp [*, go_sem]; done))
    (first
      | (go_at_call 62; (with_reducible refine (R2.out _ ?hb).mono ?_); (case hb => with_reducible assumption); rintro e v1 ⟨rfl, b1⟩; obtain ⟨p0, p1⟩ := (H0.out.below b1).cells)
      | (go_at_call 63; (with_reducible refine (R3.out _ ?hb).mono ?_); (case hb => with_reducible assumption); rintro e v2 ⟨rfl, b2⟩; obtain ⟨q0, q1⟩ := (H0.out.below b2).cells))
  rename_i hH
  have H0 := Lib.hid (H0.out.below b2)
  have H1 := Lib.hid (H1.out.below b2)
  have HB := Lib.hid (then_ (n := 0) HB.out b2)
  clear hH b1 b2 p0 p1 q0 q1 c0 c1 D1 R2 R3
  obtain ⟨c4, c5⟩ := H1.out.cells
  obtain ⟨f4, f5⟩ := H1.out.frz
  have hz := H1.out.lt
  go_wp2
  refine bodyPost_ret (v := .tuple #[.agg #[.int .i64 0, .int .i64 0], .bool false]) (by simp [results, Try.results37, go_sem, c4, c5]) rfl ⟨by first | rfl | rw [HN.out], ?_⟩
  repeat (first | exact HB.out | refine Below.setCell ?_ (by simp; done) _)
set_option maxHeartbeats 2000000 in
theorem implShA {p : Nat} [NeZero p] {d : Fin p} (hc : Cv p d) (hC : okC p (vl d) = true) (h5 : 5 ≤ p) (h9 : p ≤ 199) (n : Nat) (hn : n < 2 * p) (r : Nat) (hr : Least (sqX d (rs p (n / 2 : Nat))).val p r) (hs : 2 * ((n : Int) / 2) + (r : Int) % 2 = n) (w : World) :
    Calls Try.prog 37 #[pv p (vl d), .int .i64 n] w fun e w' => e = .returned (.tuple #[pv r ((n : Int) / 2), .bool true]) ∧ Below w.heap.size w w' := by
  have C1 := Lib.hid (fun W => implGood p (vl d) W)
  rw [hC] at C1
  have d0 := vl_ge d; have d1 := vl_lt d
  have C2 := Lib.hid (fun W => squareX hc.pr h5 h9 d (show n / 2 < p by omega) W)
  have en : (n : Int) / 2 = ((n / 2 : Nat) : Int) := by omega
  have y0 : 0 ≤ (n : Int) / 2 := by omega
  have y1 : (n : Int) / 2 ≤ 199 := by omega
  have n0 : ¬ (n : Int) < 0 := by omega
  have n1 : ¬ (2 * (p : Int) ≤ n) := by omega
  have C3 : Hid (∀ W, Calls Try.prog 63 #[.int .i64 (vl (sqX d (rs p (n / 2 : Nat)))), .int .i64 p] W fun e w' => e = .returned (.tuple #[.int .i64 r, .bool true]) ∧ W = w') := Lib.hid (fun W => implRootYes (sqX d (rs p (n / 2 : Nat))).val p r W hc.pr (sqX d (rs p (n / 2 : Nat))).isLt hr)
  have hrp : r < p := by have := hr.lt; omega
  have r0 : (0 : Int) ≤ r := by omega
  have r1 : (r : Int) < p := by omega
  have C4 := Lib.hid (fun W => implShortA (r : Int) ((n : Int) / 2) W (by omega) (by omega) (by omega) (by omega))
  clear hr
  generalize vl (sqX d (rs p (n / 2 : Nat))) = sx at *
  rw [← en] at C2
  clear en
  unfold pv at *
  go_enter Try.func37, Try.ntmps37
  go_wp2_with fail
  refine (C1.out _).mono ?_
  rintro e w1 ⟨rfl, b1⟩
  obtain ⟨k0, k1⟩ := box_a b1
  obtain ⟨c0, c1⟩ := row2 k0
  have H0 : Hid (Bx w1 w.heap.size 25 p (vl d)) := Lib.hid k0
  have H1 : Hid (Bx w1 (w.heap.size + 1) 32 0 0) := Lib.hid k1
  have HB := Lib.hid (then_ (n := 0) (al2 _ _ _) b1)
  clear b1 C1 k0 k1
  go_wp2_with fail
  have D1 : Below w1.heap.size w1 w1.drew := (Below.refl _ w1).drew
  have R2 := Lib.hid (relA w1 C2.out)
  have R3 := Lib.hid (relS w1 C3.out)
  clear C2 C3
  go_region_held3 (fun w' => w'.cell? ⟨w.heap.size, 0, none⟩ = some (.int .i64 p) ∧ w'.cell? ⟨w.heap.size, 1, none⟩ = some (.int .i64 (vl d)))
    (first | (refine ⟨?_, ?_⟩ <;> with_reducible assumption) | (go_keep; done) | (simp [*, go_sem]; done))
    (first
      | (go_at_call 62; (with_reducible refine (R2.out _ ?hb).mono ?_); (case hb => with_reducible assumption); rintro e v1 ⟨rfl, b1⟩; obtain ⟨p0, p1⟩ := (H0.out.below b1).cells)
      | (go_at_call 63; (with_reducible refine (R3.out _ ?hb).mono ?_); (case hb => with_reducible assumption); rintro e v2 ⟨rfl, b2⟩; obtain ⟨q0, q1⟩ := (H0.out.below b2).cells))
  rename_i hH
  have H0 := Lib.hid (H0.out.below b2)
  have H1 := Lib.hid (H1.out.below b2)
  have HB := Lib.hid (then_ (n := 0) HB.out b2)
  clear hH b1 b2 p0 p1 q0 q1 c0 c1 D1 R2 R3
  have HS := Lib.hid hs
  clear hs
  have z1 := H1.out.lt
  have kA := al1 v2 (.cells #[.int .i64 (r : Int), .int .i64 ((n : Int) / 2)] 32)
  have H0 := Lib.hid (H0.out.below kA)
  have H1 := Lib.hid (H1.out.below kA)
  have H2 : Hid (Bx (v2.alloc (.cells #[.int .i64 (r : Int), .int .i64 ((n : Int) / 2)] 32)) v2.heap.size 32 r ((n : Int) / 2)) := Lib.hid (nw1 _ _)
  have HB := Lib.hid (then_ (n := 0) HB.out kA)
  clear kA
  go_wp2_with fail
  generalize World.alloc v2 _ = W2 at *
  generalize v2.heap.size = g at *
  have ng0 : ¬ g = w.heap.size := by omega
  have ng1 : ¬ g = w.heap.size + 1 := by omega
  have ng2 : ¬ w.heap.size = g := by omega
  have ng3 : ¬ w.heap.size + 1 = g := by omega
  refine (C4.out _).mono ?_
  rintro e w3 ⟨rfl, b⟩
  have H0 := Lib.hid (H0.out.below b)
  have H1 := Lib.hid (H1.out.below b)
  have H2 := Lib.hid (H2.out.below b)
  have HB := Lib.hid (then_ (n := 0) HB.out b)
  clear b
  obtain ⟨c0, c1⟩ := H0.out.cells
  obtain ⟨c2, c3⟩ := H2.out.cells
  rw [HS.out]
  go_wp2_with fail
  refine (C4.out _).mono ?_
  rintro e w4 ⟨rfl, b⟩
  clear c0 c1 c2 c3
  have H0 := Lib.hid (H0.out.below b)
  have H1 := Lib.hid (H1.out.below b)
  have H2 := Lib.hid (H2.out.below b)
  have HB := Lib.hid (then_ (n := 0) HB.out b)
  clear b
  obtain ⟨c0, c1⟩ := H0.out.cells
  obtain ⟨c2, c3⟩ := H2.out.cells
  rw [HS.out]
  obtain ⟨c4, c5⟩ := H1.out.cells
  obtain ⟨f4, f5⟩ := H1.out.frz
  have hz := H1.out.lt
  go_wp2
  refine bodyPost_ret (v := .tuple #[.agg #[.int .i64 (r : Int), .int .i64 ((n : Int) / 2)], .bool true]) (by simp [results, Try.results37, go_sem, c4, c5]) rfl ⟨by first | rfl | rw [HN.out], ?_⟩
  repeat (first | exact HB.out | refine Below.setCell ?_ (by simp; done) _)
set_option maxHeartbeats 2000000 in
theorem implShB {p : Nat} [NeZero p] {d : Fin p} (hc : Cv p d) (hC : okC p (vl d) = true) (h5 : 5 ≤ p) (h9 : p ≤ 199) (n : Nat) (hn : n < 2 * p) (r : Nat) (hr : Least (sqX d (rs p (n / 2 : Nat))).val p r) (hs : ¬ 2 * ((n : Int) / 2) + (r : Int) % 2 = n) (hs2 : 2 * ((n : Int) / 2) + (-(r : Int) % p) % 2 = n) (w : World) :
    Calls Try.prog 37 #[pv p (vl d), .int .i64 n] w fun e w' => e = .returned (.tuple #[pv (-(r : Int) % p) ((n : Int) / 2), .bool true]) ∧ Below w.heap.size w w' := by
  have C1 := Lib.hid (fun W => implGood p (vl d) W)
  rw [hC] at C1
  have d0 := vl_ge d; have d1 := vl_lt d
  have C2 := Lib.hid (fun W => squareX hc.pr h5 h9 d (show n / 2 < p by omega) W)
  have en : (n : Int) / 2 = ((n / 2 : Nat) : Int) := by omega
  have y0 : 0 ≤ (n : Int) / 2 := by omega
  have y1 : (n : Int) / 2 ≤ 199 := by omega
  have n0 : ¬ (n : Int) < 0 := by omega
  have n1 : ¬ (2 * (p : Int) ≤ n) := by omega
  have C3 : Hid (∀ W, Calls Try.prog 63 #[.int .i64 (vl (sqX d (rs p (n / 2 : Nat)))), .int .i64 p] W fun e w' => e = .returned (.tuple #[.int .i64 r, .bool true]) ∧ W = w') := Lib.hid (fun W => implRootYes (sqX d (rs p (n / 2 : Nat))).val p r W hc.pr (sqX d (rs p (n / 2 : Nat))).isLt hr)
  have hrp : r < p := by have := hr.lt; omega
  have r0 : (0 : Int) ≤ r := by omega
  have r1 : (r : Int) < p := by omega
  have C4 := Lib.hid (fun W => implShortA (r : Int) ((n : Int) / 2) W (by omega) (by omega) (by omega) (by omega))
  clear hr
  generalize vl (sqX d (rs p (n / 2 : Nat))) = sx at *
  rw [← en] at C2
  clear en
  unfold pv at *
  go_enter Try.func37, Try.ntmps37
  go_wp2_with fail
  refine (C1.out _).mono ?_
  rintro e w1 ⟨rfl, b1⟩
  obtain ⟨k0, k1⟩ := box_a b1
  obtain ⟨c0, c1⟩ := row2 k0
  have H0 : Hid (Bx w1 w.heap.size 25 p (vl d)) := Lib.hid k0
  have H1 : Hid (Bx w1 (w.heap.size + 1) 32 0 0) := Lib.hid k1
  have HB := Lib.hid (then_ (n := 0) (al2 _ _ _) b1)
  clear b1 C1 k0 k1
  go_wp2_with fail
  have D1 : Below w1.heap.size w1 w1.drew := (Below.refl _ w1).drew
  have R2 := Lib.hid (relA w1 C2.out)
  have R3 := Lib.hid (relS w1 C3.out)
  clear C2 C3
  go_region_held3 (fun w' => w'.cell? ⟨w.heap.size, 0, none⟩ = some (.int .i64 p) ∧ w'.cell? ⟨w.heap.size, 1, none⟩ = some (.int .i64 (vl d)))
    (first | (refine ⟨?_, ?_⟩ <;> with_reducible assumption) | (go_keep; done) | (simp [*, go_sem]; done))
    (first
      | (go_at_call 62; (with_reducible refine (R2.out _ ?hb).mono ?_); (case hb => with_reducible assumption); rintro e v1 ⟨rfl, b1⟩; obtain ⟨p0, p1⟩ := (H0.out.below b1).cells)
      | (go_at_call 63; (with_reducible refine (R3.out _ ?hb).mono ?_); (case hb => with_reducible assumption); rintro e v2 ⟨rfl, b2⟩; obtain ⟨q0, q1⟩ := (H0.out.below b2).cells))
  rename_i hH
  have H0 := Lib.hid (H0.out.below b2)
  have H1 := Lib.hid (H1.out.below b2)
  have HB := Lib.hid (then_ (n := 0) HB.out b2)
  clear hH b1 b2 p0 p1 q0 q1 c0 c1 D1 R2 R3
  have C5 := Lib.hid (fun W => implNegA p (vl d) (r : Int) ((n : Int) / 2) W (by omega) (by omega) r0 r1)
  have q0 := Int.emod_nonneg (-(r : Int)) (show (p : Int) ≠ 0 by omega)
  have q1 := Int.emod_lt_of_pos (-(r : Int)) (show (0 : Int) < p by omega)
  have C6 := Lib.hid (fun W => implShortA (-(r : Int) % p) ((n : Int) / 2) W (by omega) (by omega) (by omega) (by omega))
  generalize hrn : -(r : Int) % (p : Int) = rn at *
  have HN := Lib.hid hrn
  clear hrn
  unfold pv at C5 C6
  have z1 := H1.out.lt
  have kA := al1 v2 (.cells #[.int .i64 (r : Int), .int .i64 ((n : Int) / 2)] 32)
  have H0 := Lib.hid (H0.out.below kA)
  have H1 := Lib.hid (H1.out.below kA)
  have H2 : Hid (Bx (v2.alloc (.cells #[.int .i64 (r : Int), .int .i64 ((n : Int) / 2)] 32)) v2.heap.size 32 r ((n : Int) / 2)) := Lib.hid (nw1 _ _)
  have HB := Lib.hid (then_ (n := 0) HB.out kA)
  clear kA
  go_wp2_with fail
  generalize World.alloc v2 _ = W2 at *
  generalize v2.heap.size = g at *
  have ng0 : ¬ g = w.heap.size := by omega
  have ng1 : ¬ g = w.heap.size + 1 := by omega
  have ng2 : ¬ w.heap.size = g := by omega
  have ng3 : ¬ w.heap.size + 1 = g := by omega
  refine (C4.out _).mono ?_
  rintro e w3 ⟨rfl, b⟩
  have H0 := Lib.hid (H0.out.below b)
  have H1 := Lib.hid (H1.out.below b)
  have H2 := Lib.hid (H2.out.below b)
  have HB := Lib.hid (then_ (n := 0) HB.out b)
  clear b
  obtain ⟨c0, c1⟩ := H0.out.cells
  obtain ⟨c2, c3⟩ := H2.out.cells
  go_wp2_with fail
  refine (C5.out _).mono ?_
  rintro e w4 ⟨rfl, b⟩
  clear c0 c1 c2 c3
  have H0 := Lib.hid (H0.out.below b)
  have H1 := Lib.hid (H1.out.below b)
  have H2 := Lib.hid (H2.out.below b)
  have HB := Lib.hid (then_ (n := 0) HB.out b)
  clear b
  obtain ⟨c0, c1⟩ := H0.out.cells
  obtain ⟨c2, c3⟩ := H2.out.cells
  obtain ⟨f2, f3⟩ := H2.out.frz
  have K0 := Lib.hid (H0.out.other (u := .int .i64 rn) (v := .int .i64 ((n : Int) / 2)) ng2)
  have K1 := Lib.hid (H1.out.other (u := .int .i64 rn) (v := .int .i64 ((n : Int) / 2)) ng3)
  have K2 := Lib.hid (H2.out.set (x' := rn) (y' := (n : Int) / 2))
  have KB := Lib.hid (below_set2 (x := .int .i64 rn) (y := .int .i64 ((n : Int) / 2)) HB.out (show w.heap.size ≤ g by omega))
  go_wp2_with fail
  generalize World.setCell (World.setCell w4 _ _) _ _ = W5 at *
  have H0 := K0
  have H1 := K1
  have H2 := K2
  have HB := KB
  clear K0 K1 K2 KB
  refine (C6.out _).mono ?_
  rintro e w6 ⟨rfl, b⟩
  clear c0 c1 c2 c3
  have H0 := Lib.hid (H0.out.below b)
  have H1 := Lib.hid (H1.out.below b)
  have H2 := Lib.hid (H2.out.below b)
  have HB := Lib.hid (then_ (n := 0) HB.out b)
  clear b
  obtain ⟨c0, c1⟩ := H0.out.cells
  obtain ⟨c2, c3⟩ := H2.out.cells
  obtain ⟨c4, c5⟩ := H1.out.cells
  obtain ⟨f4, f5⟩ := H1.out.frz
  have hz := H1.out.lt
  go_wp2
  refine bodyPost_ret (v := .tuple #[.agg #[.int .i64 rn, .int .i64 ((n : Int) / 2)], .bool true]) (by simp [results, Try.results37, go_sem, c4, c5]) rfl ⟨by first | rfl | rw [HN.out], ?_⟩
  repeat (first | exact HB.out | refine Below.setCell ?_ (by simp; done) _)
set_option maxHeartbeats 2000000 in
theorem implShC {p : Nat} [NeZero p] {d : Fin p} (hc : Cv p d) (hC : okC p (vl d) = true) (h5 : 5 ≤ p) (h9 : p ≤ 199) (n : Nat) (hn : n < 2 * p) (r : Nat) (hr : Least (sqX d (rs p (n / 2 : Nat))).val p r) (hs : ¬ 2 * ((n : Int) / 2) + (r : Int) % 2 = n) (hs2 : ¬ 2 * ((n : Int) / 2) + (-(r : Int) % p) % 2 = n) (w : World) :
    Calls Try.prog 37 #[pv p (vl d), .int .i64 n] w fun e w' => e = .returned (.tuple #[pv 0 0, .bool false]) ∧ Below w.heap.size w w' := by
  have C1 := Lib.hid (fun W => implGood p (vl d) W)
  rw [hC] at C1
  have d0 := vl_ge d; have d1 := vl_lt d
  have C2 := Lib.hid (fun W => squareX hc.pr h5 h9 d (show n / 2 < p by omega) W)
  have en : (n : Int) / 2 = ((n / 2 : Nat) : Int) := by omega
  have y0 : 0 ≤ (n : Int) / 2 := by omega
  have y1 : (n : Int) / 2 ≤ 199 := by omega
  have n0 : ¬ (n : Int) < 0 := by omega
  have n1 : ¬ (2 * (p : Int) ≤ n) := by omega
  have C3 : Hid (∀ W, Calls Try.prog 63 #[.int .i64 (vl (sqX d (rs p (n / 2 : Nat)))), .int .i64 p] W fun e w' => e = .returned (.tuple #[.int .i64 r, .bool true]) ∧ W = w') := Lib.hid (fun W => implRootYes (sqX d (rs p (n / 2 : Nat))).val p r W hc.pr (sqX d (rs p (n / 2 : Nat))).isLt hr)
  have hrp : r < p := by have := hr.lt; omega
  have r0 : (0 : Int) ≤ r := by omega
  have r1 : (r : Int) < p := by omega
  have C4 := Lib.hid (fun W => implShortA (r : Int) ((n : Int) / 2) W (by omega) (by omega) (by omega) (by omega))
  clear hr
  generalize vl (sqX d (rs p (n / 2 : Nat))) = sx at *
  rw [← en] at C2
  clear en
  unfold pv at *
  go_enter Try.func37, Try.ntmps37
  go_wp2_with fail
  refine (C1.out _).mono ?_
  rintro e w1 ⟨rfl, b1⟩
  obtain ⟨k0, k1⟩ := box_a b1
  obtain ⟨c0, c1⟩ := row2 k0
  have H0 : Hid (Bx w1 w.heap.size 25 p (vl d)) := Lib.hid k0
  have H1 : Hid (Bx w1 (w.heap.size + 1) 32 0 0) := Lib.hid k1
  have HB := Lib.hid (then_ (n := 0) (al2 _ _ _) b1)
  clear b1 C1 k0 k1
  go_wp2_with fail
  have D1 : Below w1.heap.size w1 w1.drew := (Below.refl _ w1).drew
  have R2 := Lib.hid (relA w1 C2.out)
  have R3 := Lib.hid (relS w1 C3.out)
  clear C2 C3
  go_region_held3 (fun w' => w'.cell? ⟨w.heap.size, 0, none⟩ = some (.int .i64 p) ∧ w'.cell? ⟨w.heap.size, 1, none⟩ = some (.int .i64 (vl d)))
    (first | (refine ⟨?_, ?_⟩ <;> with_reducible assumption) | (go_keep; done) | (simp [*, go_sem]; done))
    (first
      | (go_at_call 62; (with_reducible refine (R2.out _ ?hb).mono ?_); (case hb => with_reducible assumption); rintro e v1 ⟨rfl, b1⟩; obtain ⟨p0, p1⟩ := (H0.out.below b1).cells)
      | (go_at_call 63; (with_reducible refine (R3.out _ ?hb).mono ?_); (case hb => with_reducible assumption); rintro e v2 ⟨rfl, b2⟩; obtain ⟨q0, q1⟩ := (H0.out.below b2).cells))
  rename_i hH
  have H0 := Lib.hid (H0.out.below b2)
  have H1 := Lib.hid (H1.out.below b2)
  have HB := Lib.hid (then_ (n := 0) HB.out b2)
  clear hH b1 b2 p0 p1 q0 q1 c0 c1 D1 R2 R3
  have C5 := Lib.hid (fun W => implNegA p (vl d) (r : Int) ((n : Int) / 2) W (by omega) (by omega) r0 r1)
  have q0 := Int.emod_nonneg (-(r : Int)) (show (p : Int) ≠ 0 by omega)
  have q1 := Int.emod_lt_of_pos (-(r : Int)) (show (0 : Int) < p by omega)
  have C6 := Lib.hid (fun W => implShortA (-(r : Int) % p) ((n : Int) / 2) W (by omega) (by omega) (by omega) (by omega))
  generalize hrn : -(r : Int) % (p : Int) = rn at *
  have HN := Lib.hid hrn
  clear hrn
  unfold pv at C5 C6
  have z1 := H1.out.lt
  have kA := al1 v2 (.cells #[.int .i64 (r : Int), .int .i64 ((n : Int) / 2)] 32)
  have H0 := Lib.hid (H0.out.below kA)
  have H1 := Lib.hid (H1.out.below kA)
  have H2 : Hid (Bx (v2.alloc (.cells #[.int .i64 (r : Int), .int .i64 ((n : Int) / 2)] 32)) v2.heap.size 32 r ((n : Int) / 2)) := Lib.hid (nw1 _ _)
  have HB := Lib.hid (then_ (n := 0) HB.out kA)
  clear kA
  go_wp2_with fail
  generalize World.alloc v2 _ = W2 at *
  generalize v2.heap.size = g at *
  have ng0 : ¬ g = w.heap.size := by omega
  have ng1 : ¬ g = w.heap.size + 1 := by omega
  have ng2 : ¬ w.heap.size = g := by omega
  have ng3 : ¬ w.heap.size + 1 = g := by omega
  refine (C4.out _).mono ?_
  rintro e w3 ⟨rfl, b⟩
  have H0 := Lib.hid (H0.out.below b)
  have H1 := Lib.hid (H1.out.below b)
  have H2 := Lib.hid (H2.out.below b)
  have HB := Lib.hid (then_ (n := 0) HB.out b)
  clear b
  obtain ⟨c0, c1⟩ := H0.out.cells
  obtain ⟨c2, c3⟩ := H2.out.cells
  go_wp2_with fail
  refine (C5.out _).mono ?_
  rintro e w4 ⟨rfl, b⟩
  clear c0 c1 c2 c3
  have H0 := Lib.hid (H0.out.below b)
  have H1 := Lib.hid (H1.out.below b)
  have H2 := Lib.hid (H2.out.below b)
  have HB := Lib.hid (then_ (n := 0) HB.out b)
  clear b
  obtain ⟨c0, c1⟩ := H0.out.cells
  obtain ⟨c2, c3⟩ := H2.out.cells
  obtain ⟨f2, f3⟩ := H2.out.frz
  have K0 := Lib.hid (H0.out.other (u := .int .i64 rn) (v := .int .i64 ((n : Int) / 2)) ng2)
  have K1 := Lib.hid (H1.out.other (u := .int .i64 rn) (v := .int .i64 ((n : Int) / 2)) ng3)
  have K2 := Lib.hid (H2.out.set (x' := rn) (y' := (n : Int) / 2))
  have KB := Lib.hid (below_set2 (x := .int .i64 rn) (y := .int .i64 ((n : Int) / 2)) HB.out (show w.heap.size ≤ g by omega))
  go_wp2_with fail
  generalize World.setCell (World.setCell w4 _ _) _ _ = W5 at *
  have H0 := K0
  have H1 := K1
  have H2 := K2
  have HB := KB
  clear K0 K1 K2 KB
  refine (C6.out _).mono ?_
  rintro e w6 ⟨rfl, b⟩
  clear c0 c1 c2 c3
  have H0 := Lib.hid (H0.out.below b)
  have H1 := Lib.hid (H1.out.below b)
  have H2 := Lib.hid (H2.out.below b)
  have HB := Lib.hid (then_ (n := 0) HB.out b)
  clear b
  obtain ⟨c0, c1⟩ := H0.out.cells
  obtain ⟨c2, c3⟩ := H2.out.cells
  obtain ⟨c4, c5⟩ := H1.out.cells
  obtain ⟨f4, f5⟩ := H1.out.frz
  have hz := H1.out.lt
  go_wp2
  refine bodyPost_ret (v := .tuple #[.agg #[.int .i64 0, .int .i64 0], .bool false]) (by simp [results, Try.results37, go_sem, c4, c5]) rfl ⟨by first | rfl | rw [HN.out], ?_⟩
  repeat (first | exact HB.out | refine Below.setCell ?_ (by simp; done) _)
theorem implShOut (P D n : Int) (w : World) (h : okC P D = false ∨ n < 0 ∨ 2 * P ≤ n) :
    Calls Try.prog 37 #[pv P D, .int .i64 n] w fun e w' => e = .returned (.tuple #[pv 0 0, .bool false]) ∧ Below w.heap.size w w' := by
  have C1 := Lib.hid (fun W => implGood P D W)
  unfold pv at *
  cases hA : okC P D
  · rw [hA] at C1
    clear hA h
    go_enter Try.func37, Try.ntmps37
    go_wp2_with fail
    refine (C1.out _).mono ?_
    rintro e w1 ⟨rfl, b1⟩
    obtain ⟨k0, k1⟩ := box_a b1
    have B := Lib.hid (then_ (n := 0) (al2 _ _ _) b1)
    obtain ⟨q6, q7⟩ := row2 k1
    obtain ⟨f6, f7⟩ := frz2 k1
    have hz : w.heap.size + 1 < w1.heap.size := bx_lt k1
    clear b1 k0 k1
    go_wp2
    refine bodyPost_ret (v := .tuple #[.agg #[.int .i64 0, .int .i64 0], .bool false]) (by simp [results, Try.results37, go_sem, q6, q7]) rfl ⟨rfl, ?_⟩
    repeat (first | exact B.out | refine Below.setCell ?_ (by simp; done) _)
  · obtain ⟨h5, h9, _, _⟩ := okC_bd hA
    have hk : n < 0 ∨ 2 * P ≤ n := by rw [hA] at h; simpa using h
    rw [hA] at C1
    clear hA h
    by_cases h0 : n < 0
    case' neg => have h1 : 2 * P ≤ n := by omega
    all_goals
      clear hk
      go_enter Try.func37, Try.ntmps37
      go_wp2_with fail
      refine (C1.out _).mono ?_
      rintro e w1 ⟨rfl, b1⟩
      obtain ⟨k0, k1⟩ := box_a b1
      have B := Lib.hid (then_ (n := 0) (al2 _ _ _) b1)
      obtain ⟨c0, c1⟩ := row2 k0
      obtain ⟨q6, q7⟩ := row2 k1
      obtain ⟨f6, f7⟩ := frz2 k1
      have hz : w.heap.size + 1 < w1.heap.size := bx_lt k1
      clear b1 k0 k1
      go_wp2
      refine bodyPost_ret (v := .tuple #[.agg #[.int .i64 0, .int .i64 0], .bool false]) (by simp [results, Try.results37, go_sem, q6, q7]) rfl ⟨rfl, ?_⟩
      repeat (first | exact B.out | refine Below.setCell ?_ (by simp; done) _)
theorem specShOut (P D n : Int) (w : World) (h : okC P D = false ∨ n < 0 ∨ 2 * P ≤ n) :
    Calls Try.prog 36 #[pv P D, .int .i64 n] w fun e w' => e = .returned (.tuple #[pv 0 0, .bool false]) ∧ Below w.heap.size w w' := by
  have C1 := Lib.hid (fun W => specGood P D W)
  unfold pv at *
  cases hA : okC P D
  · rw [hA] at C1
    clear hA h
    go_enter Try.func36, Try.ntmps36
    go_wp2_with fail
    refine (C1.out _).mono ?_
    rintro e w1 ⟨rfl, b1⟩
    obtain ⟨k0, k1⟩ := box_a b1
    have B := Lib.hid (then_ (n := 0) (al2 _ _ _) b1)
    obtain ⟨q6, q7⟩ := row2 k1
    obtain ⟨f6, f7⟩ := frz2 k1
    have hz : w.heap.size + 1 < w1.heap.size := bx_lt k1
    clear b1 k0 k1
    go_wp2
    refine bodyPost_ret (v := .tuple #[.agg #[.int .i64 0, .int .i64 0], .bool false]) (by simp [results, Try.results36, go_sem, q6, q7]) rfl ⟨rfl, ?_⟩
    repeat (first | exact B.out | refine Below.setCell ?_ (by simp; done) _)
  · obtain ⟨h5, h9, _, _⟩ := okC_bd hA
    have hk : n < 0 ∨ 2 * P ≤ n := by rw [hA] at h; simpa using h
    have C2 := Lib.hid (fun W => inNo n 0 (2 * P - 1) W (by omega))
    rw [hA] at C1
    clear hA h hk
    go_enter Try.func36, Try.ntmps36
    go_wp2_with fail
    refine (C1.out _).mono ?_
    rintro e w1 ⟨rfl, b1⟩
    obtain ⟨k0, k1⟩ := box_a b1
    have B := Lib.hid (then_ (n := 0) (al2 _ _ _) b1)
    obtain ⟨c0, c1⟩ := row2 k0
    obtain ⟨q6, q7⟩ := row2 k1
    obtain ⟨f6, f7⟩ := frz2 k1
    have hz : w.heap.size + 1 < w1.heap.size := bx_lt k1
    clear b1 k0 k1
    go_wp2_with fail
    refine (C2.out _).mono ?_
    rintro e w2 ⟨rfl, rfl⟩
    go_wp2
    refine bodyPost_ret (v := .tuple #[.agg #[.int .i64 0, .int .i64 0], .bool false]) (by simp [results, Try.results36, go_sem, q6, q7]) rfl ⟨rfl, ?_⟩
    repeat (first | exact B.out | refine Below.setCell ?_ (by simp; done) _)
/-- What both sides answer. -/
def Ans (P D n u v : Int) (b : Bool) : Prop := (∀ W, Calls Try.prog 36 #[pv P D, .int .i64 n] W fun e w' => e = .returned (.tuple #[pv u v, .bool b]) ∧ Below W.heap.size W w') ∧
    (∀ W, Calls Try.prog 37 #[pv P D, .int .i64 n] W fun e w' => e = .returned (.tuple #[pv u v, .bool b]) ∧ Below W.heap.size W w')
theorem neg_par {p r : Nat} (hp : p % 2 = 1) (hr : r < p) (h0 : 0 < r) : -(r : Int) % p = ((p - r : Nat) : Int) := by
  have e : -(r : Int) = ((p - r : Nat) : Int) + (p : Int) * (-1) := by omega
  rw [e, Int.add_mul_emod_self_left]; exact Int.emod_eq_of_lt (by omega) (by omega)
theorem spec_no {p : Nat} [NeZero p] {d : Fin p} (hc : Cv p d) (hC : okC p (vl d) = true) (h5 : 5 ≤ p) (h9 : p ≤ 199) (n : Nat) (hn : n < 2 * p) (hl : ∀ j, j < p → ¬ isX d n j) (w : World) :
    Calls Try.prog 36 #[pv p (vl d), .int .i64 n] w fun e w' => e = .returned (.tuple #[pv 0 0, .bool false]) ∧ Below w.heap.size w w' := by
  have := specSh hc hC h5 h9 n hn p (Nat.le_refl _) (fun h => absurd h (Nat.lt_irrefl _)) hl w
  rw [if_neg (Nat.lt_irrefl _), show decide (p < p) = false by simp] at this
  exact this
theorem spec_at {p : Nat} [NeZero p] {d : Fin p} (hc : Cv p d) (hC : okC p (vl d) = true) (h5 : 5 ≤ p) (h9 : p ≤ 199) (n : Nat) (hn : n < 2 * p) (x : Nat) (hx : x < p) (hi : isX d n x) (hl : ∀ j, j < x → ¬ isX d n j) (w : World) :
    Calls Try.prog 36 #[pv p (vl d), .int .i64 n] w fun e w' => e = .returned (.tuple #[pv x ((n : Int) / 2), .bool true]) ∧ Below w.heap.size w w' := by
  have := specSh hc hC h5 h9 n hn x (Nat.le_of_lt hx) (fun _ => hi) hl w
  rw [if_pos hx, show decide (x < p) = true by simpa using hx, show (((n / 2 : Nat)) : Int) = (n : Int) / 2 by omega] at this
  exact this
theorem shortBoth (P D n : Int) : ∃ (u v : Int) (b : Bool), Ans P D n u v b := by
  by_cases h : okC P D = false ∨ n < 0 ∨ 2 * P ≤ n
  · exact ⟨0, 0, false, fun W => specShOut P D n W h, fun W => implShOut P D n W h⟩
  · have hA : okC P D = true := by cases e : okC P D <;> simp_all
    have hA' := hA
    obtain ⟨m, rfl⟩ : ∃ m : Nat, n = m := ⟨n.toNat, by omega⟩
    obtain ⟨p, i, d, rfl, rfl, hc, h5, h9, _, _⟩ := okC_yes hA
    have hm : m < 2 * p := by omega
    have hodd := odd hc.pr
    by_cases hx : ∃ x, x < p ∧ x * x % p = (sqX d (rs p (m / 2 : Nat))).val
    · obtain ⟨r, h1, h2, h3⟩ := root_low hc.pr (sqX d (rs p (m / 2 : Nat))).val hx
      have L : Least (sqX d (rs p (m / 2 : Nat))).val p r := ⟨h1, h2, h3⟩
      have hrp : r < p := by omega
      by_cases hs : 2 * ((m : Int) / 2) + (r : Int) % 2 = m
      · exact ⟨_, _, true, fun W => spec_at hc hA' h5 h9 m hm r hrp ⟨h2, by omega⟩ (fun j hj hX => h3 j hj hX.1) W, fun W => implShA hc hA' h5 h9 m hm r L hs W⟩
      · by_cases h0 : 0 < r
        · have en := neg_par hodd hrp h0
          have hs2 : 2 * ((m : Int) / 2) + (-(r : Int) % p) % 2 = m := by rw [en]; omega
          refine ⟨_, _, true, fun W => ?_, fun W => implShB hc hA' h5 h9 m hm r L hs hs2 W⟩
          rw [en]
          refine spec_at hc hA' h5 h9 m hm (p - r) (by omega) ⟨by rw [other_root p r hrp]; exact h2, by omega⟩ (fun j hj hX => ?_) W
          rcases roots_only hc.pr (show j < p by omega) hrp (hX.1.trans h2.symm) with e | e
          · subst e; have := hX.2; omega
          · omega
        · obtain rfl : r = 0 := by omega
          have hs2 : ¬ 2 * ((m : Int) / 2) + (-((0 : Nat) : Int) % p) % 2 = m := by simpa using hs
          refine ⟨0, 0, false, fun W => ?_, fun W => implShC hc hA' h5 h9 m hm 0 L hs hs2 W⟩
          refine spec_no hc hA' h5 h9 m hm (fun j hj hX => ?_) W
          rcases roots_only hc.pr hj hrp (hX.1.trans h2.symm) with e | e
          · subst e; have := hX.2; omega
          · omega
    · exact ⟨0, 0, false, fun W => spec_no hc hA' h5 h9 m hm (fun j hj hX => hx ⟨j, hj, hX.1⟩) W, fun W => implShN hc hA' h5 h9 m hm hx W⟩
end Go.Proofs.Ytapdecmaaciaaaa.Shrt2
