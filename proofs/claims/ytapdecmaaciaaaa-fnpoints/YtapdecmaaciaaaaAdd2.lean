/-
  Sums of points: the program's sum and the reference's.
-/
import Derived.Test.YtapdecmaaciaaaaAdd
namespace Go.Proofs.Ytapdecmaaciaaaa.Add2
open Go.ChangeShapes Go.WideShapes Go.ChangeAt Go.RowKit
open Go.Proofs.Ytapdecmaaciaaaa.Mem Go.Proofs.Ytapdecmaaciaaaa.Num Go.Proofs.Ytapdecmaaciaaaa.Mod Go.Proofs.Ytapdecmaaciaaaa.Pow Go.Proofs.Ytapdecmaaciaaaa.Kind Go.Proofs.Ytapdecmaaciaaaa.Ed Go.Proofs.Ytapdecmaaciaaaa.Grp Go.Proofs.Ytapdecmaaciaaaa.Crv Go.Proofs.Ytapdecmaaciaaaa.Crv2 Go.Proofs.Ytapdecmaaciaaaa.Crv3 Go.Proofs.Ytapdecmaaciaaaa.Add
set_option linter.unusedVariables false
set_option maxRecDepth 100000
section
variable {p : Nat} [NeZero p]
theorem adX (h2 : 2 ≤ p) (d : Fin p) (a b : Fin p × Fin p) : rs p (vl a.1 * vl b.2 + vl a.2 * vl b.1) * fi (rs p (1 + vl d * vl a.1 * vl b.1 * vl a.2 * vl b.2)) = (ad d a b).1 := by
  simp only [rs_add, rs_mul, rs_vl, rs_one h2, ad]
theorem adY (h2 : 2 ≤ p) (d : Fin p) (a b : Fin p × Fin p) : rs p (vl a.2 * vl b.2 - vl a.1 * vl b.1) * fi (rs p (1 - vl d * vl a.1 * vl b.1 * vl a.2 * vl b.2)) = (ad d a b).2 := by
  simp only [rs_sub, rs_mul, rs_vl, rs_one h2, ad]
set_option maxHeartbeats 2000000 in
theorem implSum (hp : Pr p) (h5 : 5 ≤ p) (h9 : p ≤ 199) (d : Fin p) (a b : Fin p × Fin p) (w : World) :
    Calls Try.prog 58 #[pv p (vl d), pv (vl a.1) (vl a.2), pv (vl b.1) (vl b.2)] w fun e w' => e = .returned (pv (vl (ad d a b).1) (vl (ad d a b).2)) ∧ Below w.heap.size w w' := by
  have d0 := vl_ge d; have d1 := vl_lt d
  have x0 := vl_ge a.1; have x1 := vl_lt a.1
  have y0 := vl_ge a.2; have y1 := vl_lt a.2
  have s0 := vl_ge b.1; have s1 := vl_lt b.1
  have t0 := vl_ge b.2; have t1 := vl_lt b.2
  rw [← adX (by omega) d a b, ← adY (by omega) d a b]
  generalize vl d = D at *
  generalize vl a.1 = X at *
  generalize vl a.2 = Y at *
  generalize vl b.1 = S at *
  generalize vl b.2 = T at *
  obtain ⟨m1, m2⟩ := mulb d0 (show D ≤ 199 by omega) x0 (show X ≤ 199 by omega)
  obtain ⟨m3, m4⟩ := mulb m1 m2 s0 (show S ≤ 199 by omega)
  obtain ⟨m5, m6⟩ := mulb m3 m4 y0 (show Y ≤ 199 by omega)
  obtain ⟨m7, m8⟩ := mulb m5 m6 t0 (show T ≤ 199 by omega)
  obtain ⟨u1, u2⟩ := mulb x0 (show X ≤ 199 by omega) t0 (show T ≤ 199 by omega)
  obtain ⟨u3, u4⟩ := mulb y0 (show Y ≤ 199 by omega) s0 (show S ≤ 199 by omega)
  obtain ⟨u5, u6⟩ := mulb y0 (show Y ≤ 199 by omega) t0 (show T ≤ 199 by omega)
  obtain ⟨u7, u8⟩ := mulb x0 (show X ≤ 199 by omega) s0 (show S ≤ 199 by omega)
  have CX := Lib.hid (fun W => quotient hp h5 h9 (X * T + Y * S) (1 + D * X * S * Y * T) D W (by omega) (by omega) (by omega) (by omega))
  have CY := Lib.hid (fun W => quotient hp h5 h9 (Y * T - X * S) (1 - D * X * S * Y * T) D W (by omega) (by omega) (by omega) (by omega))
  generalize vl (rs p (X * T + Y * S) * fi (rs p (1 + D * X * S * Y * T))) = rx at *
  generalize vl (rs p (Y * T - X * S) * fi (rs p (1 - D * X * S * Y * T))) = ry at *
  unfold pv at *
  go_enter Try.func58, Try.ntmps58
  go_wp2_with fail
  have hw1 : IntKind.i64.wrap (X * T) = X * T := IntWalk.i64_in _ (by omega)
  have hw2 : IntKind.i64.wrap (Y * S) = Y * S := IntWalk.i64_in _ (by omega)
  have hw3 : IntKind.i64.wrap (X * T + Y * S) = X * T + Y * S := IntWalk.i64_in _ (by omega)
  have hw4 : IntKind.i64.wrap (Y * T) = Y * T := IntWalk.i64_in _ (by omega)
  have hw5 : IntKind.i64.wrap (X * S) = X * S := IntWalk.i64_in _ (by omega)
  have hw6 : IntKind.i64.wrap (Y * T - X * S) = Y * T - X * S := IntWalk.i64_in _ (by omega)
  have hw7 : IntKind.i64.wrap (1 + D * X * S * Y * T) = 1 + D * X * S * Y * T := IntWalk.i64_in _ (by omega)
  have hw8 : IntKind.i64.wrap (1 - D * X * S * Y * T) = 1 - D * X * S * Y * T := IntWalk.i64_in _ (by omega)
  obtain ⟨k0, k1, k2, k3⟩ := nw4 w (.cells #[.int .i64 (p : Int), .int .i64 D] 25) (.cells #[.int .i64 X, .int .i64 Y] 32) (.cells #[.int .i64 S, .int .i64 T] 32) (.cells #[.int .i64 0, .int .i64 0] 32)
  have B0 := Lib.hid (al4 w (.cells #[.int .i64 (p : Int), .int .i64 D] 25) (.cells #[.int .i64 X, .int .i64 Y] 32) (.cells #[.int .i64 S, .int .i64 T] 32) (.cells #[.int .i64 0, .int .i64 0] 32))
  generalize World.alloc (World.alloc (World.alloc (World.alloc w _) _) _) _ = W0 at *
  have H0 := Lib.hid k0
  have H1 := Lib.hid k1
  have H2 := Lib.hid k2
  have H3 := Lib.hid k3
  obtain ⟨c0, c1⟩ := row2 k0
  obtain ⟨c2, c3⟩ := row2 k1
  obtain ⟨c4, c5⟩ := row2 k2
  have D1 : Below W0.heap.size W0 W0.drew := (Below.refl _ W0).drew
  have RX := Lib.hid (relA W0 CX.out)
  have RY := Lib.hid (relA W0 CY.out)
  clear CX CY k0 k1 k2 k3
  clear m1 m2 m3 m4 m5 m6 m7 m8 u1 u2 u3 u4 u5 u6 u7 u8 d0 d1 x0 x1 y0 y1 s0 s1 t0 t1
  go_region_held3 (fun w' => w'.cell? ⟨w.heap.size, 0, none⟩ = some (.int .i64 p) ∧ w'.cell? ⟨w.heap.size, 1, none⟩ = some (.int .i64 D) ∧ w'.cell? ⟨w.heap.size + 1, 0, none⟩ = some (.int .i64 X) ∧ w'.cell? ⟨w.heap.size + 1, 1, none⟩ = some (.int .i64 Y) ∧ w'.cell? ⟨w.heap.size + 1 + 1, 0, none⟩ = some (.int .i64 S) ∧ w'.cell? ⟨w.heap.size + 1 + 1, 1, none⟩ = some (.int .i64 T))
    (first | (refine ⟨?_, ?_, ?_, ?_, ?_, ?_⟩ <;> with_reducible assumption) | (go_keep; done) | (simp [*, go_sem]; done))
    (first
      | (go_at_call 74; (with_reducible refine (RX.out _ ?hb).mono ?_); (case hb => with_reducible assumption); rintro e v1 ⟨rfl, b1⟩; obtain ⟨p0, p1⟩ := row2 (bx H0.out b1); obtain ⟨p2, p3⟩ := row2 (bx H1.out b1); obtain ⟨p4, p5⟩ := row2 (bx H2.out b1))
      | (go_at_call 74; (with_reducible refine (RY.out _ ?hb).mono ?_); (case hb => with_reducible assumption); rintro e v2 ⟨rfl, b2⟩; obtain ⟨q0, q1⟩ := row2 (bx H0.out b2); obtain ⟨q2, q3⟩ := row2 (bx H1.out b2); obtain ⟨q4, q5⟩ := row2 (bx H2.out b2); obtain ⟨q6, q7⟩ := row2 (bx H3.out b2); obtain ⟨f6, f7⟩ := frz2 (bx H3.out b2)))
  rename_i hH
  have B : Below w.heap.size w v2 := then_ (n := 0) B0.out b2
  have hz : w.heap.size + 1 + 1 + 1 < v2.heap.size := bx_lt (bx H3.out b2)
  clear hH b1 b2 p0 p1 p2 p3 p4 p5 q0 q1 q2 q3 q4 q5 c0 c1 c2 c3 c4 c5 RX RY hw1 hw2 hw3 hw4 hw5 hw6 hw7 hw8
  go_wp2
  refine bodyPost_ret (v := .agg #[.int .i64 rx, .int .i64 ry]) (by simp [results, Try.results58, go_sem, q6, q7]) rfl ⟨rfl, ?_⟩
  repeat (first | exact B | refine Below.setCell ?_ (by simp; omega) _)
theorem vX (a b : Fin p × Fin p) : vl (a.1 * b.2 + a.2 * b.1) = (vl a.1 * vl b.2 + vl a.2 * vl b.1) % p := by
  rw [← vl_rs, rs_add, rs_mul, rs_mul, rs_vl, rs_vl, rs_vl, rs_vl]
theorem vY (a b : Fin p × Fin p) : vl (a.2 * b.2 - a.1 * b.1) = (vl a.2 * vl b.2 % p + p - vl a.1 * vl b.1) % p := by
  rw [← vl_rs, rs_sub, rs_add, rs_mod, rs_self, rs_mul, rs_mul, rs_vl, rs_vl, rs_vl, rs_vl]
  congr 1; grind
theorem mM (d : Fin p) (a b : Fin p × Fin p) : vl d * vl a.1 % p * vl b.1 % p * vl a.2 % p * vl b.2 % p = vl (d * a.1 * b.1 * a.2 * b.2) := by
  rw [vl_mul, vl_mul, vl_mul, vl_mul]
set_option maxHeartbeats 2000000 in
theorem specAdd (hp : Pr p) (h5 : 5 ≤ p) (h9 : p ≤ 199) (d : Fin p) (a b : Fin p × Fin p) (w : World) :
    Calls Try.prog 57 #[pv p (vl d), pv (vl a.1) (vl a.2), pv (vl b.1) (vl b.2)] w fun e w' => e = .returned (pv (vl (ad d a b).1) (vl (ad d a b).2)) ∧ Below w.heap.size w w' := by
  have d0 := vl_ge d; have d1 := vl_lt d
  have x0 := vl_ge a.1; have x1 := vl_lt a.1
  have y0 := vl_ge a.2; have y1 := vl_lt a.2
  have s0 := vl_ge b.1; have s1 := vl_lt b.1
  have t0 := vl_ge b.2; have t1 := vl_lt b.2
  have M := Lib.hid (mM d a b)
  have NX := Lib.hid (vX a b)
  have NY := Lib.hid (vY a b)
  have g0 := vl_ge (d * a.1 * b.1 * a.2 * b.2); have g1 := vl_lt (d * a.1 * b.1 * a.2 * b.2)
  have CX := Lib.hid (fun W => specInv hp (1 + d * a.1 * b.1 * a.2 * b.2) W)
  have CY := Lib.hid (fun W => specInv hp (1 - d * a.1 * b.1 * a.2 * b.2) W)
  rw [← M.out] at g0 g1
  generalize vl d = D at *
  generalize vl a.1 = X at *
  generalize vl a.2 = Y at *
  generalize vl b.1 = S at *
  generalize vl b.2 = T at *
  have q : (0 : Int) < p := by omega
  have q0 : (p : Int) ≠ 0 := by omega
  obtain ⟨m1, m2⟩ := mulb d0 (show D ≤ 199 by omega) x0 (show X ≤ 199 by omega)
  have e1 := Int.emod_nonneg (D * X) q0; have e2 := Int.emod_lt_of_pos (D * X) q
  obtain ⟨m3, m4⟩ := mulb e1 (show D * X % p ≤ 199 by omega) s0 (show S ≤ 199 by omega)
  have e3 := Int.emod_nonneg (D * X % p * S) q0; have e4 := Int.emod_lt_of_pos (D * X % p * S) q
  obtain ⟨m5, m6⟩ := mulb e3 (show D * X % p * S % p ≤ 199 by omega) y0 (show Y ≤ 199 by omega)
  have e5 := Int.emod_nonneg (D * X % p * S % p * Y) q0; have e6 := Int.emod_lt_of_pos (D * X % p * S % p * Y) q
  obtain ⟨m7, m8⟩ := mulb e5 (show D * X % p * S % p * Y % p ≤ 199 by omega) t0 (show T ≤ 199 by omega)
  obtain ⟨u1, u2⟩ := mulb x0 (show X ≤ 199 by omega) t0 (show T ≤ 199 by omega)
  obtain ⟨u3, u4⟩ := mulb y0 (show Y ≤ 199 by omega) s0 (show S ≤ 199 by omega)
  obtain ⟨u5, u6⟩ := mulb y0 (show Y ≤ 199 by omega) t0 (show T ≤ 199 by omega)
  obtain ⟨u7, u8⟩ := mulb x0 (show X ≤ 199 by omega) s0 (show S ≤ 199 by omega)
  unfold pv at *
  go_enter Try.func57, Try.ntmps57
  go_wp2_with fail
  obtain ⟨k0, k1, k2, k3⟩ := nw4 w (.cells #[.int .i64 (p : Int), .int .i64 D] 25) (.cells #[.int .i64 X, .int .i64 Y] 32) (.cells #[.int .i64 S, .int .i64 T] 32) (.cells #[.int .i64 0, .int .i64 0] 32)
  have B0 := Lib.hid (al4 w (.cells #[.int .i64 (p : Int), .int .i64 D] 25) (.cells #[.int .i64 X, .int .i64 Y] 32) (.cells #[.int .i64 S, .int .i64 T] 32) (.cells #[.int .i64 0, .int .i64 0] 32))
  generalize World.alloc (World.alloc (World.alloc (World.alloc w _) _) _) _ = W0 at *
  obtain ⟨c0, c1⟩ := row2 k0
  obtain ⟨c2, c3⟩ := row2 k1
  obtain ⟨c4, c5⟩ := row2 k2
  have H3 := Lib.hid k3
  clear k0 k1 k2 k3
  go_quiet (fail)
  have c0 : (W0.drewN nq).cell? ⟨w.heap.size, 0, none⟩ = some (.int .i64 p) := c0
  have c1 : (W0.drewN nq).cell? ⟨w.heap.size, 1, none⟩ = some (.int .i64 D) := c1
  have c2 : (W0.drewN nq).cell? ⟨w.heap.size + 1, 0, none⟩ = some (.int .i64 X) := c2
  have c3 : (W0.drewN nq).cell? ⟨w.heap.size + 1, 1, none⟩ = some (.int .i64 Y) := c3
  have c4 : (W0.drewN nq).cell? ⟨w.heap.size + 1 + 1, 0, none⟩ = some (.int .i64 S) := c4
  have c5 : (W0.drewN nq).cell? ⟨w.heap.size + 1 + 1, 1, none⟩ = some (.int .i64 T) := c5
  have H3 : Hid ((W0.drewN nq).heap[w.heap.size + 1 + 1 + 1]? = some (.cells #[.int .i64 0, .int .i64 0] 32)) := Lib.hid H3.out
  have B0 := Lib.hid (below_drewN B0.out nq)
  clear m1 m2 m3 m4 m5 m6 m7 m8 e1 e2 e3 e4 e5 e6
  generalize D * X % (p : Int) * S % (p : Int) * Y % (p : Int) * T % (p : Int) = G at *
  generalize W0.drewN nq = W1 at *
  have ex : vl (1 + d * a.1 * b.1 * a.2 * b.2) = (1 + G) % p := by rw [vl_add, vl_one (by omega), ← M.out]
  have ey : vl (1 - d * a.1 * b.1 * a.2 * b.2) = (1 - G) % p := by
    rw [M.out, ← vl_rs, rs_sub, rs_vl, rs_one (by omega)]
  have CX := Lib.hid (fun W => (CX.out W).mono fun e w' (q : e = Ending.returned (.int .i64 (vl (fi (1 + d * a.1 * b.1 * a.2 * b.2)))) ∧ W = w') => (show e = .returned (.int .i64 (vl (fi (1 + d * a.1 * b.1 * a.2 * b.2)))) ∧ w' = W from ⟨q.1, q.2.symm⟩))
  have CY := Lib.hid (fun W => (CY.out W).mono fun e w' (q : e = Ending.returned (.int .i64 (vl (fi (1 - d * a.1 * b.1 * a.2 * b.2)))) ∧ W = w') => (show e = .returned (.int .i64 (vl (fi (1 - d * a.1 * b.1 * a.2 * b.2)))) ∧ w' = W from ⟨q.1, q.2.symm⟩))
  rw [ex] at CX
  rw [ey] at CY
  have i0 := vl_ge (fi (1 + d * a.1 * b.1 * a.2 * b.2)); have i1 := vl_lt (fi (1 + d * a.1 * b.1 * a.2 * b.2))
  have j0 := vl_ge (fi (1 - d * a.1 * b.1 * a.2 * b.2)); have j1 := vl_lt (fi (1 - d * a.1 * b.1 * a.2 * b.2))
  have EX : Hid (vl ((a.1 * b.2 + a.2 * b.1) * fi (1 + d * a.1 * b.1 * a.2 * b.2)) = (X * T + Y * S) % p * vl (fi (1 + d * a.1 * b.1 * a.2 * b.2)) % p) := Lib.hid (by rw [vl_mul, NX.out])
  have EY : Hid (vl ((a.2 * b.2 - a.1 * b.1) * fi (1 - d * a.1 * b.1 * a.2 * b.2)) = (Y * T % p + p - X * S) % p * vl (fi (1 - d * a.1 * b.1 * a.2 * b.2)) % p) := Lib.hid (by rw [vl_mul, NY.out])
  clear NX NY
  generalize vl (fi (1 + d * a.1 * b.1 * a.2 * b.2)) = IX at *
  generalize vl (fi (1 - d * a.1 * b.1 * a.2 * b.2)) = IY at *
  have f1 := Int.emod_nonneg (X * T + Y * S) q0; have f2 := Int.emod_lt_of_pos (X * T + Y * S) q
  obtain ⟨n1, n2⟩ := mulb f1 (show (X * T + Y * S) % p ≤ 199 by omega) i0 (show IX ≤ 199 by omega)
  clear ex ey
  go_wp2_with fail
  go_quiet ((go_at_call 73; exact Calls.quiet_of_same (CX.out _)))
  have c0 : (W1.drewN nq).cell? ⟨w.heap.size, 0, none⟩ = some (.int .i64 p) := c0
  have c1 : (W1.drewN nq).cell? ⟨w.heap.size, 1, none⟩ = some (.int .i64 D) := c1
  have c2 : (W1.drewN nq).cell? ⟨w.heap.size + 1, 0, none⟩ = some (.int .i64 X) := c2
  have c3 : (W1.drewN nq).cell? ⟨w.heap.size + 1, 1, none⟩ = some (.int .i64 Y) := c3
  have c4 : (W1.drewN nq).cell? ⟨w.heap.size + 1 + 1, 0, none⟩ = some (.int .i64 S) := c4
  have c5 : (W1.drewN nq).cell? ⟨w.heap.size + 1 + 1, 1, none⟩ = some (.int .i64 T) := c5
  have H3 : Hid ((W1.drewN nq).heap[w.heap.size + 1 + 1 + 1]? = some (.cells #[.int .i64 0, .int .i64 0] 32)) := Lib.hid H3.out
  have B0 := Lib.hid (below_drewN B0.out nq)
  generalize (X * T + Y * S) % (p : Int) * IX % (p : Int) = rx at *
  generalize W1.drewN nq = W2 at *
  clear f1 f2 n1 n2 u1 u2 u3 u4 CX
  have f1 := Int.emod_nonneg (Y * T) q0; have f2 := Int.emod_lt_of_pos (Y * T) q
  have f3 := Int.emod_nonneg (X * S) q0; have f4 := Int.emod_lt_of_pos (X * S) q
  have f7 := Int.emod_nonneg (Y * T % p + p - X * S) q0; have f8 := Int.emod_lt_of_pos (Y * T % p + p - X * S) q
  obtain ⟨n3, n4⟩ := mulb f7 (show (Y * T % p + p - X * S) % p ≤ 199 by omega) j0 (show IY ≤ 199 by omega)
  have CYg : Hid (∀ u W, u = (1 - G) % (p : Int) → Calls Try.prog 73 #[.int .i64 u, .int .i64 p] W fun e w' => e = .returned (.int .i64 IY) ∧ w' = W) := Lib.hid (fun u W h => h ▸ CY.out W)
  clear CY
  go_wp2_with fail
  go_quiet ((go_at_call 73; refine Calls.quiet_of_same (CYg.out _ _ ?_); (first | rfl | (rw [show (1 : Int) + p - G = 1 - G + p by omega, Int.add_emod_right]))))
  have H3 : Hid ((W2.drewN nq).heap[w.heap.size + 1 + 1 + 1]? = some (.cells #[.int .i64 0, .int .i64 0] 32)) := Lib.hid H3.out
  have B0 := Lib.hid (below_drewN B0.out nq)
  generalize (Y * T % (p : Int) + (p : Int) - X * S) % (p : Int) * IY % (p : Int) = ry at *
  generalize W2.drewN nq = W3 at *
  obtain ⟨h6, h7⟩ := row2 H3.out
  obtain ⟨f6, f7⟩ := frz2 H3.out
  have hz : w.heap.size + 1 + 1 + 1 < W3.heap.size := bx_lt H3.out
  have A : Hid (ad d a b = ((a.1 * b.2 + a.2 * b.1) * fi (1 + d * a.1 * b.1 * a.2 * b.2), (a.2 * b.2 - a.1 * b.1) * fi (1 - d * a.1 * b.1 * a.2 * b.2))) := Lib.hid rfl
  clear c0 c1 c2 c3 c4 c5 n3 n4 CYg
  go_wp2
  refine bodyPost_ret (v := .agg #[.int .i64 rx, .int .i64 ry]) (by simp [results, Try.results57, go_sem, h6, h7]) rfl ⟨by rw [A.out, EX.out, EY.out], ?_⟩
  repeat (first | exact B0.out | refine Below.setCell ?_ (by simp; omega) _)
end
end Go.Proofs.Ytapdecmaaciaaaa.Add2
