/-
  The number of points: contracts of both sides.
-/
import Derived.Test.YtapdecmaaciaaaaTimes
namespace Go.Proofs.Ytapdecmaaciaaaa.Cnt
open Go.ChangeShapes Go.WideShapes Go.ChangeAt Go.RowKit
open Go.Proofs.Ytapdecmaaciaaaa.Mem Go.Proofs.Ytapdecmaaciaaaa.Num Go.Proofs.Ytapdecmaaciaaaa.Mod Go.Proofs.Ytapdecmaaciaaaa.Pow Go.Proofs.Ytapdecmaaciaaaa.Kind Go.Proofs.Ytapdecmaaciaaaa.Ed Go.Proofs.Ytapdecmaaciaaaa.Grp Go.Proofs.Ytapdecmaaciaaaa.Crv Go.Proofs.Ytapdecmaaciaaaa.Crv2 Go.Proofs.Ytapdecmaaciaaaa.Crv3 Go.Proofs.Ytapdecmaaciaaaa.Add Go.Proofs.Ytapdecmaaciaaaa.Times
set_option linter.unusedVariables false
set_option maxRecDepth 100000
set_option linter.unusedSectionVars false
theorem kind_bd (a p : Nat) : -1 ≤ kind a p ∧ kind a p ≤ 1 := by
  unfold kind; split
  · omega
  · split <;> omega
section
variable {p : Nat} [NeZero p]
theorem vl_rsN {y : Nat} (h : y < p) : vl (rs p (y : Int)) = y := by rw [vl_rs]; exact Int.emod_eq_of_lt (by omega) (by omega)
theorem sq_rs (h2 : 2 ≤ p) (d : Fin p) {y : Nat} (h : y < p) : rs p (1 - (y : Int) * y) * fi (rs p (1 - vl d * y * y)) = sqX d (rs p y) := by
  unfold sqX
  rw [rs_sub, rs_sub, rs_mul, rs_mul, rs_mul, rs_vl, rs_one h2]
theorem squareX (hp : Pr p) (h5 : 5 ≤ p) (h9 : p ≤ 199) (d : Fin p) {y : Nat} (hy : y < p) (w : World) :
    Calls Try.prog 62 #[pv p (vl d), .int .i64 y] w fun e w' => e = .returned (.int .i64 (vl (sqX d (rs p y)))) ∧ Below w.heap.size w w' := by
  have d0 := vl_ge d; have d1 := vl_lt d
  rw [← sq_rs (by omega) d hy]
  generalize vl d = D at *
  obtain ⟨m1, m2⟩ := mulb (show (0 : Int) ≤ y by omega) (show (y : Int) ≤ 199 by omega) (show (0 : Int) ≤ y by omega) (show (y : Int) ≤ 199 by omega)
  obtain ⟨m3, m4⟩ := mulb d0 (show D ≤ 199 by omega) (show (0 : Int) ≤ y by omega) (show (y : Int) ≤ 199 by omega)
  obtain ⟨m5, m6⟩ := mulb m3 m4 (show (0 : Int) ≤ y by omega) (show (y : Int) ≤ 199 by omega)
  have C := Lib.hid (fun W => quotient hp h5 h9 (1 - (y : Int) * y) (1 - D * y * y) D W (by omega) (by omega) (by omega) (by omega))
  generalize vl (rs p (1 - (y : Int) * y) * fi (rs p (1 - D * y * y))) = r at *
  unfold pv at *
  go_enter Try.func62, Try.ntmps62
  go_wp2_with fail
  refine (C.out _).mono ?_
  rintro e w1 ⟨rfl, b1⟩
  have B := then_ (n := 0) (al1 _ _) b1
  clear b1
  go_wp2
  go_ret
  exact ⟨rfl, B⟩
theorem kindR (hp : Pr p) (x : Fin p) (w : World) : Calls Try.prog 47 #[.int .i64 (vl x), .int .i64 p] w fun e w' => e = .returned (.tuple #[.int .i64 (kind x.val p), .bool true]) ∧ w = w' := implKind x.val p w hp x.isLt
/-- The number of points with a Y below n. -/
def cntI (d : Fin p) (n : Nat) : Int := tot (fun y => 1 + kind (sqX d (rs p y)).val p) n
theorem cntI_succ (d : Fin p) (n : Nat) : cntI d (n + 1) = cntI d n + (1 + kind (sqX d (rs p n)).val p) := rfl
theorem cntI_bd (d : Fin p) (n : Nat) : 0 ≤ cntI d n ∧ cntI d n ≤ 2 * n := by
  have := tot_bd (fun y => 1 + kind (sqX d (rs p y)).val p) 0 2 n (fun k _ => by have := kind_bd (sqX d (rs p k)).val p; omega)
  unfold cntI; omega
set_option maxHeartbeats 2000000 in
theorem implCnt {d : Fin p} (hp : Pr p) (hC : okC p (vl d) = true) (h5 : 5 ≤ p) (h9 : p ≤ 199) (w : World) :
    Calls Try.prog 35 #[pv p (vl d)] w fun e w' => e = .returned (.tuple #[.int .i64 (cntI d p), .bool true]) ∧ Below w.heap.size w w' := by
  have C1 := Lib.hid (fun W => implGood p (vl d) W)
  rw [hC] at C1
  have C2 := Lib.hid (fun (y : Nat) (hy : y < p) W => squareX hp h5 h9 d hy W)
  have C3 := Lib.hid (fun x W => kindR hp x W)
  unfold pv at *
  go_enter Try.func35, Try.ntmps35
  go_wp2_with fail
  refine (C1.out _).mono ?_
  rintro e w1 ⟨rfl, b1⟩
  have k0 := bx (nw1 _ _) b1
  obtain ⟨c0, c1⟩ := row2 k0
  have B1 := then_ (n := 0) (al1 _ _) b1
  clear b1 C1
  have H0 : Hid (Bx w1 w.heap.size 25 p (vl d)) := Lib.hid k0
  have HB := Lib.hid B1
  clear k0 B1
  go_wp2_with fail
  clear c0 c1
  go_loopw [4, 13] (fun v i wr => ∃ n : Nat, n ≤ p ∧ i = .int .i64 n ∧ v = .int .i64 (cntI d n) ∧ Hid (Bx wr w.heap.size 25 p (vl d)) ∧ Hid (Below w.heap.size w wr)) (fun _ i _ => p - (intOf i).toNat)
  case atStart => exact ⟨0, by omega, rfl, rfl, H0, HB⟩
  case round =>
    obtain ⟨n, hn, rfl, rfl, H, HW⟩ := hrel
    clear H0 HB
    by_cases hlt : n < p
    · have N1 := Lib.hid (cntI_succ d n)
      obtain ⟨m1, m2⟩ := cntI_bd d n
      obtain ⟨e1, e2⟩ := kind_bd (sqX d (rs p n)).val p
      have R2 := Lib.hid (relA wr (C2.out n hlt))
      have R3 := Lib.hid (relS wr (C3.out (sqX d (rs p n))))
      generalize kind (sqX d (rs p n)).val p = kd at *
      generalize vl (sqX d (rs p n)) = sx at *
      generalize cntI d n = ct at *
      obtain ⟨c0, c1⟩ := H.out.cells
      have D1 : Below wr.heap.size wr wr.drew := (Below.refl _ wr).drew
      clear C2 C3
      go_wp2_with fail
      go_region_held3 (fun w' => w'.cell? ⟨w.heap.size, 0, none⟩ = some (.int .i64 p) ∧ w'.cell? ⟨w.heap.size, 1, none⟩ = some (.int .i64 (vl d)))
        (first | (refine ⟨?_, ?_⟩ <;> with_reducible assumption) | (go_keep; done) | (simp [*, go_sem]; done))
        (first
          | (go_at_call 62; (with_reducible refine (R2.out _ ?hb).mono ?_); (case hb => with_reducible assumption); rintro e v1 ⟨rfl, b1⟩; obtain ⟨p0, p1⟩ := (H.out.below b1).cells)
          | (go_at_call 47; (with_reducible refine (R3.out _ ?hb).mono ?_); (case hb => with_reducible assumption); rintro e v2 ⟨rfl, b2⟩; obtain ⟨q0, q1⟩ := (H.out.below b2).cells))
      all_goals
        rename_i hH
        have H2 := Lib.hid (H.out.below b2)
        have HW2 := Lib.hid (then_ (n := 0) HW.out b2)
        clear hH b1 b2 p0 p1 q0 q1 c0 c1 D1 R2 R3
        go_wp2
        go_roundw
        case rel => exact ⟨n + 1, by omega, by go_num, by rw [N1.out], H2, HW2⟩
        case measure => simp [intOf]; omega
    · obtain rfl : n = p := by omega
      obtain ⟨c0, c1⟩ := H.out.cells
      go_wp2
      go_ret2
      exact ⟨rfl, HW.out⟩
theorem onE_iff (h2 : 2 ≤ p) (d : Fin p) (x y : Int) : onE p (vl d) x y = true ↔ On d (rs p x) (rs p y) := by
  unfold onE
  rw [decide_eq_true_eq, ← rs_eq]
  simp only [rs_add, rs_mul, rs_vl, rs_one (p := p) h2]
  exact Iff.rfl
/-- The number of points with a given X and a Y below n, and with X below n. -/
def rowS (d : Fin p) (x n : Nat) : Int := tot (fun y => onN d x y) n
def cntS (d : Fin p) (n : Nat) : Int := tot (fun x => rowS d x p) n
theorem rowS_succ (d : Fin p) (x n : Nat) : rowS d x (n + 1) = rowS d x n + onN d x n := rfl
theorem cntS_succ (d : Fin p) (n : Nat) : cntS d (n + 1) = cntS d n + rowS d n p := rfl
theorem rowS_bd (d : Fin p) (x n : Nat) : 0 ≤ rowS d x n ∧ rowS d x n ≤ n := by
  have := tot_bd (fun y => onN d x y) 0 1 n (fun k _ => by unfold onN; split <;> omega)
  unfold rowS; omega
theorem cntS_bd (h9 : p ≤ 199) (d : Fin p) (n : Nat) (hn : n ≤ 199) : 0 ≤ cntS d n ∧ cntS d n ≤ 39601 := by
  have := tot_bd (fun x => rowS d x p) 0 199 n (fun k _ => by have := rowS_bd d k p; omega)
  unfold cntS; omega
theorem onN_yes {d : Fin p} (h2 : 2 ≤ p) {x y : Nat} (h : onE p (vl d) x y = true) : onN d x y = 1 := by
  unfold onN; rw [if_pos ((onE_iff h2 d x y).1 h)]
theorem onN_no {d : Fin p} (h2 : 2 ≤ p) {x y : Nat} (h : onE p (vl d) x y = false) : onN d x y = 0 := by
  unfold onN; rw [if_neg (fun k => by rw [(onE_iff h2 d x y).2 k] at h; cases h)]
theorem cnt_same {d : Fin p} (hc : Cv p d) (h9 : p ≤ 199) : cntS d p = cntI d p := count_eq hc h9
set_option maxHeartbeats 2000000 in
theorem specCnt {d : Fin p} (hp : Pr p) (hC : okC p (vl d) = true) (h5 : 5 ≤ p) (h9 : p ≤ 199) (w : World) :
    Calls Try.prog 34 #[pv p (vl d)] w fun e w' => e = .returned (.tuple #[.int .i64 (cntS d p), .bool true]) ∧ Below w.heap.size w w' := by
  have C1 := Lib.hid (fun W => specGood p (vl d) W)
  rw [hC] at C1
  have d0 := vl_ge d; have d1 := vl_lt d
  have C2 := Lib.hid (fun (x y : Nat) (hx : x < p) (hy : y < p) W => specOnE p (vl d) x y W (by omega) (by omega) d0 d1 (by omega) (by omega) (by omega) (by omega))
  unfold pv at *
  go_enter Try.func34, Try.ntmps34
  go_wp2_with fail
  refine (C1.out _).mono ?_
  rintro e w1 ⟨rfl, b1⟩
  have k0 := bx (nw1 _ _) b1
  obtain ⟨c0, c1⟩ := row2 k0
  have B1 := then_ (n := 0) (al1 _ _) b1
  clear b1 C1
  have H0 : Hid (Bx w1 w.heap.size 25 p (vl d)) := Lib.hid k0
  have HB := Lib.hid B1
  clear k0 B1
  go_wp2_with fail
  clear c0 c1
  go_loopw [4, 5] (fun v i wr => ∃ n : Nat, n ≤ p ∧ i = .int .i64 n ∧ v = .int .i64 (cntS d n) ∧ Hid (Bx wr w.heap.size 25 p (vl d)) ∧ Hid (Below w.heap.size w wr)) (fun _ i _ => p - (intOf i).toNat)
  case atStart => exact ⟨0, by omega, rfl, rfl, H0, HB⟩
  case round =>
    obtain ⟨n, hn, rfl, rfl, H, HW⟩ := hrel
    clear H0 HB
    obtain ⟨c0, c1⟩ := H.out.cells
    by_cases hlt : n < p
    · have N1 := Lib.hid (cntS_succ d n)
      obtain ⟨m1, m2⟩ := cntS_bd h9 d n (by omega)
      generalize cntS d n = ct at *
      have t1 : (n : Int) < (p : Int) := by omega
      go_wp2_with fail
      clear c0 c1
      generalize wr = w9 at *
      go_loopw [4, 6] (fun v i wr => ∃ y : Nat, y ≤ p ∧ i = .int .i64 y ∧ v = .int .i64 (ct + rowS d n y) ∧ Hid (Bx wr w.heap.size 25 p (vl d)) ∧ Hid (Below w.heap.size w wr)) (fun _ i _ => p - (intOf i).toNat)
      case atStart => exact ⟨0, by omega, rfl, by simp [rowS, tot], H, HW⟩
      case round =>
        obtain ⟨y, hy, rfl, rfl, H', HW'⟩ := hrel
        clear H HW
        obtain ⟨c0, c1⟩ := H'.out.cells
        obtain ⟨r1, r2⟩ := rowS_bd d n y
        by_cases hly : y < p
        · have t2 : (y : Int) < (p : Int) := by omega
          have N2 := Lib.hid (rowS_succ d n y)
          have C := Lib.hid (fun W => C2.out n y hlt hly W)
          generalize rowS d n y = rw_ at *
          go_wp2_with fail
          refine (C.out _).mono ?_
          rintro e v1 ⟨rfl, b1⟩
          have H2 := Lib.hid (H'.out.below b1)
          have HW2 := Lib.hid (then_ (n := 0) HW'.out b1)
          clear b1 c0 c1 C
          cases ho : onE p (vl d) n y
          · have V := Lib.hid (onN_no (by omega) ho)
            clear ho
            go_wp2
            go_roundw
            case rel => exact ⟨y + 1, by omega, by go_num, by rw [N2.out, V.out]; go_num, H2, HW2⟩
            case measure => simp [intOf]; omega
          · have V := Lib.hid (onN_yes (by omega) ho)
            clear ho
            go_wp2
            go_roundw
            case rel => exact ⟨y + 1, by omega, by go_num, by rw [N2.out, V.out]; go_num, H2, HW2⟩
            case measure => simp [intOf]; omega
        · obtain rfl : y = p := by omega
          go_wp2
          go_roundw
          case rel => exact ⟨n + 1, by omega, by go_num, by rw [N1.out], H', HW'⟩
          case measure => simp [intOf]; omega
    · obtain rfl : n = p := by omega
      go_wp2
      go_ret2
      exact ⟨by first | rfl | trivial, HW.out⟩
theorem implCntNo (P D : Int) (w : World) (h : okC P D = false) :
    Calls Try.prog 35 #[pv P D] w fun e w' => e = .returned (.tuple #[.int .i64 0, .bool false]) ∧ Below w.heap.size w w' := by
  have C1 := Lib.hid (fun W => implGood P D W)
  rw [h] at C1
  unfold pv at *
  go_enter Try.func35, Try.ntmps35
  go_wp2_with fail
  refine (C1.out _).mono ?_
  rintro e w1 ⟨rfl, b1⟩
  have B1 := then_ (n := 0) (al1 _ _) b1
  clear b1
  go_wp2
  go_ret2
  exact ⟨rfl, B1⟩
theorem specCntNo (P D : Int) (w : World) (h : okC P D = false) :
    Calls Try.prog 34 #[pv P D] w fun e w' => e = .returned (.tuple #[.int .i64 0, .bool false]) ∧ Below w.heap.size w w' := by
  have C1 := Lib.hid (fun W => specGood P D W)
  rw [h] at C1
  unfold pv at *
  go_enter Try.func34, Try.ntmps34
  go_wp2_with fail
  refine (C1.out _).mono ?_
  rintro e w1 ⟨rfl, b1⟩
  have B1 := then_ (n := 0) (al1 _ _) b1
  clear b1
  go_wp2
  go_ret2
  exact ⟨rfl, B1⟩
end
theorem cntBoth (P D : Int) : ∃ (u : Int) (b : Bool), (∀ W, Calls Try.prog 34 #[pv P D] W fun e w' => e = .returned (.tuple #[.int .i64 u, .bool b]) ∧ Below W.heap.size W w') ∧
    (∀ W, Calls Try.prog 35 #[pv P D] W fun e w' => e = .returned (.tuple #[.int .i64 u, .bool b]) ∧ Below W.heap.size W w') := by
  cases h : okC P D
  · exact ⟨0, false, fun W => specCntNo P D W h, fun W => implCntNo P D W h⟩
  · have h' := h
    obtain ⟨p, i, d, rfl, rfl, hc, h5, h9, _, _⟩ := okC_yes h
    exact ⟨cntI d p, true, fun W => by rw [← cnt_same hc h9]; exact specCnt hc.pr h' h5 h9 W, fun W => implCnt hc.pr h' h5 h9 W⟩
namespace C
theorem walk (P D : Int) (w0 : (Lit.int .i64 P).wf = true) (w1 : (Lit.int .i64 D).wf = true) (w : World) :
    Calls Try.prog 11 #[pv P D] w fun e w' => e = .returned (.bool true) ∧ Below w.heap.size w w' := by
  obtain ⟨uu, bb, h1, h2⟩ := cntBoth P D
  have T := Lib.hid (fun W => toCurve P D W)
  have C1 := Lib.hid h1
  have C2 := Lib.hid h2
  clear h1 h2 w0 w1
  unfold pv at *
  go_enter Try.func11, Try.ntmps11
  go_wp2_with fail
  refine (T.out _).mono ?_
  rintro e v1 ⟨rfl, b1⟩
  have B1 := Lib.hid (then_ (n := 0) (al1 _ _) b1)
  have K1 := Lib.hid (bx (nw1 w _) b1)
  clear b1
  go_wp2_with fail
  refine (C1.out _).mono ?_
  rintro e v2 ⟨rfl, b2⟩
  have K2 := Lib.hid (bx K1.out b2)
  obtain ⟨d0, d1⟩ := row2 K2.out
  have B2 := Lib.hid (then_ (n := 0) B1.out b2)
  clear b2 K1 B1
  go_wp2_with fail
  refine (T.out _).mono ?_
  rintro e v3 ⟨rfl, b3⟩
  have B3 := Lib.hid (then_ (n := 0) B2.out b3)
  clear b3 d0 d1 B2 K2
  go_wp2_with fail
  refine (C2.out _).mono ?_
  rintro e v4 ⟨rfl, b4⟩
  have B4 := then_ (n := 0) B3.out b4
  clear b4 B3
  go_wp2
  go_ret
  exact ⟨rfl, B4⟩
end C
end Go.Proofs.Ytapdecmaaciaaaa.Cnt
