/-
  Negatives, short forms and neutral points: contracts of both sides, and the walks of the laws on ZeroPoint, OnCurve, NegPoint and ShortPoint.
-/
import Derived.Test.YtapdecmaaciaaaaCrv2
import Derived.IntWalk
import Derived.Deep.RegionHeld3
namespace Go.Proofs.Ytapdecmaaciaaaa.Crv3
open Go.ChangeShapes Go.WideShapes Go.ChangeAt Go.RowKit
open Go.Proofs.Ytapdecmaaciaaaa.Mem Go.Proofs.Ytapdecmaaciaaaa.Num Go.Proofs.Ytapdecmaaciaaaa.Mod Go.Proofs.Ytapdecmaaciaaaa.Pow Go.Proofs.Ytapdecmaaciaaaa.Kind Go.Proofs.Ytapdecmaaciaaaa.Ed Go.Proofs.Ytapdecmaaciaaaa.Grp Go.Proofs.Ytapdecmaaciaaaa.Crv Go.Proofs.Ytapdecmaaciaaaa.Crv2
set_option linter.unusedVariables false
set_option maxRecDepth 100000

theorem specZero (P D : Int) (w : World) : Calls Try.prog 24 #[pv P D] w fun e w' => e = .returned (.tuple #[if okC P D then pv 0 1 else pv 0 0, .bool (okC P D)]) ∧ Below w.heap.size w w' := by
  have C1 := Lib.hid (fun W => specGood P D W)
  unfold pv at *
  generalize okC P D = b at *
  go_enter Try.func24, Try.ntmps24
  go_wp2_with fail
  refine (C1.out _).mono ?_
  rintro e w1 ⟨rfl, b1⟩
  obtain ⟨k0, k1⟩ := box_a b1
  obtain ⟨c0, c1⟩ := row2 k1
  obtain ⟨f0, f1⟩ := frz2 k1
  have B := then_ (n := 0) (al2 _ _ _) b1
  have hz : w.heap.size + 1 < w1.heap.size := bx_lt k1
  clear b1
  cases b
  · go_wp2
    refine bodyPost_ret (v := .tuple #[.agg #[.int .i64 0, .int .i64 0], .bool false]) (by simp [results, Try.results24, go_sem, c0, c1]) rfl ⟨rfl, ?_⟩
    exact (B.setCell (by simp) _).setCell (by simp) _
  · go_wp2
    refine bodyPost_ret (v := .tuple #[.agg #[.int .i64 0, .int .i64 1], .bool true]) (by simp [results, Try.results24, go_sem, c0, c1]) rfl ⟨rfl, ?_⟩
    repeat (first | exact B | refine Below.setCell ?_ (by simp; done) _ | refine Below.alloc ?_ (by simp <;> omega) _)
theorem tmod_neg (n p : Int) (hn : n < 0) (hp : 0 < p) : -p < n.tmod p ∧ n.tmod p ≤ 0 ∧ (n % p = if n.tmod p = 0 then 0 else n.tmod p + p) := by
  have h := Int.tmod_eq_emod (a := n) (b := p)
  have m1 := Int.emod_nonneg n (show p ≠ 0 by omega)
  have m2 := Int.emod_lt_of_pos n hp
  by_cases hd : p ∣ n
  · rw [if_pos (Or.inr hd)] at h
    have h0 := Int.emod_eq_zero_of_dvd hd
    rw [h, h0]; simp; omega
  · rw [if_neg (by omega)] at h
    have h0 : n % p ≠ 0 := fun e => hd (Int.dvd_of_emod_eq_zero e)
    refine ⟨by omega, by omega, ?_⟩
    rw [if_neg (by omega)]; omega
theorem reduced (n : Int) (p : Nat) (D : Int) (w : World) (h5 : 5 ≤ p) (h9 : p ≤ 199) (h0 : -1000000000000000 ≤ n) (h1 : n ≤ 1000000000000000) : Calls Try.prog 72 #[pv p D, .int .i64 n] w fun e w' => e = .returned (.int .i64 (n % p)) ∧ Below w.heap.size w w' := by
  unfold pv
  have hp : (p : Int) ≠ 0 := by omega
  by_cases hn : 0 ≤ n
  · have m1 := Int.emod_nonneg n hp
    have m2 := Int.emod_lt_of_pos n (show (0 : Int) < p by omega)
    go_enter Try.func72, Try.ntmps72
    go_wp2
    go_ret
    exact ⟨rfl, al1 _ _⟩
  · obtain ⟨t1, t2, t3⟩ := tmod_neg n p (by omega) (by omega)
    have T := Lib.hid t3
    clear t3
    go_enter Try.func72, Try.ntmps72
    go_wp2
    · go_ret
      refine ⟨ret_int ?_, al1 _ _⟩
      rw [T.out, if_neg (by omega)]
    · go_ret
      refine ⟨ret_int ?_, al1 _ _⟩
      have h0 : n.tmod (p : Int) = 0 := by omega
      rw [T.out, if_pos h0]; exact h0
theorem implShortA (X Y : Int) (w : World) (hx : 0 ≤ X) (hy : 0 ≤ Y) (hx' : X ≤ 199) (hy' : Y ≤ 199) : Calls Try.prog 56 #[pv X Y] w fun e w' => e = .returned (.int .i64 (2 * Y + X % 2)) ∧ Below w.heap.size w w' := by
  unfold pv
  go_enter Try.func56, Try.ntmps56
  go_wp2
  go_ret
  exact ⟨rfl, al1 _ _⟩
theorem specShortA (X Y : Int) (w : World) (hx : 0 ≤ X) (hy : 0 ≤ Y) (hx' : X ≤ 199) (hy' : Y ≤ 199) : Calls Try.prog 55 #[pv X Y] w fun e w' => e = .returned (.int .i64 (2 * Y + X % 2)) ∧ Below w.heap.size w w' := by
  unfold pv
  go_enter Try.func55, Try.ntmps55
  go_wp2
  go_ret
  exact ⟨rfl, al1 _ _⟩
theorem okA_bd {P D X Y : Int} (h : okA P D X Y = true) : (5 ≤ P ∧ P ≤ 199 ∧ 2 ≤ D ∧ D < P) ∧ 0 ≤ X ∧ X < P ∧ 0 ≤ Y ∧ Y < P := by
  simp only [okA, Bool.and_eq_true] at h
  exact ⟨okC_bd h.1.1, inF_bd h.1.2⟩
theorem implShort (P D X Y : Int) (w : World) : Calls Try.prog 27 #[pv P D, pv X Y] w fun e w' => e = .returned (.tuple #[.int .i64 (if okA P D X Y then 2 * Y + X % 2 else 0), .bool (okA P D X Y)]) ∧ Below w.heap.size w w' := by
  have C1 := Lib.hid (fun W => implHas P D X Y W)
  cases hA : okA P D X Y
  · rw [hA] at C1
    clear hA
    unfold pv at *
    go_enter Try.func27, Try.ntmps27
    go_wp2_with fail
    refine (C1.out _).mono ?_
    rintro e w1 ⟨rfl, b1⟩
    go_wp2
    go_ret2
    exact ⟨rfl, then_ (n := 0) (al2 _ _ _) b1⟩
  · obtain ⟨⟨h5, h9, _, _⟩, hx, hx', hy, hy'⟩ := okA_bd hA
    have C2 := Lib.hid (fun W => implShortA X Y W hx hy (by omega) (by omega))
    rw [hA] at C1
    clear hA
    unfold pv at *
    go_enter Try.func27, Try.ntmps27
    go_wp2_with fail
    refine (C1.out _).mono ?_
    rintro e w1 ⟨rfl, b1⟩
    obtain ⟨k0, k1⟩ := box_a b1
    obtain ⟨c0, c1⟩ := row2 k0
    obtain ⟨c2, c3⟩ := row2 k1
    go_wp2_with fail
    refine (C2.out _).mono ?_
    rintro e w2 ⟨rfl, b2⟩
    have B := then_ (n := 0) (then_ (n := 0) (al2 _ _ _) b1) b2
    clear b1 b2 k0 k1 c0 c1 c2 c3
    go_wp2
    go_ret2
    exact ⟨rfl, B⟩
theorem specShort (P D X Y : Int) (w : World) : Calls Try.prog 26 #[pv P D, pv X Y] w fun e w' => e = .returned (.tuple #[.int .i64 (if okA P D X Y then 2 * Y + X % 2 else 0), .bool (okA P D X Y)]) ∧ Below w.heap.size w w' := by
  have C1 := Lib.hid (fun W => specGoodA P D X Y W)
  cases hA : okA P D X Y
  · rw [hA] at C1
    clear hA
    unfold pv at *
    go_enter Try.func26, Try.ntmps26
    go_wp2_with fail
    refine (C1.out _).mono ?_
    rintro e w1 ⟨rfl, b1⟩
    go_wp2
    go_ret2
    exact ⟨rfl, then_ (n := 0) (al2 _ _ _) b1⟩
  · obtain ⟨⟨h5, h9, _, _⟩, hx, hx', hy, hy'⟩ := okA_bd hA
    have C2 := Lib.hid (fun W => specShortA X Y W hx hy (by omega) (by omega))
    rw [hA] at C1
    clear hA
    unfold pv at *
    go_enter Try.func26, Try.ntmps26
    go_wp2_with fail
    refine (C1.out _).mono ?_
    rintro e w1 ⟨rfl, b1⟩
    obtain ⟨k0, k1⟩ := box_a b1
    obtain ⟨c0, c1⟩ := row2 k0
    obtain ⟨c2, c3⟩ := row2 k1
    go_wp2_with fail
    refine (C2.out _).mono ?_
    rintro e w2 ⟨rfl, b2⟩
    have B := then_ (n := 0) (then_ (n := 0) (al2 _ _ _) b1) b2
    clear b1 b2 k0 k1 c0 c1 c2 c3
    go_wp2
    go_ret2
    exact ⟨rfl, B⟩
theorem neg_mod (P X : Int) : (P - X) % P = (-X) % P := by
  rw [show P - X = -X + P by omega, Int.add_emod_right]
theorem implNegA (P D X Y : Int) (w : World) (h5 : 5 ≤ P) (h9 : P ≤ 199) (hx : 0 ≤ X) (hx' : X < P) : Calls Try.prog 53 #[pv P D, pv X Y] w fun e w' => e = .returned (pv (-X % P) Y) ∧ Below w.heap.size w w' := by
  obtain ⟨p, rfl⟩ : ∃ p : Nat, P = p := ⟨P.toNat, by omega⟩
  have C1 := Lib.hid (fun W => reduced (-X) p D W (by omega) (by omega) (by omega) (by omega))
  unfold pv at *
  generalize -X % (p : Int) = r at *
  go_enter Try.func53, Try.ntmps53
  go_wp2_with fail
  obtain ⟨k0, k1, k2⟩ := nw3 w (.cells #[.int .i64 (p : Int), .int .i64 D] 25) (.cells #[.int .i64 X, .int .i64 Y] 32) (.cells #[.int .i64 0, .int .i64 0] 32)
  have B0 := al3 w (.cells #[.int .i64 (p : Int), .int .i64 D] 25) (.cells #[.int .i64 X, .int .i64 Y] 32) (.cells #[.int .i64 0, .int .i64 0] 32)
  generalize World.alloc (World.alloc (World.alloc w _) _) _ = W0 at *
  obtain ⟨c0, c1⟩ := row2 k0
  obtain ⟨c2, c3⟩ := row2 k1
  have D1 : Hid (Below W0.heap.size W0 W0.drew) := Lib.hid (Below.refl _ W0).drew
  have CC := Lib.hid (fun W (h : Below W0.heap.size W0 W) => (C1.out W).mono (fun e w' (q : e = .returned (.int .i64 r) ∧ Below W.heap.size W w') => (show e = .returned (.int .i64 r) ∧ Below W0.heap.size W0 w' from ⟨q.1, then_ (n := 0) h q.2⟩)))
  have H0 := Lib.hid k0
  have H1 := Lib.hid k1
  have H2 := Lib.hid k2
  have HB := Lib.hid B0
  have hw : IntKind.i64.wrap (-X) = -X := IntWalk.i64_in _ (by omega)
  clear C1 k0 k1 k2 B0
  go_region_held3 (fun w' => w'.cell? ⟨w.heap.size, 0, none⟩ = some (.int .i64 p) ∧ w'.cell? ⟨w.heap.size, 1, none⟩ = some (.int .i64 D) ∧ w'.cell? ⟨w.heap.size + 1, 0, none⟩ = some (.int .i64 X) ∧ w'.cell? ⟨w.heap.size + 1, 1, none⟩ = some (.int .i64 Y))
    (first | (go_keep; done) | (refine ⟨?_, ?_, ?_, ?_⟩ <;> with_reducible assumption) | (simp [*, go_sem]; done))
    ((go_at_call 72; (with_reducible refine (CC.out _ ?hb).mono ?_); (case hb => exact D1.out); rintro e w1 ⟨rfl, b1⟩; obtain ⟨d0, d1⟩ := row2 (bx H0.out b1); obtain ⟨d2, d3⟩ := row2 (bx H1.out b1); obtain ⟨d4, d5⟩ := row2 (bx H2.out b1); obtain ⟨f4, f5⟩ := frz2 (bx H2.out b1)))
  rename_i hH
  have B : Below w.heap.size w w1 := then_ (n := 0) HB.out b1
  have hz : w.heap.size + 1 + 1 < w1.heap.size := bx_lt (bx H2.out b1)
  clear hH b1 d0 d1 d2 d3 c0 c1 c2 c3 CC hw
  go_wp2
  refine bodyPost_ret (v := .agg #[.int .i64 r, .int .i64 Y]) (by simp [results, Try.results53, go_sem, d4, d5]) rfl ⟨rfl, ?_⟩
  repeat (first | exact B | refine Below.setCell ?_ (by simp; omega) _)
theorem implNeg (P D X Y : Int) (w : World) : Calls Try.prog 22 #[pv P D, pv X Y] w fun e w' => e = .returned (.tuple #[if okA P D X Y then pv (-X % P) Y else pv 0 0, .bool (okA P D X Y)]) ∧ Below w.heap.size w w' := by
  have C1 := Lib.hid (fun W => implHas P D X Y W)
  cases hA : okA P D X Y
  · rw [hA] at C1
    clear hA
    unfold pv at *
    go_enter Try.func22, Try.ntmps22
    go_wp2_with fail
    refine (C1.out _).mono ?_
    rintro e w1 ⟨rfl, b1⟩
    obtain ⟨k0, k1, k2⟩ := box_b b1
    obtain ⟨c4, c5⟩ := row2 k2
    obtain ⟨f4, f5⟩ := frz2 k2
    have B := then_ (n := 0) (al3 _ _ _ _) b1
    have hz : w.heap.size + 1 + 1 < w1.heap.size := bx_lt k2
    clear b1 k0 k1 k2
    go_wp2
    refine bodyPost_ret (v := .tuple #[.agg #[.int .i64 0, .int .i64 0], .bool false]) (by simp [results, Try.results22, go_sem, c4, c5]) rfl ⟨rfl, ?_⟩
    repeat (first | exact B | refine Below.setCell ?_ (by simp; omega) _)
  · obtain ⟨⟨h5, h9, _, _⟩, hx, hx', hy, hy'⟩ := okA_bd hA
    have C2 := Lib.hid (fun W => implNegA P D X Y W h5 h9 hx hx')
    rw [hA] at C1
    clear hA
    simp only [if_true] 
    unfold pv at *
    generalize -X % P = r at *
    go_enter Try.func22, Try.ntmps22
    go_wp2_with fail
    refine (C1.out _).mono ?_
    rintro e w1 ⟨rfl, b1⟩
    obtain ⟨k0, k1, k2⟩ := box_b b1
    obtain ⟨c0, c1⟩ := row2 k0
    obtain ⟨c2, c3⟩ := row2 k1
    have B1 := then_ (n := 0) (al3 _ _ _ _) b1
    clear b1
    go_wp2_with fail
    refine (C2.out _).mono ?_
    rintro e w2 ⟨rfl, b2⟩
    obtain ⟨c4, c5⟩ := row2 (bx k2 b2)
    obtain ⟨f4, f5⟩ := frz2 (bx k2 b2)
    have B := then_ (n := 0) B1 b2
    have hz : w.heap.size + 1 + 1 < w2.heap.size := bx_lt (bx k2 b2)
    clear b2 k0 k1 k2 c0 c1 c2 c3 B1
    go_wp2
    refine bodyPost_ret (v := .tuple #[.agg #[.int .i64 r, .int .i64 Y], .bool true]) (by simp [results, Try.results22, go_sem, c4, c5]) rfl ⟨rfl, ?_⟩
    repeat (first | exact B | refine Below.setCell ?_ (by simp; omega) _)
theorem specNeg (P D X Y : Int) (w : World) : Calls Try.prog 21 #[pv P D, pv X Y] w fun e w' => e = .returned (.tuple #[if okA P D X Y then pv (-X % P) Y else pv 0 0, .bool (okA P D X Y)]) ∧ Below w.heap.size w w' := by
  have C1 := Lib.hid (fun W => specGoodA P D X Y W)
  cases hA : okA P D X Y
  · rw [hA] at C1
    clear hA
    unfold pv at *
    go_enter Try.func21, Try.ntmps21
    go_wp2_with fail
    refine (C1.out _).mono ?_
    rintro e w1 ⟨rfl, b1⟩
    obtain ⟨k0, k1, k2⟩ := box_b b1
    obtain ⟨c4, c5⟩ := row2 k2
    obtain ⟨f4, f5⟩ := frz2 k2
    have B := then_ (n := 0) (al3 _ _ _ _) b1
    have hz : w.heap.size + 1 + 1 < w1.heap.size := bx_lt k2
    clear b1 k0 k1 k2
    go_wp2
    refine bodyPost_ret (v := .tuple #[.agg #[.int .i64 0, .int .i64 0], .bool false]) (by simp [results, Try.results21, go_sem, c4, c5]) rfl ⟨rfl, ?_⟩
    repeat (first | exact B | refine Below.setCell ?_ (by simp; omega) _)
  · obtain ⟨⟨h5, h9, _, _⟩, hx, hx', hy, hy'⟩ := okA_bd hA
    rw [hA] at C1
    clear hA
    simp only [if_true]
    unfold pv at *
    go_enter Try.func21, Try.ntmps21
    go_wp2_with fail
    refine (C1.out _).mono ?_
    rintro e w1 ⟨rfl, b1⟩
    obtain ⟨k0, k1, k2⟩ := box_b b1
    obtain ⟨c0, c1⟩ := row2 k0
    obtain ⟨c2, c3⟩ := row2 k1
    obtain ⟨c4, c5⟩ := row2 k2
    obtain ⟨f4, f5⟩ := frz2 k2
    have B := then_ (n := 0) (al3 _ _ _ _) b1
    have hz : w.heap.size + 1 + 1 < w1.heap.size := bx_lt k2
    clear b1 k0 k1 k2
    have m := Lib.hid (neg_mod P X)
    have hw : IntKind.i64.wrap (P - X) = P - X := IntWalk.i64_in _ (by omega)
    have hm : (P - X).tmod P = (P - X) % P := Int.tmod_eq_emod_of_nonneg (by omega)
    have hP0 : ¬ P = 0 := by omega
    go_wp2_with fail
    go_region_held3 (fun w' => w'.cell? ⟨w.heap.size, 0, none⟩ = some (.int .i64 P) ∧ w'.cell? ⟨w.heap.size + 1, 0, none⟩ = some (.int .i64 X) ∧ w'.cell? ⟨w.heap.size + 1, 1, none⟩ = some (.int .i64 Y))
      (first | (go_keep; done) | (refine ⟨?_, ?_, ?_⟩ <;> with_reducible assumption) | (simp [*, go_sem]; done)) (fail)
    all_goals
      go_wp2
      refine bodyPost_ret (v := .tuple #[.agg #[.int .i64 (-X % P), .int .i64 Y], .bool true]) (by simp [results, Try.results21, go_sem, c4, c5]) rfl ⟨rfl, ?_⟩
      repeat (first | exact B | refine Below.drew ?_ | refine Below.setCell ?_ (by simp; omega) _)
end Go.Proofs.Ytapdecmaaciaaaa.Crv3
