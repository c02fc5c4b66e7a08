/-
  Multiples of points: TimesPoint of both sides.
-/
import Derived.Test.YtapdecmaaciaaaaOrdP
namespace Go.Proofs.Ytapdecmaaciaaaa.Times3
open Go.ChangeShapes Go.WideShapes Go.ChangeAt Go.RowKit
open Go.Proofs.Ytapdecmaaciaaaa.Mem Go.Proofs.Ytapdecmaaciaaaa.Num Go.Proofs.Ytapdecmaaciaaaa.Mod Go.Proofs.Ytapdecmaaciaaaa.Pow Go.Proofs.Ytapdecmaaciaaaa.Kind Go.Proofs.Ytapdecmaaciaaaa.Ed Go.Proofs.Ytapdecmaaciaaaa.Grp Go.Proofs.Ytapdecmaaciaaaa.Crv Go.Proofs.Ytapdecmaaciaaaa.Crv2 Go.Proofs.Ytapdecmaaciaaaa.Crv3 Go.Proofs.Ytapdecmaaciaaaa.Add Go.Proofs.Ytapdecmaaciaaaa.Add2 Go.Proofs.Ytapdecmaaciaaaa.Add3 Go.Proofs.Ytapdecmaaciaaaa.Times Go.Proofs.Ytapdecmaaciaaaa.Times2 Go.Proofs.Ytapdecmaaciaaaa.OrdP
set_option linter.unusedVariables false
set_option maxRecDepth 100000
set_option linter.unusedSectionVars false
theorem implTimesNo (P D k X Y : Int) (w : World) (h : okA P D X Y = false ∨ k < 0 ∨ 100000 < k) :
    Calls Try.prog 31 #[pv P D, .int .i64 k, pv X Y] w fun e w' => e = .returned (.tuple #[pv 0 0, .bool false]) ∧ Below w.heap.size w w' := by
  have C1 := Lib.hid (fun W => implHas P D X Y W)
  unfold pv at *
  cases hA : okA P D X Y
  · rw [hA] at C1
    clear hA h
    go_enter Try.func31, Try.ntmps31
    go_wp2_with fail
    refine (C1.out _).mono ?_
    rintro e w1 ⟨rfl, b1⟩
    obtain ⟨k0, k1, k2⟩ := box_b b1
    have B := Lib.hid (then_ (n := 0) (al3 _ _ _ _) b1)
    obtain ⟨q6, q7⟩ := row2 k2
    obtain ⟨f6, f7⟩ := frz2 k2
    have hz : w.heap.size + 1 + 1 < w1.heap.size := bx_lt k2
    clear b1 k0 k1 k2
    go_wp2
    refine bodyPost_ret (v := .tuple #[.agg #[.int .i64 0, .int .i64 0], .bool false]) (by simp [results, Try.results31, go_sem, q6, q7]) rfl ⟨rfl, ?_⟩
    repeat (first | exact B.out | refine Below.setCell ?_ (by simp; omega) _)
  · have hk : k < 0 ∨ 100000 < k := by rw [hA] at h; simpa using h
    rw [hA] at C1
    clear hA h
    by_cases h0 : k < 0
    case' neg => have h1 : 100000 < k := by omega
    all_goals
      clear hk
      go_enter Try.func31, Try.ntmps31
      go_wp2_with fail
      refine (C1.out _).mono ?_
      rintro e w1 ⟨rfl, b1⟩
      obtain ⟨k0, k1, k2⟩ := box_b b1
      have B := Lib.hid (then_ (n := 0) (al3 _ _ _ _) b1)
      obtain ⟨q6, q7⟩ := row2 k2
      obtain ⟨f6, f7⟩ := frz2 k2
      have hz : w.heap.size + 1 + 1 < w1.heap.size := bx_lt k2
      clear b1 k0 k1 k2
      go_wp2
      refine bodyPost_ret (v := .tuple #[.agg #[.int .i64 0, .int .i64 0], .bool false]) (by simp [results, Try.results31, go_sem, q6, q7]) rfl ⟨rfl, ?_⟩
      repeat (first | exact B.out | refine Below.setCell ?_ (by simp; omega) _)
theorem specTimesNo (P D k X Y : Int) (w : World) (h : okA P D X Y = false ∨ k < 0 ∨ 100000 < k) :
    Calls Try.prog 30 #[pv P D, .int .i64 k, pv X Y] w fun e w' => e = .returned (.tuple #[pv 0 0, .bool false]) ∧ Below w.heap.size w w' := by
  have C1 := Lib.hid (fun W => specGoodA P D X Y W)
  unfold pv at *
  cases hA : okA P D X Y
  · rw [hA] at C1
    clear hA h
    go_enter Try.func30, Try.ntmps30
    go_wp2_with fail
    refine (C1.out _).mono ?_
    rintro e w1 ⟨rfl, b1⟩
    obtain ⟨k0, k1, k2⟩ := box_b b1
    have B := Lib.hid (then_ (n := 0) (al3 _ _ _ _) b1)
    obtain ⟨q6, q7⟩ := row2 k2
    obtain ⟨f6, f7⟩ := frz2 k2
    have hz : w.heap.size + 1 + 1 < w1.heap.size := bx_lt k2
    clear b1 k0 k1 k2
    go_wp2
    refine bodyPost_ret (v := .tuple #[.agg #[.int .i64 0, .int .i64 0], .bool false]) (by simp [results, Try.results30, go_sem, q6, q7]) rfl ⟨rfl, ?_⟩
    repeat (first | exact B.out | refine Below.setCell ?_ (by simp; omega) _)
  · have hk : k < 0 ∨ 100000 < k := by rw [hA] at h; simpa using h
    rw [hA] at C1
    clear hA h
    have C2 := Lib.hid (fun W => inNo k 0 100000 W hk)
    go_enter Try.func30, Try.ntmps30
    go_wp2_with fail
    refine (C1.out _).mono ?_
    rintro e w1 ⟨rfl, b1⟩
    obtain ⟨k0, k1, k2⟩ := box_b b1
    have B := Lib.hid (then_ (n := 0) (al3 _ _ _ _) b1)
    obtain ⟨q6, q7⟩ := row2 k2
    obtain ⟨f6, f7⟩ := frz2 k2
    have hz : w.heap.size + 1 + 1 < w1.heap.size := bx_lt k2
    clear b1 k0 k1 k2
    go_wp2_with fail
    refine (C2.out _).mono ?_
    rintro e w2 ⟨rfl, rfl⟩
    go_wp2
    refine bodyPost_ret (v := .tuple #[.agg #[.int .i64 0, .int .i64 0], .bool false]) (by simp [results, Try.results30, go_sem, q6, q7]) rfl ⟨rfl, ?_⟩
    repeat (first | exact B.out | refine Below.setCell ?_ (by simp; omega) _)
section
variable {p : Nat} [NeZero p]
set_option maxHeartbeats 1000000 in
theorem implTimesYes {d : Fin p} (hc : Cv p d) (hC : okC p (vl d) = true) (h5 : 5 ≤ p) (h9 : p ≤ 199) {a : Fin p × Fin p} (ha : onP d a) (k : Nat) (hk : k ≤ 100000) (w : World) :
    Calls Try.prog 31 #[pv p (vl d), .int .i64 k, pv (vl a.1) (vl a.2)] w fun e w' => e = .returned (.tuple #[pv (vl (mu d a k).1) (vl (mu d a k).2), .bool true]) ∧ Below w.heap.size w w' := by
  have C1 := Lib.hid (fun W => implHas p (vl d) (vl a.1) (vl a.2) W)
  rw [okA_of hC (by omega) ha] at C1
  have C3 := Lib.hid (fun W => copies hc h5 h9 ha k hk W)
  generalize vl (mu d a k).1 = rx at *
  generalize vl (mu d a k).2 = ry at *
  clear ha
  generalize vl a.1 = X at *
  generalize vl a.2 = Y at *
  unfold pv at *
  have hk0 : ¬ (k : Int) < 0 := by omega
  have hk1 : ¬ (100000 : Int) < k := by omega
  go_enter Try.func31, Try.ntmps31
  go_wp2_with fail
  refine (C1.out _).mono ?_
  rintro e w1 ⟨rfl, b1⟩
  obtain ⟨k0, k1, k2⟩ := box_b b1
  have B1 := Lib.hid (then_ (n := 0) (al3 _ _ _ _) b1)
  obtain ⟨c0, c1⟩ := row2 k0
  obtain ⟨c2, c3⟩ := row2 k1
  have H2 := Lib.hid k2
  clear b1 k0 k1 k2
  go_wp2_with fail
  refine (C3.out _).mono ?_
  rintro e w2 ⟨rfl, b2⟩
  have B := Lib.hid (then_ (n := 0) B1.out b2)
  have k2 := bx H2.out b2
  obtain ⟨q6, q7⟩ := row2 k2
  obtain ⟨f6, f7⟩ := frz2 k2
  have hz : w.heap.size + 1 + 1 < w2.heap.size := bx_lt k2
  clear b2 k2 c0 c1 c2 c3
  go_wp2
  refine bodyPost_ret (v := .tuple #[.agg #[.int .i64 rx, .int .i64 ry], .bool true]) (by simp [results, Try.results31, go_sem, q6, q7]) rfl ⟨rfl, ?_⟩
  repeat (first | exact B.out | refine Below.setCell ?_ (by simp; omega) _)
set_option maxHeartbeats 1000000 in
theorem specTimesYes {d : Fin p} (hc : Cv p d) (hC : okC p (vl d) = true) (h5 : 5 ≤ p) (h9 : p ≤ 199) {a : Fin p × Fin p} (ha : onP d a) (k : Nat) (hk : k ≤ 100000) (w : World) :
    Calls Try.prog 30 #[pv p (vl d), .int .i64 k, pv (vl a.1) (vl a.2)] w fun e w' => e = .returned (.tuple #[pv (vl (mu d a k).1) (vl (mu d a k).2), .bool true]) ∧ Below w.heap.size w w' := by
  have C1 := Lib.hid (fun W => specGoodA p (vl d) (vl a.1) (vl a.2) W)
  rw [okA_of hC (by omega) ha] at C1
  have C3 := Lib.hid (fun W => specTimes hc h5 h9 ha k hk W)
  have C2 := Lib.hid (fun W => inYes (k : Int) 0 100000 W (by omega) (by omega))
  generalize vl (mu d a k).1 = rx at *
  generalize vl (mu d a k).2 = ry at *
  clear ha
  generalize vl a.1 = X at *
  generalize vl a.2 = Y at *
  unfold pv at *
  have hk0 : ¬ (k : Int) < 0 := by omega
  have hk1 : ¬ (100000 : Int) < k := by omega
  go_enter Try.func30, Try.ntmps30
  go_wp2_with fail
  refine (C1.out _).mono ?_
  rintro e w1 ⟨rfl, b1⟩
  obtain ⟨k0, k1, k2⟩ := box_b b1
  have B1 := Lib.hid (then_ (n := 0) (al3 _ _ _ _) b1)
  obtain ⟨c0, c1⟩ := row2 k0
  obtain ⟨c2, c3⟩ := row2 k1
  have H2 := Lib.hid k2
  clear b1 k0 k1 k2
  go_wp2_with fail
  refine (C2.out _).mono ?_
  rintro e w2 ⟨rfl, rfl⟩
  go_wp2_with fail
  refine (C3.out _).mono ?_
  rintro e w2 ⟨rfl, b2⟩
  have B := Lib.hid (then_ (n := 0) B1.out b2)
  have k2 := bx H2.out b2
  obtain ⟨q6, q7⟩ := row2 k2
  obtain ⟨f6, f7⟩ := frz2 k2
  have hz : w.heap.size + 1 + 1 < w2.heap.size := bx_lt k2
  clear b2 k2 c0 c1 c2 c3
  go_wp2
  refine bodyPost_ret (v := .tuple #[.agg #[.int .i64 rx, .int .i64 ry], .bool true]) (by simp [results, Try.results30, go_sem, q6, q7]) rfl ⟨rfl, ?_⟩
  repeat (first | exact B.out | refine Below.setCell ?_ (by simp; omega) _)
end
theorem timesBoth (P D k X Y : Int) : ∃ (u v : Int) (b : Bool), (∀ W, Calls Try.prog 30 #[pv P D, .int .i64 k, pv X Y] W fun e w' => e = .returned (.tuple #[pv u v, .bool b]) ∧ Below W.heap.size W w') ∧
    (∀ W, Calls Try.prog 31 #[pv P D, .int .i64 k, pv X Y] W fun e w' => e = .returned (.tuple #[pv u v, .bool b]) ∧ Below W.heap.size W w') := by
  by_cases h : okA P D X Y = false ∨ k < 0 ∨ 100000 < k
  · exact ⟨0, 0, false, fun W => specTimesNo P D k X Y W h, fun W => implTimesNo P D k X Y W h⟩
  · have hA : okA P D X Y = true := by cases e : okA P D X Y <;> simp_all
    obtain ⟨n, rfl⟩ : ∃ n : Nat, k = n := ⟨k.toNat, by omega⟩
    obtain ⟨p, i, d, a, rfl, rfl, rfl, rfl, hc, h5, h9, ha, hC⟩ := okA_D hA
    exact ⟨_, _, true, fun W => specTimesYes hc hC h5 h9 ha n (by omega) W, fun W => implTimesYes hc hC h5 h9 ha n (by omega) W⟩
end Go.Proofs.Ytapdecmaaciaaaa.Times3
