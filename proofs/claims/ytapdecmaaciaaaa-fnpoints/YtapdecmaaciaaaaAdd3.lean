/-
  Sums of points: AddPoints of both sides.
-/
import Derived.Test.YtapdecmaaciaaaaAdd2
namespace Go.Proofs.Ytapdecmaaciaaaa.Add3
open Go.ChangeShapes Go.WideShapes Go.ChangeAt Go.RowKit
open Go.Proofs.Ytapdecmaaciaaaa.Mem Go.Proofs.Ytapdecmaaciaaaa.Num Go.Proofs.Ytapdecmaaciaaaa.Mod Go.Proofs.Ytapdecmaaciaaaa.Pow Go.Proofs.Ytapdecmaaciaaaa.Kind Go.Proofs.Ytapdecmaaciaaaa.Ed Go.Proofs.Ytapdecmaaciaaaa.Grp Go.Proofs.Ytapdecmaaciaaaa.Crv Go.Proofs.Ytapdecmaaciaaaa.Crv2 Go.Proofs.Ytapdecmaaciaaaa.Crv3 Go.Proofs.Ytapdecmaaciaaaa.Add Go.Proofs.Ytapdecmaaciaaaa.Add2
set_option linter.unusedVariables false
set_option maxRecDepth 100000
theorem box_c {w w1 : World} {o o2 o3 o4 : Obj} (b : Below ((((w.alloc o).alloc o2).alloc o3).alloc o4).heap.size ((((w.alloc o).alloc o2).alloc o3).alloc o4) w1) : w1.heap[w.heap.size]? = some o ∧ w1.heap[w.heap.size + 1]? = some o2 ∧ w1.heap[w.heap.size + 1 + 1]? = some o3 ∧ w1.heap[w.heap.size + 1 + 1 + 1]? = some o4 :=
  ⟨bx (nw4 w o o2 o3 o4).1 b, bx (nw4 w o o2 o3 o4).2.1 b, bx (nw4 w o o2 o3 o4).2.2.1 b, bx (nw4 w o o2 o3 o4).2.2.2 b⟩
theorem okA_C {P D X Y : Int} (h : okA P D X Y = true) : okC P D = true := by
  simp only [okA, Bool.and_eq_true] at h; exact h.1.1
/-- Two points of one curve. -/
theorem okAA {P D X Y S T : Int} (h : (okA P D X Y && okA P D S T) = true) : ∃ (p : Nat) (i : NeZero p) (d : Fin p) (a b : Fin p × Fin p), P = p ∧ D = vl d ∧ X = vl a.1 ∧ Y = vl a.2 ∧ S = vl b.1 ∧ T = vl b.2 ∧ Cv p d ∧ 5 ≤ p ∧ p ≤ 199 ∧ onP d a ∧ onP d b ∧ okC p (vl d) = true := by
  rw [Bool.and_eq_true] at h
  have hC := okA_C h.1
  obtain ⟨p, i, d, a, rfl, rfl, rfl, rfl, hc, h5, h9, ha⟩ := okA_yes h.1
  obtain ⟨p', i', d', b, e1, e2, rfl, rfl, hc', h5', h9', hb⟩ := okA_yes h.2
  obtain rfl : p = p' := by omega
  obtain rfl : d = d' := vl_inj e2
  exact ⟨p, i, d, a, b, rfl, rfl, rfl, rfl, rfl, rfl, hc, h5, h9, ha, hb, hC⟩
theorem implAddNo (P D X Y S T : Int) (w : World) (h : (okA P D X Y && okA P D S T) = false) :
    Calls Try.prog 29 #[pv P D, pv X Y, pv S T] w fun e w' => e = .returned (.tuple #[pv 0 0, .bool false]) ∧ Below w.heap.size w w' := by
  have C1 := Lib.hid (fun W => implHas P D X Y W)
  have C2 := Lib.hid (fun W => implHas P D S T W)
  unfold pv at *
  cases hA : okA P D X Y
  · rw [hA] at C1
    clear hA h C2
    go_enter Try.func29, Try.ntmps29
    go_wp2_with fail
    refine (C1.out _).mono ?_
    rintro e w1 ⟨rfl, b1⟩
    have B := Lib.hid (then_ (n := 0) (al4 _ _ _ _ _) b1)
    obtain ⟨k0, k1, k2, k3⟩ := box_c b1
    obtain ⟨q6, q7⟩ := row2 k3
    obtain ⟨f6, f7⟩ := frz2 k3
    have hz : w.heap.size + 1 + 1 + 1 < w1.heap.size := bx_lt k3
    clear b1 k0 k1 k2 k3
    go_wp2
    refine bodyPost_ret (v := .tuple #[.agg #[.int .i64 0, .int .i64 0], .bool false]) (by simp [results, Try.results29, go_sem, q6, q7]) rfl ⟨rfl, ?_⟩
    repeat (first | exact B.out | refine Below.setCell ?_ (by simp; omega) _)
  · have hB : okA P D S T = false := by rw [hA] at h; simpa using h
    rw [hA] at C1
    rw [hB] at C2
    clear hA h hB
    go_enter Try.func29, Try.ntmps29
    go_wp2_with fail
    refine (C1.out _).mono ?_
    rintro e w0 ⟨rfl, b0⟩
    obtain ⟨k0, k1, k2, k3⟩ := box_c b0
    obtain ⟨c0, c1⟩ := row2 k0
    obtain ⟨c2, c3⟩ := row2 k1
    obtain ⟨c4, c5⟩ := row2 k2
    have H3 := Lib.hid k3
    have B0 := Lib.hid (then_ (n := 0) (al4 _ _ _ _ _) b0)
    clear b0 k0 k1 k2 k3
    go_wp2_with fail
    refine (C2.out _).mono ?_
    rintro e w1 ⟨rfl, b1⟩
    have B := Lib.hid (then_ (n := 0) B0.out b1)
    have k3 := bx H3.out b1
    obtain ⟨q6, q7⟩ := row2 k3
    obtain ⟨f6, f7⟩ := frz2 k3
    have hz : w.heap.size + 1 + 1 + 1 < w1.heap.size := bx_lt k3
    clear b1 k3 c0 c1 c2 c3 c4 c5
    go_wp2
    refine bodyPost_ret (v := .tuple #[.agg #[.int .i64 0, .int .i64 0], .bool false]) (by simp [results, Try.results29, go_sem, q6, q7]) rfl ⟨rfl, ?_⟩
    repeat (first | exact B.out | refine Below.setCell ?_ (by simp; omega) _)
theorem specAddNo (P D X Y S T : Int) (w : World) (h : (okA P D X Y && okA P D S T) = false) :
    Calls Try.prog 28 #[pv P D, pv X Y, pv S T] w fun e w' => e = .returned (.tuple #[pv 0 0, .bool false]) ∧ Below w.heap.size w w' := by
  have C1 := Lib.hid (fun W => specGoodA P D X Y W)
  have C2 := Lib.hid (fun W => specGoodA P D S T W)
  unfold pv at *
  cases hA : okA P D X Y
  · rw [hA] at C1
    clear hA h C2
    go_enter Try.func28, Try.ntmps28
    go_wp2_with fail
    refine (C1.out _).mono ?_
    rintro e w1 ⟨rfl, b1⟩
    have B := Lib.hid (then_ (n := 0) (al4 _ _ _ _ _) b1)
    obtain ⟨k0, k1, k2, k3⟩ := box_c b1
    obtain ⟨q6, q7⟩ := row2 k3
    obtain ⟨f6, f7⟩ := frz2 k3
    have hz : w.heap.size + 1 + 1 + 1 < w1.heap.size := bx_lt k3
    clear b1 k0 k1 k2 k3
    go_wp2
    refine bodyPost_ret (v := .tuple #[.agg #[.int .i64 0, .int .i64 0], .bool false]) (by simp [results, Try.results28, go_sem, q6, q7]) rfl ⟨rfl, ?_⟩
    repeat (first | exact B.out | refine Below.setCell ?_ (by simp; omega) _)
  · have hB : okA P D S T = false := by rw [hA] at h; simpa using h
    rw [hA] at C1
    rw [hB] at C2
    clear hA h hB
    go_enter Try.func28, Try.ntmps28
    go_wp2_with fail
    refine (C1.out _).mono ?_
    rintro e w0 ⟨rfl, b0⟩
    obtain ⟨k0, k1, k2, k3⟩ := box_c b0
    obtain ⟨c0, c1⟩ := row2 k0
    obtain ⟨c2, c3⟩ := row2 k1
    obtain ⟨c4, c5⟩ := row2 k2
    have H3 := Lib.hid k3
    have B0 := Lib.hid (then_ (n := 0) (al4 _ _ _ _ _) b0)
    clear b0 k0 k1 k2 k3
    go_wp2_with fail
    refine (C2.out _).mono ?_
    rintro e w1 ⟨rfl, b1⟩
    have B := Lib.hid (then_ (n := 0) B0.out b1)
    have k3 := bx H3.out b1
    obtain ⟨q6, q7⟩ := row2 k3
    obtain ⟨f6, f7⟩ := frz2 k3
    have hz : w.heap.size + 1 + 1 + 1 < w1.heap.size := bx_lt k3
    clear b1 k3 c0 c1 c2 c3 c4 c5
    go_wp2
    refine bodyPost_ret (v := .tuple #[.agg #[.int .i64 0, .int .i64 0], .bool false]) (by simp [results, Try.results28, go_sem, q6, q7]) rfl ⟨rfl, ?_⟩
    repeat (first | exact B.out | refine Below.setCell ?_ (by simp; omega) _)
theorem implAddYes {p : Nat} [NeZero p] {d : Fin p} {a b : Fin p × Fin p} (hc : okC p (vl d) = true) (hp : Pr p) (h5 : 5 ≤ p) (h9 : p ≤ 199) (ha : onP d a) (hb : onP d b) (w : World) :
    Calls Try.prog 29 #[pv p (vl d), pv (vl a.1) (vl a.2), pv (vl b.1) (vl b.2)] w fun e w' => e = .returned (.tuple #[pv (vl (ad d a b).1) (vl (ad d a b).2), .bool true]) ∧ Below w.heap.size w w' := by
  have C1 := Lib.hid (fun W => implHas p (vl d) (vl a.1) (vl a.2) W)
  have C2 := Lib.hid (fun W => implHas p (vl d) (vl b.1) (vl b.2) W)
  rw [okA_of hc (by omega) ha] at C1
  rw [okA_of hc (by omega) hb] at C2
  have C3 := Lib.hid (fun W => implSum hp h5 h9 d a b W)
  generalize vl (ad d a b).1 = rx at *
  generalize vl (ad d a b).2 = ry at *
  clear hc ha hb
  generalize vl d = D at *
  generalize vl a.1 = X at *
  generalize vl a.2 = Y at *
  generalize vl b.1 = S at *
  generalize vl b.2 = T at *
  unfold pv at *
  go_enter Try.func29, Try.ntmps29
  go_wp2_with fail
  refine (C1.out _).mono ?_
  rintro e w0 ⟨rfl, b0⟩
  obtain ⟨k0, k1, k2, k3⟩ := box_c b0
  obtain ⟨c0, c1⟩ := row2 k0
  obtain ⟨c2, c3⟩ := row2 k1
  obtain ⟨c4, c5⟩ := row2 k2
  have H0 := Lib.hid k0
  have H1 := Lib.hid k1
  have H2 := Lib.hid k2
  have H3 := Lib.hid k3
  have B0 := Lib.hid (then_ (n := 0) (al4 _ _ _ _ _) b0)
  clear b0 k0 k1 k2 k3
  go_wp2_with fail
  refine (C2.out _).mono ?_
  rintro e w1 ⟨rfl, b1⟩
  clear c0 c1 c2 c3 c4 c5
  obtain ⟨c0, c1⟩ := row2 (bx H0.out b1)
  obtain ⟨c2, c3⟩ := row2 (bx H1.out b1)
  obtain ⟨c4, c5⟩ := row2 (bx H2.out b1)
  have B1 := Lib.hid (then_ (n := 0) B0.out b1)
  have H3 := Lib.hid (bx H3.out b1)
  clear b1
  go_wp2_with fail
  refine (C3.out _).mono ?_
  rintro e w2 ⟨rfl, b2⟩
  have B := Lib.hid (then_ (n := 0) B1.out b2)
  have k3 := bx H3.out b2
  obtain ⟨q6, q7⟩ := row2 k3
  obtain ⟨f6, f7⟩ := frz2 k3
  have hz : w.heap.size + 1 + 1 + 1 < w2.heap.size := bx_lt k3
  clear b2 k3 c0 c1 c2 c3 c4 c5
  go_wp2
  refine bodyPost_ret (v := .tuple #[.agg #[.int .i64 rx, .int .i64 ry], .bool true]) (by simp [results, Try.results29, go_sem, q6, q7]) rfl ⟨rfl, ?_⟩
  repeat (first | exact B.out | refine Below.setCell ?_ (by simp; omega) _)
theorem specAddYes {p : Nat} [NeZero p] {d : Fin p} {a b : Fin p × Fin p} (hc : okC p (vl d) = true) (hp : Pr p) (h5 : 5 ≤ p) (h9 : p ≤ 199) (ha : onP d a) (hb : onP d b) (w : World) :
    Calls Try.prog 28 #[pv p (vl d), pv (vl a.1) (vl a.2), pv (vl b.1) (vl b.2)] w fun e w' => e = .returned (.tuple #[pv (vl (ad d a b).1) (vl (ad d a b).2), .bool true]) ∧ Below w.heap.size w w' := by
  have C1 := Lib.hid (fun W => specGoodA p (vl d) (vl a.1) (vl a.2) W)
  have C2 := Lib.hid (fun W => specGoodA p (vl d) (vl b.1) (vl b.2) W)
  rw [okA_of hc (by omega) ha] at C1
  rw [okA_of hc (by omega) hb] at C2
  have C3 := Lib.hid (fun W => specAdd hp h5 h9 d a b W)
  generalize vl (ad d a b).1 = rx at *
  generalize vl (ad d a b).2 = ry at *
  clear hc ha hb
  generalize vl d = D at *
  generalize vl a.1 = X at *
  generalize vl a.2 = Y at *
  generalize vl b.1 = S at *
  generalize vl b.2 = T at *
  unfold pv at *
  go_enter Try.func28, Try.ntmps28
  go_wp2_with fail
  refine (C1.out _).mono ?_
  rintro e w0 ⟨rfl, b0⟩
  obtain ⟨k0, k1, k2, k3⟩ := box_c b0
  obtain ⟨c0, c1⟩ := row2 k0
  obtain ⟨c2, c3⟩ := row2 k1
  obtain ⟨c4, c5⟩ := row2 k2
  have H0 := Lib.hid k0
  have H1 := Lib.hid k1
  have H2 := Lib.hid k2
  have H3 := Lib.hid k3
  have B0 := Lib.hid (then_ (n := 0) (al4 _ _ _ _ _) b0)
  clear b0 k0 k1 k2 k3
  go_wp2_with fail
  refine (C2.out _).mono ?_
  rintro e w1 ⟨rfl, b1⟩
  clear c0 c1 c2 c3 c4 c5
  obtain ⟨c0, c1⟩ := row2 (bx H0.out b1)
  obtain ⟨c2, c3⟩ := row2 (bx H1.out b1)
  obtain ⟨c4, c5⟩ := row2 (bx H2.out b1)
  have B1 := Lib.hid (then_ (n := 0) B0.out b1)
  have H3 := Lib.hid (bx H3.out b1)
  clear b1
  go_wp2_with fail
  refine (C3.out _).mono ?_
  rintro e w2 ⟨rfl, b2⟩
  have B := Lib.hid (then_ (n := 0) B1.out b2)
  have k3 := bx H3.out b2
  obtain ⟨q6, q7⟩ := row2 k3
  obtain ⟨f6, f7⟩ := frz2 k3
  have hz : w.heap.size + 1 + 1 + 1 < w2.heap.size := bx_lt k3
  clear b2 k3 c0 c1 c2 c3 c4 c5
  go_wp2
  refine bodyPost_ret (v := .tuple #[.agg #[.int .i64 rx, .int .i64 ry], .bool true]) (by simp [results, Try.results28, go_sem, q6, q7]) rfl ⟨rfl, ?_⟩
  repeat (first | exact B.out | refine Below.setCell ?_ (by simp; omega) _)
theorem addBoth (P D X Y S T : Int) : ∃ (u v : Int) (b : Bool), (∀ W, Calls Try.prog 28 #[pv P D, pv X Y, pv S T] W fun e w' => e = .returned (.tuple #[pv u v, .bool b]) ∧ Below W.heap.size W w') ∧
    (∀ W, Calls Try.prog 29 #[pv P D, pv X Y, pv S T] W fun e w' => e = .returned (.tuple #[pv u v, .bool b]) ∧ Below W.heap.size W w') := by
  cases h : (okA P D X Y && okA P D S T)
  · exact ⟨0, 0, false, fun W => specAddNo P D X Y S T W h, fun W => implAddNo P D X Y S T W h⟩
  · obtain ⟨p, i, d, a, b, rfl, rfl, rfl, rfl, rfl, rfl, hc, h5, h9, ha, hb, hC⟩ := okAA h
    exact ⟨_, _, true, fun W => specAddYes hC hc.pr h5 h9 ha hb W, fun W => implAddYes hC hc.pr h5 h9 ha hb W⟩
end Go.Proofs.Ytapdecmaaciaaaa.Add3
