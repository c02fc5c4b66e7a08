/-
  Points of the field and of the curve: contracts of both sides.
-/
import Derived.Test.YtapdecmaaciaaaaCrv
import Derived.Test.YtapdecmaaciaaaaGrp
import Derived.Deep.QuietTactic
import Derived.BigQuiet
namespace Go.Proofs.Ytapdecmaaciaaaa.Crv2
open Go.ChangeShapes Go.WideShapes Go.ChangeAt Go.RowKit
open Go.Proofs.Ytapdecmaaciaaaa.Mem Go.Proofs.Ytapdecmaaciaaaa.Num Go.Proofs.Ytapdecmaaciaaaa.Mod Go.Proofs.Ytapdecmaaciaaaa.Pow Go.Proofs.Ytapdecmaaciaaaa.Kind Go.Proofs.Ytapdecmaaciaaaa.Ed Go.Proofs.Ytapdecmaaciaaaa.Grp Go.Proofs.Ytapdecmaaciaaaa.Crv
set_option linter.unusedVariables false
set_option maxRecDepth 100000

theorem below_drewN {B : Nat} {w w' : World} (h : Below B w w') (n : Nat) : Below B w (w'.drewN n) := ⟨h.os, h.tape, h.output, h.size, h.block⟩
theorem al1 (w : World) (o : Obj) : Below w.heap.size w (w.alloc o) := (Below.refl _ w).alloc (Nat.le_refl _) o
theorem al2 (w : World) (o o2 : Obj) : Below w.heap.size w ((w.alloc o).alloc o2) := (al1 w o).alloc (by simp) o2
theorem al3 (w : World) (o o2 o3 : Obj) : Below w.heap.size w (((w.alloc o).alloc o2).alloc o3) := (al2 w o o2).alloc (by simp; omega) o3
theorem al4 (w : World) (o o2 o3 o4 : Obj) : Below w.heap.size w ((((w.alloc o).alloc o2).alloc o3).alloc o4) := (al3 w o o2 o3).alloc (by simp; omega) o4
theorem al5 (w : World) (o o2 o3 o4 o5 : Obj) : Below w.heap.size w (((((w.alloc o).alloc o2).alloc o3).alloc o4).alloc o5) := (al4 w o o2 o3 o4).alloc (by simp; omega) o5
theorem then_ {n : Nat} {w w1 w2 : World} (h : Below w.heap.size w w1) (k : Below w1.heap.size w1 w2) : Below w.heap.size w w2 := h.trans (k.mono h.size)
theorem nw1 (w : World) (o : Obj) : (w.alloc o).heap[w.heap.size]? = some o := heap_alloc_new w o
theorem nw2 (w : World) (o o2 : Obj) : ((w.alloc o).alloc o2).heap[w.heap.size]? = some o ∧ ((w.alloc o).alloc o2).heap[w.heap.size + 1]? = some o2 := by
  refine ⟨bx (nw1 w o) (al1 _ o2), ?_⟩
  have := nw1 (w.alloc o) o2
  rwa [World.size_alloc] at this
theorem nw3 (w : World) (o o2 o3 : Obj) : (((w.alloc o).alloc o2).alloc o3).heap[w.heap.size]? = some o ∧ (((w.alloc o).alloc o2).alloc o3).heap[w.heap.size + 1]? = some o2 ∧ (((w.alloc o).alloc o2).alloc o3).heap[w.heap.size + 1 + 1]? = some o3 := by
  refine ⟨bx (nw2 w o o2).1 (al1 _ o3), bx (nw2 w o o2).2 (al1 _ o3), ?_⟩
  have := nw1 ((w.alloc o).alloc o2) o3
  rwa [World.size_alloc, World.size_alloc] at this
theorem nw4 (w : World) (o o2 o3 o4 : Obj) : ((((w.alloc o).alloc o2).alloc o3).alloc o4).heap[w.heap.size]? = some o ∧ ((((w.alloc o).alloc o2).alloc o3).alloc o4).heap[w.heap.size + 1]? = some o2 ∧ ((((w.alloc o).alloc o2).alloc o3).alloc o4).heap[w.heap.size + 1 + 1]? = some o3 ∧ ((((w.alloc o).alloc o2).alloc o3).alloc o4).heap[w.heap.size + 1 + 1 + 1]? = some o4 := by
  obtain ⟨h1, h2, h3⟩ := nw3 w o o2 o3
  refine ⟨bx h1 (al1 _ o4), bx h2 (al1 _ o4), bx h3 (al1 _ o4), ?_⟩
  have := nw1 (((w.alloc o).alloc o2).alloc o3) o4
  rwa [World.size_alloc, World.size_alloc, World.size_alloc] at this
theorem box_a {w w1 : World} {o o2 : Obj} (b : Below ((w.alloc o).alloc o2).heap.size ((w.alloc o).alloc o2) w1) : w1.heap[w.heap.size]? = some o ∧ w1.heap[w.heap.size + 1]? = some o2 :=
  ⟨bx (nw2 w o o2).1 b, bx (nw2 w o o2).2 b⟩
theorem box_b {w w1 : World} {o o2 o3 : Obj} (b : Below (((w.alloc o).alloc o2).alloc o3).heap.size (((w.alloc o).alloc o2).alloc o3) w1) : w1.heap[w.heap.size]? = some o ∧ w1.heap[w.heap.size + 1]? = some o2 ∧ w1.heap[w.heap.size + 1 + 1]? = some o3 :=
  ⟨bx (nw3 w o o2 o3).1 b, bx (nw3 w o o2 o3).2.1 b, bx (nw3 w o o2 o3).2.2 b⟩
/-- Coordinates in the field. -/
def inF (P X Y : Int) : Bool := decide (0 ≤ X) && decide (X < P) && decide (0 ≤ Y) && decide (Y < P)
theorem implIn (P D X Y : Int) (w : World) : Calls Try.prog 50 #[pv P D, pv X Y] w fun e w' => e = .returned (.bool (inF P X Y)) ∧ Below w.heap.size w w' := by
  unfold pv
  have E : Hid (inF P X Y = (decide (0 ≤ X) && decide (X < P) && decide (0 ≤ Y) && decide (Y < P))) := Lib.hid rfl
  go_enter Try.func50, Try.ntmps50
  go_wp2
  all_goals
    go_ret
    refine ⟨ret_bool ?_, al2 _ _ _⟩
    rw [E.out, Bool.eq_iff_iff]; simp; try omega
def l1B (n a b : Int) : Bool := decide (a ≤ n) && decide (n ≤ b)
theorem l1InB (n a b : Int) (w : World) : Calls Try.prog 44 #[.int .i64 n, .int .i64 a, .int .i64 b] w fun e w' => e = .returned (.bool (l1B n a b)) ∧ w = w' := by
  by_cases h : n < a ∨ b < n
  · have e : l1B n a b = false := by unfold l1B; simp; omega
    rw [e]; exact inNo n a b w h
  · have e : l1B n a b = true := by unfold l1B; simp; omega
    rw [e]; exact inYes n a b w (by omega) (by omega)
theorem inF_eq (P X Y : Int) : inF P X Y = (l1B X 0 (P - 1) && l1B Y 0 (P - 1)) := by
  unfold inF l1B; rw [Bool.eq_iff_iff]; simp; omega
theorem specPoint (P D X Y : Int) (w : World) (hP : 5 ≤ P) (h9 : P ≤ 199) : Calls Try.prog 48 #[pv P D, pv X Y] w fun e w' => e = .returned (.bool (inF P X Y)) ∧ Below w.heap.size w w' := by
  unfold pv
  have E := Lib.hid (inF_eq P X Y)
  have C1 := Lib.hid (fun W => l1InB X 0 (P - 1) W)
  have C2 := Lib.hid (fun W => l1InB Y 0 (P - 1) W)
  generalize l1B X 0 (P - 1) = b1 at *
  generalize l1B Y 0 (P - 1) = b2 at *
  go_enter Try.func48, Try.ntmps48
  go_wp2_with fail
  refine (C1.out _).mono ?_
  rintro e w' ⟨rfl, rfl⟩
  cases b1
  · go_wp2
    go_ret
    exact ⟨by rw [E.out]; rfl, al2 _ _ _⟩
  · go_wp2_with fail
    refine (C2.out _).mono ?_
    rintro e w' ⟨rfl, rfl⟩
    go_wp2
    go_ret
    exact ⟨by rw [E.out]; rfl, al2 _ _ _⟩
/-- The equation of the curve. -/
def onE (P D X Y : Int) : Bool := decide ((X * X + Y * Y) % P = (1 + D * (X * X) * (Y * Y)) % P)
theorem mulb {x y a b : Int} (h1 : 0 ≤ x) (h2 : x ≤ a) (h3 : 0 ≤ y) (h4 : y ≤ b) : 0 ≤ x * y ∧ x * y ≤ a * b :=
  ⟨Int.mul_nonneg h1 h3, Int.mul_le_mul h2 h4 h3 (by omega)⟩
theorem emod_mul (a b n : Int) : a * (b % n) % n = a * b % n := by rw [Int.mul_emod, Int.emod_emod_of_dvd _ (Int.dvd_refl n), ← Int.mul_emod]
theorem mul_emodl (a b n : Int) : a % n * b % n = a * b % n := by rw [Int.mul_comm, emod_mul, Int.mul_comm]
theorem onE_mod (P D X Y : Int) : ((X * X + Y * Y) % P == (1 + D * (X * X % P) % P * (Y * Y % P)) % P) = onE P D X Y := by
  have e2 : (1 + D * (X * X % P) % P * (Y * Y % P)) % P = (1 + D * (X * X) * (Y * Y)) % P := by
    rw [Int.add_emod, emod_mul, mul_emodl, Int.mul_assoc, ← emod_mul D, mul_emodl, emod_mul, ← Int.mul_assoc, ← Int.add_emod]
  rw [e2]; rfl
theorem onE_beq (P D X Y : Int) : ((X * X + Y * Y) % P == (1 + D * (X * X) * (Y * Y)) % P) = onE P D X Y := rfl
theorem specOnE (P D X Y : Int) (w : World) (hP : 5 ≤ P) (h9 : P ≤ 199) (hd : 0 ≤ D) (hd' : D < P) (hx : 0 ≤ X) (hx' : X < P) (hy : 0 ≤ Y) (hy' : Y < P) :
    Calls Try.prog 49 #[pv P D, pv X Y] w fun e w' => e = .returned (.bool (onE P D X Y)) ∧ Below w.heap.size w w' := by
  have E := Lib.hid (onE_mod P D X Y)
  obtain ⟨a1, a2⟩ := mulb hx (show X ≤ 199 by omega) hx (show X ≤ 199 by omega)
  obtain ⟨b1, b2⟩ := mulb hy (show Y ≤ 199 by omega) hy (show Y ≤ 199 by omega)
  have m1 := Int.emod_nonneg (X * X) (show P ≠ 0 by omega)
  have m2 := Int.emod_lt_of_pos (X * X) (show 0 < P by omega)
  have n1 := Int.emod_nonneg (Y * Y) (show P ≠ 0 by omega)
  have n2 := Int.emod_lt_of_pos (Y * Y) (show 0 < P by omega)
  obtain ⟨c1, c2⟩ := mulb hd (show D ≤ 199 by omega) m1 (show X * X % P ≤ 199 by omega)
  have o1 := Int.emod_nonneg (D * (X * X % P)) (show P ≠ 0 by omega)
  have o2 := Int.emod_lt_of_pos (D * (X * X % P)) (show 0 < P by omega)
  obtain ⟨d1, d2⟩ := mulb o1 (show D * (X * X % P) % P ≤ 199 by omega) n1 (show Y * Y % P ≤ 199 by omega)
  unfold pv
  go_enter Try.func49, Try.ntmps49
  go_wp2
  go_quiet (fail)
  go_wp2
  go_ret
  exact ⟨by rw [← E.out]; rfl, below_drewN (al2 _ _ _) nq⟩
/-- A point of a valid curve. -/
def okA (P D X Y : Int) : Bool := okC P D && inF P X Y && onE P D X Y
theorem okA_yes {P D X Y : Int} (h : okA P D X Y = true) : ∃ (p : Nat) (i : NeZero p) (d : Fin p) (a : Fin p × Fin p), P = p ∧ D = vl d ∧ X = vl a.1 ∧ Y = vl a.2 ∧ Cv p d ∧ 5 ≤ p ∧ p ≤ 199 ∧ onP d a := by
  simp only [okA, inF, onE, Bool.and_eq_true, decide_eq_true_eq] at h
  obtain ⟨⟨hC, ⟨⟨hx, hx'⟩, hy⟩, hy'⟩, ho⟩ := h
  obtain ⟨p, i, d, rfl, rfl, hc, h5, h9, _, _⟩ := okC_yes hC
  refine ⟨p, i, d, (rs p X, rs p Y), rfl, rfl, ?_, ?_, hc, h5, h9, ?_⟩
  · rw [vl_rs]; exact (Int.emod_eq_of_lt hx hx').symm
  · rw [vl_rs]; exact (Int.emod_eq_of_lt hy hy').symm
  · show On d (rs p X) (rs p Y)
    unfold On
    rw [← rs_eq] at ho
    simp only [rs_add, rs_mul, rs_vl, rs_one (p := p) (by omega)] at ho
    exact ho
theorem okA_of {p : Nat} [i : NeZero p] {d : Fin p} {a : Fin p × Fin p} (hC : okC p (vl d) = true) (h2 : 2 ≤ p) (ha : onP d a) : okA p (vl d) (vl a.1) (vl a.2) = true := by
  have h1 := vl_ge a.1; have h3 := vl_ge a.2; have h4 := vl_lt a.1; have h5 := vl_lt a.2
  simp only [okA, inF, onE, Bool.and_eq_true, decide_eq_true_eq]
  refine ⟨⟨hC, ⟨⟨h1, h4⟩, h3⟩, h5⟩, ?_⟩
  rw [← rs_eq]
  simp only [rs_add, rs_mul, rs_vl, rs_one (p := p) h2]
  exact ha
theorem okC_bd {P D : Int} (h : okC P D = true) : 5 ≤ P ∧ P ≤ 199 ∧ 2 ≤ D ∧ D < P := by
  simp only [okC, Bool.and_eq_true, decide_eq_true_eq] at h
  omega
theorem inF_bd {P X Y : Int} (h : inF P X Y = true) : 0 ≤ X ∧ X < P ∧ 0 ≤ Y ∧ Y < P := by
  simp only [inF, Bool.and_eq_true, decide_eq_true_eq] at h
  omega
set_option maxHeartbeats 1000000 in
theorem implOn (P D X Y : Int) (w : World) : Calls Try.prog 20 #[pv P D, pv X Y] w fun e w' => e = .returned (.tuple #[.bool (okA P D X Y), .bool (okC P D && inF P X Y)]) ∧ Below w.heap.size w w' := by
  have C1 := Lib.hid (fun W => implGood P D W)
  have C2 := Lib.hid (fun W => implIn P D X Y W)
  have E : Hid (okA P D X Y = (okC P D && inF P X Y && onE P D X Y)) := Lib.hid rfl
  unfold pv at *
  cases hC : okC P D
  · have hC' := Lib.hid hC
    clear hC
    go_enter Try.func20, Try.ntmps20
    go_wp2_with fail
    refine (C1.out _).mono ?_
    rintro e w1 ⟨rfl, b1⟩
    rw [hC'.out]
    go_wp2
    go_ret2
    exact ⟨by rw [E.out, hC'.out]; rfl, then_ (n := 0) (al2 _ _ _) b1⟩
  · cases hF : inF P X Y
    · have hC' := Lib.hid hC
      have hF' := Lib.hid hF
      clear hC hF
      go_enter Try.func20, Try.ntmps20
      go_wp2_with fail
      refine (C1.out _).mono ?_
      rintro e w1 ⟨rfl, b1⟩
      rw [hC'.out]
      obtain ⟨k0, k1⟩ := box_a b1
      obtain ⟨c0, c1⟩ := row2 k0
      obtain ⟨c2, c3⟩ := row2 k1
      go_wp2_with fail
      refine (C2.out _).mono ?_
      rintro e w2 ⟨rfl, b2⟩
      rw [hF'.out]
      go_wp2
      go_ret2
      exact ⟨by rw [E.out, hC'.out, hF'.out]; rfl, then_ (n := 0) (then_ (n := 0) (al2 _ _ _) b1) b2⟩
    · have hC' := Lib.hid hC
      have hF' := Lib.hid hF
      obtain ⟨h5, h9, hd, hd'⟩ := okC_bd hC
      obtain ⟨hx, hx', hy, hy'⟩ := inF_bd hF
      clear hC hF
      obtain ⟨m1, m2⟩ := mulb hx (show X ≤ 199 by omega) hx (show X ≤ 199 by omega)
      obtain ⟨n1, n2⟩ := mulb hy (show Y ≤ 199 by omega) hy (show Y ≤ 199 by omega)
      obtain ⟨o1, o2⟩ := mulb (show 0 ≤ D by omega) (show D ≤ 199 by omega) m1 m2
      obtain ⟨q1, q2⟩ := mulb o1 o2 n1 n2
      go_enter Try.func20, Try.ntmps20
      go_wp2_with fail
      refine (C1.out _).mono ?_
      rintro e w1 ⟨rfl, b1⟩
      rw [hC'.out]
      obtain ⟨k0, k1⟩ := box_a b1
      obtain ⟨c0, c1⟩ := row2 k0
      obtain ⟨c2, c3⟩ := row2 k1
      go_wp2_with fail
      refine (C2.out _).mono ?_
      rintro e w2 ⟨rfl, b2⟩
      rw [hF'.out]
      obtain ⟨e0, e1⟩ := row2 (bx k0 b2)
      obtain ⟨e2, e3⟩ := row2 (bx k1 b2)
      clear c0 c1 c2 c3
      have G : Hid (okA P D X Y = onE P D X Y) := Lib.hid (by rw [E.out, hC'.out, hF'.out]; rfl)
      have B := then_ (n := 0) (then_ (n := 0) (al2 _ _ _) b1) b2
      clear b1 b2 k0 k1
      go_wp2
      go_quiet (fail)
      go_wp2
      go_quiet (fail)
      go_wp2
      go_ret2
      exact ⟨by rw [G.out]; rfl, below_drewN (below_drewN B _) _⟩
theorem implHas (P D X Y : Int) (w : World) : Calls Try.prog 52 #[pv P D, pv X Y] w fun e w' => e = .returned (.bool (okA P D X Y)) ∧ Below w.heap.size w w' := by
  have C1 := Lib.hid (fun W => implOn P D X Y W)
  unfold pv at *
  go_enter Try.func52, Try.ntmps52
  go_wp2_with fail
  refine (C1.out _).mono ?_
  rintro e w1 ⟨rfl, b1⟩
  have B := then_ (n := 0) (al2 _ _ _) b1
  clear b1
  go_wp2
  go_ret
  exact ⟨rfl, B⟩
set_option maxHeartbeats 1000000 in
theorem specOn (P D X Y : Int) (w : World) : Calls Try.prog 18 #[pv P D, pv X Y] w fun e w' => e = .returned (.tuple #[.bool (okA P D X Y), .bool (okC P D && inF P X Y)]) ∧ Below w.heap.size w w' := by
  have C1 := Lib.hid (fun W => specGood P D W)
  have E : Hid (okA P D X Y = (okC P D && inF P X Y && onE P D X Y)) := Lib.hid rfl
  cases hC : okC P D
  · have hC' := Lib.hid hC
    clear hC
    unfold pv at *
    go_enter Try.func18, Try.ntmps18
    go_wp2_with fail
    refine (C1.out _).mono ?_
    rintro e w1 ⟨rfl, b1⟩
    rw [hC'.out]
    go_wp2
    go_ret2
    exact ⟨by rw [E.out, hC'.out]; rfl, then_ (n := 0) (al2 _ _ _) b1⟩
  · obtain ⟨h5, h9, hd, hd'⟩ := okC_bd hC
    have C2 := Lib.hid (fun W => specPoint P D X Y W h5 h9)
    have hC' := Lib.hid hC
    clear hC
    cases hF : inF P X Y
    · have hF' := Lib.hid hF
      clear hF
      unfold pv at *
      go_enter Try.func18, Try.ntmps18
      go_wp2_with fail
      refine (C1.out _).mono ?_
      rintro e w1 ⟨rfl, b1⟩
      rw [hC'.out]
      obtain ⟨k0, k1⟩ := box_a b1
      obtain ⟨c0, c1⟩ := row2 k0
      obtain ⟨c2, c3⟩ := row2 k1
      go_wp2_with fail
      refine (C2.out _).mono ?_
      rintro e w2 ⟨rfl, b2⟩
      rw [hF'.out]
      go_wp2
      go_ret2
      exact ⟨by rw [E.out, hC'.out, hF'.out]; rfl, then_ (n := 0) (then_ (n := 0) (al2 _ _ _) b1) b2⟩
    · obtain ⟨hx, hx', hy, hy'⟩ := inF_bd hF
      have C3 := Lib.hid (fun W => specOnE P D X Y W h5 h9 (by omega) hd' hx hx' hy hy')
      have hF' := Lib.hid hF
      clear hF
      unfold pv at *
      go_enter Try.func18, Try.ntmps18
      go_wp2_with fail
      refine (C1.out _).mono ?_
      rintro e w1 ⟨rfl, b1⟩
      rw [hC'.out]
      obtain ⟨k0, k1⟩ := box_a b1
      obtain ⟨c0, c1⟩ := row2 k0
      obtain ⟨c2, c3⟩ := row2 k1
      go_wp2_with fail
      refine (C2.out _).mono ?_
      rintro e w2 ⟨rfl, b2⟩
      rw [hF'.out]
      obtain ⟨e0, e1⟩ := row2 (bx k0 b2)
      obtain ⟨e2, e3⟩ := row2 (bx k1 b2)
      clear c0 c1 c2 c3
      go_wp2_with fail
      refine (C3.out _).mono ?_
      rintro e w3 ⟨rfl, b3⟩
      have G : Hid (okA P D X Y = onE P D X Y) := Lib.hid (by rw [E.out, hC'.out, hF'.out]; rfl)
      have B := then_ (n := 0) (then_ (n := 0) (then_ (n := 0) (al2 _ _ _) b1) b2) b3
      clear b1 b2 k0 k1 b3
      go_wp2
      go_ret2
      exact ⟨by rw [G.out]; rfl, B⟩
set_option maxHeartbeats 1000000 in
theorem specGoodA (P D X Y : Int) (w : World) : Calls Try.prog 51 #[pv P D, pv X Y] w fun e w' => e = .returned (.bool (okA P D X Y)) ∧ Below w.heap.size w w' := by
  have C1 := Lib.hid (fun W => specGood P D W)
  have E : Hid (okA P D X Y = (okC P D && inF P X Y && onE P D X Y)) := Lib.hid rfl
  cases hC : okC P D
  · have hC' := Lib.hid hC
    clear hC
    unfold pv at *
    go_enter Try.func51, Try.ntmps51
    go_wp2_with fail
    refine (C1.out _).mono ?_
    rintro e w1 ⟨rfl, b1⟩
    rw [hC'.out]
    go_wp2
    go_ret
    exact ⟨by rw [E.out, hC'.out]; rfl, then_ (n := 0) (al2 _ _ _) b1⟩
  · obtain ⟨h5, h9, hd, hd'⟩ := okC_bd hC
    have C2 := Lib.hid (fun W => specPoint P D X Y W h5 h9)
    have hC' := Lib.hid hC
    clear hC
    cases hF : inF P X Y
    · have hF' := Lib.hid hF
      clear hF
      unfold pv at *
      go_enter Try.func51, Try.ntmps51
      go_wp2_with fail
      refine (C1.out _).mono ?_
      rintro e w1 ⟨rfl, b1⟩
      rw [hC'.out]
      obtain ⟨k0, k1⟩ := box_a b1
      obtain ⟨c0, c1⟩ := row2 k0
      obtain ⟨c2, c3⟩ := row2 k1
      go_wp2_with fail
      refine (C2.out _).mono ?_
      rintro e w2 ⟨rfl, b2⟩
      rw [hF'.out]
      go_wp2
      go_ret
      exact ⟨by rw [E.out, hC'.out, hF'.out]; rfl, then_ (n := 0) (then_ (n := 0) (al2 _ _ _) b1) b2⟩
    · obtain ⟨hx, hx', hy, hy'⟩ := inF_bd hF
      have C3 := Lib.hid (fun W => specOnE P D X Y W h5 h9 (by omega) hd' hx hx' hy hy')
      have hF' := Lib.hid hF
      clear hF
      unfold pv at *
      go_enter Try.func51, Try.ntmps51
      go_wp2_with fail
      refine (C1.out _).mono ?_
      rintro e w1 ⟨rfl, b1⟩
      rw [hC'.out]
      obtain ⟨k0, k1⟩ := box_a b1
      obtain ⟨c0, c1⟩ := row2 k0
      obtain ⟨c2, c3⟩ := row2 k1
      go_wp2_with fail
      refine (C2.out _).mono ?_
      rintro e w2 ⟨rfl, b2⟩
      rw [hF'.out]
      obtain ⟨e0, e1⟩ := row2 (bx k0 b2)
      obtain ⟨e2, e3⟩ := row2 (bx k1 b2)
      clear c0 c1 c2 c3
      go_wp2_with fail
      refine (C3.out _).mono ?_
      rintro e w3 ⟨rfl, b3⟩
      have G : Hid (okA P D X Y = onE P D X Y) := Lib.hid (by rw [E.out, hC'.out, hF'.out]; rfl)
      have B := then_ (n := 0) (then_ (n := 0) (then_ (n := 0) (al2 _ _ _) b1) b2) b3
      clear b1 b2 k0 k1 b3
      go_wp2
      go_ret
      exact ⟨by rw [G.out]; rfl, B⟩
end Go.Proofs.Ytapdecmaaciaaaa.Crv2
