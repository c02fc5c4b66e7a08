/-
  Orders of points: contracts of both sides.
-/
import Derived.Test.YtapdecmaaciaaaaTimes2
import Derived.Deep.RegionHeld3
namespace Go.Proofs.Ytapdecmaaciaaaa.OrdP
open Go.ChangeShapes Go.WideShapes Go.ChangeAt Go.RowKit
open Go.Proofs.Ytapdecmaaciaaaa.Mem Go.Proofs.Ytapdecmaaciaaaa.Num Go.Proofs.Ytapdecmaaciaaaa.Mod Go.Proofs.Ytapdecmaaciaaaa.Pow Go.Proofs.Ytapdecmaaciaaaa.Kind Go.Proofs.Ytapdecmaaciaaaa.Ed Go.Proofs.Ytapdecmaaciaaaa.Grp Go.Proofs.Ytapdecmaaciaaaa.Crv Go.Proofs.Ytapdecmaaciaaaa.Crv2 Go.Proofs.Ytapdecmaaciaaaa.Crv3 Go.Proofs.Ytapdecmaaciaaaa.Add Go.Proofs.Ytapdecmaaciaaaa.Add2 Go.Proofs.Ytapdecmaaciaaaa.Add3 Go.Proofs.Ytapdecmaaciaaaa.Times Go.Proofs.Ytapdecmaaciaaaa.Times2
set_option linter.unusedVariables false
set_option maxRecDepth 100000
set_option linter.unusedSectionVars false
theorem neq_run (X Y : Int) (h : ¬ (X = 0 ∧ Y = 1)) (W : World) : (binOp .neq 32 (.agg #[.int .i64 X, .int .i64 Y]) (.agg #[.int .i64 0, .int .i64 1])).run Try.prog W = .ok (.bool true) W := by
  by_cases h1 : X = 0
  · have h2 : ¬ Y = 1 := fun e => h ⟨h1, e⟩
    subst h1
    simp [go_sem, h2]
  · simp [go_sem, h1]
section
variable {p : Nat} [NeZero p]
def LpO (d : Fin p) (a : Fin p × Fin p) (w wr : World) (g : Nat) (t : Fin p × Fin p) : Prop :=
  Bx wr w.heap.size 25 p (vl d) ∧ Bx wr (w.heap.size + 1) 32 (vl a.1) (vl a.2) ∧ Bx wr g 32 (vl t.1) (vl t.2) ∧ Below w.heap.size w wr
theorem LpO.below {d : Fin p} {a : Fin p × Fin p} {w wr w1 : World} {g : Nat} {t : Fin p × Fin p} (h : LpO d a w wr g t) (hb : Below wr.heap.size wr w1) : LpO d a w w1 g t :=
  ⟨h.1.below hb, h.2.1.below hb, h.2.2.1.below hb, then_ (n := 0) h.2.2.2 hb⟩
theorem LpO.new {d : Fin p} {a : Fin p × Fin p} {w wr : World} {g : Nat} {t : Fin p × Fin p} (h : LpO d a w wr g t) (t' : Fin p × Fin p) : LpO d a w (wr.alloc (.cells #[.int .i64 (vl t'.1), .int .i64 (vl t'.2)] 32)) wr.heap.size t' :=
  ⟨h.1.below (al1 _ _), h.2.1.below (al1 _ _), nw1 _ _, then_ (n := 0) h.2.2.2 (al1 _ _)⟩
theorem LpO.set {d : Fin p} {a : Fin p × Fin p} {w wr : World} {g : Nat} {t : Fin p × Fin p} (h : LpO d a w wr g t) (hg : w.heap.size + 1 < g) (t' : Fin p × Fin p) : LpO d a w ((wr.setCell ⟨g, 0, none⟩ (.int .i64 (vl t'.1))).setCell ⟨g, 1, none⟩ (.int .i64 (vl t'.2))) g t' :=
  ⟨h.1.other (by omega), h.2.1.other (by omega), h.2.2.1.set, below_set2 h.2.2.2 (by omega)⟩
set_option maxHeartbeats 2000000 in
theorem steps {d : Fin p} (hc : Cv p d) (h5 : 5 ≤ p) (h9 : p ≤ 199) {a : Fin p × Fin p} (ha : onP d a) (o : Nat) (ho : OrdP d a o) (hob : o ≤ 1000000) (w : World) :
    Calls Try.prog 61 #[.func (Fn.func 58) #[] #[], pv p (vl d), pv (vl a.1) (vl a.2)] w fun e w' => e = .returned (.int .i64 o) ∧ Below w.heap.size w w' := by
  have C := Lib.hid (fun x y W => implSum hc.pr h5 h9 d x y W)
  have CN := Lib.hid (fun W => neutral W)
  unfold pv at *
  go_enter Try.func61, Try.ntmps61
  go_wp2_with fail
  obtain ⟨k0, k1, k2⟩ := nw3 w (.cells #[.int .i64 (p : Int), .int .i64 (vl d)] 25) (.cells #[.int .i64 (vl a.1), .int .i64 (vl a.2)] 32) (.cells #[.int .i64 (vl a.1), .int .i64 (vl a.2)] 32)
  have B0 := al3 w (.cells #[.int .i64 (p : Int), .int .i64 (vl d)] 25) (.cells #[.int .i64 (vl a.1), .int .i64 (vl a.2)] 32) (.cells #[.int .i64 (vl a.1), .int .i64 (vl a.2)] 32)
  generalize World.alloc (World.alloc (World.alloc w _) _) _ = W0 at *
  have Z : Hid (LpO d a w W0 (w.heap.size + 1 + 1) a) := Lib.hid ⟨k0, k1, k2, B0⟩
  clear k0 k1 k2 B0
  go_loopw [7, 8] (fun i v wr => ∃ (n g : Nat), i = .int .i64 n ∧ v = .pointer (some ⟨g, 0, none⟩) ∧ 1 ≤ n ∧ n ≤ o ∧ w.heap.size + 1 < g ∧ Hid (LpO d a w wr g (mu d a n))) (fun i _ _ => o - (intOf i).toNat)
  case atStart => exact ⟨1, w.heap.size + 1 + 1, rfl, rfl, by omega, ho.pos, by omega, by rw [mu_one hc.pr]; exact Z⟩
  case round =>
    obtain ⟨n, g, rfl, rfl, hn1, hn, hg, HL⟩ := hrel
    have hon := mu_on hc ha n
    by_cases h0 : n = o
    · subst h0
      rw [ho.eq] at HL
      obtain ⟨l0, l1, l2, lB⟩ := HL.out
      obtain ⟨c4, c5⟩ := l2.cells
      rw [show vl (ze : Fin p × Fin p).1 = 0 from vl_zero] at c4
      rw [show vl (ze : Fin p × Fin p).2 = 1 from vl_one (by omega)] at c5
      have D1 : Below wr.heap.size wr wr.drew := (Below.refl _ wr).drew
      have R := Lib.hid (relA wr CN.out)
      have lB := Lib.hid lB
      have l2 := Lib.hid l2
      rw [show vl (ze : Fin p × Fin p).1 = 0 from vl_zero, show vl (ze : Fin p × Fin p).2 = 1 from vl_one (by omega)] at l2
      clear l0 l1
      go_wp2_with fail
      go_region_held3 (fun w' => w'.cell? ⟨g, 0, none⟩ = some (.int .i64 0) ∧ w'.cell? ⟨g, 1, none⟩ = some (.int .i64 1))
        (first | (refine ⟨?_, ?_⟩ <;> with_reducible assumption) | (go_keep; done) | (simp [*, go_sem]; done))
        (first
          | (go_at_call 54; (with_reducible refine (R.out _ ?hb).mono ?_); (case hb => with_reducible assumption); rintro e v1 ⟨rfl, b1⟩; obtain ⟨p0, p1⟩ := (l2.out.below b1).cells))
      all_goals
        have B := then_ (n := 0) lB.out b1
        clear b1
        go_wp2
        go_ret
        exact ⟨rfl, B⟩
    · have hlt : n < o := by omega
      have hne := ho.low n (by omega) hlt
      have hnr := Lib.hid (fun W => neq_run (vl (mu d a n).1) (vl (mu d a n).2) (fun ⟨e1, e2⟩ => hne (Prod.ext (vl_inj (e1.trans vl_zero.symm)) (vl_inj (e2.trans (vl_one (by omega)).symm)))) W)
      have N1 : Hid (mu d a (n + 1) = ad d (mu d a n) a) := Lib.hid rfl
      obtain ⟨l0, l1, l2, lB⟩ := HL.out
      obtain ⟨c4, c5⟩ := l2.cells
      have D1 : Below wr.heap.size wr wr.drew := (Below.refl _ wr).drew
      have R := Lib.hid (relA wr CN.out)
      have l2 := Lib.hid l2
      clear l0 l1 lB h0 hne ho
      have hnr := hnr.out
      go_wp2_with fail
      go_region_held3 (fun w' => w'.cell? ⟨g, 0, none⟩ = some (.int .i64 (vl (mu d a n).1)) ∧ w'.cell? ⟨g, 1, none⟩ = some (.int .i64 (vl (mu d a n).2)))
        (first | (refine ⟨?_, ?_⟩ <;> with_reducible assumption) | (go_keep; done) | (simp [*, go_sem]; done))
        (first
          | (go_at_call 54; (with_reducible refine (R.out _ ?hb).mono ?_); (case hb => with_reducible assumption); rintro e v1 ⟨rfl, b1⟩; obtain ⟨p0, p1⟩ := (l2.out.below b1).cells))
      all_goals
        rename_i hH
        have L1 := Lib.hid (HL.out.below b1)
        clear hH hnr b1 c4 c5 D1 R p0 p1
        obtain ⟨l0, l1, l2', lB⟩ := L1.out
        obtain ⟨c0, c1⟩ := l0.cells
        obtain ⟨c2, c3⟩ := l1.cells
        obtain ⟨c4, c5⟩ := l2'.cells
        have z1 := l1.lt
        have L2 := Lib.hid (L1.out.new (mu d a n))
        clear l0 l1 l2' lB
        have z0 : w.heap.size < v1.heap.size := by omega
        go_wp2_with fail
        generalize World.alloc v1 _ = W2 at *
        generalize v1.heap.size = g2 at *
        refine (C.out (mu d a n) a _).mono ?_
        rintro e w3 ⟨rfl, b3⟩
        have L3 := Lib.hid (L2.out.below b3)
        clear c0 c1 c2 c3 c4 c5 b3
        obtain ⟨l0, l1, l3, lB⟩ := L3.out
        obtain ⟨c6, c7⟩ := l3.cells
        obtain ⟨f6, f7⟩ := l3.frz
        have L4 := Lib.hid (L3.out.set z1 (ad d (mu d a n) a))
        clear l0 l1 l3 lB
        go_wp2
        go_roundw
        case rel => exact ⟨n + 1, g2, by go_num, rfl, by omega, by omega, z1, by rw [N1.out]; exact L4⟩
        case measure => simp [intOf]; omega
theorem okA_D {P D X Y : Int} (h : okA P D X Y = true) : ∃ (p : Nat) (i : NeZero p) (d : Fin p) (a : Fin p × Fin p), P = p ∧ D = vl d ∧ X = vl a.1 ∧ Y = vl a.2 ∧ Cv p d ∧ 5 ≤ p ∧ p ≤ 199 ∧ onP d a ∧ okC p (vl d) = true := by
  have hC := okA_C h
  obtain ⟨p, i, d, a, rfl, rfl, rfl, rfl, hc, h5, h9, ha⟩ := okA_yes h
  exact ⟨p, i, d, a, rfl, rfl, rfl, rfl, hc, h5, h9, ha, hC⟩
set_option maxHeartbeats 2000000 in
theorem implOrd {d : Fin p} (hc : Cv p d) (hC : okC p (vl d) = true) (h5 : 5 ≤ p) (h9 : p ≤ 199) {a : Fin p × Fin p} (ha : onP d a) (o : Nat) (ho : OrdP d a o) (hob : o ≤ 1000000) (w : World) :
    Calls Try.prog 33 #[pv p (vl d), pv (vl a.1) (vl a.2)] w fun e w' => e = .returned (.tuple #[.int .i64 o, .bool true]) ∧ Below w.heap.size w w' := by
  have C := Lib.hid (fun W => steps hc h5 h9 ha o ho hob W)
  have C1 := Lib.hid (fun W => implHas p (vl d) (vl a.1) (vl a.2) W)
  rw [okA_of hC (by omega) ha] at C1
  unfold pv at *
  go_enter Try.func33, Try.ntmps33
  go_wp2_with fail
  refine (C1.out _).mono ?_
  rintro e w1 ⟨rfl, b1⟩
  obtain ⟨k0, k1⟩ := box_a b1
  obtain ⟨c0, c1⟩ := row2 k0
  obtain ⟨c2, c3⟩ := row2 k1
  have B1 := then_ (n := 0) (al2 _ _ _) b1
  clear b1 k0 k1
  go_wp2_with fail
  refine (C.out _).mono ?_
  rintro e w2 ⟨rfl, b2⟩
  have B2 := then_ (n := 0) B1 b2
  clear b2 B1 c0 c1 c2 c3
  go_wp2
  go_ret2
  exact ⟨rfl, B2⟩
theorem implOrdNo (P D X Y : Int) (w : World) (h : okA P D X Y = false) :
    Calls Try.prog 33 #[pv P D, pv X Y] w fun e w' => e = .returned (.tuple #[.int .i64 0, .bool false]) ∧ Below w.heap.size w w' := by
  have C1 := Lib.hid (fun W => implHas P D X Y W)
  rw [h] at C1
  unfold pv at *
  go_enter Try.func33, Try.ntmps33
  go_wp2_with fail
  refine (C1.out _).mono ?_
  rintro e w1 ⟨rfl, b1⟩
  have B1 := then_ (n := 0) (al2 _ _ _) b1
  clear b1
  go_wp2
  go_ret2
  exact ⟨rfl, B1⟩
theorem specOrdNo (P D X Y : Int) (w : World) (h : okA P D X Y = false) :
    Calls Try.prog 32 #[pv P D, pv X Y] w fun e w' => e = .returned (.tuple #[.int .i64 0, .bool false]) ∧ Below w.heap.size w w' := by
  have C1 := Lib.hid (fun W => specGoodA P D X Y W)
  rw [h] at C1
  unfold pv at *
  go_enter Try.func32, Try.ntmps32
  go_wp2_with fail
  refine (C1.out _).mono ?_
  rintro e w1 ⟨rfl, b1⟩
  have B1 := then_ (n := 0) (al2 _ _ _) b1
  clear b1
  go_wp2
  go_ret2
  exact ⟨rfl, B1⟩
set_option maxHeartbeats 2000000 in
theorem specOrd {d : Fin p} (hc : Cv p d) (hC : okC p (vl d) = true) (h5 : 5 ≤ p) (h9 : p ≤ 199) {a : Fin p × Fin p} (ha : onP d a) (o : Nat) (ho : OrdP d a o) (hob : o ≤ 1000000) (w : World) :
    Calls Try.prog 32 #[pv p (vl d), pv (vl a.1) (vl a.2)] w fun e w' => e = .returned (.tuple #[.int .i64 o, .bool true]) ∧ Below w.heap.size w w' := by
  have C := Lib.hid (fun x y W => specAdd hc.pr h5 h9 d x y W)
  have C1 := Lib.hid (fun W => specGoodA p (vl d) (vl a.1) (vl a.2) W)
  rw [okA_of hC (by omega) ha] at C1
  unfold pv at *
  go_enter Try.func32, Try.ntmps32
  go_wp2_with fail
  refine (C1.out _).mono ?_
  rintro e w1 ⟨rfl, b1⟩
  obtain ⟨k0, k1⟩ := box_a b1
  obtain ⟨c0, c1⟩ := row2 k0
  obtain ⟨c2, c3⟩ := row2 k1
  have B1 := then_ (n := 0) (al2 _ _ _) b1
  have z1 := bx_lt k1
  clear b1
  go_wp2_with fail
  have kA := al1 w1 (.cells #[.int .i64 (vl a.1), .int .i64 (vl a.2)] 32)
  have Z : Hid (LpO d a w (w1.alloc (.cells #[.int .i64 (vl a.1), .int .i64 (vl a.2)] 32)) w1.heap.size a) := Lib.hid ⟨bx k0 kA, bx k1 kA, nw1 _ _, then_ (n := 0) B1 kA⟩
  clear k0 k1 kA B1 c0 c1 c2 c3
  generalize World.alloc w1 _ = W0 at *
  generalize w1.heap.size = g0 at *
  go_loopw [6, 7] (fun i v wr => ∃ (n g : Nat), i = .int .i64 n ∧ v = .pointer (some ⟨g, 0, none⟩) ∧ 1 ≤ n ∧ n ≤ o ∧ w.heap.size + 1 < g ∧ Hid (LpO d a w wr g (mu d a n))) (fun i _ _ => o - (intOf i).toNat)
  case atStart => exact ⟨1, g0, rfl, rfl, by omega, ho.pos, z1, by rw [mu_one hc.pr]; exact Z⟩
  case round =>
    obtain ⟨n, g, rfl, rfl, hn1, hn, hg, HL⟩ := hrel
    have hon := mu_on hc ha n
    by_cases h0 : n = o
    · subst h0
      rw [ho.eq] at HL
      obtain ⟨l0, l1, l2, lB⟩ := HL.out
      obtain ⟨c4, c5⟩ := l2.cells
      rw [show vl (ze : Fin p × Fin p).1 = 0 from vl_zero] at c4
      rw [show vl (ze : Fin p × Fin p).2 = 1 from vl_one (by omega)] at c5
      clear l0 l1 l2
      go_wp2
      go_ret2
      exact ⟨rfl, lB⟩
    · have hlt : n < o := by omega
      have hne := ho.low n (by omega) hlt
      have hnr := neq_run (vl (mu d a n).1) (vl (mu d a n).2) (fun ⟨e1, e2⟩ => hne (Prod.ext (vl_inj (e1.trans vl_zero.symm)) (vl_inj (e2.trans (vl_one (by omega)).symm))))
      have N1 : Hid (mu d a (n + 1) = ad d (mu d a n) a) := Lib.hid rfl
      obtain ⟨l0, l1, l2, lB⟩ := HL.out
      obtain ⟨c0, c1⟩ := l0.cells
      obtain ⟨c2, c3⟩ := l1.cells
      obtain ⟨c4, c5⟩ := l2.cells
      have z3 := l1.lt
      have z4 : w.heap.size < wr.heap.size := by omega
      have L2 := Lib.hid (HL.out.new (mu d a n))
      clear l0 l1 l2 lB h0 hne ho
      go_wp2_with fail
      clear hnr
      generalize World.alloc wr _ = W2 at *
      generalize wr.heap.size = g2 at *
      refine (C.out (mu d a n) a _).mono ?_
      rintro e w3 ⟨rfl, b3⟩
      have L3 := Lib.hid (L2.out.below b3)
      clear c0 c1 c2 c3 c4 c5 b3
      obtain ⟨l0, l1, l3, lB⟩ := L3.out
      obtain ⟨c6, c7⟩ := l3.cells
      obtain ⟨f6, f7⟩ := l3.frz
      have L4 := Lib.hid (L3.out.set z3 (ad d (mu d a n) a))
      clear l0 l1 l3 lB
      go_wp2
      go_roundw
      case rel => exact ⟨n + 1, g2, by go_num, rfl, by omega, by omega, z3, by rw [N1.out]; exact L4⟩
      case measure => simp [intOf]; omega
theorem ordBoth (P D X Y : Int) : ∃ (u : Int) (b : Bool), (∀ W, Calls Try.prog 32 #[pv P D, pv X Y] W fun e w' => e = .returned (.tuple #[.int .i64 u, .bool b]) ∧ Below W.heap.size W w') ∧
    (∀ W, Calls Try.prog 33 #[pv P D, pv X Y] W fun e w' => e = .returned (.tuple #[.int .i64 u, .bool b]) ∧ Below W.heap.size W w') := by
  cases h : okA P D X Y
  · exact ⟨0, false, fun W => specOrdNo P D X Y W h, fun W => implOrdNo P D X Y W h⟩
  · obtain ⟨p, i, d, a, rfl, rfl, rfl, rfl, hc, h5, h9, ha, hC⟩ := okA_D h
    obtain ⟨o, ho, hob⟩ := ordP_ex hc ha
    have : p * p ≤ 199 * 199 := Nat.mul_le_mul h9 h9
    exact ⟨o, true, fun W => specOrd hc hC h5 h9 ha o ho (by omega) W, fun W => implOrd hc hC h5 h9 ha o ho (by omega) W⟩
end
end Go.Proofs.Ytapdecmaaciaaaa.OrdP
