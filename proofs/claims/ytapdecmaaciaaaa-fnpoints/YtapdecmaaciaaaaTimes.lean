/-
  Multiples of points: contracts of both sides.
-/
import Derived.Test.YtapdecmaaciaaaaAdd3
import Derived.WalkMore
namespace Go.Proofs.Ytapdecmaaciaaaa.Times
open Go.ChangeShapes Go.WideShapes Go.ChangeAt Go.RowKit
open Go.Proofs.Ytapdecmaaciaaaa.Mem Go.Proofs.Ytapdecmaaciaaaa.Num Go.Proofs.Ytapdecmaaciaaaa.Mod Go.Proofs.Ytapdecmaaciaaaa.Pow Go.Proofs.Ytapdecmaaciaaaa.Kind Go.Proofs.Ytapdecmaaciaaaa.Ed Go.Proofs.Ytapdecmaaciaaaa.Grp Go.Proofs.Ytapdecmaaciaaaa.Crv Go.Proofs.Ytapdecmaaciaaaa.Crv2 Go.Proofs.Ytapdecmaaciaaaa.Crv3 Go.Proofs.Ytapdecmaaciaaaa.Add Go.Proofs.Ytapdecmaaciaaaa.Add2 Go.Proofs.Ytapdecmaaciaaaa.Add3
set_option linter.unusedVariables false
set_option maxRecDepth 100000
set_option linter.unusedSectionVars false
theorem set2_same {v : World} {a t : Nat} {x y x' y' : Value} (h : v.heap[a]? = some (.cells #[x', y'] t)) : ((v.setCell ⟨a, 0, none⟩ x).setCell ⟨a, 1, none⟩ y).heap[a]? = some (.cells #[x, y] t) := by
  have h1 := heap_setCell_same v a 0 #[x', y'] t x h
  have h2 := heap_setCell_same (v.setCell ⟨a, 0, none⟩ x) a 1 _ t y h1
  simpa using h2
theorem set2_other {v : World} {a b : Nat} {x y : Value} (hne : b ≠ a) : ((v.setCell ⟨a, 0, none⟩ x).setCell ⟨a, 1, none⟩ y).heap[b]? = v.heap[b]? := by
  rw [heap_setCell_other _ _ _ _ hne, heap_setCell_other _ _ _ _ hne]
/-- Boxes of two numbers each: at a block, what it holds. -/
def Bx (wr : World) (b t : Nat) (x y : Int) : Prop := wr.heap[b]? = some (.cells #[.int .i64 x, .int .i64 y] t)
theorem Bx.below {wr w1 : World} {b t : Nat} {x y : Int} (h : Bx wr b t x y) (hb : Below wr.heap.size wr w1) : Bx w1 b t x y := bx h hb
theorem Bx.set {wr : World} {b t : Nat} {x y x' y' : Int} (h : Bx wr b t x y) : Bx ((wr.setCell ⟨b, 0, none⟩ (.int .i64 x')).setCell ⟨b, 1, none⟩ (.int .i64 y')) b t x' y' := set2_same h
theorem Bx.other {wr : World} {b t c : Nat} {x y : Int} {u v : Value} (h : Bx wr b t x y) (hne : b ≠ c) : Bx ((wr.setCell ⟨c, 0, none⟩ u).setCell ⟨c, 1, none⟩ v) b t x y := (set2_other hne).trans h
theorem Bx.cells {wr : World} {b t : Nat} {x y : Int} (h : Bx wr b t x y) : wr.cell? ⟨b, 0, none⟩ = some (.int .i64 x) ∧ wr.cell? ⟨b, 1, none⟩ = some (.int .i64 y) := row2 h
theorem Bx.frz {wr : World} {b t : Nat} {x y : Int} (h : Bx wr b t x y) : wr.frozen? ⟨b, 0, none⟩ = false ∧ wr.frozen? ⟨b, 1, none⟩ = false := frz2 h
theorem Bx.lt {wr : World} {b t : Nat} {x y : Int} (h : Bx wr b t x y) : b < wr.heap.size := bx_lt h
theorem below_set2 {w wr : World} {b : Nat} {x y : Value} (h : Below w.heap.size w wr) (hb : w.heap.size ≤ b) : Below w.heap.size w ((wr.setCell ⟨b, 0, none⟩ x).setCell ⟨b, 1, none⟩ y) := (h.setCell hb _).setCell hb _
section
variable {p : Nat} [NeZero p]
def LpS (d : Fin p) (w wr : World) (t x : Fin p × Fin p) : Prop :=
  Bx wr w.heap.size 25 p (vl d) ∧ Bx wr (w.heap.size + 1) 32 (vl x.1) (vl x.2) ∧ Bx wr (w.heap.size + 1 + 1) 32 0 0 ∧ Bx wr (w.heap.size + 1 + 1 + 1) 32 (vl t.1) (vl t.2) ∧ Below w.heap.size w wr
theorem LpS.below {d : Fin p} {w wr w1 : World} {t x : Fin p × Fin p} (h : LpS d w wr t x) (hb : Below wr.heap.size wr w1) : LpS d w w1 t x :=
  ⟨h.1.below hb, h.2.1.below hb, h.2.2.1.below hb, h.2.2.2.1.below hb, then_ (n := 0) h.2.2.2.2 hb⟩
theorem LpS.setT {d : Fin p} {w wr : World} {t x : Fin p × Fin p} (h : LpS d w wr t x) (t' : Fin p × Fin p) : LpS d w ((wr.setCell ⟨w.heap.size + 1 + 1 + 1, 0, none⟩ (.int .i64 (vl t'.1))).setCell ⟨w.heap.size + 1 + 1 + 1, 1, none⟩ (.int .i64 (vl t'.2))) t' x :=
  ⟨h.1.other (by omega), h.2.1.other (by omega), h.2.2.1.other (by omega), h.2.2.2.1.set, below_set2 h.2.2.2.2 (by omega)⟩
theorem LpS.setX {d : Fin p} {w wr : World} {t x : Fin p × Fin p} (h : LpS d w wr t x) (x' : Fin p × Fin p) : LpS d w ((wr.setCell ⟨w.heap.size + 1, 0, none⟩ (.int .i64 (vl x'.1))).setCell ⟨w.heap.size + 1, 1, none⟩ (.int .i64 (vl x'.2))) t x' :=
  ⟨h.1.other (by omega), h.2.1.set, h.2.2.1.other (by omega), h.2.2.2.1.other (by omega), below_set2 h.2.2.2.2 (by omega)⟩
set_option maxHeartbeats 2000000 in
theorem specTimes {d : Fin p} (hc : Cv p d) (h5 : 5 ≤ p) (h9 : p ≤ 199) {a : Fin p × Fin p} (ha : onP d a) (k : Nat) (hk : k ≤ 100000) (w : World) :
    Calls Try.prog 59 #[pv p (vl d), .int .i64 k, pv (vl a.1) (vl a.2)] w fun e w' => e = .returned (pv (vl (mu d a k).1) (vl (mu d a k).2)) ∧ Below w.heap.size w w' := by
  have C := Lib.hid (fun x y W => specAdd hc.pr h5 h9 d x y W)
  unfold pv at *
  go_enter Try.func59, Try.ntmps59
  go_wp2_with fail
  obtain ⟨k0, k1, k2, k3⟩ := nw4 w (.cells #[.int .i64 (p : Int), .int .i64 (vl d)] 25) (.cells #[.int .i64 (vl a.1), .int .i64 (vl a.2)] 32) (.cells #[.int .i64 0, .int .i64 0] 32) (.cells #[.int .i64 0, .int .i64 1] 32)
  have B0 := al4 w (.cells #[.int .i64 (p : Int), .int .i64 (vl d)] 25) (.cells #[.int .i64 (vl a.1), .int .i64 (vl a.2)] 32) (.cells #[.int .i64 0, .int .i64 0] 32) (.cells #[.int .i64 0, .int .i64 1] 32)
  generalize World.alloc (World.alloc (World.alloc (World.alloc w _) _) _) _ = W0 at *
  have Z : Hid (LpS d w W0 ze a) := Lib.hid ⟨k0, k1, k2, by rw [show vl (ze : Fin p × Fin p).1 = 0 from vl_zero, show vl (ze : Fin p × Fin p).2 = 1 from vl_one (by omega)]; exact k3, B0⟩
  clear k0 k1 k2 k3 B0
  go_loopw [1] (fun i wr => ∃ (n : Nat) (t x : Fin p × Fin p), i = .int .i64 n ∧ n ≤ k ∧ onP d t ∧ onP d x ∧ Hid (ad d t (mu d x n) = mu d a k) ∧ Hid (LpS d w wr t x)) (fun i _ => (intOf i).toNat)
  case atStart => exact ⟨k, ze, a, rfl, Nat.le_refl _, ze_on d, ha, Lib.hid (ze_ad hc.pr _), Z⟩
  case round =>
    obtain ⟨n, t, x, rfl, hn, ht, hx, HE, HL⟩ := hrel
    obtain ⟨l0, l1, l2, l3, lB⟩ := HL.out
    obtain ⟨c0, c1⟩ := l0.cells
    obtain ⟨c2, c3⟩ := l1.cells
    obtain ⟨c4, c5⟩ := l2.cells
    obtain ⟨c6, c7⟩ := l3.cells
    by_cases h0 : n = 0
    · have E : Hid (t = mu d a k) := Lib.hid (by have := HE.out; rw [h0] at this; exact (ad_ze hc.pr t).symm.trans this)
      have h0' : ¬ (0 : Int) < n := by omega
      obtain ⟨f4, f5⟩ := l2.frz
      have hz := l2.lt
      clear l0 l1 l2 l3 HE h0
      go_wp2
      refine bodyPost_ret (v := .agg #[.int .i64 (vl t.1), .int .i64 (vl t.2)]) (by simp [results, Try.results59, go_sem, c4, c5]) rfl ⟨by rw [E.out], ?_⟩
      repeat (first | exact lB | refine Below.setCell ?_ (by simp; omega) _)
    · clear l0 l1 l2 l3 lB
      have h0' : (0 : Int) < n := by omega
      by_cases h1 : n % 2 = 1
      · have t1 : (n : Int) % 2 = 1 := by omega
        have NE : Hid (ad d (ad d t x) (mu d (ad d x x) (n / 2)) = mu d a k) := Lib.hid ((half_odd hc ht hx n h1).trans HE.out)
        have ht' := ad_on hc ht hx
        have hx' := ad_on hc hx hx
        clear HE
        go_wp2_with fail
        refine (C.out t x _).mono ?_
        rintro e w1 ⟨rfl, b1⟩
        have L1 := Lib.hid (HL.out.below b1)
        obtain ⟨l0, l1, l2, l3, lB⟩ := L1.out
        obtain ⟨f6, f7⟩ := l3.frz
        clear c0 c1 c2 c3 c4 c5 c6 c7 b1
        obtain ⟨c0, c1⟩ := l0.cells
        obtain ⟨c2, c3⟩ := l1.cells
        obtain ⟨c4, c5⟩ := l2.cells
        obtain ⟨c6, c7⟩ := l3.cells
        clear l0 l1 l2 l3 lB
        have L2 := Lib.hid (L1.out.setT (ad d t x))
        go_wp2_with fail
        generalize World.setCell (World.setCell w1 _ _) _ _ = W2 at *
        refine (C.out x x _).mono ?_
        rintro e w3 ⟨rfl, b3⟩
        have L3 := Lib.hid (L2.out.below b3)
        obtain ⟨l0, l1, l2, l3, lB⟩ := L3.out
        obtain ⟨g2, g3⟩ := l1.frz
        clear c0 c1 c2 c3 c4 c5 c6 c7 b3
        obtain ⟨c2, c3⟩ := l1.cells
        clear l0 l1 l2 l3 lB
        have L4 := Lib.hid (L3.out.setX (ad d x x))
        go_wp2
        go_roundw
        case rel => exact ⟨n / 2, (ad d t x), ad d x x, by go_num, by omega, ht', hx', NE, L4⟩
        case measure => simp [intOf]; omega
      · have t1 : ¬ (n : Int) % 2 = 1 := by omega
        have NE : Hid (ad d t (mu d (ad d x x) (n / 2)) = mu d a k) := Lib.hid ((half_even hc hx n (by omega)).trans HE.out)
        have ht' := ht
        have hx' := ad_on hc hx hx
        clear HE
        have L2 := HL
        go_wp2_with fail
        refine (C.out x x _).mono ?_
        rintro e w3 ⟨rfl, b3⟩
        have L3 := Lib.hid (L2.out.below b3)
        obtain ⟨l0, l1, l2, l3, lB⟩ := L3.out
        obtain ⟨g2, g3⟩ := l1.frz
        clear c0 c1 c2 c3 c4 c5 c6 c7 b3
        obtain ⟨c2, c3⟩ := l1.cells
        clear l0 l1 l2 l3 lB
        have L4 := Lib.hid (L3.out.setX (ad d x x))
        go_wp2
        go_roundw
        case rel => exact ⟨n / 2, t, ad d x x, by go_num, by omega, ht', hx', NE, L4⟩
        case measure => simp [intOf]; omega
end
end Go.Proofs.Ytapdecmaaciaaaa.Times
