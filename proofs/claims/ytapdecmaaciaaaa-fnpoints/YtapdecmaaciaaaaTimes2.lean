/-
  Multiples of points by the program, and orders of points: contracts.
-/
import Derived.Test.YtapdecmaaciaaaaTimes
import Derived.Deep.RegionHeld3
namespace Go.Proofs.Ytapdecmaaciaaaa.Times2
open Go.ChangeShapes Go.WideShapes Go.ChangeAt Go.RowKit
open Go.Proofs.Ytapdecmaaciaaaa.Mem Go.Proofs.Ytapdecmaaciaaaa.Num Go.Proofs.Ytapdecmaaciaaaa.Mod Go.Proofs.Ytapdecmaaciaaaa.Pow Go.Proofs.Ytapdecmaaciaaaa.Kind Go.Proofs.Ytapdecmaaciaaaa.Ed Go.Proofs.Ytapdecmaaciaaaa.Grp Go.Proofs.Ytapdecmaaciaaaa.Crv Go.Proofs.Ytapdecmaaciaaaa.Crv2 Go.Proofs.Ytapdecmaaciaaaa.Crv3 Go.Proofs.Ytapdecmaaciaaaa.Add Go.Proofs.Ytapdecmaaciaaaa.Add2 Go.Proofs.Ytapdecmaaciaaaa.Add3 Go.Proofs.Ytapdecmaaciaaaa.Times
set_option linter.unusedVariables false
set_option maxRecDepth 100000
set_option linter.unusedSectionVars false
section
variable {p : Nat} [NeZero p]
def LpI (w wr : World) (g : Nat) (t x : Fin p × Fin p) : Prop :=
  Bx wr w.heap.size 32 (vl x.1) (vl x.2) ∧ Bx wr (w.heap.size + 1) 32 0 0 ∧ Bx wr g 32 (vl t.1) (vl t.2) ∧ Below w.heap.size w wr
theorem LpI.below {w wr w1 : World} {g : Nat} {t x : Fin p × Fin p} (h : LpI w wr g t x) (hb : Below wr.heap.size wr w1) : LpI w w1 g t x :=
  ⟨h.1.below hb, h.2.1.below hb, h.2.2.1.below hb, then_ (n := 0) h.2.2.2 hb⟩
theorem LpI.setT {w wr : World} {g : Nat} {t x : Fin p × Fin p} (h : LpI w wr g t x) (hg : w.heap.size + 1 < g) (t' : Fin p × Fin p) : LpI w ((wr.setCell ⟨g, 0, none⟩ (.int .i64 (vl t'.1))).setCell ⟨g, 1, none⟩ (.int .i64 (vl t'.2))) g t' x :=
  ⟨h.1.other (by omega), h.2.1.other (by omega), h.2.2.1.set, below_set2 h.2.2.2 (by omega)⟩
theorem LpI.setX {w wr : World} {g : Nat} {t x : Fin p × Fin p} (h : LpI w wr g t x) (hg : w.heap.size + 1 < g) (x' : Fin p × Fin p) : LpI w ((wr.setCell ⟨w.heap.size, 0, none⟩ (.int .i64 (vl x'.1))).setCell ⟨w.heap.size, 1, none⟩ (.int .i64 (vl x'.2))) g t x' :=
  ⟨h.1.set, h.2.1.other (by omega), h.2.2.1.other (by omega), below_set2 h.2.2.2 (by omega)⟩
set_option maxHeartbeats 2000000 in
theorem copies {d : Fin p} (hc : Cv p d) (h5 : 5 ≤ p) (h9 : p ≤ 199) {a : Fin p × Fin p} (ha : onP d a) (k : Nat) (hk : k ≤ 100000) (w : World) :
    Calls Try.prog 60 #[.func (Fn.func 58) #[pv p (vl d)] #[], .int .i64 k, pv (vl a.1) (vl a.2)] w fun e w' => e = .returned (pv (vl (mu d a k).1) (vl (mu d a k).2)) ∧ Below w.heap.size w w' := by
  have C := Lib.hid (fun x y W => implSum hc.pr h5 h9 d x y W)
  have CN := Lib.hid (fun W => neutral W)
  unfold pv at *
  go_enter Try.func60, Try.ntmps60
  go_wp2_with fail
  refine (CN.out _).mono ?_
  rintro e w1 ⟨rfl, b1⟩
  obtain ⟨k0, k1⟩ := box_a b1
  have B1 := then_ (n := 0) (al2 _ _ _) b1
  have hz := bx_lt k1
  clear b1 CN
  go_wp2_with fail
  have kA := al1 w1 (.cells #[.int .i64 0, .int .i64 1] 32)
  have kN := nw1 w1 (.cells #[.int .i64 0, .int .i64 1] 32)
  have Z : Hid (LpI w (w1.alloc (.cells #[.int .i64 0, .int .i64 1] 32)) w1.heap.size ze a) := Lib.hid ⟨bx k0 kA, bx k1 kA, by rw [show vl (ze : Fin p × Fin p).1 = 0 from vl_zero, show vl (ze : Fin p × Fin p).2 = 1 from vl_one (by omega)]; exact kN, then_ (n := 0) B1 kA⟩
  clear k0 k1 kA kN B1
  generalize World.alloc w1 _ = W0 at *
  generalize w1.heap.size = g at *
  have n0 : ¬ g = w.heap.size := by omega
  have n1 : ¬ g = w.heap.size + 1 := by omega
  have n2 : ¬ w.heap.size = g := by omega
  have n3 : ¬ w.heap.size + 1 = g := by omega
  go_loopw [1] (fun i wr => ∃ (n : Nat) (t x : Fin p × Fin p), i = .int .i64 n ∧ n ≤ k ∧ onP d t ∧ onP d x ∧ Hid (ad d t (mu d x n) = mu d a k) ∧ Hid (LpI w wr g t x)) (fun i _ => (intOf i).toNat)
  case atStart => exact ⟨k, ze, a, rfl, Nat.le_refl _, ze_on d, ha, Lib.hid (ze_ad hc.pr _), Z⟩
  case round =>
    obtain ⟨n, t, x, rfl, hn, ht, hx, HE, HL⟩ := hrel
    obtain ⟨l1, l2, l3, lB⟩ := HL.out
    obtain ⟨c2, c3⟩ := l1.cells
    obtain ⟨c4, c5⟩ := l2.cells
    obtain ⟨c6, c7⟩ := l3.cells
    by_cases h0 : n = 0
    · have E : Hid (t = mu d a k) := Lib.hid (by have := HE.out; rw [h0] at this; exact (ad_ze hc.pr t).symm.trans this)
      have h0' : ¬ (0 : Int) < n := by omega
      obtain ⟨f4, f5⟩ := l2.frz
      have hz2 := l2.lt
      clear l1 l2 l3 HE h0
      go_wp2
      refine bodyPost_ret (v := .agg #[.int .i64 (vl t.1), .int .i64 (vl t.2)]) (by simp [results, Try.results60, go_sem, c4, c5]) rfl ⟨by rw [E.out], ?_⟩
      repeat (first | exact lB | refine Below.setCell ?_ (by simp; done) _)
    · clear l1 l2 l3 lB
      have h0' : (0 : Int) < n := by omega
      by_cases h1 : n % 2 = 1
      · have t1 : (n : Int) % 2 = 1 := by omega
        have NE : Hid (ad d (ad d t x) (mu d (ad d x x) (n / 2)) = mu d a k) := Lib.hid ((half_odd hc ht hx n h1).trans HE.out)
        have ht' := ad_on hc ht hx
        have hx' := ad_on hc hx hx
        clear HE
        go_wp2_with fail
        refine (C.out t x _).mono ?_
        rintro e w1 ⟨rfl, b1⟩
        have L1 := Lib.hid (HL.out.below b1)
        obtain ⟨l1, l2, l3, lB⟩ := L1.out
        obtain ⟨f6, f7⟩ := l3.frz
        clear c2 c3 c4 c5 c6 c7 b1
        obtain ⟨c2, c3⟩ := l1.cells
        obtain ⟨c4, c5⟩ := l2.cells
        obtain ⟨c6, c7⟩ := l3.cells
        clear l1 l2 l3 lB
        have L2 := Lib.hid (L1.out.setT hz (ad d t x))
        go_wp2_with fail
        generalize World.setCell (World.setCell w1 _ _) _ _ = W2 at *
        refine (C.out x x _).mono ?_
        rintro e w3 ⟨rfl, b3⟩
        have L3 := Lib.hid (L2.out.below b3)
        obtain ⟨l1, l2, l3, lB⟩ := L3.out
        obtain ⟨g2, g3⟩ := l1.frz
        clear c2 c3 c4 c5 c6 c7 b3
        obtain ⟨c2, c3⟩ := l1.cells
        clear l1 l2 l3 lB
        have L4 := Lib.hid (L3.out.setX hz (ad d x x))
        go_wp2
        go_roundw
        case rel => exact ⟨n / 2, ad d t x, ad d x x, by go_num, by omega, ht', hx', NE, L4⟩
        case measure => simp [intOf]; omega
      · have t1 : ¬ (n : Int) % 2 = 1 := by omega
        have NE : Hid (ad d t (mu d (ad d x x) (n / 2)) = mu d a k) := Lib.hid ((half_even hc hx n (by omega)).trans HE.out)
        have hx' := ad_on hc hx hx
        clear HE
        go_wp2_with fail
        refine (C.out x x _).mono ?_
        rintro e w3 ⟨rfl, b3⟩
        have L3 := Lib.hid (HL.out.below b3)
        obtain ⟨l1, l2, l3, lB⟩ := L3.out
        obtain ⟨g2, g3⟩ := l1.frz
        clear c2 c3 c4 c5 c6 c7 b3
        obtain ⟨c2, c3⟩ := l1.cells
        clear l1 l2 l3 lB
        have L4 := Lib.hid (L3.out.setX hz (ad d x x))
        go_wp2
        go_roundw
        case rel => exact ⟨n / 2, t, ad d x x, by go_num, by omega, ht, hx', NE, L4⟩
        case measure => simp [intOf]; omega
end
end Go.Proofs.Ytapdecmaaciaaaa.Times2
