/-
  The walk of the law on OfPairs: for every list of numbers both answer alike, the argument is left as it was, and the answer's memory is its own.
-/
import Derived.Test.YtgbdieghphbcfaaOfPairs
import Derived.Test.YtgbdieghphbcfaaMark
namespace Go.Proofs.Ytgbdieghphbcfaa.LawOfPairs
open Go.ChangeShapes Go.WideShapes Go.ChangeAt Go.RowKit
open Go.Proofs.Ytgbdieghphbcfaa.Mem Go.Proofs.Ytgbdieghphbcfaa.Ints Go.Proofs.Ytgbdieghphbcfaa.Mark Go.Proofs.Ytgbdieghphbcfaa.OfPairs
set_option linter.unusedVariables false

set_option maxHeartbeats 2000000 in
theorem walk (A : Option Addr) (n c : Nat) (zs : List Int) (hn : n ≤ maxLen) (w : World) (hx : Rd w w.heap.size 1 A n (ints zs)) :
    Calls Try.prog 8 #[.slice A n c] w fun e w' => e = .returned (.bool true) ∧ Below w.heap.size w w' := by
  by_cases hbig : 1048576 < n
  · clear hx
    unfold maxLen at hn
    go_enter Try.func8, Try.ntmps8
    go_wp2
    go_ret
    exact ⟨rfl, Below.refl _ _⟩
  have hn' : n ≤ 1048576 := by omega
  have hrl := resO_len zs
  have hrm : (resO zs).length ≤ maxLen := by unfold maxLen; omega
  have hrn : (resO zs).length ≤ 1048576 := by omega
  have T := Lib.hid (fun W (h : Below w.heap.size w W) => toIntS A n c zs W hn' ((hx.below h (Nat.le_refl _)).mono h.size))
  have S := Lib.hid (fun g B W (hB : B ≤ W.heap.size) (h : Rd W B 1 (some ⟨g, 0, none⟩) n (ints zs)) => specOf (some ⟨g, 0, none⟩) n n zs B W hn' hB h)
  have I := Lib.hid (fun g B W (hB : B ≤ W.heap.size) (h : Rd W B 1 (some ⟨g, 0, none⟩) n (ints zs)) => implOfPairs (some ⟨g, 0, none⟩) n n zs B W hn' hB h)
  have QR := Lib.hid (fun (A D : Option Addr) (c d : Nat) B B' W (h : Rd W B 1 A (resO zs).length (ints (resO zs))) (h' : Rd W B' 1 D (resO zs).length (ints (resO zs))) => eqIntS A D _ _ c d (resO zs) (resO zs) B B' W hrn hrm h h')
  have QX := Lib.hid (fun (g g' : Nat) B B' W (h : Rd W B 1 (some ⟨g, 0, none⟩) n (ints zs)) (h' : Rd W B' 1 (some ⟨g', 0, none⟩) n (ints zs)) => eqIntS (some ⟨g, 0, none⟩) (some ⟨g', 0, none⟩) n n n n zs zs B B' W hn' hn h h')
  have M := Lib.hid (fun (A : Option Addr) (c base : Nat) W (hB : base ≤ W.heap.size) (h : W.ownsRow base 3 1 (.slice A (resO zs).length c) (resO zs).length (ints (resO zs))) => markOwn A (resO zs).length c (resO zs) 1 base W (by omega) hrn hB h)
  have MX := Lib.hid (fun (g base : Nat) W (h : W.ownsRow base 3 1 (.slice (some ⟨g, 0, none⟩) n n) n (ints zs)) => markIntS g n n zs 1 base W (by omega) hn' h)
  have H := Lib.hid (fun (A : Option Addr) (c B : Nat) W (h : Rd W B 1 A (resO zs).length (ints (marks 1 (resO zs).length))) => heldIntS A (resO zs).length c 1 B W (by omega) hrn h)
  simp only [decide_true] at QR QX
  generalize resO zs = rs at *
  generalize okO zs = ok at *
  clear hx
  go_enter Try.func8, Try.ntmps8
  go_wp2_with fail
  refine (T.out w (Below.refl _ _)).mono ?_
  rintro e w1 ⟨rfl, o1, b1⟩
  have s1 := b1.size
  go_wp2_with fail
  refine (S.out _ _ w1 (Nat.le_refl _) (Rd.own o1)).mono ?_
  rintro e w2 ⟨v0, rfl, o2, b2⟩
  obtain ⟨A0, c0, rfl⟩ := own_shape o2
  have s2 := b2.size
  have B2 := b1.trans (b2.mono s1)
  clear o1 b1 b2
  go_wp2_with fail
  refine (T.out w2 B2).mono ?_
  rintro e w3 ⟨rfl, o3, b3⟩
  have s3 := b3.size
  have B3 := B2.trans (b3.mono (by omega))
  have l3 := own_lt o3
  have R0 := (Rd.own o2).below b3 (Nat.le_refl _)
  clear o2 b3 B2
  go_wp2_with fail
  refine (I.out _ _ w3 (Nat.le_refl _) (Rd.own o3)).mono ?_
  rintro e w4 ⟨vg, rfl, o4, b4⟩
  obtain ⟨Ag, cg, rfl⟩ := own_shape o4
  have s4 := b4.size
  have B4 := B3.trans (b4.mono (by omega))
  have R0 := R0.below b4 (by omega)
  have o3 := own_below o3 b4 (Nat.le_refl _)
  clear b4 B3
  have HO3 := Lib.hid o3
  have HO4 := Lib.hid o4
  have HR0 := Lib.hid R0
  clear o3 o4 R0
  cases ok
  all_goals
    go_wp2_with fail
    refine (QR.out Ag A0 cg c0 _ _ w4 (Rd.own HO4.out) HR0.out).mono ?_
    rintro e w' ⟨rfl, q, rfl⟩
    have B5 := below_drewN B4 q
    have HO3 := Lib.hid (own_below HO3.out (below_drewN (Below.refl _ w4) q) (Nat.le_refl _))
    have HO4 := Lib.hid (own_below HO4.out (below_drewN (Below.refl _ w4) q) (Nat.le_refl _))
    have HR0 := Lib.hid (HR0.out.below (below_drewN (Below.refl w4.heap.size w4) q) (by omega))
    have s5 : w4.heap.size ≤ (w4.drewN q).heap.size := Nat.le_refl _
    generalize w4.drewN q = w5 at *
    go_wp2_with fail
    refine (T.out w5 B5).mono ?_
    rintro e w6 ⟨rfl, o6, b6⟩
    have s6 := b6.size
    have B6 := B5.trans (b6.mono (by omega))
    have HO3 := Lib.hid (own_below HO3.out b6 (Nat.le_refl _))
    have HO4 := Lib.hid (own_below HO4.out b6 (Nat.le_refl _))
    have HR0 := Lib.hid (HR0.out.below b6 (by omega))
    have HO6 := Lib.hid o6
    clear o6 b6
    go_wp2_with fail
    with_reducible refine (QX.out w2.heap.size w5.heap.size w6.heap.size w6.heap.size w6 (Rd.own HO3.out) (Rd.own HO6.out)).mono ?_
    rintro e w' ⟨rfl, q', rfl⟩
    have B7 := below_drewN B6 q'
    have HO3 := Lib.hid (own_below HO3.out (below_drewN (Below.refl _ w6) q') (Nat.le_refl _))
    have HO4 := Lib.hid (own_below HO4.out (below_drewN (Below.refl _ w6) q') (Nat.le_refl _))
    have HR0 := Lib.hid (HR0.out.below (below_drewN (Below.refl w6.heap.size w6) q') (by omega))
    have s7 : w6.heap.size ≤ (w6.drewN q').heap.size := Nat.le_refl _
    generalize w6.drewN q' = w7 at *
    clear HO6
    go_wp2_with fail
    refine (MX.out _ _ w7 HO3.out).mono ?_
    rintro e w8 ⟨rfl, o8, ot8, b8⟩
    have s8 := b8.size
    have B8 := B7.trans (b8.mono (by omega))
    have HO4 := Lib.hid (own_keep (w' := w8) HO4.out (fun b hlt hge => ot8 b (by omega)))
    have HR0 := Lib.hid (HR0.out.below b8 (by omega))
    clear o8 ot8 b8 HO3
    go_wp2_with fail
    refine (QR.out Ag A0 cg c0 _ _ w8 (Rd.own HO4.out) HR0.out).mono ?_
    rintro e w' ⟨rfl, q2, rfl⟩
    have B9 := below_drewN B8 q2
    have HO4 := Lib.hid (own_below HO4.out (below_drewN (Below.refl _ w8) q2) (Nat.le_refl _))
    have HR0 := Lib.hid (HR0.out.below (below_drewN (Below.refl w8.heap.size w8) q2) (by omega))
    have s9 : w8.heap.size ≤ (w8.drewN q2).heap.size := Nat.le_refl _
    generalize w8.drewN q2 = w9 at *
    go_wp2_with fail
    refine (M.out Ag cg w3.heap.size w9 (by omega) HO4.out).mono ?_
    rintro e w10 ⟨rfl, o10, b10⟩
    have s10 := b10.size
    have B10 := B9.trans (b10.mono (by omega))
    have HR0 := Lib.hid (HR0.out.below b10 (by omega))
    have HO4 := Lib.hid o10
    clear o10 b10
    go_wp2_with fail
    refine (H.out Ag cg _ w10 (Rd.own HO4.out)).mono ?_
    rintro e w' ⟨rfl, q3, rfl⟩
    have B11 := below_drewN B10 q3
    have HO4 := Lib.hid (own_below HO4.out (below_drewN (Below.refl _ w10) q3) (Nat.le_refl _))
    have HR0 := Lib.hid (HR0.out.below (below_drewN (Below.refl w10.heap.size w10) q3) (by omega))
    have s11 : w10.heap.size ≤ (w10.drewN q3).heap.size := Nat.le_refl _
    generalize w10.drewN q3 = w11 at *
    go_wp2_with fail
    refine (T.out w11 B11).mono ?_
    rintro e w12 ⟨rfl, o12, b12⟩
    have s12 := b12.size
    have B12 := B11.trans (b12.mono (by omega))
    have HO4 := Lib.hid (own_below HO4.out b12 (Nat.le_refl _))
    have HR0 := Lib.hid (HR0.out.below b12 (by omega))
    have HO12 := Lib.hid o12
    clear o12 b12
    go_wp2_with fail
    refine (I.out _ _ w12 (Nat.le_refl _) (Rd.own HO12.out)).mono ?_
    rintro e w13 ⟨vh, rfl, o13, b13⟩
    obtain ⟨Ah, ch, rfl⟩ := own_shape o13
    have s13 := b13.size
    have B13 := B12.trans (b13.mono (by omega))
    have HO4 := Lib.hid (own_below HO4.out b13 (Nat.le_refl _))
    have HR0 := Lib.hid (HR0.out.below b13 (by omega))
    have HO13 := Lib.hid o13
    clear o13 b13 HO12
    go_wp2_with fail
    refine (QR.out Ah A0 ch c0 _ _ w13 (Rd.own HO13.out) HR0.out).mono ?_
    rintro e w' ⟨rfl, q4, rfl⟩
    have B14 := below_drewN B13 q4
    have HO4 := Lib.hid (own_below HO4.out (below_drewN (Below.refl _ w13) q4) (Nat.le_refl _))
    generalize w13.drewN q4 = w14 at *
    clear HO13 HR0
    go_wp2_with fail
    refine (H.out Ag cg _ w14 (Rd.own HO4.out)).mono ?_
    rintro e w' ⟨rfl, q5, rfl⟩
    have B15 := below_drewN B14 q5
    generalize w14.drewN q5 = w15 at *
    clear HO4
    go_wp2
    go_ret
    exact ⟨rfl, B15⟩
end Go.Proofs.Ytgbdieghphbcfaa.LawOfPairs
