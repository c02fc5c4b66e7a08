/-
  The walk of the law on RunesOf: for every string both answer alike, and the answer's memory is its own.
-/
import Derived.Test.YtgbdieghphbcfabDoorRunes
import Derived.Test.YtgbdieghphbcfabDoorMark
namespace Go.Proofs.YtgbdieghphbcfabDoor.LawRunesOf
open Go.ChangeShapes Go.WideShapes Go.ChangeAt Go.RowKit
open Go.Proofs.YtgbdieghphbcfabDoor.Mem Go.Proofs.YtgbdieghphbcfabDoor.Ints Go.Proofs.YtgbdieghphbcfabDoor.Mark Go.Proofs.YtgbdieghphbcfabDoor.Runes
set_option linter.unusedVariables false

set_option maxHeartbeats 2000000 in
theorem walk (a0 : ByteArray) (w0 : a0.size ≤ maxLen) (w : World) (hT : Lib.Utf8Tabs 0 1 w) :
    Calls Tryd.prog 4 #[.string a0] w fun e w' => e = .returned (.bool true) ∧ Below w.heap.size w w' := by
  by_cases hbig : 1048576 < a0.size
  · clear hT
    unfold maxLen at w0
    go_enter Tryd.func4, Tryd.ntmps4
    go_wp2
    go_ret
    exact ⟨rfl, Below.refl _ _⟩
  have hrl := resR_len a0
  have hrm : (resR a0).length ≤ maxLen := by unfold maxLen; omega
  have hrn : (resR a0).length ≤ 1048576 := by omega
  have S := Lib.hid (specRunes a0 w w0)
  have I := Lib.hid (fun W (h : Below w.heap.size w W) => implRunes a0 W w0 (Utf8Tabs_below hT h))
  have QR := Lib.hid (fun (A D : Option Addr) (c d : Nat) B B' W (h : Rd W B 1 A (resR a0).length (ints (resR a0))) (h' : Rd W B' 1 D (resR a0).length (ints (resR a0))) => eqIntS A D _ _ c d (resR a0) (resR a0) B B' W hrn hrm h h')
  have M := Lib.hid (fun (A : Option Addr) (c base : Nat) W (hB : base ≤ W.heap.size) (h : W.ownsRow base 3 1 (.slice A (resR a0).length c) (resR a0).length (ints (resR a0))) => markOwn A (resR a0).length c (resR a0) 1 base W (by omega) hrn hB h)
  have H := Lib.hid (fun (A : Option Addr) (c B : Nat) W (h : Rd W B 1 A (resR a0).length (ints (marks 1 (resR a0).length))) => heldIntS A (resR a0).length c 1 B W (by omega) hrn h)
  simp only [decide_true] at QR
  generalize resR a0 = rs at *
  generalize okR a0 = ok at *
  clear hT
  unfold maxLen at w0
  go_enter Tryd.func4, Tryd.ntmps4
  go_wp2_with fail
  refine S.out.mono ?_
  rintro e w2 ⟨v0, rfl, o2, B2⟩
  obtain ⟨A0, c0, rfl⟩ := own_shape o2
  have s2 := B2.size
  go_wp2_with fail
  refine (I.out w2 B2).mono ?_
  rintro e w4 ⟨vg, rfl, o4, b4⟩
  obtain ⟨Ag, cg, rfl⟩ := own_shape o4
  have s4 := b4.size
  have B4 := B2.trans (b4.mono (by omega))
  have R0 := (Rd.own o2).below b4 (by omega)
  clear b4 B2 o2
  have HO4 := Lib.hid o4
  have HR0 := Lib.hid R0
  clear o4 R0
  cases ok
  all_goals
    go_wp2_with fail
    refine (QR.out Ag A0 cg c0 _ _ w4 (Rd.own HO4.out) HR0.out).mono ?_
    rintro e w' ⟨rfl, q, rfl⟩
    have B5 := below_drewN B4 q
    have HO4 := Lib.hid (own_below HO4.out (below_drewN (Below.refl _ w4) q) (Nat.le_refl _))
    have HR0 := Lib.hid (HR0.out.below (below_drewN (Below.refl w4.heap.size w4) q) (by omega))
    have s5 : w4.heap.size ≤ (w4.drewN q).heap.size := Nat.le_refl _
    generalize w4.drewN q = w9 at *
    go_wp2_with fail
    refine (M.out Ag cg w2.heap.size w9 (by omega) HO4.out).mono ?_
    rintro e w10 ⟨rfl, o10, b10⟩
    have s10 := b10.size
    have B10 := B5.trans (b10.mono (by omega))
    have HR0 := Lib.hid (HR0.out.below b10 (by omega))
    have HO4 := Lib.hid o10
    clear o10 b10
    go_wp2_with fail
    refine (H.out Ag cg _ w10 (Rd.own HO4.out)).mono ?_
    rintro e w' ⟨rfl, q3, rfl⟩
    have B11 := below_drewN B10 q3
    have HO4 := Lib.hid (own_below HO4.out (below_drewN (Below.refl _ w10) q3) (Nat.le_refl _))
    have HR0 := Lib.hid (HR0.out.below (below_drewN (Below.refl w10.heap.size w10) q3) (by omega))
    have s11 : w10.heap.size ≤ (w10.drewN q3).heap.size := Nat.le_refl _
    generalize w10.drewN q3 = w11 at *
    go_wp2_with fail
    refine (I.out w11 B11).mono ?_
    rintro e w13 ⟨vh, rfl, o13, b13⟩
    obtain ⟨Ah, ch, rfl⟩ := own_shape o13
    have s13 := b13.size
    have B13 := B11.trans (b13.mono (by omega))
    have HO4 := Lib.hid (own_below HO4.out b13 (Nat.le_refl _))
    have HR0 := Lib.hid (HR0.out.below b13 (by omega))
    have HO13 := Lib.hid o13
    clear o13 b13
    go_wp2_with fail
    refine (QR.out Ah A0 ch c0 _ _ w13 (Rd.own HO13.out) HR0.out).mono ?_
    rintro e w' ⟨rfl, q4, rfl⟩
    have B14 := below_drewN B13 q4
    have HO4 := Lib.hid (own_below HO4.out (below_drewN (Below.refl _ w13) q4) (Nat.le_refl _))
    generalize w13.drewN q4 = w14 at *
    clear HO13 HR0
    go_wp2_with fail
    refine (H.out Ag cg _ w14 (Rd.own HO4.out)).mono ?_
    rintro e w' ⟨rfl, q5, rfl⟩
    have B15 := below_drewN B14 q5
    generalize w14.drewN q5 = w15 at *
    clear HO4
    go_wp2
    go_ret
    exact ⟨rfl, B15⟩
end Go.Proofs.YtgbdieghphbcfabDoor.LawRunesOf
