/-
  The walk of the law on LinesOf: for every text and width both answer alike, and the answer's memory is its own.
-/
import Derived.Test.YtehmlkcnhccjmaaLines
namespace Go.Proofs.Ytehmlkcnhccjmaa.LawLines
open Go.ChangeShapes Go.WideShapes Go.ChangeAt Go.RowKit
open Go.Proofs.Ytehmlkcnhccjmaa.Mem Go.Proofs.Ytehmlkcnhccjmaa.Ints Go.Proofs.Ytehmlkcnhccjmaa.Strs Go.Proofs.Ytehmlkcnhccjmaa.Lines
set_option linter.unusedVariables false

theorem lns_len (t : ByteArray) (wd i : Nat) : (lns t wd i).length = i := by simp [lns]
theorem below_drewN {B : Nat} {a w : World} (h : Below B a w) (q : Nat) : Below B a (w.drewN q) := by
  induction q with
  | zero => exact h
  | succ q ih => exact ih.drew
/-- Both functions' answer, valid arguments or not. -/
theorem both (t : ByteArray) (wd : Int) (hm : t.size ≤ maxLen) : ∃ (l : List ByteArray) (ok : Bool), l.length ≤ 100000 ∧
    (∀ w, Calls Try.prog 17 #[.string t, .int .i64 wd] w fun e w' => ∃ v, e = .returned (.tuple #[v, .bool ok]) ∧ w'.ownsRow w.heap.size 9 1 v l.length (svs l) ∧ Below w.heap.size w w') ∧
    (∀ w, Calls Try.prog 18 #[.string t, .int .i64 wd] w fun e w' => ∃ v, e = .returned (.tuple #[v, .bool ok]) ∧ w'.ownsRow w.heap.size 9 1 v l.length (svs l) ∧ Below w.heap.size w w') := by
  by_cases h : 800 < t.size ∨ wd < 1 ∨ 100 < wd
  · refine ⟨[], false, by simp, fun w => (specNo t wd w hm h).mono ?_, fun w => (implNo t wd w hm h).mono ?_⟩
    · rintro e w' ⟨rfl, rfl⟩
      exact ⟨_, rfl, World.ownsRow_nil _ _ _ _, Below.refl _ _⟩
    · rintro e w' ⟨rfl, rfl⟩
      exact ⟨_, rfl, World.ownsRow_nil _ _ _ _, Below.refl _ _⟩
  · obtain ⟨n, rfl⟩ : ∃ n : Nat, wd = n := ⟨wd.toNat, by omega⟩
    have hc := cnt_le t n (by omega)
    refine ⟨lns t n (cnt t n), true, by rw [lns_len]; omega, fun w => (specLines t n w (by omega) (by omega) (by omega)).mono ?_, fun w => (implLines t n w (by omega) (by omega) (by omega)).mono ?_⟩
    · rintro e w' ⟨v, rfl, ho, hb⟩
      exact ⟨v, rfl, by rw [lns_len]; exact ho, hb⟩
    · rintro e w' ⟨v, rfl, ho, hb⟩
      exact ⟨v, rfl, by rw [lns_len]; exact ho, hb⟩

set_option maxHeartbeats 2000000 in
theorem walk (a0 : ByteArray) (a1 : Int) (w0 : a0.size ≤ maxLen) (w1 : (Lit.int .i64 a1).wf = true) (w : World) :
    Calls Try.prog 6 #[.string a0, .int .i64 a1] w fun e w' => e = .returned (.bool true) ∧ Below w.heap.size w w' := by
  by_cases hbig : 1048576 < a0.size
  · unfold maxLen at w0
    clear w1
    go_enter Try.func6, Try.ntmps6
    go_wp2
    go_ret
    exact ⟨rfl, Below.refl _ _⟩
  obtain ⟨l, ok, hl, S0, I0⟩ := both a0 a1 w0
  have S := Lib.hid S0
  have I := Lib.hid I0
  have hl2 : l.length ≤ 1048576 := by omega
  have QR := Lib.hid (fun (A D : Option Addr) (c d : Nat) B B' W (h : Rd W B 1 A l.length (svs l)) (h' : Rd W B' 1 D l.length (svs l)) => eqSame A D l.length c d l B B' W hl2 h h')
  have M := Lib.hid (fun (A : Option Addr) (c base : Nat) W (hB : base ≤ W.heap.size) (h : W.ownsRow base 9 1 (.slice A l.length c) l.length (svs l)) => markS A l.length c l 1 base W (by omega) (by omega) hB h)
  have H := Lib.hid (fun (A : Option Addr) (c B : Nat) W (hB : B ≤ W.heap.size) (h : Rd W B 1 A l.length (svs (mts 1 l.length))) => heldS A l.length c 1 B W (by omega) (by omega) hB h)
  obtain ⟨k, hk⟩ : ∃ k, 1 + l.length = k := ⟨_, rfl⟩
  rw [hk] at M H
  have hk1 : 1 ≤ k := by omega
  have hk2 : k ≤ 200000 := by omega
  clear S0 I0 w1 hk hl2
  generalize hn : l.length = n at *
  clear hn
  unfold maxLen at w0
  go_enter Try.func6, Try.ntmps6
  go_wp2_with fail
  refine (S.out _).mono ?_
  rintro e w2 ⟨v0, rfl, o2, B2⟩
  obtain ⟨A0, c0, rfl⟩ := own_shapeS o2
  have s2 := B2.size
  go_wp2_with fail
  refine (I.out w2).mono ?_
  rintro e w4 ⟨vg, rfl, o4, b4⟩
  obtain ⟨Ag, cg, rfl⟩ := own_shapeS o4
  have s4 := b4.size
  have B4 := B2.trans (b4.mono (by omega))
  have R0 := (Rd.own o2).below b4 (by omega)
  clear b4 B2 o2
  have HO4 := Lib.hid o4
  have HR0 := Lib.hid R0
  clear o4 R0
  cases ok
  all_goals
    go_wp2_with fail
    refine (QR.out Ag A0 cg c0 _ _ w4 (Rd.own HO4.out) HR0.out).mono ?_
    rintro e w' ⟨rfl, q, rfl⟩
    have B5 := below_drewN B4 q
    have HO4 := Lib.hid (own_belowS HO4.out (below_drewN (Below.refl _ w4) q) (Nat.le_refl _))
    have HR0 := Lib.hid (HR0.out.below (below_drewN (Below.refl w4.heap.size w4) q) (by omega))
    have s5 : w4.heap.size ≤ (w4.drewN q).heap.size := Nat.le_refl _
    generalize w4.drewN q = w9 at *
    go_wp2_with fail
    refine (M.out Ag cg w2.heap.size w9 (by omega) HO4.out).mono ?_
    rintro e w10 ⟨rfl, o10, b10⟩
    have s10 := b10.size
    have B10 := B5.trans (b10.mono (by omega))
    have HR0 := Lib.hid (HR0.out.below b10 (by omega))
    have HO4 := Lib.hid o10
    clear o10 b10
    go_wp2_with fail
    refine (H.out Ag cg _ w10 (Nat.le_refl _) (Rd.own HO4.out)).mono ?_
    rintro e w11 ⟨rfl, b11⟩
    have s11 := b11.size
    have B11 := B10.trans (b11.mono (by omega))
    have HO4 := Lib.hid (own_belowS HO4.out b11 (Nat.le_refl _))
    have HR0 := Lib.hid (HR0.out.below b11 (by omega))
    clear b11
    go_wp2_with fail
    refine (I.out w11).mono ?_
    rintro e w13 ⟨vh, rfl, o13, b13⟩
    obtain ⟨Ah, ch, rfl⟩ := own_shapeS o13
    have s13 := b13.size
    have B13 := B11.trans (b13.mono (by omega))
    have HO4 := Lib.hid (own_belowS HO4.out b13 (Nat.le_refl _))
    have HR0 := Lib.hid (HR0.out.below b13 (by omega))
    have HO13 := Lib.hid o13
    clear o13 b13
    go_wp2_with fail
    refine (QR.out Ah A0 ch c0 _ _ w13 (Rd.own HO13.out) HR0.out).mono ?_
    rintro e w' ⟨rfl, q4, rfl⟩
    have B14 := below_drewN B13 q4
    have HO4 := Lib.hid (own_belowS HO4.out (below_drewN (Below.refl _ w13) q4) (Nat.le_refl _))
    generalize w13.drewN q4 = w14 at *
    clear HO13 HR0
    go_wp2_with fail
    refine (H.out Ag cg _ w14 (Nat.le_refl _) (Rd.own HO4.out)).mono ?_
    rintro e w15 ⟨rfl, b15⟩
    have s14 := B14.size
    have B15 := B14.trans (b15.mono (by omega))
    clear HO4 b15
    go_wp2
    go_ret
    exact ⟨rfl, B15⟩
end Go.Proofs.Ytehmlkcnhccjmaa.LawLines
