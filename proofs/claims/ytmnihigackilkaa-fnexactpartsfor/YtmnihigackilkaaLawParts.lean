/-
  The law on PartsFor: for every number both answer alike, and the answer's memory is its own.
-/
import Derived.Test.YtmnihigackilkaaPts
namespace Go.Proofs.Ytmnihigackilkaa.LawParts
open Go.ChangeShapes Go.WideShapes Go.ChangeAt Go.RowKit
open Go.Proofs.Ytmnihigackilkaa.Mem Go.Proofs.Ytmnihigackilkaa.Ints Go.Proofs.Ytmnihigackilkaa.Mark Go.Proofs.Ytmnihigackilkaa.Rec Go.Proofs.Ytmnihigackilkaa.Pts Go.Proofs.Ytmnihigackilkaa.Bit
set_option linter.unusedVariables false
set_option maxRecDepth 100000

set_option maxHeartbeats 2000000 in
theorem walk (m : Int) (w0 : (Lit.int .i64 m).wf = true) (w : World) :
    Calls Try.prog 5 #[.int .i64 m] w fun e w' => e = .returned (.bool true) ∧ Below w.heap.size w w' := by
  obtain ⟨l, ok, hl, -, -, -, S0, I0⟩ := partsBoth m
  have hli : (nI l).length = l.length := nI_len l
  have S := Lib.hid S0
  have I := Lib.hid I0
  have Q := Lib.hid (fun (A D : Option Addr) (c d : Nat) B B' W (h : Rd W B 1 A l.length (ints (nI l))) (h' : Rd W B' 1 D l.length (ints (nI l))) => eqIntS A D _ _ c d (nI l) (nI l) B B' W (by omega) (by unfold maxLen; omega) h h')
  have M := Lib.hid (fun (A : Option Addr) (c base : Nat) W (hB : base ≤ W.heap.size) (h : W.ownsRow base 3 1 (.slice A l.length c) l.length (ints (nI l))) => markOwn A l.length c (nI l) 1 base W (by omega) (by omega) hB h)
  have H := Lib.hid (fun (A : Option Addr) (c B : Nat) W (h : Rd W B 1 A l.length (ints (marks 1 l.length))) => heldIntS A l.length c 1 B W (by omega) (by omega) h)
  simp only [decide_true] at Q
  have hbb : (ok != ok) = false := by simp
  generalize l.length = n at *
  generalize ints (nI l) = xs at *
  clear S0 I0 hli
  go_enter Try.func5, Try.ntmps5
  go_wp2_with fail
  refine (S.out w).mono ?_
  rintro e w1 ⟨A0, c0, rfl, o, b⟩
  have B1 := b
  have s1 := b.size
  have O0 := Lib.hid o
  clear o b S
  go_wp2_with fail
  refine (I.out w1).mono ?_
  rintro e w2 ⟨A1, c1, rfl, o, b⟩
  have s2 := b.size
  have B2 := then_ (n := 0) B1 b
  have R0 := Lib.hid ((Rd.own O0.out).below b (Nat.le_refl _))
  have O1 := Lib.hid o
  clear o b O0 B1
  go_wp2_with fail
  refine (Q.out A1 A0 c1 c0 _ _ w2 (Rd.own O1.out) R0.out).mono ?_
  rintro e w' ⟨rfl, q, rfl⟩
  have B3 := below_drewN B2 q
  have O1 := Lib.hid (own_below O1.out (below_drewN (Below.refl _ w2) q) (Nat.le_refl _))
  have R0 := Lib.hid (R0.out.below (below_drewN (Below.refl w2.heap.size w2) q) (by omega))
  have s3 : w2.heap.size ≤ (w2.drewN q).heap.size := Nat.le_refl _
  generalize w2.drewN q = w3 at *
  clear B2
  go_wp2_with fail
  refine (M.out A1 c1 w1.heap.size w3 (by omega) O1.out).mono ?_
  rintro e w4 ⟨rfl, o, b⟩
  have s4 := b.size
  have B4 := B3.trans (b.mono (by omega))
  have R0 := Lib.hid (R0.out.below b (by omega))
  have O1 := Lib.hid o
  clear o b B3
  go_wp2_with fail
  refine (H.out A1 c1 _ w4 (Rd.own O1.out)).mono ?_
  rintro e w' ⟨rfl, q, rfl⟩
  have B5 := below_drewN B4 q
  have O1 := Lib.hid (own_below O1.out (below_drewN (Below.refl _ w4) q) (Nat.le_refl _))
  have R0 := Lib.hid (R0.out.below (below_drewN (Below.refl w4.heap.size w4) q) (by omega))
  have s5 : w4.heap.size ≤ (w4.drewN q).heap.size := Nat.le_refl _
  generalize w4.drewN q = w5 at *
  clear B4
  go_wp2_with fail
  refine (I.out w5).mono ?_
  rintro e w6 ⟨A2, c2, rfl, o, b⟩
  have s6 := b.size
  have B6 := then_ (n := 0) B5 b
  have O1 := Lib.hid (own_below O1.out b (Nat.le_refl _))
  have R0 := Lib.hid (R0.out.below b (by omega))
  have O2 := Lib.hid o
  clear o b B5
  go_wp2_with fail
  refine (Q.out A2 A0 c2 c0 _ _ w6 (Rd.own O2.out) R0.out).mono ?_
  rintro e w' ⟨rfl, q, rfl⟩
  have B7 := below_drewN B6 q
  have O1 := Lib.hid (own_below O1.out (below_drewN (Below.refl _ w6) q) (Nat.le_refl _))
  generalize w6.drewN q = w7 at *
  clear B6 O2 R0
  go_wp2_with fail
  refine (H.out A1 c1 _ w7 (Rd.own O1.out)).mono ?_
  rintro e w' ⟨rfl, q, rfl⟩
  have B8 := below_drewN B7 q
  generalize w7.drewN q = w8 at *
  clear B7 O1
  go_wp2
  go_ret
  exact ⟨rfl, B8⟩
end Go.Proofs.Ytmnihigackilkaa.LawParts
