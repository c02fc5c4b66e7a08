/-
  Sums of points: contracts of both sides.
-/
import Derived.Test.YtapdecmaaciaaaaCrv3
namespace Go.Proofs.Ytapdecmaaciaaaa.Add
open Go.ChangeShapes Go.WideShapes Go.ChangeAt Go.RowKit
open Go.Proofs.Ytapdecmaaciaaaa.Mem Go.Proofs.Ytapdecmaaciaaaa.Num Go.Proofs.Ytapdecmaaciaaaa.Mod Go.Proofs.Ytapdecmaaciaaaa.Pow Go.Proofs.Ytapdecmaaciaaaa.Kind Go.Proofs.Ytapdecmaaciaaaa.Ed Go.Proofs.Ytapdecmaaciaaaa.Grp Go.Proofs.Ytapdecmaaciaaaa.Crv Go.Proofs.Ytapdecmaaciaaaa.Crv2 Go.Proofs.Ytapdecmaaciaaaa.Crv3
set_option linter.unusedVariables false
set_option maxRecDepth 100000

theorem relA {P : Program} {f : Nat} {args : Array Value} {v : Value} (W0 : World) (C : ∀ W, Calls P f args W fun e w' => e = .returned v ∧ Below W.heap.size W w') (W : World) (h : Below W0.heap.size W0 W) :
    Calls P f args W fun e w' => e = .returned v ∧ Below W0.heap.size W0 w' := (C W).mono fun e w' q => ⟨q.1, then_ (n := 0) h q.2⟩
theorem relS {P : Program} {f : Nat} {args : Array Value} {v : Value} (W0 : World) (C : ∀ W, Calls P f args W fun e w' => e = .returned v ∧ W = w') (W : World) (h : Below W0.heap.size W0 W) :
    Calls P f args W fun e w' => e = .returned v ∧ Below W0.heap.size W0 w' := (C W).mono fun e w' q => ⟨q.1, q.2 ▸ h⟩
section
variable {p : Nat} [NeZero p]
theorem invAny (hp : Pr p) (x : Fin p) (w : World) : Calls Try.prog 77 #[.int .i64 (vl x), .int .i64 p] w fun e w' => e = .returned (.tuple #[.int .i64 (vl (fi x)), .bool (decide (x ≠ 0))]) ∧ w = w' := by
  by_cases h : x = 0
  · have e : decide (x ≠ 0) = false := by simp [h]
    rw [e, h, vl_zero, fi_zero hp.ge, vl_zero]
    exact implInverseNo 0 p w (Or.inr rfl)
  · have e : decide (x ≠ 0) = true := by simp [h]
    rw [e, vl_fi]
    refine implInverse x.val p w hp x.isLt ?_
    rcases Nat.eq_zero_or_pos x.val with k | k
    · exact absurd (Fin.ext (by simpa using k)) h
    · exact k
theorem specInv (hp : Pr p) (x : Fin p) (w : World) : Calls Try.prog 73 #[.int .i64 (vl x), .int .i64 p] w fun e w' => e = .returned (.int .i64 (vl (fi x))) ∧ w = w' := by
  rw [vl_fi]; exact l4Inverse x.val p w hp x.isLt
theorem reducedR (n : Int) (D : Int) (w : World) (h5 : 5 ≤ p) (h9 : p ≤ 199) (h0 : -1000000000000000 ≤ n) (h1 : n ≤ 1000000000000000) : Calls Try.prog 72 #[pv p D, .int .i64 n] w fun e w' => e = .returned (.int .i64 (vl (rs p n))) ∧ Below w.heap.size w w' := by
  rw [vl_rs]; exact reduced n p D w h5 h9 h0 h1
set_option maxHeartbeats 1000000 in
theorem quotient (hp : Pr p) (h5 : 5 ≤ p) (h9 : p ≤ 199) (n d D : Int) (w : World) (h0 : -1000000000000000 ≤ n) (h1 : n ≤ 1000000000000000) (h2 : -1000000000000000 ≤ d) (h3 : d ≤ 1000000000000000) :
    Calls Try.prog 74 #[pv p D, .int .i64 n, .int .i64 d] w fun e w' => e = .returned (.int .i64 (vl (rs p n * fi (rs p d)))) ∧ Below w.heap.size w w' := by
  have C1 := Lib.hid (fun W => reducedR (p := p) d D W h5 h9 h2 h3)
  have C3 := Lib.hid (fun W => reducedR (p := p) n D W h5 h9 h0 h1)
  have C2 := Lib.hid (fun W => invAny hp (rs p d) W)
  have E := Lib.hid (vl_mul (rs p n) (fi (rs p d)))
  have a1 := vl_ge (rs p n); have a2 := vl_lt (rs p n)
  have b1 := vl_ge (fi (rs p d)); have b2 := vl_lt (fi (rs p d))
  rw [E.out]
  clear E h0 h1 h2 h3
  generalize vl (rs p n) = v at *
  generalize vl (fi (rs p d)) = i at *
  generalize vl (rs p d) = u at *
  generalize decide (rs p d ≠ 0) = b at *
  obtain ⟨m1, m2⟩ := mulb a1 (show v ≤ 199 by omega) b1 (show i ≤ 199 by omega)
  unfold pv at *
  go_enter Try.func74, Try.ntmps74
  go_wp2_with fail
  have k0 := nw1 w (.cells #[.int .i64 (p : Int), .int .i64 D] 25)
  have B0 := Lib.hid (al1 w (.cells #[.int .i64 (p : Int), .int .i64 D] 25))
  generalize World.alloc w _ = W0 at *
  have H0 := Lib.hid k0
  obtain ⟨c0, c1⟩ := row2 k0
  have D1 : Below W0.heap.size W0 W0.drew := (Below.refl _ W0).drew
  have R1 := Lib.hid (relA W0 C1.out)
  have R2 := Lib.hid (relS W0 C2.out)
  have R3 := Lib.hid (relA W0 C3.out)
  clear C1 C2 C3 k0
  go_region_held3 (fun w' => w'.cell? ⟨w.heap.size, 0, none⟩ = some (.int .i64 p) ∧ w'.cell? ⟨w.heap.size, 1, none⟩ = some (.int .i64 D))
    (first | (refine ⟨?_, ?_⟩ <;> with_reducible assumption) | (go_keep; done) | (simp [*, go_sem]; done))
    (first
      | (go_at_call 72; (with_reducible refine (R1.out _ ?hb).mono ?_); (case hb => with_reducible assumption); rintro e v1 ⟨rfl, b1⟩; obtain ⟨p0, p1⟩ := row2 (bx H0.out b1))
      | (go_at_call 77; (with_reducible refine (R2.out _ ?hb).mono ?_); (case hb => with_reducible assumption); rintro e v2 ⟨rfl, b2⟩; obtain ⟨q0, q1⟩ := row2 (bx H0.out b2)))
  rename_i hH
  have D2 : Below W0.heap.size W0 v2.drew := b2.drew
  clear hH b1 c0 c1 p0 p1 D1
  have hm : (v * i).tmod (p : Int) = v * i % (p : Int) := Int.tmod_eq_emod_of_nonneg m1
  have hw : IntKind.i64.wrap (v * i) = v * i := IntWalk.i64_in _ (by omega)
  have hp0 : ¬ (p : Int) = 0 := by omega
  have hp1 : ¬ p = 0 := by omega
  go_wp2_with fail
  go_region_held3 (fun w' => w'.cell? ⟨w.heap.size, 0, none⟩ = some (.int .i64 p) ∧ w'.cell? ⟨w.heap.size, 1, none⟩ = some (.int .i64 D))
    (first | (refine ⟨?_, ?_⟩ <;> with_reducible assumption) | (go_keep; done) | (simp [*, go_sem]; done))
    (first
      | (go_at_call 72; (with_reducible refine (R3.out _ ?hb).mono ?_); (case hb => with_reducible assumption); rintro e v3 ⟨rfl, b3⟩; obtain ⟨r0, r1⟩ := row2 (bx H0.out b3)))
  all_goals
    have B := then_ (n := 0) B0.out b3
    clear b3 b2
    go_wp2
    go_ret
    exact ⟨rfl, B⟩
end
end Go.Proofs.Ytapdecmaaciaaaa.Add
