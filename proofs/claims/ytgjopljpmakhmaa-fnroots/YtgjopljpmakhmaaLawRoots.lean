/-
  The walk of the law FnRoots: for every two slices of bytes it returns true and changes nothing that was in memory.
-/
import Derived.Test.YtgjopljpmakhmaaOrd
import Derived.Test.YtgjopljpmakhmaaDrawM
namespace Go.Proofs.Ytgjopljpmakhmaa.LawRoots
open Go.ChangeShapes Go.WideShapes Go.ChangeAt Go.RowKit
open Go.Proofs.Ytgjopljpmakhmaa.Mem Go.Proofs.Ytgjopljpmakhmaa.Ints Go.Proofs.Ytgjopljpmakhmaa.Num Go.Proofs.Ytgjopljpmakhmaa.Mod Go.Proofs.Ytgjopljpmakhmaa.Pow Go.Proofs.Ytgjopljpmakhmaa.Kind Go.Proofs.Ytgjopljpmakhmaa.Ord Go.Proofs.Ytgjopljpmakhmaa.DrawM
set_option linter.unusedVariables false
set_option maxRecDepth 100000

theorem below_drewN {B : Nat} {w w' : World} (h : Below B w w') (n : Nat) : Below B w (w'.drewN n) := ⟨h.os, h.tape, h.output, h.size, h.block⟩
/-- The least root: both sides answer alike. -/
theorem rootBoth (a p : Nat) (hp : Pr p) (ha : a < p) : ∃ (r : Nat) (b : Bool),
    (∀ W, Calls Try.prog 22 #[.int .i64 a, .int .i64 p] W fun e w' => e = .returned (.tuple #[.int .i64 r, .bool b]) ∧ W = w') ∧
    (∀ W, Calls Try.prog 21 #[.int .i64 a, .int .i64 p] W fun e w' => e = .returned (.tuple #[.int .i64 r, .bool b]) ∧ W = w') ∧
    b = decide (0 ≤ kind a p) ∧ (b = true → r * r % p = a) ∧ r < p := by
  have h3 := hp.ge
  by_cases hx : ∃ x, x < p ∧ x * x % p = a
  · obtain ⟨x, h1, h2, h4⟩ := root_low hp a hx
    have L : Least a p x := ⟨h1, h2, h4⟩
    exact ⟨x, true, fun W => implRootYes a p x W hp ha L, fun W => specRootYes a p x W hp ha L, by rw [decide_eq_true ((kind_root hp a ha).2 hx)], fun _ => h2, by omega⟩
  · exact ⟨0, false, fun W => implRootNo a p W hp ha hx, fun W => specRootNo a p W hp ha hx, by rw [decide_eq_false (fun h => hx ((kind_root hp a ha).1 h))], (fun h => by cases h), by omega⟩
/-- What a residue and its prime give: the three functions alike on both sides, and the power with half the exponent. -/
theorem allOf (a p : Nat) (hp : Pr p) (ha : a < p) : ∃ (k : Int) (r : Nat) (one : Bool) (o : Nat) (two : Bool) (h : Nat),
    (∀ W, Calls Try.prog 20 #[.int .i64 a, .int .i64 p] W fun e w' => e = .returned (.tuple #[.int .i64 k, .bool true]) ∧ W = w') ∧
    (∀ W, Calls Try.prog 19 #[.int .i64 a, .int .i64 p] W fun e w' => e = .returned (.tuple #[.int .i64 k, .bool true]) ∧ W = w') ∧
    (∀ W, Calls Try.prog 22 #[.int .i64 a, .int .i64 p] W fun e w' => e = .returned (.tuple #[.int .i64 r, .bool one]) ∧ W = w') ∧
    (∀ W, Calls Try.prog 21 #[.int .i64 a, .int .i64 p] W fun e w' => e = .returned (.tuple #[.int .i64 r, .bool one]) ∧ W = w') ∧
    (∀ W, Calls Try.prog 24 #[.int .i64 a, .int .i64 p] W fun e w' => e = .returned (.tuple #[.int .i64 o, .bool two]) ∧ W = w') ∧
    (∀ W, Calls Try.prog 23 #[.int .i64 a, .int .i64 p] W fun e w' => e = .returned (.tuple #[.int .i64 o, .bool two]) ∧ W = w') ∧
    (∀ W, Calls Try.prog 16 #[.int .i64 a, .int .i64 (((p - 1) / 2 : Nat) : Int), .int .i64 p] W fun e w' => e = .returned (.tuple #[.int .i64 h, .bool true]) ∧ W = w') ∧
    (∀ (b : Nat), b < p → ∃ m : Int, -1 ≤ m ∧ m ≤ 1 ∧ (∀ W, Calls Try.prog 20 #[.int .i64 b, .int .i64 p] W fun e w' => e = .returned (.tuple #[.int .i64 m, .bool true]) ∧ W = w') ∧
      (∀ W, Calls Try.prog 20 #[.int .i64 ((a * b % p : Nat) : Int), .int .i64 p] W fun e w' => e = .returned (.tuple #[.int .i64 (k * m), .bool true]) ∧ W = w')) ∧
    (two = true → (∀ W, Calls Try.prog 16 #[.int .i64 a, .int .i64 o, .int .i64 p] W fun e w' => e = .returned (.tuple #[.int .i64 1, .bool true]) ∧ W = w') ∧ 0 < o ∧ o ≤ p - 1 ∧ (p - 1) % o = 0) ∧
    (one = true → r * r % p = a) ∧ r < p ∧ h < p ∧
    ((k = 0 ∧ one = true ∧ two = false ∧ h = 0) ∨ (k = 1 ∧ one = true ∧ two = true ∧ h = 1) ∨ (k = -1 ∧ one = false ∧ two = true ∧ h = p - 1)) := by
  have h3 := hp.ge; have h4 := hp.le
  obtain ⟨r, one, R1, R2, e1, e2, hr⟩ := rootBoth a p hp ha
  have kb : ∀ b, b < p → -1 ≤ kind b p ∧ kind b p ≤ 1 := fun b hb => by rcases half_cases hp b hb with ⟨_, _, h⟩ | ⟨_, _, h⟩ | ⟨_, _, h⟩ <;> omega
  have M : ∀ (b : Nat), b < p → ∃ m : Int, -1 ≤ m ∧ m ≤ 1 ∧ (∀ W, Calls Try.prog 20 #[.int .i64 b, .int .i64 p] W fun e w' => e = .returned (.tuple #[.int .i64 m, .bool true]) ∧ W = w') ∧
      (∀ W, Calls Try.prog 20 #[.int .i64 ((a * b % p : Nat) : Int), .int .i64 p] W fun e w' => e = .returned (.tuple #[.int .i64 (kind a p * m), .bool true]) ∧ W = w') := fun b hb =>
    ⟨kind b p, (kb b hb).1, (kb b hb).2, fun W => implKind b p W hp hb, fun W => by have := implKind (a * b % p) p W hp (Nat.mod_lt _ (by omega)); rw [kind_mul hp a b ha hb] at this; exact this⟩
  have PW := fun W => implPower a ((p - 1) / 2) p W hp ha (by omega)
  rcases half_cases hp a ha with ⟨h0, hh, hk⟩ | ⟨h0, hh, hk⟩ | ⟨h0, hh, hk⟩
  · refine ⟨kind a p, r, one, 0, false, 0, fun W => implKind a p W hp ha, fun W => specKind a p W hp ha, R1, R2, fun W => implOrderNo _ _ W (.inr (by omega)), fun W => specOrderNo _ _ W (.inr (by omega)), fun W => by have := PW W; rw [hh] at this; exact this, M, (fun h => by cases h), e2, hr, by omega, .inl ⟨hk, by rw [e1, hk]; rfl, rfl, rfl⟩⟩
  · obtain ⟨o, ho, hop, hdv⟩ := ord_ex hp a h0 ha
    refine ⟨kind a p, r, one, o, true, 1, fun W => implKind a p W hp ha, fun W => specKind a p W hp ha, R1, R2, fun W => implOrder a p o W hp h0 ha ho, fun W => specOrder a p o W hp h0 ha ho hop, fun W => by have := PW W; rw [hh] at this; exact this, M, fun _ => ⟨fun W => by have := implPower a o p W hp ha (by omega); rw [ho.one] at this; exact this, ho.pos, hop, hdv⟩, e2, hr, by omega, .inr (.inl ⟨hk, by rw [e1, hk]; rfl, rfl, rfl⟩)⟩
  · obtain ⟨o, ho, hop, hdv⟩ := ord_ex hp a h0 ha
    refine ⟨kind a p, r, one, o, true, p - 1, fun W => implKind a p W hp ha, fun W => specKind a p W hp ha, R1, R2, fun W => implOrder a p o W hp h0 ha ho, fun W => specOrder a p o W hp h0 ha ho hop, fun W => by have := PW W; rw [hh] at this; exact this, M, fun _ => ⟨fun W => by have := implPower a o p W hp ha (by omega); rw [ho.one] at this; exact this, ho.pos, hop, hdv⟩, e2, hr, by omega, .inr (.inr ⟨hk, by rw [e1, hk]; rfl, rfl, rfl⟩)⟩
/-- The first generator, on both sides, and its order. -/
theorem genBoth (q : Int) : (okP q = false ∧ (∀ W, Calls Try.prog 26 #[.int .i64 q] W fun e w' => e = .returned (.tuple #[.int .i64 0, .bool false]) ∧ W = w') ∧ (∀ W, Calls Try.prog 25 #[.int .i64 q] W fun e w' => e = .returned (.tuple #[.int .i64 0, .bool false]) ∧ W = w')) ∨
    (∃ p g : Nat, q = p ∧ 3 ≤ p ∧ p ≤ 10007 ∧ (∀ W, Calls Try.prog 26 #[.int .i64 p] W fun e w' => e = .returned (.tuple #[.int .i64 g, .bool true]) ∧ W = w') ∧ (∀ W, Calls Try.prog 25 #[.int .i64 p] W fun e w' => e = .returned (.tuple #[.int .i64 g, .bool true]) ∧ W = w') ∧
      (∀ W, Calls Try.prog 24 #[.int .i64 g, .int .i64 p] W fun e w' => e = .returned (.tuple #[.int .i64 ((p - 1 : Nat) : Int), .bool true]) ∧ W = w')) := by
  cases h : okP q
  · exact .inl ⟨rfl, fun W => implFirstNo q W h, fun W => specFirstNo q W h⟩
  · obtain ⟨p, rfl, hp⟩ := okP_pr h
    obtain ⟨g, hg⟩ := firstEx hp
    exact .inr ⟨p, g, rfl, hp.ge, hp.le, fun W => implFirst p g W hp hg, fun W => specFirst p g W hp hg, fun W => implOrder g p (p - 1) W hp (by have := hg.one; omega) hg.lt hg.ord⟩

set_option maxHeartbeats 8000000 in
theorem walk (A : Option Addr) (n c : Nat) (cs : List UInt8) (D : Option Addr) (m d : Nat) (ds : List UInt8) (hn : n ≤ maxLen) (hm : m ≤ maxLen) (w : World) (hx : Rd w w.heap.size 1 A n (Cur.bytes cs)) (hy : Rd w w.heap.size 1 D m (Cur.bytes ds)) :
    Calls Try.prog 12 #[.slice A n c, .slice D m d] w fun e w' => e = .returned (.bool true) ∧ Below w.heap.size w w' := by
  by_cases hbig : 1048576 < wrap64 ((n : Int) + (m : Int))
  · clear hx hy
    go_enter Try.func12, Try.ntmps12
    go_wp2
    go_ret
    exact ⟨rfl, Below.refl _ _⟩
  have hbig' : decide (1048576 < wrap64 ((n : Int) + (m : Int))) = false := by simpa using hbig
  have DS := Lib.hid (drawSquare A n c cs w hn hx)
  have RY := Lib.hid (fun W (h : Below w.heap.size w W) => (hy.below h (Nat.le_refl _)).mono h.size)
  have DF := Lib.hid (fun W h => drawFirst D m d ds W hm (RY.out W h))
  have DN := Lib.hid (fun W h => numberOf D m d ds _ W hm (RY.out W h))
  clear hx hy RY
  go_enter Try.func12, Try.ntmps12
  go_wp2_with fail
  refine DS.out.mono ?_
  rintro e w1 ⟨a0, p0, rfl, a0l, a0u, p0l, p0u, B1⟩
  clear DS hbig
  cases hR : okR a0 p0
  case' false =>
    go_wp2_with fail
    refine (implKindNo _ _ _ hR).mono ?_
    rintro e w' ⟨rfl, rfl⟩
    go_wp2_with fail
    refine (specKindNo _ _ _ hR).mono ?_
    rintro e w' ⟨rfl, rfl⟩
    go_wp2_with fail
    refine (implRootOut _ _ _ hR).mono ?_
    rintro e w' ⟨rfl, rfl⟩
    go_wp2_with fail
    refine (specRootOut _ _ _ hR).mono ?_
    rintro e w' ⟨rfl, rfl⟩
    go_wp2_with fail
    refine (implOrderNo _ _ _ (.inl hR)).mono ?_
    rintro e w' ⟨rfl, rfl⟩
    go_wp2_with fail
    refine (specOrderNo _ _ _ (.inl hR)).mono ?_
    rintro e w' ⟨rfl, rfl⟩
    go_wp2_with fail
  case' true =>
    obtain ⟨a, p, rfl, rfl, ha, hp⟩ := okR_yes hR
    have h3 := hp.ge; have h4 := hp.le
    obtain ⟨k, r, one, o, two, h, I1, S1, I2, S2, I3, S3, I4, M, T, Q, hr, hh, C⟩ := allOf a p hp ha
    have J1 := Lib.hid I1
    have J2 := Lib.hid I2
    have J3 := Lib.hid I3
    have J4 := Lib.hid I4
    have T1 := Lib.hid S1
    have T2 := Lib.hid S2
    have T3 := Lib.hid S3
    have HM := Lib.hid M
    have HT := Lib.hid T
    have HQ := Lib.hid Q
    clear I1 I2 I3 I4 S1 S2 S3 M T Q hR
    go_wp2_with fail
    refine (J1.out _).mono ?_
    rintro e w' ⟨rfl, rfl⟩
    go_wp2_with fail
    refine (T1.out _).mono ?_
    rintro e w' ⟨rfl, rfl⟩
    go_wp2_with fail
    refine (J2.out _).mono ?_
    rintro e w' ⟨rfl, rfl⟩
    go_wp2_with fail
    refine (T2.out _).mono ?_
    rintro e w' ⟨rfl, rfl⟩
    go_wp2_with fail
    refine (J3.out _).mono ?_
    rintro e w' ⟨rfl, rfl⟩
    go_wp2_with fail
    refine (T3.out _).mono ?_
    rintro e w' ⟨rfl, rfl⟩
    go_wp2_with fail
    rw [show ((p : Int) - 1) / 2 = (((p - 1) / 2 : Nat) : Int) by omega]
    refine (J4.out _).mono ?_
    rintro e w' ⟨rfl, rfl⟩
    clear J1 J2 J3 J4 T1 T2 T3
    rcases C with ⟨rfl, rfl, rfl, rfl⟩ | ⟨rfl, rfl, rfl, rfl⟩ | ⟨rfl, rfl, rfl, rfl⟩
    case' inl =>
      have md := mul_md r r p
      have b0 := mul_bd r r p hr hr h4
      have t1 : (r : Int) * (r : Int) % (p : Int) = (a : Int) := by rw [md, HQ.out rfl]
      clear md HQ
      go_wp2_with fail
      go_quiet (fail)
      go_wp2_with fail
      have B2 := below_drewN B1 nq
      generalize w1.drewN nq = w2 at *
      clear B1
      refine (DN.out _ B2).mono ?_
      rintro e w' ⟨z, rfl, z0, z1, rfl⟩
      obtain ⟨b, hb, hbp⟩ : ∃ b : Nat, z % (p : Int) = b ∧ b < p := ⟨(z % (p : Int)).toNat, by have := Int.emod_nonneg z (show (p : Int) ≠ 0 by omega); omega, by have := Int.emod_lt_of_pos z (show 0 < (p : Int) by omega); omega⟩
      obtain ⟨mk, m0, m1, I5, I6⟩ := HM.out b hbp
      have J5 := Lib.hid I5
      have J6 := Lib.hid I6
      have bb := mul_bd a b p ha hbp h4
      have mb := Lib.hid (mul_md a b p)
      have HB := Lib.hid hb
      clear I5 I6 HM hb
      go_wp2_with fail
      rw [HB.out]
      refine (J5.out _).mono ?_
      rintro e w' ⟨rfl, rfl⟩
      go_wp2_with fail
      rw [mb.out]
      refine (J6.out _).mono ?_
      rintro e w' ⟨rfl, rfl⟩
      clear J5 J6 mb HB z0 z1
      go_wp2_with fail
    case' inr.inl =>
      have md := mul_md r r p
      have b0 := mul_bd r r p hr hr h4
      have t1 : (r : Int) * (r : Int) % (p : Int) = (a : Int) := by rw [md, HQ.out rfl]
      clear md HQ
      go_wp2_with fail
      go_quiet (fail)
      go_wp2_with fail
      have B2 := below_drewN B1 nq
      generalize w1.drewN nq = w2 at *
      clear B1
      refine (DN.out _ B2).mono ?_
      rintro e w' ⟨z, rfl, z0, z1, rfl⟩
      obtain ⟨b, hb, hbp⟩ : ∃ b : Nat, z % (p : Int) = b ∧ b < p := ⟨(z % (p : Int)).toNat, by have := Int.emod_nonneg z (show (p : Int) ≠ 0 by omega); omega, by have := Int.emod_lt_of_pos z (show 0 < (p : Int) by omega); omega⟩
      obtain ⟨mk, m0, m1, I5, I6⟩ := HM.out b hbp
      have J5 := Lib.hid I5
      have J6 := Lib.hid I6
      have bb := mul_bd a b p ha hbp h4
      have mb := Lib.hid (mul_md a b p)
      have HB := Lib.hid hb
      clear I5 I6 HM hb
      go_wp2_with fail
      rw [HB.out]
      refine (J5.out _).mono ?_
      rintro e w' ⟨rfl, rfl⟩
      go_wp2_with fail
      rw [mb.out]
      refine (J6.out _).mono ?_
      rintro e w' ⟨rfl, rfl⟩
      clear J5 J6 mb HB z0 z1
      obtain ⟨U, o0, o1, o2⟩ := HT.out (by first | rfl | trivial)
      have HU := Lib.hid U
      have t5 : ((p : Int) - 1) % (o : Int) = 0 := by have e : ((p : Int) - 1) = ((p - 1 : Nat) : Int) := by omega
                                                      rw [e]; omega
      clear U o2 HT
      go_wp2_with fail
      refine (HU.out _).mono ?_
      rintro e w' ⟨rfl, rfl⟩
      clear HU
      go_wp2_with fail
    case' inr.inr =>
      have md := mul_md r r p
      have b0 := mul_bd r r p hr hr h4
      clear md HQ
      have t2 : (((p - 1 : Nat) : Int) + 1) % (p : Int) = 0 := by rw [show (((p - 1 : Nat) : Int) + 1) = (p : Int) by omega]; exact Int.emod_self
      have t3 : (-1 + 1 : Int) % (p : Int) = 0 := by simp
      go_wp2_with fail
      go_quiet (fail)
      go_wp2_with fail
      have B2 := below_drewN B1 nq
      generalize w1.drewN nq = w2 at *
      clear B1
      refine (DN.out _ B2).mono ?_
      rintro e w' ⟨z, rfl, z0, z1, rfl⟩
      obtain ⟨b, hb, hbp⟩ : ∃ b : Nat, z % (p : Int) = b ∧ b < p := ⟨(z % (p : Int)).toNat, by have := Int.emod_nonneg z (show (p : Int) ≠ 0 by omega); omega, by have := Int.emod_lt_of_pos z (show 0 < (p : Int) by omega); omega⟩
      obtain ⟨mk, m0, m1, I5, I6⟩ := HM.out b hbp
      have J5 := Lib.hid I5
      have J6 := Lib.hid I6
      have bb := mul_bd a b p ha hbp h4
      have mb := Lib.hid (mul_md a b p)
      have HB := Lib.hid hb
      clear I5 I6 HM hb
      go_wp2_with fail
      rw [HB.out]
      refine (J5.out _).mono ?_
      rintro e w' ⟨rfl, rfl⟩
      go_wp2_with fail
      rw [mb.out]
      refine (J6.out _).mono ?_
      rintro e w' ⟨rfl, rfl⟩
      clear J5 J6 mb HB z0 z1
      obtain ⟨U, o0, o1, o2⟩ := HT.out (by first | rfl | trivial)
      have HU := Lib.hid U
      have t5 : ((p : Int) - 1) % (o : Int) = 0 := by have e : ((p : Int) - 1) = ((p - 1 : Nat) : Int) := by omega
                                                      rw [e]; omega
      clear U o2 HT
      go_wp2_with fail
      refine (HU.out _).mono ?_
      rintro e w' ⟨rfl, rfl⟩
      clear HU
      go_wp2_with fail
  all_goals
    first | rename Below w.heap.size w _ => BZ | skip
    refine (DF.out _ BZ).mono ?_
    rintro e w3 ⟨q, rfl, q0, q1, b3⟩
    have B3 := BZ.trans (b3.mono BZ.size)
    clear DF DN b3 BZ
    rcases genBoth q with ⟨_, G1, G2⟩ | ⟨p9, g, rfl, p3, p4, G1, G2, G3⟩
    · have H1 := Lib.hid G1
      have H2 := Lib.hid G2
      clear G1 G2
      go_wp2_with fail
      refine (H1.out _).mono ?_
      rintro e w' ⟨rfl, rfl⟩
      go_wp2_with fail
      refine (H2.out _).mono ?_
      rintro e w' ⟨rfl, rfl⟩
      go_wp2
      go_ret
      exact ⟨rfl, B3⟩
    · have H1 := Lib.hid G1
      have H2 := Lib.hid G2
      have H3 := Lib.hid G3
      clear G1 G2 G3
      go_wp2_with fail
      refine (H1.out _).mono ?_
      rintro e w' ⟨rfl, rfl⟩
      go_wp2_with fail
      refine (H2.out _).mono ?_
      rintro e w' ⟨rfl, rfl⟩
      go_wp2_with fail
      refine (H3.out _).mono ?_
      rintro e w' ⟨rfl, rfl⟩
      have t9 : ((p9 - 1 : Nat) : Int) = (p9 : Int) - 1 := by omega
      rw [t9]
      clear H1 H2 H3 t9
      go_wp2
      go_ret
      exact ⟨rfl, B3⟩
end Go.Proofs.Ytgjopljpmakhmaa.LawRoots
