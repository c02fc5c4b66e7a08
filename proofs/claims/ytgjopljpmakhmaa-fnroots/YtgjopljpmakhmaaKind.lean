/-
  Legendre symbols and square roots modulo a prime: contracts, and the walks of the laws on SquareKind and RootMod.
-/
import Derived.Test.YtgjopljpmakhmaaPow
namespace Go.Proofs.Ytgjopljpmakhmaa.Kind
open Go.ChangeShapes Go.WideShapes Go.ChangeAt Go.RowKit
open Go.Proofs.Ytgjopljpmakhmaa.Mem Go.Proofs.Ytgjopljpmakhmaa.Num Go.Proofs.Ytgjopljpmakhmaa.Mod Go.Proofs.Ytgjopljpmakhmaa.Pow
set_option linter.unusedVariables false
set_option maxRecDepth 100000

theorem okR_of {a p : Nat} (hp : Pr p) (ha : a < p) : okR a p = true := by rw [okR, okP_of hp]; simp; omega
theorem l4Kind (a p : Nat) (w : World) (hp : Pr p) (ha : a < p) :
    Calls Try.prog 43 #[.int .i64 a, .int .i64 p] w fun e w' => e = .returned (.int .i64 (kind a p)) ∧ w = w' := by
  have h3 := hp.ge; have h4 := hp.le
  have e2 : ((p : Int) - 1) / 2 = (((p - 1) / 2 : Nat) : Int) := by omega
  have C := half_cases hp a ha
  have L : (a ^ ((p - 1) / 2) % p) < p := Nat.mod_lt _ (by omega)
  have HC := Lib.hid C
  clear C
  go_enter Try.func43, Try.ntmps43
  go_wp2_with fail
  refine (l4Power a ((p - 1) / 2) p _ h3 h4 ha (by omega)).mono ?_
  rintro e w' ⟨rfl, rfl⟩
  generalize a ^ ((p - 1) / 2) % p = x at *
  rcases HC.out with ⟨_, hx, hk⟩ | ⟨_, hx, hk⟩ | ⟨_, hx, hk⟩ <;> clear HC
  · have t : (x : Int) = 0 := by omega
    have K := Lib.hid hk
    clear hk hx e2
    rw [t]
    go_wp2
    go_ret
    exact ⟨by rw [K.out]; rfl, rfl⟩
  · have t : (x : Int) = 1 := by omega
    have K := Lib.hid hk
    clear hk hx e2
    rw [t]
    go_wp2
    go_ret
    exact ⟨by rw [K.out]; rfl, rfl⟩
  · have t0 : ¬ (x : Int) = 0 := by omega
    have t1 : ¬ (x : Int) = 1 := by omega
    have K := Lib.hid hk
    clear hk hx e2
    go_wp2
    go_ret
    exact ⟨by rw [K.out]; rfl, rfl⟩
theorem implKind (a p : Nat) (w : World) (hp : Pr p) (ha : a < p) :
    Calls Try.prog 20 #[.int .i64 a, .int .i64 p] w fun e w' => e = .returned (.tuple #[.int .i64 (kind a p), .bool true]) ∧ w = w' := by
  have h3 := hp.ge; have h4 := hp.le
  have e2 : ((p : Int) - 1) / 2 = (((p - 1) / 2 : Nat) : Int) := by omega
  have C := half_cases hp a ha
  have L : (a ^ ((p - 1) / 2) % p) < p := Nat.mod_lt _ (by omega)
  have HC := Lib.hid C
  clear C
  have E := Lib.hid (okR_of hp ha)
  go_enter Try.func20, Try.ntmps20
  go_wp2_with fail
  refine (isResidue _ _ _).mono ?_
  rintro e w' ⟨rfl, rfl⟩
  rw [E.out]
  go_wp2_with fail
  refine (powerOf a ((p - 1) / 2) p _ h3 h4 ha (by omega)).mono ?_
  rintro e w' ⟨rfl, rfl⟩
  generalize a ^ ((p - 1) / 2) % p = x at *
  rcases HC.out with ⟨_, hx, hk⟩ | ⟨_, hx, hk⟩ | ⟨_, hx, hk⟩ <;> clear HC
  · have t : (x : Int) = 0 := by omega
    have K := Lib.hid hk
    clear hk hx e2
    rw [t]
    go_wp2
    go_ret2
    exact ⟨by rw [K.out]; rfl, rfl⟩
  · have t : (x : Int) = 1 := by omega
    have K := Lib.hid hk
    clear hk hx e2
    rw [t]
    have t1 : ¬ (1 : Int) = (p : Int) - 1 := by omega
    go_wp2
    go_ret2
    exact ⟨by rw [K.out]; rfl, rfl⟩
  · have t1 : (x : Int) = (p : Int) - 1 := by omega
    have K := Lib.hid hk
    clear hk hx e2
    rw [t1]
    go_wp2
    go_ret2
    exact ⟨by rw [K.out]; rfl, rfl⟩
theorem implKindNo (a p : Int) (w : World) (h : okR a p = false) :
    Calls Try.prog 20 #[.int .i64 a, .int .i64 p] w fun e w' => e = .returned (.tuple #[.int .i64 0, .bool false]) ∧ w = w' := by
  go_enter Try.func20, Try.ntmps20
  go_wp2_with fail
  refine (isResidue _ _ _).mono ?_
  rintro e w' ⟨rfl, rfl⟩
  rw [h]
  go_wp2
  go_ret2
  exact ⟨rfl, rfl⟩
theorem specKind (a p : Nat) (w : World) (hp : Pr p) (ha : a < p) :
    Calls Try.prog 19 #[.int .i64 a, .int .i64 p] w fun e w' => e = .returned (.tuple #[.int .i64 (kind a p), .bool true]) ∧ w = w' := by
  have E := Lib.hid (okR_of hp ha)
  go_enter Try.func19, Try.ntmps19
  go_wp2_with fail
  refine (l4Of _ _ _).mono ?_
  rintro e w' ⟨rfl, rfl⟩
  rw [E.out]
  go_wp2_with fail
  refine (l4Kind a p _ hp ha).mono ?_
  rintro e w' ⟨rfl, rfl⟩
  go_wp2
  go_ret2
  exact ⟨rfl, rfl⟩
theorem specKindNo (a p : Int) (w : World) (h : okR a p = false) :
    Calls Try.prog 19 #[.int .i64 a, .int .i64 p] w fun e w' => e = .returned (.tuple #[.int .i64 0, .bool false]) ∧ w = w' := by
  go_enter Try.func19, Try.ntmps19
  go_wp2_with fail
  refine (l4Of _ _ _).mono ?_
  rintro e w' ⟨rfl, rfl⟩
  rw [h]
  go_wp2
  go_ret2
  exact ⟨rfl, rfl⟩
theorem okR_no {a p : Int} (h : ¬ okR a p = false) : okR a p = true := by cases e : okR a p <;> simp_all
namespace K
theorem walk (a0 a1 : Int) (w0 : (Lit.int .i64 a0).wf = true) (w1 : (Lit.int .i64 a1).wf = true) (w : World) :
    Calls Try.prog 6 #[.int .i64 a0, .int .i64 a1] w fun e w' => e = .returned (.bool true) ∧ Below w.heap.size w w' := by
  by_cases h : okR a0 a1 = false
  · go_enter Try.func6, Try.ntmps6
    go_wp2_with fail
    refine (specKindNo _ _ _ h).mono ?_
    rintro e w' ⟨rfl, rfl⟩
    go_wp2_with fail
    refine (implKindNo _ _ _ h).mono ?_
    rintro e w' ⟨rfl, rfl⟩
    go_wp2
    go_ret
    exact ⟨rfl, Below.refl _ _⟩
  · obtain ⟨a, p, rfl, rfl, ha, hp⟩ := okR_yes (okR_no h)
    clear h
    go_enter Try.func6, Try.ntmps6
    go_wp2_with fail
    refine (specKind a p _ hp ha).mono ?_
    rintro e w' ⟨rfl, rfl⟩
    go_wp2_with fail
    refine (implKind a p _ hp ha).mono ?_
    rintro e w' ⟨rfl, rfl⟩
    go_wp2
    go_ret
    exact ⟨rfl, Below.refl _ _⟩
end K

/-- The least root of a modulo p. -/
structure Least (a p x : Nat) : Prop where
  lt : x < (p + 1) / 2
  eq : x * x % p = a
  low : ∀ y, y < x → y * y % p ≠ a
set_option maxHeartbeats 1000000 in
theorem l4RootYes (a p x : Nat) (w : World) (hp : Pr p) (ha : a < p) (hx : Least a p x) :
    Calls Try.prog 44 #[.int .i64 a, .int .i64 p] w fun e w' => e = .returned (.int .i64 x) ∧ w = w' := by
  have h3 := hp.ge; have h4 := hp.le; have hlt := hx.lt
  have hk : 0 ≤ kind a p := (kind_root hp a ha).2 ⟨x, by omega, hx.eq⟩
  go_enter Try.func44, Try.ntmps44
  go_wp2_with fail
  refine (l4Kind a p _ hp ha).mono ?_
  rintro e w' ⟨rfl, rfl⟩
  generalize kind a p = kd at *
  go_wp2
  go_loopw [5] (fun i wr => ∃ d : Nat, d ≤ x ∧ i = .int .i64 d ∧ w = wr) (fun i _ => x - (intOf i).toNat)
  case atStart => exact ⟨0, by omega, rfl, rfl⟩
  case round =>
    obtain ⟨d, hd, rfl, rfl⟩ := hrel
    have b0 := mul_bd d d p (by omega) (by omega) h4
    have md := mul_md d d p
    by_cases he : d = x
    · have t : (d : Int) * (d : Int) % (p : Int) = (a : Int) := by rw [md, he, hx.eq]
      have H := Lib.hid he
      have t3 : (d : Int) < ((p : Int) + 1) / 2 := by omega
      have t4 : (d : Int) < (p : Int) := by omega
      clear md he hx
      go_wp2
      go_ret
      exact ⟨by rw [← H.out]; rfl, rfl⟩
    · have t : ¬ (d : Int) * (d : Int) % (p : Int) = (a : Int) := by rw [md]; have := hx.low d (by omega); omega
      have t3 : (d : Int) < ((p : Int) + 1) / 2 := by omega
      have t4 : (d : Int) < (p : Int) := by omega
      clear md hx
      go_wp2
      go_roundw
      case rel => exact ⟨d + 1, by omega, by go_num, by first | rfl | trivial⟩
      case measure => simp [intOf]; omega
theorem l4RootNo (a p : Nat) (w : World) (hp : Pr p) (ha : a < p) (hx : ¬ ∃ x, x < p ∧ x * x % p = a) :
    Calls Try.prog 44 #[.int .i64 a, .int .i64 p] w fun e w' => e = .returned (.int .i64 (-1)) ∧ w = w' := by
  have hk : kind a p < 0 := by have := (kind_root hp a ha); have h : ¬ 0 ≤ kind a p := fun h => hx (this.1 h); omega
  go_enter Try.func44, Try.ntmps44
  go_wp2_with fail
  refine (l4Kind a p _ hp ha).mono ?_
  rintro e w' ⟨rfl, rfl⟩
  generalize kind a p = kd at *
  go_wp2
  go_ret
  exact ⟨rfl, rfl⟩
set_option maxHeartbeats 1000000 in
theorem implRootYes (a p x : Nat) (w : World) (hp : Pr p) (ha : a < p) (hx : Least a p x) :
    Calls Try.prog 22 #[.int .i64 a, .int .i64 p] w fun e w' => e = .returned (.tuple #[.int .i64 x, .bool true]) ∧ w = w' := by
  have h3 := hp.ge; have h4 := hp.le; have hlt := hx.lt
  have E := Lib.hid (okR_of hp ha)
  go_enter Try.func22, Try.ntmps22
  go_wp2_with fail
  refine (isResidue _ _ _).mono ?_
  rintro e w' ⟨rfl, rfl⟩
  rw [E.out]
  go_wp2
  go_loopw [14] (fun i wr => ∃ d : Nat, d ≤ x ∧ i = .int .i64 d ∧ w = wr) (fun i _ => x - (intOf i).toNat)
  case atStart => exact ⟨0, by omega, rfl, rfl⟩
  case round =>
    obtain ⟨d, hd, rfl, rfl⟩ := hrel
    have b0 := mul_bd d d p (by omega) (by omega) h4
    have md := mul_md d d p
    by_cases he : d = x
    · have t : (d : Int) * (d : Int) % (p : Int) = (a : Int) := by rw [md, he, hx.eq]
      have H := Lib.hid he
      have t3 : (d : Int) < ((p : Int) + 1) / 2 := by omega
      have t4 : (d : Int) < (p : Int) := by omega
      clear md he hx
      go_wp2
      go_ret2
      exact ⟨by rw [← H.out]; rfl, rfl⟩
    · have t : ¬ (d : Int) * (d : Int) % (p : Int) = (a : Int) := by rw [md]; have := hx.low d (by omega); omega
      have t3 : (d : Int) < ((p : Int) + 1) / 2 := by omega
      have t4 : (d : Int) < (p : Int) := by omega
      clear md hx
      go_wp2
      go_roundw
      case rel => exact ⟨d + 1, by omega, by go_num, by first | rfl | trivial⟩
      case measure => simp [intOf]; omega
set_option maxHeartbeats 1000000 in
theorem implRootNo (a p : Nat) (w : World) (hp : Pr p) (ha : a < p) (hx : ¬ ∃ x, x < p ∧ x * x % p = a) :
    Calls Try.prog 22 #[.int .i64 a, .int .i64 p] w fun e w' => e = .returned (.tuple #[.int .i64 0, .bool false]) ∧ w = w' := by
  have h3 := hp.ge; have h4 := hp.le
  have HX := Lib.hid hx
  clear hx
  have E := Lib.hid (okR_of hp ha)
  go_enter Try.func22, Try.ntmps22
  go_wp2_with fail
  refine (isResidue _ _ _).mono ?_
  rintro e w' ⟨rfl, rfl⟩
  rw [E.out]
  go_wp2
  go_loopw [14] (fun i wr => ∃ d : Nat, d ≤ (p + 1) / 2 ∧ i = .int .i64 d ∧ w = wr) (fun i _ => p - (intOf i).toNat)
  case atStart => exact ⟨0, by omega, rfl, rfl⟩
  case round =>
    obtain ⟨d, hd, rfl, rfl⟩ := hrel
    by_cases he : d < (p + 1) / 2
    · have b0 := mul_bd d d p (by omega) (by omega) h4
      have md := mul_md d d p
      have t : ¬ (d : Int) * (d : Int) % (p : Int) = (a : Int) := by rw [md]; have : ¬ d * d % p = a := fun h => HX.out ⟨d, by omega, h⟩; omega
      have t3 : (d : Int) < ((p : Int) + 1) / 2 := by omega
      clear md
      go_wp2
      go_roundw
      case rel => exact ⟨d + 1, by omega, by go_num, by first | rfl | trivial⟩
      case measure => simp [intOf]; omega
    · have t : ¬ (d : Int) < ((p : Int) + 1) / 2 := by omega
      go_wp2
      go_ret2
      exact ⟨rfl, rfl⟩
theorem implRootOut (a p : Int) (w : World) (h : okR a p = false) :
    Calls Try.prog 22 #[.int .i64 a, .int .i64 p] w fun e w' => e = .returned (.tuple #[.int .i64 0, .bool false]) ∧ w = w' := by
  go_enter Try.func22, Try.ntmps22
  go_wp2_with fail
  refine (isResidue _ _ _).mono ?_
  rintro e w' ⟨rfl, rfl⟩
  rw [h]
  go_wp2
  go_ret2
  exact ⟨rfl, rfl⟩
theorem specRootYes (a p x : Nat) (w : World) (hp : Pr p) (ha : a < p) (hx : Least a p x) :
    Calls Try.prog 21 #[.int .i64 a, .int .i64 p] w fun e w' => e = .returned (.tuple #[.int .i64 x, .bool true]) ∧ w = w' := by
  have E := Lib.hid (okR_of hp ha)
  go_enter Try.func21, Try.ntmps21
  go_wp2_with fail
  refine (l4Of _ _ _).mono ?_
  rintro e w' ⟨rfl, rfl⟩
  rw [E.out]
  go_wp2_with fail
  refine (l4RootYes a p x _ hp ha hx).mono ?_
  rintro e w' ⟨rfl, rfl⟩
  go_wp2
  go_ret2
  exact ⟨rfl, rfl⟩
theorem specRootNo (a p : Nat) (w : World) (hp : Pr p) (ha : a < p) (hx : ¬ ∃ x, x < p ∧ x * x % p = a) :
    Calls Try.prog 21 #[.int .i64 a, .int .i64 p] w fun e w' => e = .returned (.tuple #[.int .i64 0, .bool false]) ∧ w = w' := by
  have E := Lib.hid (okR_of hp ha)
  go_enter Try.func21, Try.ntmps21
  go_wp2_with fail
  refine (l4Of _ _ _).mono ?_
  rintro e w' ⟨rfl, rfl⟩
  rw [E.out]
  go_wp2_with fail
  refine (l4RootNo a p _ hp ha hx).mono ?_
  rintro e w' ⟨rfl, rfl⟩
  go_wp2
  go_ret2
  exact ⟨rfl, rfl⟩
theorem specRootOut (a p : Int) (w : World) (h : okR a p = false) :
    Calls Try.prog 21 #[.int .i64 a, .int .i64 p] w fun e w' => e = .returned (.tuple #[.int .i64 0, .bool false]) ∧ w = w' := by
  go_enter Try.func21, Try.ntmps21
  go_wp2_with fail
  refine (l4Of _ _ _).mono ?_
  rintro e w' ⟨rfl, rfl⟩
  rw [h]
  go_wp2
  go_ret2
  exact ⟨rfl, rfl⟩
namespace R
theorem walk (a0 a1 : Int) (w0 : (Lit.int .i64 a0).wf = true) (w1 : (Lit.int .i64 a1).wf = true) (w : World) :
    Calls Try.prog 7 #[.int .i64 a0, .int .i64 a1] w fun e w' => e = .returned (.bool true) ∧ Below w.heap.size w w' := by
  by_cases h : okR a0 a1 = false
  · go_enter Try.func7, Try.ntmps7
    go_wp2_with fail
    refine (specRootOut _ _ _ h).mono ?_
    rintro e w' ⟨rfl, rfl⟩
    go_wp2_with fail
    refine (implRootOut _ _ _ h).mono ?_
    rintro e w' ⟨rfl, rfl⟩
    go_wp2
    go_ret
    exact ⟨rfl, Below.refl _ _⟩
  · obtain ⟨a, p, rfl, rfl, ha, hp⟩ := okR_yes (okR_no h)
    clear h
    by_cases hx : ∃ x, x < p ∧ x * x % p = a
    · obtain ⟨x, h1, h2, h3⟩ := root_low hp a hx
      clear hx
      have L : Least a p x := ⟨h1, h2, h3⟩
      clear h2 h3
      go_enter Try.func7, Try.ntmps7
      go_wp2_with fail
      refine (specRootYes a p x _ hp ha L).mono ?_
      rintro e w' ⟨rfl, rfl⟩
      go_wp2_with fail
      refine (implRootYes a p x _ hp ha L).mono ?_
      rintro e w' ⟨rfl, rfl⟩
      go_wp2
      go_ret
      exact ⟨rfl, Below.refl _ _⟩
    · go_enter Try.func7, Try.ntmps7
      go_wp2_with fail
      refine (specRootNo a p _ hp ha hx).mono ?_
      rintro e w' ⟨rfl, rfl⟩
      go_wp2_with fail
      refine (implRootNo a p _ hp ha hx).mono ?_
      rintro e w' ⟨rfl, rfl⟩
      clear hx
      go_wp2
      go_ret
      exact ⟨rfl, Below.refl _ _⟩
end R
end Go.Proofs.Ytgjopljpmakhmaa.Kind
