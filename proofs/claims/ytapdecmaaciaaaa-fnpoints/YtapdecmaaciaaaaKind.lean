/-
  Legendre symbols and square roots modulo a prime: contracts, and the walks of the laws on SquareKind and RootMod.
-/
import Derived.Test.YtapdecmaaciaaaaPow
namespace Go.Proofs.Ytapdecmaaciaaaa.Kind
open Go.ChangeShapes Go.WideShapes Go.ChangeAt Go.RowKit
open Go.Proofs.Ytapdecmaaciaaaa.Mem Go.Proofs.Ytapdecmaaciaaaa.Num Go.Proofs.Ytapdecmaaciaaaa.Mod Go.Proofs.Ytapdecmaaciaaaa.Pow
set_option linter.unusedVariables false
set_option maxRecDepth 100000

theorem okR_of {a p : Nat} (hp : Pr p) (ha : a < p) : okR a p = true := by rw [okR, okP_of hp]; simp; omega
theorem l4Kind (a p : Nat) (w : World) (hp : Pr p) (ha : a < p) :
    Calls Try.prog 46 #[.int .i64 a, .int .i64 p] w fun e w' => e = .returned (.int .i64 (kind a p)) ∧ w = w' := by
  have h3 := hp.ge; have h4 := hp.le
  have e2 : ((p : Int) - 1) / 2 = (((p - 1) / 2 : Nat) : Int) := by omega
  have C := half_cases hp a ha
  have L : (a ^ ((p - 1) / 2) % p) < p := Nat.mod_lt _ (by omega)
  have HC := Lib.hid C
  clear C
  go_enter Try.func46, Try.ntmps46
  go_wp2_with fail
  refine (l4Power a ((p - 1) / 2) p _ h3 h4 ha (by omega)).mono ?_
  rintro e w' ⟨rfl, rfl⟩
  generalize a ^ ((p - 1) / 2) % p = x at *
  rcases HC.out with ⟨_, hx, hk⟩ | ⟨_, hx, hk⟩ | ⟨_, hx, hk⟩ <;> clear HC
  · have t : (x : Int) = 0 := by omega
    have K := Lib.hid hk
    clear hk hx e2
    rw [t]
    go_wp2
    go_ret
    exact ⟨by rw [K.out]; rfl, rfl⟩
  · have t : (x : Int) = 1 := by omega
    have K := Lib.hid hk
    clear hk hx e2
    rw [t]
    go_wp2
    go_ret
    exact ⟨by rw [K.out]; rfl, rfl⟩
  · have t0 : ¬ (x : Int) = 0 := by omega
    have t1 : ¬ (x : Int) = 1 := by omega
    have K := Lib.hid hk
    clear hk hx e2
    go_wp2
    go_ret
    exact ⟨by rw [K.out]; rfl, rfl⟩
theorem implKind (a p : Nat) (w : World) (hp : Pr p) (ha : a < p) :
    Calls Try.prog 47 #[.int .i64 a, .int .i64 p] w fun e w' => e = .returned (.tuple #[.int .i64 (kind a p), .bool true]) ∧ w = w' := by
  have h3 := hp.ge; have h4 := hp.le
  have e2 : ((p : Int) - 1) / 2 = (((p - 1) / 2 : Nat) : Int) := by omega
  have C := half_cases hp a ha
  have L : (a ^ ((p - 1) / 2) % p) < p := Nat.mod_lt _ (by omega)
  have HC := Lib.hid C
  clear C
  have E := Lib.hid (okR_of hp ha)
  go_enter Try.func47, Try.ntmps47
  go_wp2_with fail
  refine (isResidue _ _ _).mono ?_
  rintro e w' ⟨rfl, rfl⟩
  rw [E.out]
  go_wp2_with fail
  refine (powerOf a ((p - 1) / 2) p _ h3 h4 ha (by omega)).mono ?_
  rintro e w' ⟨rfl, rfl⟩
  generalize a ^ ((p - 1) / 2) % p = x at *
  rcases HC.out with ⟨_, hx, hk⟩ | ⟨_, hx, hk⟩ | ⟨_, hx, hk⟩ <;> clear HC
  · have t : (x : Int) = 0 := by omega
    have K := Lib.hid hk
    clear hk hx e2
    rw [t]
    go_wp2
    go_ret2
    exact ⟨by rw [K.out]; rfl, rfl⟩
  · have t : (x : Int) = 1 := by omega
    have K := Lib.hid hk
    clear hk hx e2
    rw [t]
    have t1 : ¬ (1 : Int) = (p : Int) - 1 := by omega
    go_wp2
    go_ret2
    exact ⟨by rw [K.out]; rfl, rfl⟩
  · have t1 : (x : Int) = (p : Int) - 1 := by omega
    have K := Lib.hid hk
    clear hk hx e2
    rw [t1]
    go_wp2
    go_ret2
    exact ⟨by rw [K.out]; rfl, rfl⟩
theorem implKindNo (a p : Int) (w : World) (h : okR a p = false) :
    Calls Try.prog 47 #[.int .i64 a, .int .i64 p] w fun e w' => e = .returned (.tuple #[.int .i64 0, .bool false]) ∧ w = w' := by
  go_enter Try.func47, Try.ntmps47
  go_wp2_with fail
  refine (isResidue _ _ _).mono ?_
  rintro e w' ⟨rfl, rfl⟩
  rw [h]
  go_wp2
  go_ret2
  exact ⟨rfl, rfl⟩
theorem okR_no {a p : Int} (h : ¬ okR a p = false) : okR a p = true := by cases e : okR a p <;> simp_all

/-- The least root of a modulo p. -/
structure Least (a p x : Nat) : Prop where
  lt : x < (p + 1) / 2
  eq : x * x % p = a
  low : ∀ y, y < x → y * y % p ≠ a
set_option maxHeartbeats 1000000 in
theorem implRootYes (a p x : Nat) (w : World) (hp : Pr p) (ha : a < p) (hx : Least a p x) :
    Calls Try.prog 63 #[.int .i64 a, .int .i64 p] w fun e w' => e = .returned (.tuple #[.int .i64 x, .bool true]) ∧ w = w' := by
  have h3 := hp.ge; have h4 := hp.le; have hlt := hx.lt
  have E := Lib.hid (okR_of hp ha)
  go_enter Try.func63, Try.ntmps63
  go_wp2_with fail
  refine (isResidue _ _ _).mono ?_
  rintro e w' ⟨rfl, rfl⟩
  rw [E.out]
  go_wp2
  go_loopw [14] (fun i wr => ∃ d : Nat, d ≤ x ∧ i = .int .i64 d ∧ w = wr) (fun i _ => x - (intOf i).toNat)
  case atStart => exact ⟨0, by omega, rfl, rfl⟩
  case round =>
    obtain ⟨d, hd, rfl, rfl⟩ := hrel
    have b0 := mul_bd d d p (by omega) (by omega) h4
    have md := mul_md d d p
    by_cases he : d = x
    · have t : (d : Int) * (d : Int) % (p : Int) = (a : Int) := by rw [md, he, hx.eq]
      have H := Lib.hid he
      have t3 : (d : Int) < ((p : Int) + 1) / 2 := by omega
      have t4 : (d : Int) < (p : Int) := by omega
      clear md he hx
      go_wp2
      go_ret2
      exact ⟨by rw [← H.out]; rfl, rfl⟩
    · have t : ¬ (d : Int) * (d : Int) % (p : Int) = (a : Int) := by rw [md]; have := hx.low d (by omega); omega
      have t3 : (d : Int) < ((p : Int) + 1) / 2 := by omega
      have t4 : (d : Int) < (p : Int) := by omega
      clear md hx
      go_wp2
      go_roundw
      case rel => exact ⟨d + 1, by omega, by go_num, by first | rfl | trivial⟩
      case measure => simp [intOf]; omega
set_option maxHeartbeats 1000000 in
theorem implRootNo (a p : Nat) (w : World) (hp : Pr p) (ha : a < p) (hx : ¬ ∃ x, x < p ∧ x * x % p = a) :
    Calls Try.prog 63 #[.int .i64 a, .int .i64 p] w fun e w' => e = .returned (.tuple #[.int .i64 0, .bool false]) ∧ w = w' := by
  have h3 := hp.ge; have h4 := hp.le
  have HX := Lib.hid hx
  clear hx
  have E := Lib.hid (okR_of hp ha)
  go_enter Try.func63, Try.ntmps63
  go_wp2_with fail
  refine (isResidue _ _ _).mono ?_
  rintro e w' ⟨rfl, rfl⟩
  rw [E.out]
  go_wp2
  go_loopw [14] (fun i wr => ∃ d : Nat, d ≤ (p + 1) / 2 ∧ i = .int .i64 d ∧ w = wr) (fun i _ => p - (intOf i).toNat)
  case atStart => exact ⟨0, by omega, rfl, rfl⟩
  case round =>
    obtain ⟨d, hd, rfl, rfl⟩ := hrel
    by_cases he : d < (p + 1) / 2
    · have b0 := mul_bd d d p (by omega) (by omega) h4
      have md := mul_md d d p
      have t : ¬ (d : Int) * (d : Int) % (p : Int) = (a : Int) := by rw [md]; have : ¬ d * d % p = a := fun h => HX.out ⟨d, by omega, h⟩; omega
      have t3 : (d : Int) < ((p : Int) + 1) / 2 := by omega
      clear md
      go_wp2
      go_roundw
      case rel => exact ⟨d + 1, by omega, by go_num, by first | rfl | trivial⟩
      case measure => simp [intOf]; omega
    · have t : ¬ (d : Int) < ((p : Int) + 1) / 2 := by omega
      go_wp2
      go_ret2
      exact ⟨rfl, rfl⟩
theorem implRootOut (a p : Int) (w : World) (h : okR a p = false) :
    Calls Try.prog 63 #[.int .i64 a, .int .i64 p] w fun e w' => e = .returned (.tuple #[.int .i64 0, .bool false]) ∧ w = w' := by
  go_enter Try.func63, Try.ntmps63
  go_wp2_with fail
  refine (isResidue _ _ _).mono ?_
  rintro e w' ⟨rfl, rfl⟩
  rw [h]
  go_wp2
  go_ret2
  exact ⟨rfl, rfl⟩
end Go.Proofs.Ytapdecmaaciaaaa.Kind
