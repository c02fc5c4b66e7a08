/-
  Powers modulo a prime: contracts of the program's and the reference's powers, and the walks of the laws on PowerMod and InverseMod.
-/
import Derived.Test.YtfoclgijhkibeabDoorMod
namespace Go.Proofs.YtfoclgijhkibeabDoor.Pow
open Go.ChangeShapes Go.WideShapes Go.ChangeAt Go.RowKit
open Go.Proofs.YtfoclgijhkibeabDoor.Mem Go.Proofs.YtfoclgijhkibeabDoor.Num Go.Proofs.YtfoclgijhkibeabDoor.Mod
set_option linter.unusedVariables false
set_option maxRecDepth 100000

theorem mul_bd (x y p : Nat) (hx : x < p) (hy : y < p) (hp : p ≤ 10007) : 0 ≤ (x : Int) * (y : Int) ∧ (x : Int) * (y : Int) ≤ 100140049 := by
  have := Nat.mul_le_mul (show x ≤ 10007 by omega) (show y ≤ 10007 by omega)
  rw [← Int.natCast_mul]; omega
theorem mul_md (x y p : Nat) : (x : Int) * (y : Int) % (p : Int) = ((x * y % p : Nat) : Int) := by push_cast; rfl
theorem halves (n a k p : Nat) : (if k % 2 = 1 then n * a % p else n) * (a * a % p) ^ (k / 2) % p = n * a ^ k % p := by
  have e : (a * a) ^ (k / 2) = a ^ (2 * (k / 2)) := by rw [← Nat.pow_two, ← Nat.pow_mul]
  split
  · rename_i h
    rw [Nat.mul_mod, pow_mod', Nat.mod_mod, ← Nat.mul_mod, e, Nat.mul_assoc, ← Nat.pow_succ', show (2 * (k / 2)).succ = k by omega]
  · rename_i h
    rw [Nat.mul_mod, pow_mod', ← Nat.mul_mod, e, show 2 * (k / 2) = k by omega]
theorem halves1 (n a k p : Nat) (h : k % 2 = 1) : n * a % p * (a * a % p) ^ (k / 2) % p = n * a ^ k % p := by have := halves n a k p; rw [if_pos h] at this; exact this
theorem halves0 (n a k p : Nat) (h : ¬ k % 2 = 1) : n * (a * a % p) ^ (k / 2) % p = n * a ^ k % p := by have := halves n a k p; rw [if_neg h] at this; exact this

set_option maxHeartbeats 1000000 in
theorem l4Power (a k p : Nat) (w : World) (h3 : 3 ≤ p) (hp : p ≤ 10007) (ha : a < p) (hk : k ≤ 1000000000) :
    Calls Tryd.prog 118 #[.int .i64 a, .int .i64 k, .int .i64 p] w fun e w' => e = .returned (.int .i64 ((a ^ k % p : Nat) : Int)) ∧ w = w' := by
  go_enter Tryd.func118, Tryd.ntmps118
  go_wp2
  go_loopw [0, 1, 7] (fun va vk vn wr => ∃ x j n : Nat, x < p ∧ n < p ∧ j ≤ 1000000000 ∧ va = .int .i64 x ∧ vk = .int .i64 j ∧ vn = .int .i64 n ∧ Hid (n * x ^ j % p = a ^ k % p) ∧ w = wr) (fun _ vk _ _ => (intOf vk).toNat)
  case atStart => exact ⟨a, k, 1, ha, by omega, hk, rfl, rfl, rfl, Lib.hid (by rw [Nat.one_mul]), rfl⟩
  case round =>
    obtain ⟨x, j, n, hx, hn, hj, rfl, rfl, rfl, E, rfl⟩ := hrel
    have b0 := mul_bd x x p hx hx hp
    have b1 := mul_bd n x p hn hx hp
    by_cases hz : 0 < j
    · by_cases h1 : j % 2 = 1
      · have t1 : (j : Int) % 2 = 1 := by omega
        go_wp2
        go_roundw
        case rel => exact ⟨x * x % p, j / 2, n * x % p, Nat.mod_lt _ (by omega), Nat.mod_lt _ (by omega), by omega, by rw [mul_md], by go_num, by rw [mul_md], Lib.hid (by rw [halves1 _ _ _ _ h1]; exact E.out), by first | rfl | trivial⟩
        case measure => simp [intOf]; omega
      · have t1 : ¬ (j : Int) % 2 = 1 := by omega
        go_wp2
        go_roundw
        case rel => exact ⟨x * x % p, j / 2, n, Nat.mod_lt _ (by omega), hn, by omega, by rw [mul_md], by go_num, rfl, Lib.hid (by rw [halves0 _ _ _ _ h1]; exact E.out), by first | rfl | trivial⟩
        case measure => simp [intOf]; omega
    · obtain rfl : j = 0 := by omega
      have E2 : n = a ^ k % p := by rw [← E.out, Nat.pow_zero, Nat.mul_one, Nat.mod_eq_of_lt hn]
      go_wp2
      go_ret
      exact ⟨by rw [← E2]; rfl, rfl⟩
set_option maxHeartbeats 1000000 in
theorem powerOf (a k p : Nat) (w : World) (h3 : 3 ≤ p) (hp : p ≤ 10007) (ha : a < p) (hk : k ≤ 1000000000) :
    Calls Tryd.prog 106 #[.int .i64 a, .int .i64 k, .int .i64 p] w fun e w' => e = .returned (.int .i64 ((a ^ k % p : Nat) : Int)) ∧ w = w' := by
  go_enter Tryd.func106, Tryd.ntmps106
  go_wp2
  refine wp_scope_jumps 0 (fun a' w' => w' = w ∧ ∃ (x j n : Nat) (u8 u9 u10 u11 u12 u13 u14 u15 u16 u17 u18 u19 u20 u21 u22 u23 u24 : Value), a' = { tmps := #[.int .i64 x, .int .i64 j, .int .i64 p, undef, undef, undef, .int .i64 0, .int .i64 n, u8, u9, u10, u11, u12, u13, u14, u15, u16, u17, u18, u19, u20, u21, u22, u23, u24, undef], defers := [] } ∧ x < p ∧ n < p ∧ j ≤ 1000000000 ∧ Hid (n * x ^ j % p = a ^ k % p)) (fun a' _ => (intOf (a'.tmps.getD 1 undef)).toNat) rfl ?_ ?_
  · have b0 := mul_bd a a p ha ha hp
    have b1 := mul_bd 1 a p (by omega) ha hp
    by_cases h1 : k % 2 = 1
    · have t1 : ((k : Int) % 2 = 1) := by omega
      by_cases h2 : 0 < (k : Int) / 2
      · have t2 : (0 < (k : Int) / 2) := by omega
        go_wp2
        go_step3
        go_wp2
        go_step3
        refine ⟨rfl, ?_⟩
        exact ⟨rfl, a * a % p, k / 2, a % p, _, _, _, _, _, _, _, _, _, _, _, _, _, _, _, _, _, by first | rfl | (simp only [mul_md]; rfl) | (simp; done), Nat.mod_lt _ (by omega), Nat.mod_lt _ (by omega), by omega, Lib.hid (by have F := halves1 1 a k p h1; rw [Nat.one_mul, Nat.one_mul] at F; exact F)⟩
      · have t2 : ¬ (0 < (k : Int) / 2) := by omega
        go_wp2
        go_step3
        go_wp2
        try simp only [Exit.jump]
        try rw [Exit.noGoto_ret]
        go_ret
        have hj0 : k / 2 = 0 := by omega
        have F := halves1 1 a k p h1
        rw [hj0, Nat.pow_zero, Nat.mul_one] at F
        rw [Nat.one_mul (a ^ k)] at F
        rw [Nat.mod_mod] at F
        refine ⟨?_, rfl⟩
        rw [← F]
        first | rfl | exact ret_int (mul_md _ _ _) | (simp; done)
    · have t1 : ¬ ((k : Int) % 2 = 1) := by omega
      by_cases h2 : 0 < (k : Int) / 2
      · have t2 : (0 < (k : Int) / 2) := by omega
        go_wp2
        go_step3
        go_wp2
        go_step3
        refine ⟨rfl, ?_⟩
        exact ⟨rfl, a * a % p, k / 2, 1, _, _, _, _, _, _, _, _, _, _, _, _, _, _, _, _, _, by first | rfl | (simp only [mul_md]; rfl) | (simp; done), Nat.mod_lt _ (by omega), by omega, by omega, Lib.hid (by rw [halves0 _ _ _ _ h1]; rw [Nat.one_mul])⟩
      · have t2 : ¬ (0 < (k : Int) / 2) := by omega
        go_wp2
        go_step3
        go_wp2
        try simp only [Exit.jump]
        try rw [Exit.noGoto_ret]
        go_ret
        have hj0 : k / 2 = 0 := by omega
        have F := halves0 1 a k p h1
        rw [hj0, Nat.pow_zero, Nat.mul_one] at F
        rw [Nat.one_mul] at F
        refine ⟨?_, rfl⟩
        rw [← F]
        first | rfl | (rw [Nat.mod_eq_of_lt (by omega)]; rfl) | (simp; done)
  · rintro a' w' ⟨rfl, x, j, n, u8, u9, u10, u11, u12, u13, u14, u15, u16, u17, u18, u19, u20, u21, u22, u23, u24, rfl, hx, hn, hj, E⟩
    have b0 := mul_bd x x p hx hx hp
    have b1 := mul_bd n x p hn hx hp
    by_cases h1 : j % 2 = 1
    · have t1 : ((j : Int) % 2 = 1) := by omega
      by_cases h2 : 0 < (j : Int) / 2
      · have t2 : (0 < (j : Int) / 2) := by omega
        go_wp2
        go_step3
        refine ⟨rfl, ⟨rfl, x * x % p, j / 2, n * x % p, _, _, _, _, _, _, _, _, _, _, _, _, _, _, _, _, _, by first | rfl | (simp only [mul_md]; rfl) | (simp; done), Nat.mod_lt _ (by omega), Nat.mod_lt _ (by omega), by omega, Lib.hid (by rw [halves1 _ _ _ _ h1]; exact E.out)⟩, ?_⟩
        simp [intOf]; omega
      · have t2 : ¬ (0 < (j : Int) / 2) := by omega
        go_wp2
        try simp only [Exit.jump]
        try rw [Exit.noGoto_ret]
        go_ret
        have hj0 : j / 2 = 0 := by omega
        have F := halves1 n x j p h1
        rw [hj0, Nat.pow_zero, Nat.mul_one] at F
        rw [E.out] at F
        rw [Nat.mod_mod] at F
        refine ⟨?_, rfl⟩
        rw [← F]
        first | rfl | exact ret_int (mul_md _ _ _) | (simp; done)
    · have t1 : ¬ ((j : Int) % 2 = 1) := by omega
      by_cases h2 : 0 < (j : Int) / 2
      · have t2 : (0 < (j : Int) / 2) := by omega
        go_wp2
        go_step3
        refine ⟨rfl, ⟨rfl, x * x % p, j / 2, n, _, _, _, _, _, _, _, _, _, _, _, _, _, _, _, _, _, by first | rfl | (simp only [mul_md]; rfl) | (simp; done), Nat.mod_lt _ (by omega), hn, by omega, Lib.hid (by rw [halves0 _ _ _ _ h1]; exact E.out)⟩, ?_⟩
        simp [intOf]; omega
      · have t2 : ¬ (0 < (j : Int) / 2) := by omega
        go_wp2
        try simp only [Exit.jump]
        try rw [Exit.noGoto_ret]
        go_ret
        have hj0 : j / 2 = 0 := by omega
        have F := halves0 n x j p h1
        rw [hj0, Nat.pow_zero, Nat.mul_one] at F
        rw [E.out] at F
        refine ⟨?_, rfl⟩
        rw [← F]
        first | rfl | (rw [Nat.mod_eq_of_lt (by omega)]; rfl) | (simp; done)


theorem zero_of (a : Int) : (decide (a = 0)) = (a == 0) := rfl
theorem l4Inverse (a p : Nat) (w : World) (hp : Pr p) (ha : a < p) :
    Calls Tryd.prog 64 #[.int .i64 a, .int .i64 p] w fun e w' => e = .returned (.int .i64 ((a ^ (p - 2) % p : Nat) : Int)) ∧ w = w' := by
  have h3 := hp.ge; have h4 := hp.le
  have e2 : (p : Int) - 2 = ((p - 2 : Nat) : Int) := by omega
  go_enter Tryd.func64, Tryd.ntmps64
  go_wp2_with fail
  refine (l4Power a (p - 2) p _ h3 h4 ha (by omega)).mono ?_
  rintro e w' ⟨rfl, rfl⟩
  go_wp2
  go_ret
  exact ⟨rfl, rfl⟩
theorem implInverse (a p : Nat) (w : World) (hp : Pr p) (ha : a < p) (h0 : 0 < a) :
    Calls Tryd.prog 58 #[.int .i64 a, .int .i64 p] w fun e w' => e = .returned (.tuple #[.int .i64 ((a ^ (p - 2) % p : Nat) : Int), .bool true]) ∧ w = w' := by
  have h3 := hp.ge; have h4 := hp.le
  have E : Hid (okR a p = true) := Lib.hid (by rw [okR, okP_of hp]; simp; omega)
  have e2 : (p : Int) - 2 = ((p - 2 : Nat) : Int) := by omega
  go_enter Tryd.func58, Tryd.ntmps58
  go_wp2_with fail
  refine (isResidue _ _ _).mono ?_
  rintro e w' ⟨rfl, rfl⟩
  rw [E.out]
  go_wp2_with fail
  refine (powerOf a (p - 2) p _ h3 h4 ha (by omega)).mono ?_
  rintro e w' ⟨rfl, rfl⟩
  go_wp2
  go_ret2
  exact ⟨rfl, rfl⟩
theorem implInverseNo (a p : Int) (w : World) (h : okR a p = false ∨ a = 0) :
    Calls Tryd.prog 58 #[.int .i64 a, .int .i64 p] w fun e w' => e = .returned (.tuple #[.int .i64 0, .bool false]) ∧ w = w' := by
  go_enter Tryd.func58, Tryd.ntmps58
  go_wp2_with fail
  refine (isResidue _ _ _).mono ?_
  rintro e w' ⟨rfl, rfl⟩
  generalize okR a p = b at *
  cases b
  · go_wp2
    go_ret2
    exact ⟨rfl, rfl⟩
  · have h' : a = 0 := by simpa using h
    go_wp2
    go_ret2
    exact ⟨rfl, rfl⟩
end Go.Proofs.YtfoclgijhkibeabDoor.Pow
