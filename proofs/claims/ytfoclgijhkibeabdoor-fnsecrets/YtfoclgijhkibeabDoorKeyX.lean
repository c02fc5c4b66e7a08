/-
  Secrets and keys: contracts of both sides, and the walks of the laws on KeyFor and IsKey.
-/
import Derived.Test.YtfoclgijhkibeabDoorNum2X
import Derived.Test.YtfoclgijhkibeabDoorPow
namespace Go.Proofs.YtfoclgijhkibeabDoor.Sch
open Go.Proofs.YtfoclgijhkibeabDoor.Num
set_option linter.unusedVariables false

theorem pr_small : Pr 1013 := ⟨by decide +kernel, by omega, by omega⟩
theorem pr_big : Pr 2027 := ⟨by decide +kernel, by omega, by omega⟩
def pw (a k : Nat) : Nat := a ^ k % 2027
theorem pw_lt (a k : Nat) : pw a k < 2027 := Nat.mod_lt _ (by omega)
theorem base_q : 4 ^ 1013 % 2027 = 1 := by decide +kernel
def keysB : Bool := (List.range 1013).all fun n => Nat.beq n 0 || (Nat.ble 2 (Nat.pow 4 n % 2027))
theorem keys_all : keysB = true := by decide +kernel
theorem pw_ge (n : Nat) (h1 : 1 ≤ n) (h2 : n ≤ 1012) : 2 ≤ pw 4 n := by
  have h := keys_all
  unfold keysB at h
  rw [List.all_eq_true] at h
  have h' := h n (by simp; omega)
  rw [Bool.or_eq_true] at h'
  rcases h' with h' | h'
  · have := Nat.eq_of_beq_eq_true h'; omega
  · exact Nat.le_of_ble_eq_true h'
theorem pow_q (a n q p : Nat) (hp : 2 ≤ p) (h : a ^ q % p = 1) : (a ^ n % p) ^ q % p = 1 := by
  rw [pow_mod', ← Nat.pow_mul, Nat.mul_comm]
  exact pow_mul_one a q n p hp h
theorem pw_q' (n q : Nat) (h : 4 ^ q % 2027 = 1) : pw (pw 4 n) q = 1 := pow_q 4 n q 2027 (by omega) h
theorem pw_q (n : Nat) : pw (pw 4 n) 1013 = 1 := pw_q' n 1013 base_q
theorem pw_mod (k : Nat) : pw 4 (k % 1013) = pw 4 k := (pow_rem 4 1013 k 2027 (by omega) base_q).symm
/-- What is signed verifies. -/
theorem verify (n m e : Nat) : pw 4 ((m + e * n) % 1013) = pw 4 m * pw (pw 4 n) e % 2027 := by
  rw [pw_mod]
  unfold pw
  rw [pow_mod', ← Nat.pow_mul, ← Nat.mul_mod, ← Nat.pow_add, Nat.mul_comm n e]
theorem sub_mod (a b c d : Nat) (hc : c < 1013) (hd : d < 1013) (ha : a % 1013 = c) (hb : b % 1013 = d) (x : Nat) (h : x + b = a) : x % 1013 = (c + 1013 - d) % 1013 := by omega
theorem undo (d n k q : Nat) (hq : 2 ≤ q) (h : d ^ (k + 1) % q = 1) (hn : n < q) : d * n % q * (d ^ k % q) % q = n := by
  rw [← Nat.mul_mod]
  have e1 : d * n * d ^ k = d ^ (k + 1) * n := by rw [Nat.pow_succ, Nat.mul_comm d n, Nat.mul_assoc, Nat.mul_comm n, Nat.mul_comm d]
  rw [e1, Nat.mul_mod, h, Nat.one_mul, Nat.mod_mod]
  exact Nat.mod_eq_of_lt hn
/-- Two signatures with one nonce tell the secret. -/
theorem tell (n m e f : Nat) (hn1 : n ≤ 1012) (he : e < 1013) (hf : f < 1013) (hne : e ≠ f) :
    ((m + e * n) % 1013 + 1013 - (m + f * n) % 1013) % 1013 * (((e + 1013 - f) % 1013) ^ 1011 % 1013) % 1013 = n := by
  have hd0 : 0 < (e + 1013 - f) % 1013 := by omega
  have hd1 : (e + 1013 - f) % 1013 < 1013 := Nat.mod_lt _ (by omega)
  have hF := fermat pr_small ((e + 1013 - f) % 1013) hd0 hd1
  rw [show (1013 - 1 : Nat) = 1011 + 1 from rfl] at hF
  have hM : ((m + e * n) % 1013 + 1013 - (m + f * n) % 1013) % 1013 = (e + 1013 - f) % 1013 * n % 1013 := by
    have key : (e + 1013 - f) * n + (m + f * n) = m + e * n + 1013 * n := by
      have h1 : (e + 1013 - f) * n + f * n = (e + 1013) * n := by rw [← Nat.add_mul]; congr 1; omega
      have h2 : (e + 1013) * n = e * n + 1013 * n := Nat.add_mul _ _ _
      omega
    have k2 : (e + 1013 - f) % 1013 * n % 1013 = (e + 1013 - f) * n % 1013 := by rw [Nat.mul_mod, Nat.mod_mod, ← Nat.mul_mod]
    rw [k2]
    generalize (e + 1013 - f) * n = x at *
    generalize m + e * n = a at *
    generalize m + f * n = b at *
    have : x + b = a + 1013 * n := key
    omega
  rw [hM]
  generalize (e + 1013 - f) % 1013 = d at *
  exact undo d n 1011 1013 (by omega) hF (by omega)
theorem tell_same (m n : Nat) (e f : Nat) (he : e < 1013) (hf : f < 1013) : (e + 1013 - f) % 1013 = 0 ↔ e = f := by omega
end Go.Proofs.YtfoclgijhkibeabDoor.Sch

namespace Go.Proofs.YtfoclgijhkibeabDoor.Key
open Go.ChangeShapes Go.WideShapes Go.ChangeAt Go.RowKit
open Go.Proofs.YtfoclgijhkibeabDoor.Mem Go.Proofs.YtfoclgijhkibeabDoor.Num Go.Proofs.YtfoclgijhkibeabDoor.Mod Go.Proofs.YtfoclgijhkibeabDoor.Pow Go.Proofs.YtfoclgijhkibeabDoor.Sch
set_option linter.unusedVariables false
set_option maxRecDepth 100000

/-- A secret or a nonce. -/
def okS (n : Int) : Bool := decide (1 ≤ n) && decide (n ≤ 1012)
theorem okS_yes {n : Int} (h : okS n = true) : ∃ k : Nat, n = k ∧ 1 ≤ k ∧ k ≤ 1012 := by
  simp only [okS, Bool.and_eq_true, decide_eq_true_eq] at h
  exact ⟨n.toNat, by omega, by omega, by omega⟩
theorem okS_of {n : Nat} (h1 : 1 ≤ n) (h2 : n ≤ 1012) : okS n = true := by simp [okS]; omega
/-- A public key. -/
def okK (k : Int) : Bool := decide (2 ≤ k) && decide (k ≤ 2026) && decide (pw k.toNat 1013 = 1)
theorem okK_yes {k : Int} (h : okK k = true) : ∃ n : Nat, k = n ∧ 2 ≤ n ∧ n ≤ 2026 := by
  simp only [okK, Bool.and_eq_true, decide_eq_true_eq] at h
  exact ⟨k.toNat, by omega, by omega, by omega⟩
theorem okK_key {n : Nat} (h1 : 1 ≤ n) (h2 : n ≤ 1012) : okK (pw 4 n : Nat) = true := by
  have a := pw_ge n h1 h2
  have b := pw_lt 4 n
  have c := pw_q n
  simp only [okK, Bool.and_eq_true, decide_eq_true_eq, Int.toNat_natCast]
  exact ⟨⟨by omega, by omega⟩, c⟩

theorem isSecret (n : Int) (w : World) : Calls Tryd.prog 47 #[.int .i64 n] w fun e w' => e = .returned (.bool (okS n)) ∧ w = w' := by
  by_cases h0 : 1 ≤ n
  · have E : Hid (okS n = decide (n < 1013)) := Lib.hid (by simp [okS, h0]; omega)
    go_enter Tryd.func47, Tryd.ntmps47
    go_wp2
    go_ret
    exact ⟨by rw [E.out]; rfl, rfl⟩
  · have E : Hid (okS n = false) := Lib.hid (by simp [okS, h0])
    go_enter Tryd.func47, Tryd.ntmps47
    go_wp2
    go_ret
    exact ⟨by rw [E.out]; rfl, rfl⟩
theorem l6Secret (n : Int) (w : World) : Calls Tryd.prog 111 #[.int .i64 n] w fun e w' => e = .returned (.bool (okS n)) ∧ w = w' := by
  cases h : okS n
  · have h' : n < 1 ∨ 1012 < n := by simp only [okS, Bool.and_eq_false_iff, decide_eq_false_iff_not] at h; omega
    clear h
    go_enter Tryd.func111, Tryd.ntmps111
    go_wp2_with fail
    refine (inNo _ _ _ _ h').mono ?_
    rintro e w' ⟨rfl, rfl⟩
    go_wp2
    go_ret
    exact ⟨rfl, rfl⟩
  · obtain ⟨k, rfl, h1, h2⟩ := okS_yes h
    go_enter Tryd.func111, Tryd.ntmps111
    go_wp2_with fail
    refine (inYes _ _ _ _ (by omega) (by omega)).mono ?_
    rintro e w' ⟨rfl, rfl⟩
    go_wp2
    go_ret
    exact ⟨rfl, rfl⟩
theorem bigPower (a k : Nat) (w : World) (ha : a < 2027) (hk : k ≤ 1000000000) : Calls Tryd.prog 48 #[.int .i64 a, .int .i64 k] w fun e w' => e = .returned (.int .i64 (pw a k : Nat)) ∧ w = w' := by
  go_enter Tryd.func48, Tryd.ntmps48
  go_wp2_with fail
  refine (powerOf a k 2027 _ (by omega) (by omega) ha hk).mono ?_
  rintro e w' ⟨rfl, rfl⟩
  go_wp2
  go_ret
  exact ⟨rfl, rfl⟩
theorem specPw (a k : Nat) (w : World) (ha : a < 2027) (hk : k ≤ 1000000000) : Calls Tryd.prog 118 #[.int .i64 a, .int .i64 k, .int .i64 2027] w fun e w' => e = .returned (.int .i64 (pw a k : Nat)) ∧ w = w' :=
  l4Power a k 2027 w (by omega) (by omega) ha hk
theorem l6Key (n : Nat) (w : World) (h : n ≤ 1000000000) : Calls Tryd.prog 65 #[.int .i64 n] w fun e w' => e = .returned (.int .i64 (pw 4 n : Nat)) ∧ w = w' := by
  go_enter Tryd.func65, Tryd.ntmps65
  go_wp2_with fail
  refine (specPw 4 n _ (by omega) h).mono ?_
  rintro e w' ⟨rfl, rfl⟩
  go_wp2
  go_ret
  exact ⟨rfl, rfl⟩
theorem big4 (n : Nat) (w : World) (h : n ≤ 1000000000) : Calls Tryd.prog 48 #[.int .i64 4, .int .i64 n] w fun e w' => e = .returned (.int .i64 (pw 4 n : Nat)) ∧ w = w' := bigPower 4 n w (by omega) h

theorem implKey (k : Int) (w : World) : Calls Tryd.prog 68 #[.int .i64 k] w fun e w' => e = .returned (.bool (okK k)) ∧ w = w' := by
  by_cases h0 : 2 ≤ k
  · by_cases h1 : k < 2027
    · obtain ⟨n, rfl⟩ : ∃ n : Nat, k = n := ⟨k.toNat, by omega⟩
      have E : Hid (okK n = decide ((pw n 1013 : Int) = 1)) := Lib.hid (by
        have a1 : decide (2 ≤ (n : Int)) = true := by simpa using h0
        have a2 : decide ((n : Int) ≤ 2026) = true := by simp; omega
        rw [okK, a1, a2, Int.toNat_natCast]; simp; omega)
      have C := Lib.hid (fun W => bigPower n 1013 W (by omega) (by omega))
      generalize pw n 1013 = x at *
      go_enter Tryd.func68, Tryd.ntmps68
      go_wp2_with fail
      refine (C.out _).mono ?_
      rintro e w' ⟨rfl, rfl⟩
      go_wp2
      go_ret
      exact ⟨by rw [E.out]; rfl, rfl⟩
    · have E : Hid (okK k = false) := Lib.hid (by
        have a2 : decide (k ≤ 2026) = false := by simp; omega
        rw [okK, a2]; simp)
      go_enter Tryd.func68, Tryd.ntmps68
      go_wp2
      go_ret
      exact ⟨by rw [E.out]; rfl, rfl⟩
  · have E : Hid (okK k = false) := Lib.hid (by
      have a2 : decide (2 ≤ k) = false := by simpa using h0
      rw [okK, a2]; simp)
    go_enter Tryd.func68, Tryd.ntmps68
    go_wp2
    go_ret
    exact ⟨by rw [E.out]; rfl, rfl⟩
theorem specKey (k : Int) (w : World) : Calls Tryd.prog 69 #[.int .i64 k] w fun e w' => e = .returned (.bool (okK k)) ∧ w = w' := by
  by_cases h : k < 2 ∨ 2026 < k
  · have E : Hid (okK k = false) := Lib.hid (by simp only [okK, Bool.and_eq_false_iff, decide_eq_false_iff_not]; omega)
    go_enter Tryd.func69, Tryd.ntmps69
    go_wp2_with fail
    refine (inNo _ _ _ _ h).mono ?_
    rintro e w' ⟨rfl, rfl⟩
    go_wp2
    go_ret
    exact ⟨by rw [E.out]; rfl, rfl⟩
  · obtain ⟨n, rfl⟩ : ∃ n : Nat, k = n := ⟨k.toNat, by omega⟩
    have E : Hid (okK n = decide ((pw n 1013 : Int) = 1)) := Lib.hid (by
      have a1 : decide (2 ≤ (n : Int)) = true := by simp; omega
      have a2 : decide ((n : Int) ≤ 2026) = true := by simp; omega
      rw [okK, a1, a2, Int.toNat_natCast]; simp; omega)
    have C := Lib.hid (fun W => specPw n 1013 W (by omega) (by omega))
    generalize pw n 1013 = x at *
    go_enter Tryd.func69, Tryd.ntmps69
    go_wp2_with fail
    refine (inYes _ _ _ _ (by omega) (by omega)).mono ?_
    rintro e w' ⟨rfl, rfl⟩
    go_wp2_with fail
    refine (C.out _).mono ?_
    rintro e w' ⟨rfl, rfl⟩
    go_wp2
    go_ret
    exact ⟨by rw [E.out]; rfl, rfl⟩
theorem implFor (n : Nat) (w : World) (h1 : 1 ≤ n) (h2 : n ≤ 1012) : Calls Tryd.prog 8 #[.int .i64 n] w fun e w' => e = .returned (.tuple #[.int .i64 (pw 4 n : Nat), .bool true]) ∧ w = w' := by
  have E := Lib.hid (okS_of h1 h2)
  have C := Lib.hid (fun W => big4 n W (by omega))
  generalize pw 4 n = x at *
  go_enter Tryd.func8, Tryd.ntmps8
  go_wp2_with fail
  refine (isSecret _ _).mono ?_
  rintro e w' ⟨rfl, rfl⟩
  rw [E.out]
  go_wp2_with fail
  refine (C.out _).mono ?_
  rintro e w' ⟨rfl, rfl⟩
  go_wp2
  go_ret2
  exact ⟨rfl, rfl⟩
theorem implForNo (n : Int) (w : World) (h : okS n = false) : Calls Tryd.prog 8 #[.int .i64 n] w fun e w' => e = .returned (.tuple #[.int .i64 0, .bool false]) ∧ w = w' := by
  go_enter Tryd.func8, Tryd.ntmps8
  go_wp2_with fail
  refine (isSecret _ _).mono ?_
  rintro e w' ⟨rfl, rfl⟩
  rw [h]
  go_wp2
  go_ret2
  exact ⟨rfl, rfl⟩
theorem specFor (n : Nat) (w : World) (h1 : 1 ≤ n) (h2 : n ≤ 1012) : Calls Tryd.prog 59 #[.int .i64 n] w fun e w' => e = .returned (.tuple #[.int .i64 (pw 4 n : Nat), .bool true]) ∧ w = w' := by
  have E := Lib.hid (okS_of h1 h2)
  have C := Lib.hid (fun W => l6Key n W (by omega))
  generalize pw 4 n = x at *
  go_enter Tryd.func59, Tryd.ntmps59
  go_wp2_with fail
  refine (l6Secret _ _).mono ?_
  rintro e w' ⟨rfl, rfl⟩
  rw [E.out]
  go_wp2_with fail
  refine (C.out _).mono ?_
  rintro e w' ⟨rfl, rfl⟩
  go_wp2
  go_ret2
  exact ⟨rfl, rfl⟩
theorem specForNo (n : Int) (w : World) (h : okS n = false) : Calls Tryd.prog 59 #[.int .i64 n] w fun e w' => e = .returned (.tuple #[.int .i64 0, .bool false]) ∧ w = w' := by
  go_enter Tryd.func59, Tryd.ntmps59
  go_wp2_with fail
  refine (l6Secret _ _).mono ?_
  rintro e w' ⟨rfl, rfl⟩
  rw [h]
  go_wp2
  go_ret2
  exact ⟨rfl, rfl⟩
end Go.Proofs.YtfoclgijhkibeabDoor.Key
