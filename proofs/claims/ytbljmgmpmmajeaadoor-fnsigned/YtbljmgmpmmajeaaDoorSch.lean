/-
  Signatures, as plain facts on natural numbers: what is signed verifies, and two signatures with one nonce tell the secret.
-/
import Derived.Test.YtbljmgmpmmajeaaDoorNum2
namespace Go.Proofs.YtbljmgmpmmajeaaDoor.Sch
open Go.Proofs.YtbljmgmpmmajeaaDoor.Num
set_option linter.unusedVariables false

theorem pr_small : Pr 1013 := ⟨by decide +kernel, by omega, by omega⟩
theorem pr_big : Pr 2027 := ⟨by decide +kernel, by omega, by omega⟩
def pw (a k : Nat) : Nat := a ^ k % 2027
theorem pw_lt (a k : Nat) : pw a k < 2027 := Nat.mod_lt _ (by omega)
theorem base_q : 4 ^ 1013 % 2027 = 1 := by decide +kernel
def keysB : Bool := (List.range 1013).all fun n => Nat.beq n 0 || (Nat.ble 2 (Nat.pow 4 n % 2027))
theorem keys_all : keysB = true := by decide +kernel
theorem pw_ge (n : Nat) (h1 : 1 ≤ n) (h2 : n ≤ 1012) : 2 ≤ pw 4 n := by
  have h := keys_all
  unfold keysB at h
  rw [List.all_eq_true] at h
  have h' := h n (by simp; omega)
  rw [Bool.or_eq_true] at h'
  rcases h' with h' | h'
  · have := Nat.eq_of_beq_eq_true h'; omega
  · exact Nat.le_of_ble_eq_true h'
theorem pow_q (a n q p : Nat) (hp : 2 ≤ p) (h : a ^ q % p = 1) : (a ^ n % p) ^ q % p = 1 := by
  rw [pow_mod', ← Nat.pow_mul, Nat.mul_comm]
  exact pow_mul_one a q n p hp h
theorem pw_q' (n q : Nat) (h : 4 ^ q % 2027 = 1) : pw (pw 4 n) q = 1 := pow_q 4 n q 2027 (by omega) h
theorem pw_q (n : Nat) : pw (pw 4 n) 1013 = 1 := pw_q' n 1013 base_q
theorem pw_mod (k : Nat) : pw 4 (k % 1013) = pw 4 k := (pow_rem 4 1013 k 2027 (by omega) base_q).symm
/-- What is signed verifies. -/
theorem verify (n m e : Nat) : pw 4 ((m + e * n) % 1013) = pw 4 m * pw (pw 4 n) e % 2027 := by
  rw [pw_mod]
  unfold pw
  rw [pow_mod', ← Nat.pow_mul, ← Nat.mul_mod, ← Nat.pow_add, Nat.mul_comm n e]
theorem sub_mod (a b c d : Nat) (hc : c < 1013) (hd : d < 1013) (ha : a % 1013 = c) (hb : b % 1013 = d) (x : Nat) (h : x + b = a) : x % 1013 = (c + 1013 - d) % 1013 := by omega
theorem undo (d n k q : Nat) (hq : 2 ≤ q) (h : d ^ (k + 1) % q = 1) (hn : n < q) : d * n % q * (d ^ k % q) % q = n := by
  rw [← Nat.mul_mod]
  have e1 : d * n * d ^ k = d ^ (k + 1) * n := by rw [Nat.pow_succ, Nat.mul_comm d n, Nat.mul_assoc, Nat.mul_comm n, Nat.mul_comm d]
  rw [e1, Nat.mul_mod, h, Nat.one_mul, Nat.mod_mod]
  exact Nat.mod_eq_of_lt hn
/-- Two signatures with one nonce tell the secret. -/
theorem tell (n m e f : Nat) (hn1 : n ≤ 1012) (he : e < 1013) (hf : f < 1013) (hne : e ≠ f) :
    ((m + e * n) % 1013 + 1013 - (m + f * n) % 1013) % 1013 * (((e + 1013 - f) % 1013) ^ 1011 % 1013) % 1013 = n := by
  have hd0 : 0 < (e + 1013 - f) % 1013 := by omega
  have hd1 : (e + 1013 - f) % 1013 < 1013 := Nat.mod_lt _ (by omega)
  have hF := fermat pr_small ((e + 1013 - f) % 1013) hd0 hd1
  rw [show (1013 - 1 : Nat) = 1011 + 1 from rfl] at hF
  have hM : ((m + e * n) % 1013 + 1013 - (m + f * n) % 1013) % 1013 = (e + 1013 - f) % 1013 * n % 1013 := by
    have key : (e + 1013 - f) * n + (m + f * n) = m + e * n + 1013 * n := by
      have h1 : (e + 1013 - f) * n + f * n = (e + 1013) * n := by rw [← Nat.add_mul]; congr 1; omega
      have h2 : (e + 1013) * n = e * n + 1013 * n := Nat.add_mul _ _ _
      omega
    have k2 : (e + 1013 - f) % 1013 * n % 1013 = (e + 1013 - f) * n % 1013 := by rw [Nat.mul_mod, Nat.mod_mod, ← Nat.mul_mod]
    rw [k2]
    generalize (e + 1013 - f) * n = x at *
    generalize m + e * n = a at *
    generalize m + f * n = b at *
    have : x + b = a + 1013 * n := key
    omega
  rw [hM]
  generalize (e + 1013 - f) % 1013 = d at *
  exact undo d n 1011 1013 (by omega) hF (by omega)
theorem tell_same (m n : Nat) (e f : Nat) (he : e < 1013) (hf : f < 1013) : (e + 1013 - f) % 1013 = 0 ↔ e = f := by omega
end Go.Proofs.YtbljmgmpmmajeaaDoor.Sch
