/-
  Arithmetic modulo a prime: contracts of the program's and the reference's functions on primes and powers, and the walks of the laws on IsPrime, PowerMod and InverseMod.
-/
import Derived.Test.YtbljmgmpmmajeaaRows
import Derived.Test.YtbljmgmpmmajeaaMem
import Derived.Test.YtbljmgmpmmajeaaNum2
import Derived.OpenShut
import Derived.ShutString
import Derived.WalkMore
import Derived.ScopeJumps
namespace Go.Proofs.Ytbljmgmpmmajeaa.Mod
open Go.ChangeShapes Go.WideShapes Go.ChangeAt Go.RowKit
open Go.Proofs.Ytbljmgmpmmajeaa.Mem Go.Proofs.Ytbljmgmpmmajeaa.Num
set_option linter.unusedVariables false
set_option maxRecDepth 100000

theorem inYes (n a b : Int) (w : World) (h0 : a ≤ n) (h1 : n ≤ b) : Calls Try.prog 12 #[.int .i64 n, .int .i64 a, .int .i64 b] w fun e w' => e = .returned (.bool true) ∧ w = w' := by
  go_enter Try.func12, Try.ntmps12
  go_wp2
  go_ret
  exact ⟨rfl, rfl⟩
theorem inNo (n a b : Int) (w : World) (h : n < a ∨ b < n) : Calls Try.prog 12 #[.int .i64 n, .int .i64 a, .int .i64 b] w fun e w' => e = .returned (.bool false) ∧ w = w' := by
  by_cases h0 : n < a
  · go_enter Try.func12, Try.ntmps12
    go_wp2
    go_ret
    exact ⟨rfl, rfl⟩
  · have h1 : b < n := by omega
    have h2 : a ≤ n := by omega
    go_enter Try.func12, Try.ntmps12
    go_wp2
    go_ret
    exact ⟨by simp; omega, rfl⟩

theorem ret_bool {a b : Bool} (h : a = b) : Ending.returned (.bool a) = .returned (.bool b) := by rw [h]
theorem pr_no (n d : Nat) (hn : n ≤ 10007) (h2 : 2 ≤ d) (hd : d * d ≤ n) (h : n % d = 0) : prB n = false := by
  cases e : prB n with
  | false => rfl
  | true => exact absurd h (((prB_iff n (by omega)).1 e).2 d h2 hd)
theorem pr_yes (n d : Nat) (hn : n ≤ 10007) (hd : n < d * d) (h : ∀ e, 2 ≤ e → e < d → n % e ≠ 0) : prB n = decide (2 ≤ n) := by
  by_cases h2 : 2 ≤ n
  · rw [decide_eq_true h2]
    refine (prB_iff n (by omega)).2 ⟨h2, fun e he hee => h e he ?_⟩
    rcases Nat.lt_or_ge e d with q | q
    · exact q
    · have := Nat.mul_le_mul q q; omega
  · rw [decide_eq_false h2]
    cases e : prB n with
    | false => rfl
    | true => exact absurd ((prB_iff n (by omega)).1 e).1 h2
theorem sq_lt (n d : Nat) (hn : n ≤ 10007) (h : d * d ≤ n) : d ≤ 100 := by
  rcases Nat.lt_or_ge d 101 with q | q
  · omega
  · have := Nat.mul_le_mul q q; omega

namespace I
end I

/-- A modulus: a prime from 3 to 10007. -/
def okP (p : Int) : Bool := decide (3 ≤ p) && decide (p ≤ 10007) && prB p.toNat
theorem okP_pr {p : Int} (h : okP p = true) : ∃ n : Nat, p = n ∧ Pr n := by
  simp only [okP, Bool.and_eq_true, decide_eq_true_eq] at h
  exact ⟨p.toNat, by omega, h.2, by omega, by omega⟩
theorem okP_of {n : Nat} (h : Pr n) : okP (n : Int) = true := by
  have := h.ge; have := h.le; have := h.pr
  simp [okP, *]; omega
theorem okP_no {p : Int} (h0 : ¬ (p < 0 ∨ 10007 < p)) (h : okP p = false) : (prB p.toNat && decide (3 ≤ p)) = false := by
  have a : decide (p ≤ 10007) = true := by simp; omega
  rw [okP, a] at h
  revert h; cases decide (3 ≤ p) <;> cases prB p.toNat <;> simp

/-- A residue modulo a prime. -/
def okR (a p : Int) : Bool := okP p && decide (0 ≤ a) && decide (a < p)
theorem okR_yes {a p : Int} (h : okR a p = true) : ∃ n q : Nat, a = n ∧ p = q ∧ n < q ∧ Pr q := by
  simp only [okR, Bool.and_eq_true, decide_eq_true_eq] at h
  obtain ⟨q, rfl, hq⟩ := okP_pr h.1.1
  exact ⟨a.toNat, q, by omega, rfl, by omega, hq⟩
end Go.Proofs.Ytbljmgmpmmajeaa.Mod
