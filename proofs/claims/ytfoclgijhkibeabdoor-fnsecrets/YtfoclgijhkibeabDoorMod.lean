/-
  Arithmetic modulo a prime: contracts of the program's and the reference's functions on primes and powers, and the walks of the laws on IsPrime, PowerMod and InverseMod.
-/
import Derived.Test.YtfoclgijhkibeabDoorRows
import Derived.Test.YtfoclgijhkibeabDoorMem
import Derived.Test.YtfoclgijhkibeabDoorNum2X
import Derived.OpenShut
import Derived.ShutString
import Derived.WalkMore
import Derived.ScopeJumps
namespace Go.Proofs.YtfoclgijhkibeabDoor.Mod
open Go.ChangeShapes Go.WideShapes Go.ChangeAt Go.RowKit
open Go.Proofs.YtfoclgijhkibeabDoor.Mem Go.Proofs.YtfoclgijhkibeabDoor.Num
set_option linter.unusedVariables false
set_option maxRecDepth 100000

theorem inYes (n a b : Int) (w : World) (h0 : a ≤ n) (h1 : n ≤ b) : Calls Tryd.prog 87 #[.int .i64 n, .int .i64 a, .int .i64 b] w fun e w' => e = .returned (.bool true) ∧ w = w' := by
  go_enter Tryd.func87, Tryd.ntmps87
  go_wp2
  go_ret
  exact ⟨rfl, rfl⟩
theorem inNo (n a b : Int) (w : World) (h : n < a ∨ b < n) : Calls Tryd.prog 87 #[.int .i64 n, .int .i64 a, .int .i64 b] w fun e w' => e = .returned (.bool false) ∧ w = w' := by
  by_cases h0 : n < a
  · go_enter Tryd.func87, Tryd.ntmps87
    go_wp2
    go_ret
    exact ⟨rfl, rfl⟩
  · have h1 : b < n := by omega
    have h2 : a ≤ n := by omega
    go_enter Tryd.func87, Tryd.ntmps87
    go_wp2
    go_ret
    exact ⟨by simp; omega, rfl⟩

theorem ret_bool {a b : Bool} (h : a = b) : Ending.returned (.bool a) = .returned (.bool b) := by rw [h]
theorem pr_no (n d : Nat) (hn : n ≤ 10007) (h2 : 2 ≤ d) (hd : d * d ≤ n) (h : n % d = 0) : prB n = false := by
  cases e : prB n with
  | false => rfl
  | true => exact absurd h (((prB_iff n (by omega)).1 e).2 d h2 hd)
theorem pr_yes (n d : Nat) (hn : n ≤ 10007) (hd : n < d * d) (h : ∀ e, 2 ≤ e → e < d → n % e ≠ 0) : prB n = decide (2 ≤ n) := by
  by_cases h2 : 2 ≤ n
  · rw [decide_eq_true h2]
    refine (prB_iff n (by omega)).2 ⟨h2, fun e he hee => h e he ?_⟩
    rcases Nat.lt_or_ge e d with q | q
    · exact q
    · have := Nat.mul_le_mul q q; omega
  · rw [decide_eq_false h2]
    cases e : prB n with
    | false => rfl
    | true => exact absurd ((prB_iff n (by omega)).1 e).1 h2
theorem sq_lt (n d : Nat) (hn : n ≤ 10007) (h : d * d ≤ n) : d ≤ 100 := by
  rcases Nat.lt_or_ge d 101 with q | q
  · omega
  · have := Nat.mul_le_mul q q; omega

set_option maxHeartbeats 1000000 in
theorem implPrime (n : Nat) (w : World) (hn : n ≤ 10007) : Calls Tryd.prog 151 #[.int .i64 n] w fun e w' => e = .returned (.tuple #[.bool (prB n), .bool true]) ∧ w = w' := by
  go_enter Tryd.func151, Tryd.ntmps151
  go_wp2
  go_loopw [4] (fun i wr => ∃ d : Nat, 2 ≤ d ∧ d ≤ 101 ∧ i = .int .i64 d ∧ Hid (∀ e, 2 ≤ e → e < d → n % e ≠ 0) ∧ w = wr) (fun i _ => 200 - (intOf i).toNat)
  case atStart => exact ⟨2, by omega, by omega, rfl, Lib.hid (fun e h1 h2 => by omega), rfl⟩
  case round =>
    obtain ⟨d, h2, h3, rfl, hall, rfl⟩ := hrel
    have b0 : 0 ≤ (d : Int) * (d : Int) := by have := Nat.mul_le_mul h2 h2; rw [← Int.natCast_mul]; omega
    have b1 : (d : Int) * (d : Int) ≤ 10201 := by have := Nat.mul_le_mul h3 h3; rw [← Int.natCast_mul]; omega
    by_cases hdd : d * d ≤ n
    · have t1 : (d : Int) * (d : Int) ≤ (n : Int) := by rw [← Int.natCast_mul]; omega
      have hd1 := sq_lt n d hn hdd
      by_cases hm : n % d = 0
      · have t2 : (n : Int) % (d : Int) = 0 := by omega
        have e1 := pr_no n d hn h2 hdd hm
        go_wp2
        go_ret2
        exact ⟨by first | rfl | (rw [e1]; rfl), rfl⟩
      · have t2 : (n : Int) % (d : Int) ≠ 0 := by omega
        go_wp2
        go_roundw
        case rel => exact ⟨d + 1, by omega, by omega, by go_num, Lib.hid (fun e h1 h4 => by rcases Nat.lt_or_ge e d with q | q; exact hall.out e h1 q; rw [show e = d by omega]; exact hm), by first | rfl | trivial⟩
        case measure => simp [intOf]; omega
    · have t1 : ¬ (d : Int) * (d : Int) ≤ (n : Int) := by rw [← Int.natCast_mul]; omega
      have e1 := Lib.hid (pr_yes n d hn (by omega) hall.out)
      have e2 : decide (2 ≤ n) = decide (2 ≤ (n : Int)) := by rw [decide_eq_decide]; omega
      go_wp2
      go_ret2
      exact ⟨by first | (rw [e1.out, e2]; done) | (rw [e1.out, e2]; rfl), rfl⟩
theorem implPrimeNo (n : Int) (w : World) (hn : n < 0 ∨ 10007 < n) : Calls Tryd.prog 151 #[.int .i64 n] w fun e w' => e = .returned (.tuple #[.bool false, .bool false]) ∧ w = w' := by
  by_cases h0 : n < 0
  · go_enter Tryd.func151, Tryd.ntmps151
    go_wp2
    go_ret2
    exact ⟨rfl, rfl⟩
  · have h1 : 10007 < n := by omega
    have h2 : 0 ≤ n := by omega
    go_enter Tryd.func151, Tryd.ntmps151
    go_wp2
    go_ret2
    exact ⟨rfl, rfl⟩
namespace I
end I

/-- A modulus: a prime from 3 to 10007. -/
def okP (p : Int) : Bool := decide (3 ≤ p) && decide (p ≤ 10007) && prB p.toNat
theorem okP_pr {p : Int} (h : okP p = true) : ∃ n : Nat, p = n ∧ Pr n := by
  simp only [okP, Bool.and_eq_true, decide_eq_true_eq] at h
  exact ⟨p.toNat, by omega, h.2, by omega, by omega⟩
theorem okP_of {n : Nat} (h : Pr n) : okP (n : Int) = true := by
  have := h.ge; have := h.le; have := h.pr
  simp [okP, *]; omega
theorem okP_no {p : Int} (h0 : ¬ (p < 0 ∨ 10007 < p)) (h : okP p = false) : (prB p.toNat && decide (3 ≤ p)) = false := by
  have a : decide (p ≤ 10007) = true := by simp; omega
  rw [okP, a] at h
  revert h; cases decide (3 ≤ p) <;> cases prB p.toNat <;> simp

theorem isModulus (p : Int) (w : World) : Calls Tryd.prog 136 #[.int .i64 p] w fun e w' => e = .returned (.bool (okP p)) ∧ w = w' := by
  by_cases h : p < 0 ∨ 10007 < p
  · have e1 : okP p = false := by
      simp only [okP, Bool.and_eq_false_iff, decide_eq_false_iff_not]; omega
    go_enter Tryd.func136, Tryd.ntmps136
    go_wp2_with fail
    refine (implPrimeNo p _ h).mono ?_
    rintro e w' ⟨rfl, rfl⟩
    go_wp2
    go_ret
    exact ⟨by first | rfl | (rw [e1]; rfl), rfl⟩
  · obtain ⟨n, rfl⟩ : ∃ n : Nat, p = n := ⟨p.toNat, by omega⟩
    have e1 : okP n = (prB n && decide (3 ≤ (n : Int))) := by
      have a : decide ((n : Int) ≤ 10007) = true := by simp; omega
      rw [okP, a, Bool.and_true, Bool.and_comm]; rfl
    have E := Lib.hid e1
    clear e1
    go_enter Tryd.func136, Tryd.ntmps136
    go_wp2_with fail
    refine (implPrime n _ (by omega)).mono ?_
    rintro e w' ⟨rfl, rfl⟩
    generalize hb : prB n = b at *
    cases b
    · go_wp2
      go_ret
      exact ⟨by rw [E.out]; rfl, rfl⟩
    · go_wp2
      go_ret
      exact ⟨by rw [E.out]; rfl, rfl⟩

/-- A residue modulo a prime. -/
def okR (a p : Int) : Bool := okP p && decide (0 ≤ a) && decide (a < p)
theorem okR_yes {a p : Int} (h : okR a p = true) : ∃ n q : Nat, a = n ∧ p = q ∧ n < q ∧ Pr q := by
  simp only [okR, Bool.and_eq_true, decide_eq_true_eq] at h
  obtain ⟨q, rfl, hq⟩ := okP_pr h.1.1
  exact ⟨a.toNat, q, by omega, rfl, by omega, hq⟩
theorem isResidue (a p : Int) (w : World) : Calls Tryd.prog 110 #[.int .i64 a, .int .i64 p] w fun e w' => e = .returned (.bool (okR a p)) ∧ w = w' := by
  have E : Hid (okR a p = (okP p && decide (0 ≤ a) && decide (a < p))) := Lib.hid rfl
  cases hb : okP p
  · rw [hb] at E
    go_enter Tryd.func110, Tryd.ntmps110
    go_wp2_with fail
    refine (isModulus p _).mono ?_
    rintro e w' ⟨rfl, rfl⟩
    go_wp2
    go_ret
    exact ⟨by rw [E.out]; rfl, rfl⟩
  · rw [hb] at E
    by_cases h0 : 0 ≤ a
    · have e0 : decide (0 ≤ a) = true := by simpa using h0
      rw [e0] at E
      go_enter Tryd.func110, Tryd.ntmps110
      go_wp2_with fail
      refine (isModulus p _).mono ?_
      rintro e w' ⟨rfl, rfl⟩
      go_wp2
      go_ret
      exact ⟨by rw [E.out]; rfl, rfl⟩
    · have e0 : decide (0 ≤ a) = false := by simpa using h0
      rw [e0] at E
      go_enter Tryd.func110, Tryd.ntmps110
      go_wp2_with fail
      refine (isModulus p _).mono ?_
      rintro e w' ⟨rfl, rfl⟩
      go_wp2
      go_ret
      exact ⟨by rw [E.out]; rfl, rfl⟩
end Go.Proofs.YtfoclgijhkibeabDoor.Mod
