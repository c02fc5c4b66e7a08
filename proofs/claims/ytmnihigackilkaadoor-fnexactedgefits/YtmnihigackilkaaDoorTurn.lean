/-
  Rotation of 32-bit words: contracts of the reference and of the program, and the walk of the law on TurnWord. For every two int arguments both answer alike.
-/
import Derived.Test.YtmnihigackilkaaDoorRows
import Derived.WalkKit
import Derived.ProofKit
import Derived.OpenShut
import Derived.ShutString
import Derived.Laws.BitsLemmas
import Derived.Laws.Bits64
namespace Go.Proofs.YtmnihigackilkaaDoor.Turn
open Go.ChangeShapes Go.WideShapes Go.ChangeAt Go.RowKit
set_option linter.unusedVariables false
set_option maxRecDepth 100000

def rotR (x b : Int) : Int := bits .or .u32 (x / 2 ^ b.toNat) (x * 2 ^ (32 - b).toNat % 4294967296)

theorem bits_or_comm (k : IntKind) (x y : Int) : bits .or k x y = bits .or k y x := by
  simp only [bits, BitVec.or_comm]

theorem mask_neg (b : Int) (h2 : 1 ≤ b) (h3 : b ≤ 31) : bits .and .u64 (IntKind.u64.wrap (-b)) 31 = 32 - b := by
  rw [IntKind.wrap_u64]
  have h := bits_mask .u64 64 (by decide) (fun n h0 h1 => by rw [IntKind.wrap_u64]; omega) 5 (by decide) (-b % 18446744073709551616) (by omega) (by omega)
  have e : ((2 : Int) ^ 5 - 1) = 31 := by decide
  rw [e] at h
  rw [h]
  omega

theorem mask_zero : bits .and .u64 (IntKind.u64.wrap (-0)) 31 = 0 := by decide

theorem rotR_bd (x b : Int) : 0 ≤ rotR x b ∧ rotR x b ≤ 4294967295 := by
  unfold rotR bits
  simp only []
  rw [IntKind.wrap_u32]; omega

theorem rotR_zero (x : Int) (h0 : 0 ≤ x) (h1 : x ≤ 4294967295) : rotR x 0 = bits .or .u32 x 0 := by
  unfold rotR
  simp


theorem ret_int {k : IntKind} {a b : Int} (h : a = b) : Ending.returned (.int k a) = .returned (.int k b) := by rw [h]
set_option maxHeartbeats 400000 in
theorem rot (x b : Int) (w : World) (h0 : 0 ≤ x) (h1 : x ≤ 4294967295) (h2 : 0 ≤ b) (h3 : b ≤ 31) :
    Calls Tryd.prog 162 #[.int .u32 x, .int .i64 (-b)] w fun e w' => e = .returned (.int .u32 (rotR x b)) ∧ w = w' := by
  by_cases hb : 1 ≤ b
  · have e := mask_neg b hb h3
    go_enter Tryd.func162, Tryd.ntmps162
    go_wp2
    go_ret
    refine ⟨ret_int ?_, rfl⟩
    rw [bits_or_comm]; unfold rotR
    rw [show (32 - (32 - b)) = b from by omega]
  · obtain rfl : b = 0 := by omega
    have e0 : bits .and .u64 0 31 = 0 := by decide
    have e1 : x * 2 ^ (0 : Int).toNat % 4294967296 = x := by simp; omega
    have e2 : x / 2 ^ (32 : Int).toNat = 0 := by simp; omega
    go_enter Tryd.func162, Tryd.ntmps162
    go_wp2
    go_ret
    refine ⟨ret_int ?_, rfl⟩
    rw [rotR_zero x h0 h1, show x / 4294967296 = 0 from by omega]
set_option maxHeartbeats 400000 in
theorem turned (x b : Int) (w : World) (h0 : 0 ≤ x) (h1 : x ≤ 4294967295) (h2 : 0 ≤ b) (h3 : b ≤ 31) :
    Calls Tryd.prog 161 #[.int .u32 x, .int .i64 b] w fun e w' => e = .returned (.int .u32 (rotR x b)) ∧ w = w' := by
  go_enter Tryd.func161, Tryd.ntmps161
  go_wp2_with fail
  refine (rot x b _ h0 h1 h2 h3).mono ?_
  rintro e w' ⟨rfl, rfl⟩
  go_wp2
  go_ret
  exact ⟨rfl, rfl⟩
set_option maxHeartbeats 400000 in
theorem l1Turn (x b : Int) (w : World) (h0 : 0 ≤ x) (h1 : x ≤ 4294967295) (h2 : 0 ≤ b) (h3 : b ≤ 31) :
    Calls Tryd.prog 159 #[.int .u32 x, .int .u64 b] w fun e w' => e = .returned (.int .u32 (rotR x b)) ∧ w = w' := by
  go_enter Tryd.func159, Tryd.ntmps159
  go_wp2
  go_ret
  exact ⟨rfl, rfl⟩
end Go.Proofs.YtmnihigackilkaaDoor.Turn
