/-
  The library's counts of bits, at numbers below 16777216: how many there are.
-/
import Derived.Test.YtmnihigackilkaaDoorPop
import Derived.Test.YtmnihigackilkaaDoorMem
import Derived.Laws.Bits64b
import Derived.Test.YtmnihigackilkaaDoorRows
import Derived.Test.YtmnihigackilkaaDoorChecked
namespace Go.Proofs.YtmnihigackilkaaDoor.Bit
open Go.ChangeShapes Go.WideShapes Go.ChangeAt Go.RowKit
open Go.Proofs.YtmnihigackilkaaDoor.Mem Go.Proofs.YtmnihigackilkaaDoor.Edg Go.Proofs.YtmnihigackilkaaDoor.Pop
set_option linter.unusedVariables false
set_option maxRecDepth 100000

theorem and_u (a b : Nat) (ha : a < 18446744073709551616) (hb : b < 18446744073709551616) : bits .and .u64 (a : Int) (b : Int) = ((a &&& b : Nat) : Int) := bits_and_u64_nat a b ha hb
theorem and_i (a b : Nat) (ha : a < 9223372036854775808) (hb : b < 9223372036854775808) : bits .and .i64 (a : Int) (b : Int) = ((a &&& b : Nat) : Int) :=
  (bits_nat .i64 63 (by decide) (fun n h0 h1 => by rw [IntKind.wrap_i64]; omega) a b (by omega) (by omega)).1
theorem ones64 (x : Nat) (w : World) (h : x < 16777216) : Calls Tryd.prog 154 #[.int .u64 x] w fun e w' => e = .returned (.int .i64 (pc x)) ∧ w = w' := by
  obtain ⟨y, hy⟩ : ∃ y, y = (x / 2 &&& M0) + (x &&& M0) := ⟨_, rfl⟩
  obtain ⟨z, hz⟩ : ∃ z, z = (y / 4 &&& M1) + (y &&& M1) := ⟨_, rfl⟩
  obtain ⟨u, hu⟩ : ∃ u, u = (z / 16 + z) &&& M2 := ⟨_, rfl⟩
  obtain ⟨v, hv⟩ : ∃ v, v = u + u / 256 := ⟨_, rfl⟩
  obtain ⟨s, hs⟩ : ∃ s, s = v + v / 65536 := ⟨_, rfl⟩
  obtain ⟨t, ht⟩ : ∃ t, t = s + s / 4294967296 := ⟨_, rfl⟩
  obtain ⟨p1, p2, p3, p4, p5⟩ := pop_eq x y z u v s t h hy hz hu hv hs ht
  have e1 : IntKind.u64.wrap (bits .and .u64 ((x : Int) / 2) 6148914691236517205 + bits .and .u64 (x : Int) 6148914691236517205) = (y : Int) := by
    have a1 := and_u (x / 2) M0 (by omega) (by decide)
    have a2 := and_u x M0 (by omega) (by decide)
    rw [show ((x : Int) / 2) = ((x / 2 : Nat) : Int) from by omega, show (6148914691236517205 : Int) = ((M0 : Nat) : Int) from rfl, a1, a2, IntKind.wrap_u64]
    omega
  have e2 : IntKind.u64.wrap (bits .and .u64 ((y : Int) / 4) 3689348814741910323 + bits .and .u64 (y : Int) 3689348814741910323) = (z : Int) := by
    have a1 := and_u (y / 4) M1 (by omega) (by decide)
    have a2 := and_u y M1 (by omega) (by decide)
    rw [show ((y : Int) / 4) = ((y / 4 : Nat) : Int) from by omega, show (3689348814741910323 : Int) = ((M1 : Nat) : Int) from rfl, a1, a2, IntKind.wrap_u64]
    omega
  have e3 : bits .and .u64 (IntKind.u64.wrap ((z : Int) / 16 + (z : Int))) 1085102592571150095 = (u : Int) := by
    have a1 := and_u (z / 16 + z) M2 (by omega) (by decide)
    rw [show IntKind.u64.wrap ((z : Int) / 16 + (z : Int)) = ((z / 16 + z : Nat) : Int) from by rw [IntKind.wrap_u64]; omega, show (1085102592571150095 : Int) = ((M2 : Nat) : Int) from rfl, a1, hu]
  have e4 : IntKind.u64.wrap ((u : Int) + (u : Int) / 256) = (v : Int) := by rw [IntKind.wrap_u64]; omega
  have e5 : IntKind.u64.wrap ((v : Int) + (v : Int) / 65536) = (s : Int) := by rw [IntKind.wrap_u64]; omega
  have e6 : IntKind.u64.wrap ((s : Int) + (s : Int) / 4294967296) = (t : Int) := by rw [IntKind.wrap_u64]; omega
  have e7 : bits .and .i64 (t : Int) 127 = ((pc x : Nat) : Int) := by
    have a1 := and_i t 127 (by omega) (by decide)
    rw [show (127 : Int) = ((127 : Nat) : Int) from rfl, a1, show (127 : Nat) = 2 ^ 7 - 1 from rfl, Nat.and_two_pow_sub_one_eq_mod, ← p1]
  have e8 : (t : Int) ≤ 9223372036854775807 := by omega
  clear hy hz hu hv hs ht p1 p2 p3 p4 p5
  go_enter Tryd.func154, Tryd.ntmps154
  go_wp2
  go_ret
  exact ⟨rfl, rfl⟩
theorem ones (x : Nat) (w : World) (h : x < 16777216) : Calls Tryd.prog 141 #[.int .u64 x] w fun e w' => e = .returned (.int .i64 (pc x)) ∧ w = w' := by
  have C := Lib.hid (ones64 x w h)
  go_enter Tryd.func141, Tryd.ntmps141
  go_wp2_with fail
  refine C.out.mono ?_
  rintro e w' ⟨rfl, rfl⟩
  go_wp2
  go_ret
  exact ⟨rfl, rfl⟩
theorem partCount (x : Nat) (w : World) (h : x ≤ 1000000) : Calls Tryd.prog 114 #[.int .i64 x] w fun e w' => e = .returned (.int .i64 (pc x)) ∧ w = w' := by
  have C := Lib.hid (ones x w (by omega))
  have e1 : IntKind.u64.wrap (x : Int) = (x : Int) := by rw [IntKind.wrap_u64]; omega
  go_enter Tryd.func114, Tryd.ntmps114
  go_wp2_with fail
  refine C.out.mono ?_
  rintro e w' ⟨rfl, rfl⟩
  go_wp2
  go_ret
  exact ⟨rfl, rfl⟩
def okM (m : Int) : Bool := decide (0 ≤ m ∧ m ≤ 1000000)
theorem okM_yes {m : Int} (h : okM m = true) : ∃ k : Nat, m = k ∧ k ≤ 1000000 := by
  have := of_decide_eq_true h
  exact ⟨m.toNat, by omega, by omega⟩
theorem okM_of (k : Nat) (h : k ≤ 1000000) : okM k = true := decide_eq_true ⟨by omega, by omega⟩
theorem isCount (m : Int) (w : World) : Calls Tryd.prog 113 #[.int .i64 m] w fun e w' => e = .returned (.bool (okM m)) ∧ w = w' := by
  by_cases h0 : 0 ≤ m
  · by_cases h1 : m ≤ 1000000
    · rw [show okM m = true from decide_eq_true ⟨h0, h1⟩]
      go_enter Tryd.func113, Tryd.ntmps113
      go_wp2
      go_ret
      exact ⟨rfl, rfl⟩
    · rw [show okM m = false from decide_eq_false (fun h => h1 h.2)]
      go_enter Tryd.func113, Tryd.ntmps113
      go_wp2
      go_ret
      exact ⟨rfl, rfl⟩
  · rw [show okM m = false from decide_eq_false (fun h => h0 h.1)]
    go_enter Tryd.func113, Tryd.ntmps113
    go_wp2
    go_ret
    exact ⟨rfl, rfl⟩
theorem inB (n a b : Int) (w : World) : Calls Tryd.prog 86 #[.int .i64 n, .int .i64 a, .int .i64 b] w fun e w' => e = .returned (.bool (decide (a ≤ n ∧ n ≤ b))) ∧ w = w' := by
  by_cases h0 : a ≤ n
  · by_cases h1 : n ≤ b
    · rw [show decide (a ≤ n ∧ n ≤ b) = true from decide_eq_true ⟨h0, h1⟩]
      go_enter Tryd.func86, Tryd.ntmps86
      go_wp2
      go_ret
      exact ⟨rfl, rfl⟩
    · rw [show decide (a ≤ n ∧ n ≤ b) = false from decide_eq_false (fun h => h1 h.2)]
      go_enter Tryd.func86, Tryd.ntmps86
      go_wp2
      go_ret
      exact ⟨rfl, rfl⟩
  · rw [show decide (a ≤ n ∧ n ≤ b) = false from decide_eq_false (fun h => h0 h.1)]
    go_enter Tryd.func86, Tryd.ntmps86
    go_wp2
    go_ret
    exact ⟨rfl, rfl⟩
theorem isDigest (s : ByteArray) (w : World) (h : s.size ≤ maxLen) : Calls Tryd.prog 80 #[.string s] w fun e w' => e = .returned (.bool (decide (s.size = 32))) ∧ w = w' := by
  by_cases h32 : s.size = 32
  · have e : ((s.size : Int) == 32) = true := by simp; omega
    rw [decide_eq_true h32]
    clear h32
    go_enter Tryd.func80, Tryd.ntmps80
    go_wp2
    go_ret
    exact ⟨by first | rfl | rw [e], rfl⟩
  · have e : ((s.size : Int) == 32) = false := by simp; omega
    rw [decide_eq_false h32]
    clear h32
    go_enter Tryd.func80, Tryd.ntmps80
    go_wp2
    go_ret
    exact ⟨by first | rfl | rw [e], rfl⟩
end Go.Proofs.YtmnihigackilkaaDoor.Bit
