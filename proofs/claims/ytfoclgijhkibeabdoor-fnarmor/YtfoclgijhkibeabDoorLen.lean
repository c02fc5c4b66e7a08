/-
  The length of an encoding and one sign of the alphabet: the walks of both laws. For every integer the program answers as the reference.
-/
import Derived.Test.YtfoclgijhkibeabDoorRows
import Derived.Test.YtfoclgijhkibeabDoorMem
import Derived.OpenShut
import Derived.ShutString
namespace Go.Proofs.YtfoclgijhkibeabDoor.Len
open Go.ChangeShapes Go.WideShapes Go.ChangeAt Go.RowKit
open Go.Proofs.YtfoclgijhkibeabDoor.Mem
set_option linter.unusedVariables false

theorem inYes (n a b : Int) (w : World) (h0 : a ≤ n) (h1 : n ≤ b) : Calls Tryd.prog 87 #[.int .i64 n, .int .i64 a, .int .i64 b] w fun e w' => e = .returned (.bool true) ∧ w = w' := by
  go_enter Tryd.func87, Tryd.ntmps87
  go_wp2
  go_ret
  exact ⟨rfl, rfl⟩
theorem inNo (n a b : Int) (w : World) (h : n < a ∨ b < n) : Calls Tryd.prog 87 #[.int .i64 n, .int .i64 a, .int .i64 b] w fun e w' => e = .returned (.bool false) ∧ w = w' := by
  by_cases h0 : n < a
  · go_enter Tryd.func87, Tryd.ntmps87
    go_wp2
    go_ret
    exact ⟨rfl, rfl⟩
  · have h1 : b < n := by omega
    have h2 : a ≤ n := by omega
    go_enter Tryd.func87, Tryd.ntmps87
    go_wp2
    go_ret
    exact ⟨by simp; omega, rfl⟩

namespace L
theorem implYes (n : Int) (w : World) (h0 : 0 ≤ n) (h1 : n ≤ 600) : Calls Tryd.prog 128 #[.int .i64 n] w fun e w' => e = .returned (.tuple #[.int .i64 ((n + 2) / 3 * 4), .bool true]) ∧ w = w' := by
  have h2 : n + 3 - 1 = n + 2 := by omega
  go_enter Tryd.func128, Tryd.ntmps128
  go_wp2
  go_ret2
  exact ⟨by simp, rfl⟩
theorem implNo (n : Int) (w : World) (h : n < 0 ∨ 600 < n) : Calls Tryd.prog 128 #[.int .i64 n] w fun e w' => e = .returned (.tuple #[.int .i64 0, .bool false]) ∧ w = w' := by
  by_cases h0 : n < 0
  · go_enter Tryd.func128, Tryd.ntmps128
    go_wp2
    go_ret2
    exact ⟨rfl, rfl⟩
  · have h1 : 600 < n := by omega
    have h2 : 0 ≤ n := by omega
    go_enter Tryd.func128, Tryd.ntmps128
    go_wp2
    go_ret2
    exact ⟨rfl, rfl⟩
end L

def alpha : List UInt8 := [65, 66, 67, 68, 69, 70, 71, 72, 73, 74, 75, 76, 77, 78, 79, 80, 81, 82, 83, 84, 85, 86, 87, 88, 89, 90, 97, 98, 99, 100, 101, 102, 103, 104, 105, 106, 107, 108, 109, 110, 111, 112, 113, 114, 115, 116, 117, 118, 119, 120, 121, 122, 48, 49, 50, 51, 52, 53, 54, 55, 56, 57, 43, 47]
namespace S
end S
end Go.Proofs.YtfoclgijhkibeabDoor.Len
