/-
  The greatest power of 2 below a number: contracts of both sides, and the walk of the law on SplitOf.
-/
import Derived.Test.YtiiklednbhklhaaMkl
import Derived.Test.YtiiklednbhklhaaMem
import Derived.Test.YtiiklednbhklhaaShelf
namespace Go.Proofs.Ytiiklednbhklhaa.Spl
open Go.ChangeShapes Go.WideShapes Go.ChangeAt Go.RowKit
open Go.Proofs.Ytiiklednbhklhaa.Mem Go.Proofs.Ytiiklednbhklhaa.Mkl
set_option linter.unusedVariables false
set_option maxRecDepth 100000

theorem l1B (n a b : Int) (w : World) : Calls Try.prog 6 #[.int .i64 n, .int .i64 a, .int .i64 b] w fun e w' => e = .returned (.bool (decide (a ≤ n) && decide (n ≤ b))) ∧ w = w' := by
  by_cases h0 : a ≤ n
  · have E : Hid ((decide (a ≤ n) && decide (n ≤ b)) = decide (n ≤ b)) := Lib.hid (by simp [h0])
    go_enter Try.func6, Try.ntmps6
    go_wp2
    go_ret
    exact ⟨by rw [E.out]; rfl, rfl⟩
  · have E : Hid ((decide (a ≤ n) && decide (n ≤ b)) = false) := Lib.hid (by simp [h0])
    go_enter Try.func6, Try.ntmps6
    go_wp2
    go_ret
    exact ⟨by rw [E.out]; rfl, rfl⟩
theorem spl_len (many : Nat) (h : 2 ≤ many) (h2 : many ≤ 20) : ∃ q : Nat, q ≤ 4 ∧ Lib.bitLen (many - 1) = q + 1 ∧ split many = 2 ^ q := by
  have : ∀ m : Fin 21, 2 ≤ m.val → ∃ q : Fin 5, Lib.bitLen (m.val - 1) = q.val + 1 ∧ split m.val = 2 ^ q.val := by decide +kernel
  obtain ⟨q, a, b⟩ := this ⟨many, by omega⟩ h
  exact ⟨q.val, by omega, a, b⟩
theorem implSplit (many : Nat) (w : World) (h : 2 ≤ many) (h2 : many ≤ 20) : Calls Try.prog 8 #[.int .i64 many] w fun e w' => e = .returned (.int .i64 (split many : Nat)) ∧ w = w' := by
  obtain ⟨q, hq, hl, hs⟩ := spl_len many h h2
  have C := Lib.hid (Try.bits_Len ((many : Int) - 1) w (by omega) (by omega))
  rw [show ((many : Int) - 1).toNat = many - 1 by omega, hl] at C
  rw [hs]
  clear hs hl
  go_enter Try.func8, Try.ntmps8
  go_wp2_with fail
  refine C.out.mono ?_
  rintro e w' ⟨rfl, rfl⟩
  clear C
  rcases (show q = 0 ∨ q = 1 ∨ q = 2 ∨ q = 3 ∨ q = 4 by omega) with rfl | rfl | rfl | rfl | rfl
  all_goals
    go_wp2
    go_ret
    exact ⟨rfl, rfl⟩
theorem spl_step (f n many : Nat) (h : 2 * n < many) (hf : many ≤ n + f) : ∃ g, f = g + 1 ∧ splF f n many = splF g (2 * n) many := by
  match f with
  | 0 => omega
  | g + 1 => exact ⟨g, rfl, by rw [splF, if_pos h]⟩
theorem spl_end (f n many : Nat) (h : ¬ 2 * n < many) : splF f n many = n := by
  match f with
  | 0 => rfl
  | g + 1 => rw [splF, if_neg h]
theorem specSplit (many : Nat) (w : World) (h : 2 ≤ many) (h2 : many ≤ 20) : Calls Try.prog 7 #[.int .i64 many] w fun e w' => e = .returned (.int .i64 (split many : Nat)) ∧ w = w' := by
  obtain ⟨s, hs⟩ : ∃ s, split many = s := ⟨_, rfl⟩
  have HS := Lib.hid hs
  rw [hs]
  clear hs
  go_enter Try.func7, Try.ntmps7
  go_wp2
  go_loopw [3] (fun i wr => ∃ n f : Nat, i = .int .i64 n ∧ 1 ≤ n ∧ n < many ∧ many ≤ n + f ∧ f ≤ 20 ∧ Hid (splF f n many = s) ∧ wr = w) (fun i _ => many - (intOf i).toNat)
  case atStart => exact ⟨1, many, rfl, by omega, by omega, by omega, by omega, HS, rfl⟩
  case round =>
    obtain ⟨n, f, rfl, h1, hn, hf, hf2, HF, rfl⟩ := hrel
    by_cases hlt : 2 * n < many
    · obtain ⟨g, rfl, hg⟩ := spl_step f n many hlt hf
      have HG := Lib.hid (hg.symm.trans HF.out)
      clear hg HF
      go_wp2
      go_roundw
      case rel => exact ⟨2 * n, g, by go_num, by omega, by omega, by omega, by omega, HG, by first | rfl | trivial⟩
      case measure => simp [intOf]; omega
    · have hn := HF.out
      rw [spl_end f n many hlt] at hn
      clear HF HS
      subst hn
      go_wp2
      go_ret
      exact ⟨rfl, rfl⟩
theorem implSplitOf (n : Int) (w : World) : Calls Try.prog 5 #[.int .i64 n] w fun e w' => e = .returned (.tuple (if 2 ≤ n ∧ n ≤ 20 then #[.int .i64 (split n.toNat : Nat), .bool true] else #[.int .i64 0, .bool false])) ∧ w = w' := by
  by_cases h : 2 ≤ n ∧ n ≤ 20
  · obtain ⟨k, rfl⟩ : ∃ k : Nat, n = k := ⟨n.toNat, by omega⟩
    rw [if_pos h]
    have C := Lib.hid (implSplit k w (by omega) (by omega))
    obtain ⟨h0, h1⟩ := h
    rw [Int.toNat_natCast]
    generalize split k = s at *
    go_enter Try.func5, Try.ntmps5
    go_wp2_with fail
    refine C.out.mono ?_
    rintro e w' ⟨rfl, rfl⟩
    go_wp2
    go_ret2
    exact ⟨rfl, rfl⟩
  · rw [if_neg h]
    by_cases h2 : n < 2
    · go_enter Try.func5, Try.ntmps5
      go_wp2
      go_ret2
      exact ⟨rfl, rfl⟩
    · have h3 : 20 < n := by omega
      go_enter Try.func5, Try.ntmps5
      go_wp2
      go_ret2
      exact ⟨rfl, rfl⟩
theorem specSplitOf (n : Int) (w : World) : Calls Try.prog 4 #[.int .i64 n] w fun e w' => e = .returned (.tuple (if 2 ≤ n ∧ n ≤ 20 then #[.int .i64 (split n.toNat : Nat), .bool true] else #[.int .i64 0, .bool false])) ∧ w = w' := by
  by_cases h : 2 ≤ n ∧ n ≤ 20
  · obtain ⟨k, rfl⟩ : ∃ k : Nat, n = k := ⟨n.toNat, by omega⟩
    rw [if_pos h]
    have C := Lib.hid (specSplit k w (by omega) (by omega))
    have L := Lib.hid (l1B (k : Int) 2 20 w)
    rw [show (decide ((2 : Int) ≤ (k : Int)) && decide ((k : Int) ≤ 20)) = true by simp; omega] at L
    rw [Int.toNat_natCast]
    generalize split k = s at *
    clear h
    go_enter Try.func4, Try.ntmps4
    go_wp2_with fail
    refine L.out.mono ?_
    rintro e w' ⟨rfl, rfl⟩
    go_wp2_with fail
    refine C.out.mono ?_
    rintro e w' ⟨rfl, rfl⟩
    go_wp2
    go_ret2
    exact ⟨rfl, rfl⟩
  · rw [if_neg h]
    have L := Lib.hid (l1B n 2 20 w)
    rw [show (decide ((2 : Int) ≤ n) && decide (n ≤ 20)) = false by simp; omega] at L
    clear h
    go_enter Try.func4, Try.ntmps4
    go_wp2_with fail
    refine L.out.mono ?_
    rintro e w' ⟨rfl, rfl⟩
    go_wp2
    go_ret2
    exact ⟨rfl, rfl⟩
theorem walk (n : Int) (w0 : (Lit.int .i64 n).wf = true) (w : World) : Calls Try.prog 3 #[.int .i64 n] w fun e w' => e = .returned (.bool true) ∧ Below w.heap.size w w' := by
  have S := Lib.hid (specSplitOf n w)
  have I := Lib.hid (implSplitOf n w)
  obtain ⟨a, b, hab⟩ : ∃ (a : Int) (b : Bool), (if 2 ≤ n ∧ n ≤ 20 then #[Value.int .i64 (split n.toNat : Nat), .bool true] else #[.int .i64 0, .bool false]) = #[.int .i64 a, .bool b] := by
    by_cases h : 2 ≤ n ∧ n ≤ 20
    · exact ⟨_, _, by rw [if_pos h]⟩
    · exact ⟨_, _, by rw [if_neg h]⟩
  rw [hab] at S I
  clear hab w0
  go_enter Try.func3, Try.ntmps3
  go_wp2_with fail
  refine S.out.mono ?_
  rintro e w' ⟨rfl, rfl⟩
  go_wp2_with fail
  refine I.out.mono ?_
  rintro e w' ⟨rfl, rfl⟩
  cases b
  all_goals
    go_wp2
    go_ret
    exact ⟨rfl, Below.refl _ _⟩
end Go.Proofs.Ytiiklednbhklhaa.Spl
