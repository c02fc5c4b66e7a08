/-
  The greatest power of 2 below a number: contracts of both sides, and the walk of the law on SplitOf.
-/
import Derived.Test.YtmnihigackilkaaDoorMkl
import Derived.Test.YtmnihigackilkaaDoorMem
import Derived.Test.YtmnihigackilkaaDoorShelf
namespace Go.Proofs.YtmnihigackilkaaDoor.Spl
open Go.ChangeShapes Go.WideShapes Go.ChangeAt Go.RowKit
open Go.Proofs.YtmnihigackilkaaDoor.Mem Go.Proofs.YtmnihigackilkaaDoor.Mkl
set_option linter.unusedVariables false
set_option maxRecDepth 100000

theorem l1B (n a b : Int) (w : World) : Calls Tryd.prog 86 #[.int .i64 n, .int .i64 a, .int .i64 b] w fun e w' => e = .returned (.bool (decide (a ≤ n) && decide (n ≤ b))) ∧ w = w' := by
  by_cases h0 : a ≤ n
  · have E : Hid ((decide (a ≤ n) && decide (n ≤ b)) = decide (n ≤ b)) := Lib.hid (by simp [h0])
    go_enter Tryd.func86, Tryd.ntmps86
    go_wp2
    go_ret
    exact ⟨by rw [E.out]; rfl, rfl⟩
  · have E : Hid ((decide (a ≤ n) && decide (n ≤ b)) = false) := Lib.hid (by simp [h0])
    go_enter Tryd.func86, Tryd.ntmps86
    go_wp2
    go_ret
    exact ⟨by rw [E.out]; rfl, rfl⟩
theorem spl_len (many : Nat) (h : 2 ≤ many) (h2 : many ≤ 20) : ∃ q : Nat, q ≤ 4 ∧ Lib.bitLen (many - 1) = q + 1 ∧ split many = 2 ^ q := by
  have : ∀ m : Fin 21, 2 ≤ m.val → ∃ q : Fin 5, Lib.bitLen (m.val - 1) = q.val + 1 ∧ split m.val = 2 ^ q.val := by decide +kernel
  obtain ⟨q, a, b⟩ := this ⟨many, by omega⟩ h
  exact ⟨q.val, by omega, a, b⟩
theorem implSplit (many : Nat) (w : World) (h : 2 ≤ many) (h2 : many ≤ 20) : Calls Tryd.prog 106 #[.int .i64 many] w fun e w' => e = .returned (.int .i64 (split many : Nat)) ∧ w = w' := by
  obtain ⟨q, hq, hl, hs⟩ := spl_len many h h2
  have C := Lib.hid (Tryd.bits_Len ((many : Int) - 1) w (by omega) (by omega))
  rw [show ((many : Int) - 1).toNat = many - 1 by omega, hl] at C
  rw [hs]
  clear hs hl
  go_enter Tryd.func106, Tryd.ntmps106
  go_wp2_with fail
  refine C.out.mono ?_
  rintro e w' ⟨rfl, rfl⟩
  clear C
  rcases (show q = 0 ∨ q = 1 ∨ q = 2 ∨ q = 3 ∨ q = 4 by omega) with rfl | rfl | rfl | rfl | rfl
  all_goals
    go_wp2
    go_ret
    exact ⟨rfl, rfl⟩
theorem spl_step (f n many : Nat) (h : 2 * n < many) (hf : many ≤ n + f) : ∃ g, f = g + 1 ∧ splF f n many = splF g (2 * n) many := by
  match f with
  | 0 => omega
  | g + 1 => exact ⟨g, rfl, by rw [splF, if_pos h]⟩
theorem spl_end (f n many : Nat) (h : ¬ 2 * n < many) : splF f n many = n := by
  match f with
  | 0 => rfl
  | g + 1 => rw [splF, if_neg h]
theorem specSplit (many : Nat) (w : World) (h : 2 ≤ many) (h2 : many ≤ 20) : Calls Tryd.prog 107 #[.int .i64 many] w fun e w' => e = .returned (.int .i64 (split many : Nat)) ∧ w = w' := by
  obtain ⟨s, hs⟩ : ∃ s, split many = s := ⟨_, rfl⟩
  have HS := Lib.hid hs
  rw [hs]
  clear hs
  go_enter Tryd.func107, Tryd.ntmps107
  go_wp2
  go_loopw [3] (fun i wr => ∃ n f : Nat, i = .int .i64 n ∧ 1 ≤ n ∧ n < many ∧ many ≤ n + f ∧ f ≤ 20 ∧ Hid (splF f n many = s) ∧ wr = w) (fun i _ => many - (intOf i).toNat)
  case atStart => exact ⟨1, many, rfl, by omega, by omega, by omega, by omega, HS, rfl⟩
  case round =>
    obtain ⟨n, f, rfl, h1, hn, hf, hf2, HF, rfl⟩ := hrel
    by_cases hlt : 2 * n < many
    · obtain ⟨g, rfl, hg⟩ := spl_step f n many hlt hf
      have HG := Lib.hid (hg.symm.trans HF.out)
      clear hg HF
      go_wp2
      go_roundw
      case rel => exact ⟨2 * n, g, by go_num, by omega, by omega, by omega, by omega, HG, by first | rfl | trivial⟩
      case measure => simp [intOf]; omega
    · have hn := HF.out
      rw [spl_end f n many hlt] at hn
      clear HF HS
      subst hn
      go_wp2
      go_ret
      exact ⟨rfl, rfl⟩
end Go.Proofs.YtmnihigackilkaaDoor.Spl
