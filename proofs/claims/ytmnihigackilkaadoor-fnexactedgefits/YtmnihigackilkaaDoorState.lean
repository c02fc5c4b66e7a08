/-
  States of the hash: contracts of the laws' own helpers on states, of GoodState by the reference and by the program, and the walk of the law on GoodState.
-/
import Derived.Test.YtmnihigackilkaaDoorRows
import Derived.Test.YtmnihigackilkaaDoorMem
import Derived.Test.YtmnihigackilkaaDoorInts
namespace Go.Proofs.YtmnihigackilkaaDoor.State
open Go.ChangeShapes Go.WideShapes Go.ChangeAt Go.RowKit
open Go.Proofs.YtmnihigackilkaaDoor.Mem Go.Proofs.YtmnihigackilkaaDoor.Ints
set_option linter.unusedVariables false
set_option maxRecDepth 100000

def stV (A : Option Addr) (n c : Nat) (s : ByteArray) (L : Int) : Value := .agg #[.slice A n c, .string s, .int .i64 L]

def inB (z lo hi : Int) : Bool := decide (lo ≤ z ∧ z ≤ hi)
def allB (zs : List Int) (lo hi : Int) : Bool := zs.all fun z => inB z lo hi
theorem allB_take_succ {zs : List Int} {lo hi : Int} {k : Nat} (h : k < zs.length) (ht : allB (zs.take k) lo hi = true) (hz : lo ≤ zs[k] ∧ zs[k] ≤ hi) : allB (zs.take (k + 1)) lo hi = true := by
  rw [take_snoc_int zs k h]; unfold allB at *; rw [List.all_append, ht]; simp [inB, hz]
theorem allB_no {zs : List Int} {lo hi : Int} {k : Nat} (h : k < zs.length) (hz : ¬ (lo ≤ zs[k] ∧ zs[k] ≤ hi)) : allB zs lo hi = false := by
  unfold allB; rw [List.all_eq_false]; exact ⟨zs[k], List.getElem_mem h, by simp [inB]; omega⟩
def goodS (zs : List Int) (s : ByteArray) (L : Int) : Bool := decide (zs.length = 8 ∧ allB zs 0 4294967295 = true ∧ 0 ≤ L ∧ L ≤ 1000000 ∧ (s.size : Int) = L % 64)
end Go.Proofs.YtmnihigackilkaaDoor.State
