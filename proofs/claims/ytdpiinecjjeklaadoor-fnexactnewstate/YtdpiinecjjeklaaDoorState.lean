/-
  States of the hash: contracts of the laws' own helpers on states, of GoodState by the reference and by the program, and the walk of the law on GoodState.
-/
import Derived.Test.YtdpiinecjjeklaaDoorRows
import Derived.Test.YtdpiinecjjeklaaDoorMem
import Derived.Test.YtdpiinecjjeklaaDoorInts
namespace Go.Proofs.YtdpiinecjjeklaaDoor.State
open Go.ChangeShapes Go.WideShapes Go.ChangeAt Go.RowKit
open Go.Proofs.YtdpiinecjjeklaaDoor.Mem Go.Proofs.YtdpiinecjjeklaaDoor.Ints
set_option linter.unusedVariables false

def stV (A : Option Addr) (n c : Nat) (s : ByteArray) (L : Int) : Value := .agg #[.slice A n c, .string s, .int .i64 L]

theorem eqState (A D : Option Addr) (n m c d : Nat) (s t : ByteArray) (L M : Int) (xs ys : List Int) (B B' : Nat) (w : World) (hn : n ≤ 1048576) (hm : m ≤ maxLen) (hx : Rd w B 1 A n (ints xs)) (hy : Rd w B' 1 D m (ints ys))
    (hB : B ≤ w.heap.size) (hB' : B' ≤ w.heap.size) (b : Bool) (hb : b = decide (xs = ys ∧ s = t ∧ L = M)) :
    Calls Tryd.prog 6 #[stV A n c s L, stV D m d t M] w fun e w' => e = .returned (.bool b) ∧ Below w.heap.size w w' := by
  unfold stV
  have hal : Below w.heap.size w ((w.alloc (.cells #[.slice A n c, .string s, .int .i64 L] 24)).alloc (.cells #[.slice D m d, .string t, .int .i64 M] 24)) := ((Below.refl _ w).alloc (Nat.le_refl _) _).alloc (by simp) _
  have C := Lib.hid (eqIntS A D n m c d xs ys B B' _ hn hm (hx.below hal hB) (hy.below hal hB'))
  have HB := Lib.hid hb
  clear hx hy hb
  by_cases h1 : xs = ys
  · have d1 : decide (xs = ys) = true := decide_eq_true h1
    by_cases h2 : s = t
    · subst h2
      by_cases h3 : L = M
      · subst h3
        have e := Lib.hid (HB.out.trans (decide_eq_true ⟨h1, rfl, rfl⟩))
        clear h1 HB
        go_enter Tryd.func6, Tryd.ntmps6
        go_wp2_with fail
        refine C.out.mono ?_
        rintro e' w' ⟨rfl, q, rfl⟩
        rw [d1]
        clear d1 C
        go_wp2
        go_ret
        exact ⟨by rw [e.out]; rfl, below_drewN hal _⟩
      · have e := Lib.hid (HB.out.trans (decide_eq_false fun h => h3 h.2.2))
        have t3 : (L != M) = true := by rw [bne_iff_ne]; exact h3
        clear h1 HB h3
        go_enter Tryd.func6, Tryd.ntmps6
        go_wp2_with fail
        refine C.out.mono ?_
        rintro e' w' ⟨rfl, q, rfl⟩
        rw [d1]
        clear d1 C
        go_wp2
        go_ret
        exact ⟨by rw [e.out]; rfl, below_drewN hal _⟩
    · have e := Lib.hid (HB.out.trans (decide_eq_false fun h => h2 h.2.1))
      have t2 := str_ne h2
      clear h1 HB h2
      go_enter Tryd.func6, Tryd.ntmps6
      go_wp2_with fail
      refine C.out.mono ?_
      rintro e' w' ⟨rfl, q, rfl⟩
      rw [d1]
      clear d1 C
      go_wp2
      go_ret
      exact ⟨by rw [e.out]; rfl, below_drewN hal _⟩
  · have d1 : decide (xs = ys) = false := decide_eq_false h1
    have e := Lib.hid (HB.out.trans (decide_eq_false fun h => h1 h.1))
    clear h1 HB
    go_enter Tryd.func6, Tryd.ntmps6
    go_wp2_with fail
    refine C.out.mono ?_
    rintro e' w' ⟨rfl, q, rfl⟩
    rw [d1]
    clear d1 C
    go_wp2
    go_ret
    exact ⟨by rw [e.out]; rfl, below_drewN hal _⟩
def inB (z lo hi : Int) : Bool := decide (lo ≤ z ∧ z ≤ hi)
def allB (zs : List Int) (lo hi : Int) : Bool := zs.all fun z => inB z lo hi
theorem allB_take_succ {zs : List Int} {lo hi : Int} {k : Nat} (h : k < zs.length) (ht : allB (zs.take k) lo hi = true) (hz : lo ≤ zs[k] ∧ zs[k] ≤ hi) : allB (zs.take (k + 1)) lo hi = true := by
  rw [take_snoc_int zs k h]; unfold allB at *; rw [List.all_append, ht]; simp [inB, hz]
theorem allB_no {zs : List Int} {lo hi : Int} {k : Nat} (h : k < zs.length) (hz : ¬ (lo ≤ zs[k] ∧ zs[k] ≤ hi)) : allB zs lo hi = false := by
  unfold allB; rw [List.all_eq_false]; exact ⟨zs[k], List.getElem_mem h, by simp [inB]; omega⟩
def goodS (zs : List Int) (s : ByteArray) (L : Int) : Bool := decide (zs.length = 8 ∧ allB zs 0 4294967295 = true ∧ 0 ≤ L ∧ L ≤ 1000000 ∧ (s.size : Int) = L % 64)
end Go.Proofs.YtdpiinecjjeklaaDoor.State
