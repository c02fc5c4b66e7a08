/-
  States of the hash: contracts of the laws' own helpers on states, of GoodState by the reference and by the program, and the walk of the law on GoodState.
-/
import Derived.Test.YtfoclgijhkibeabDoorRows
import Derived.Test.YtfoclgijhkibeabDoorMem
import Derived.Test.YtfoclgijhkibeabDoorInts
namespace Go.Proofs.YtfoclgijhkibeabDoor.State
open Go.ChangeShapes Go.WideShapes Go.ChangeAt Go.RowKit
open Go.Proofs.YtfoclgijhkibeabDoor.Mem Go.Proofs.YtfoclgijhkibeabDoor.Ints
set_option linter.unusedVariables false
set_option maxRecDepth 100000

def stV (A : Option Addr) (n c : Nat) (s : ByteArray) (L : Int) : Value := .agg #[.slice A n c, .string s, .int .i64 L]

def inB (z lo hi : Int) : Bool := decide (lo ≤ z ∧ z ≤ hi)
def allB (zs : List Int) (lo hi : Int) : Bool := zs.all fun z => inB z lo hi
theorem allB_take_succ {zs : List Int} {lo hi : Int} {k : Nat} (h : k < zs.length) (ht : allB (zs.take k) lo hi = true) (hz : lo ≤ zs[k] ∧ zs[k] ≤ hi) : allB (zs.take (k + 1)) lo hi = true := by
  rw [take_snoc_int zs k h]; unfold allB at *; rw [List.all_append, ht]; simp [inB, hz]
theorem allB_no {zs : List Int} {lo hi : Int} {k : Nat} (h : k < zs.length) (hz : ¬ (lo ≤ zs[k] ∧ zs[k] ≤ hi)) : allB zs lo hi = false := by
  unfold allB; rw [List.all_eq_false]; exact ⟨zs[k], List.getElem_mem h, by simp [inB]; omega⟩
set_option maxHeartbeats 1000000 in
theorem l1All (A : Option Addr) (n c : Nat) (zs : List Int) (lo hi : Int) (B : Nat) (w : World) (hn : n ≤ 1048576) (hx : Rd w B 1 A n (ints zs)) :
    Calls Tryd.prog 103 #[.slice A n c, .int .i64 lo, .int .i64 hi] w fun e w' => e = .returned (.bool (allB zs lo hi)) ∧ w = w' := by
  have lx := hx.len
  subst lx
  have HX := Lib.hid hx
  clear hx
  go_enter Tryd.func103, Tryd.ntmps103
  go_wp2
  go_loop [11] (fun i => ∃ k : Nat, k ≤ zs.length ∧ i = .int .i64 k ∧ allB (zs.take k) lo hi = true) (fun i => zs.length - (intOf i).toNat)
  case atStart => exact ⟨0, by omega, rfl, rfl⟩
  case round =>
    obtain ⟨k, hk, rfl, ht⟩ := hrel
    have HT := Lib.hid ht
    clear ht
    by_cases hlt : k < zs.length
    · obtain ⟨b, off, hl, rfl, _, hc⟩ := HX.out.int hlt
      by_cases h0 : lo ≤ zs[k]
      · by_cases h1 : zs[k] ≤ hi
        · go_wp2
          go_round
          case rel => exact ⟨k + 1, by omega, by go_num, allB_take_succ hl HT.out ⟨h0, h1⟩⟩
          case measure => simp [intOf]; omega
        · have e := Lib.hid (allB_no (lo := lo) (hi := hi) hl (by omega))
          have h1' : decide (zs[k] ≤ hi) = false := by simpa using h1
          go_wp2
          go_ret
          exact ⟨by rw [e.out]; rfl, rfl⟩
      · have e := Lib.hid (allB_no (lo := lo) (hi := hi) hl (by omega))
        have h0' : decide (lo ≤ zs[k]) = false := by simpa using h0
        go_wp2
        go_ret
        exact ⟨by rw [e.out]; rfl, rfl⟩
    · have e := HT.out
      rw [List.take_of_length_le (by omega)] at e
      have E := Lib.hid e
      clear e
      go_wp2
      go_ret
      exact ⟨by rw [E.out]; rfl, rfl⟩
def goodS (zs : List Int) (s : ByteArray) (L : Int) : Bool := decide (zs.length = 8 ∧ allB zs 0 4294967295 = true ∧ 0 ≤ L ∧ L ≤ 1000000 ∧ (s.size : Int) = L % 64)
end Go.Proofs.YtfoclgijhkibeabDoor.State
