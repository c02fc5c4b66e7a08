/-
  Runes: which numbers are runes, the bytes of a rune, where an encoding starts. Contracts of the reference and of the program, and the walks of the laws on GoodRune, IsStart, NextStart and RuneBytes.
-/
import Derived.Test.YtgbdieghphbcfabRows
import Derived.Test.YtgbdieghphbcfabMem
import Derived.OpenShut
import Derived.ShutString
import Derived.Laws.Runes
namespace Go.Proofs.Ytgbdieghphbcfab.Rune
open Go.ChangeShapes Go.WideShapes Go.ChangeAt Go.RowKit
open Go.Proofs.Ytgbdieghphbcfab.Mem
set_option linter.unusedVariables false

def goodR (n : Int) : Bool := decide (0 ≤ n ∧ n ≤ 1114111 ∧ ¬ (55296 ≤ n ∧ n ≤ 57343))
theorem goodR_no {n : Int} (h : n < 0 ∨ 1114111 < n ∨ (55296 ≤ n ∧ n ≤ 57343)) : goodR n = false := by unfold goodR; rw [decide_eq_false_iff_not]; omega
theorem goodR_yes {n : Int} (h : (0 ≤ n ∧ n < 55296) ∨ (57343 < n ∧ n ≤ 1114111)) : goodR n = true := by unfold goodR; rw [decide_eq_true_iff]; omega
theorem goodR_bd {n : Int} (h : goodR n = true) : 0 ≤ n ∧ n ≤ 1114111 ∧ ¬ (55296 ≤ n ∧ n ≤ 57343) := of_decide_eq_true h
theorem five (n : Int) : n < 0 ∨ 1114111 < n ∨ (0 ≤ n ∧ n < 55296) ∨ (55296 ≤ n ∧ n ≤ 57343) ∨ (57343 < n ∧ n ≤ 1114111) := by omega
theorem implGood (n : Int) (w : World) : Calls Try.prog 12 #[.int .i64 n] w fun e w' => e = .returned (.bool (goodR n)) ∧ w = w' := by
  rcases five n with h | h | ⟨h, h1⟩ | ⟨h, h1⟩ | ⟨h, h1⟩
  · have E := Lib.hid (goodR_no (.inl h))
    go_enter Try.func12, Try.ntmps12
    go_wp2
    go_ret
    exact ⟨by rw [E.out]; rfl, rfl⟩
  · have E := Lib.hid (goodR_no (.inr (.inl h)))
    go_enter Try.func12, Try.ntmps12
    go_wp2
    go_ret
    exact ⟨by rw [E.out]; rfl, rfl⟩
  · have E := Lib.hid (goodR_yes (.inl ⟨h, h1⟩))
    go_enter Try.func12, Try.ntmps12
    go_wp2
    go_ret
    exact ⟨by rw [E.out]; rfl, rfl⟩
  · have E := Lib.hid (goodR_no (.inr (.inr ⟨h, h1⟩)))
    have t : decide (57343 < n) = false := by simp; omega
    have t' : decide (n < 55296) = false := by simp; omega
    go_enter Try.func12, Try.ntmps12
    go_wp2
    go_ret
    exact ⟨by rw [E.out]; rfl, rfl⟩
  · have E := Lib.hid (goodR_yes (.inr ⟨h, h1⟩))
    have t : decide (57343 < n) = true := by simp; omega
    go_enter Try.func12, Try.ntmps12
    go_wp2
    go_ret
    exact ⟨by rw [E.out]; rfl, rfl⟩
theorem specGood (n : Int) (w : World) : Calls Try.prog 11 #[.int .i64 n] w fun e w' => e = .returned (.bool (goodR n)) ∧ w = w' := by
  rcases five n with h | h | ⟨h, h1⟩ | ⟨h, h1⟩ | ⟨h, h1⟩
  · have E := Lib.hid (goodR_no (.inl h))
    go_enter Try.func11, Try.ntmps11
    go_wp2
    go_ret
    exact ⟨by rw [E.out]; rfl, rfl⟩
  · have E := Lib.hid (goodR_no (.inr (.inl h)))
    have t : decide (n ≤ 1114111) = false := by simp; omega
    go_enter Try.func11, Try.ntmps11
    go_wp2
    go_ret
    exact ⟨by rw [E.out]; rfl, rfl⟩
  · have E := Lib.hid (goodR_yes (.inl ⟨h, h1⟩))
    go_enter Try.func11, Try.ntmps11
    go_wp2
    go_ret
    exact ⟨by rw [E.out]; rfl, rfl⟩
  · have E := Lib.hid (goodR_no (.inr (.inr ⟨h, h1⟩)))
    have t : decide (n ≤ 57343) = true := by simp; omega
    go_enter Try.func11, Try.ntmps11
    go_wp2
    go_ret
    exact ⟨by rw [E.out]; rfl, rfl⟩
  · have E := Lib.hid (goodR_yes (.inr ⟨h, h1⟩))
    have t : decide (n ≤ 57343) = false := by simp; omega
    go_enter Try.func11, Try.ntmps11
    go_wp2
    go_ret
    exact ⟨by rw [E.out]; rfl, rfl⟩

def isSt (b : UInt8) : Bool := decide (b.toNat < 128 ∨ 191 < b.toNat)
def nx (l : List UInt8) : Nat := (l.takeWhile fun b => !isSt b).length
theorem drop_at (s : ByteArray) (k : Nat) (h : k < s.size) : s.data.toList.drop k = s[k] :: s.data.toList.drop (k + 1) := by
  rw [List.drop_eq_getElem_cons (by simpa using h)]; rfl
theorem nx_stop (s : ByteArray) (k : Nat) (h : k < s.size) (hb : isSt s[k] = true) : nx (s.data.toList.drop k) = 0 := by
  rw [drop_at s k h]; simp [nx, hb]
theorem nx_go (s : ByteArray) (k : Nat) (h : k < s.size) (hb : isSt s[k] = false) : nx (s.data.toList.drop k) = nx (s.data.toList.drop (k + 1)) + 1 := by
  rw [drop_at s k h]; simp [nx, hb]
theorem nx_end (s : ByteArray) (k : Nat) (h : s.size ≤ k) : nx (s.data.toList.drop k) = 0 := by
  rw [List.drop_eq_nil_of_le (by simpa using h)]; rfl
theorem nx_le (l : List UInt8) : nx l ≤ l.length := by unfold nx; exact (List.takeWhile_sublist _).length_le
end Go.Proofs.Ytgbdieghphbcfab.Rune
