/-
  Runes: which numbers are runes, the bytes of a rune, where an encoding starts. Contracts of the reference and of the program, and the walks of the laws on GoodRune, IsStart, NextStart and RuneBytes.
-/
import Derived.Test.YtehmlkcnhccjmabDoorRows
import Derived.Test.YtehmlkcnhccjmabDoorMem
import Derived.OpenShut
import Derived.ShutString
import Derived.Laws.Runes
namespace Go.Proofs.YtehmlkcnhccjmabDoor.Rune
open Go.ChangeShapes Go.WideShapes Go.ChangeAt Go.RowKit
open Go.Proofs.YtehmlkcnhccjmabDoor.Mem
set_option linter.unusedVariables false

def goodR (n : Int) : Bool := decide (0 ≤ n ∧ n ≤ 1114111 ∧ ¬ (55296 ≤ n ∧ n ≤ 57343))
theorem goodR_no {n : Int} (h : n < 0 ∨ 1114111 < n ∨ (55296 ≤ n ∧ n ≤ 57343)) : goodR n = false := by unfold goodR; rw [decide_eq_false_iff_not]; omega
theorem goodR_yes {n : Int} (h : (0 ≤ n ∧ n < 55296) ∨ (57343 < n ∧ n ≤ 1114111)) : goodR n = true := by unfold goodR; rw [decide_eq_true_iff]; omega
theorem goodR_bd {n : Int} (h : goodR n = true) : 0 ≤ n ∧ n ≤ 1114111 ∧ ¬ (55296 ≤ n ∧ n ≤ 57343) := of_decide_eq_true h
theorem five (n : Int) : n < 0 ∨ 1114111 < n ∨ (0 ≤ n ∧ n < 55296) ∨ (55296 ≤ n ∧ n ≤ 57343) ∨ (57343 < n ∧ n ≤ 1114111) := by omega
theorem implGood (n : Int) (w : World) : Calls Tryd.prog 49 #[.int .i64 n] w fun e w' => e = .returned (.bool (goodR n)) ∧ w = w' := by
  rcases five n with h | h | ⟨h, h1⟩ | ⟨h, h1⟩ | ⟨h, h1⟩
  · have E := Lib.hid (goodR_no (.inl h))
    go_enter Tryd.func49, Tryd.ntmps49
    go_wp2
    go_ret
    exact ⟨by rw [E.out]; rfl, rfl⟩
  · have E := Lib.hid (goodR_no (.inr (.inl h)))
    go_enter Tryd.func49, Tryd.ntmps49
    go_wp2
    go_ret
    exact ⟨by rw [E.out]; rfl, rfl⟩
  · have E := Lib.hid (goodR_yes (.inl ⟨h, h1⟩))
    go_enter Tryd.func49, Tryd.ntmps49
    go_wp2
    go_ret
    exact ⟨by rw [E.out]; rfl, rfl⟩
  · have E := Lib.hid (goodR_no (.inr (.inr ⟨h, h1⟩)))
    have t : decide (57343 < n) = false := by simp; omega
    have t' : decide (n < 55296) = false := by simp; omega
    go_enter Tryd.func49, Tryd.ntmps49
    go_wp2
    go_ret
    exact ⟨by rw [E.out]; rfl, rfl⟩
  · have E := Lib.hid (goodR_yes (.inr ⟨h, h1⟩))
    have t : decide (57343 < n) = true := by simp; omega
    go_enter Tryd.func49, Tryd.ntmps49
    go_wp2
    go_ret
    exact ⟨by rw [E.out]; rfl, rfl⟩
theorem specGood (n : Int) (w : World) : Calls Tryd.prog 50 #[.int .i64 n] w fun e w' => e = .returned (.bool (goodR n)) ∧ w = w' := by
  rcases five n with h | h | ⟨h, h1⟩ | ⟨h, h1⟩ | ⟨h, h1⟩
  · have E := Lib.hid (goodR_no (.inl h))
    go_enter Tryd.func50, Tryd.ntmps50
    go_wp2
    go_ret
    exact ⟨by rw [E.out]; rfl, rfl⟩
  · have E := Lib.hid (goodR_no (.inr (.inl h)))
    have t : decide (n ≤ 1114111) = false := by simp; omega
    go_enter Tryd.func50, Tryd.ntmps50
    go_wp2
    go_ret
    exact ⟨by rw [E.out]; rfl, rfl⟩
  · have E := Lib.hid (goodR_yes (.inl ⟨h, h1⟩))
    go_enter Tryd.func50, Tryd.ntmps50
    go_wp2
    go_ret
    exact ⟨by rw [E.out]; rfl, rfl⟩
  · have E := Lib.hid (goodR_no (.inr (.inr ⟨h, h1⟩)))
    have t : decide (n ≤ 57343) = true := by simp; omega
    go_enter Tryd.func50, Tryd.ntmps50
    go_wp2
    go_ret
    exact ⟨by rw [E.out]; rfl, rfl⟩
  · have E := Lib.hid (goodR_yes (.inr ⟨h, h1⟩))
    have t : decide (n ≤ 57343) = false := by simp; omega
    go_enter Tryd.func50, Tryd.ntmps50
    go_wp2
    go_ret
    exact ⟨by rw [E.out]; rfl, rfl⟩

def isSt (b : UInt8) : Bool := decide (b.toNat < 128 ∨ 191 < b.toNat)
def nx (l : List UInt8) : Nat := (l.takeWhile fun b => !isSt b).length
theorem drop_at (s : ByteArray) (k : Nat) (h : k < s.size) : s.data.toList.drop k = s[k] :: s.data.toList.drop (k + 1) := by
  rw [List.drop_eq_getElem_cons (by simpa using h)]; rfl
theorem nx_stop (s : ByteArray) (k : Nat) (h : k < s.size) (hb : isSt s[k] = true) : nx (s.data.toList.drop k) = 0 := by
  rw [drop_at s k h]; simp [nx, hb]
theorem nx_go (s : ByteArray) (k : Nat) (h : k < s.size) (hb : isSt s[k] = false) : nx (s.data.toList.drop k) = nx (s.data.toList.drop (k + 1)) + 1 := by
  rw [drop_at s k h]; simp [nx, hb]
theorem nx_end (s : ByteArray) (k : Nat) (h : s.size ≤ k) : nx (s.data.toList.drop k) = 0 := by
  rw [List.drop_eq_nil_of_le (by simpa using h)]; rfl
theorem nx_le (l : List UInt8) : nx l ≤ l.length := by unfold nx; exact (List.takeWhile_sublist _).length_le
theorem implNext (s : ByteArray) (a : Nat) (w : World) (hs : s.size ≤ 240) (ha : a ≤ s.size) :
    Calls Tryd.prog 35 #[.string s, .int .i64 a] w fun e w' => e = .returned (.tuple #[.int .i64 ((a + nx (s.data.toList.drop a) : Nat) : Int), .bool true]) ∧ w = w' := by
  have ha' : (a : Int) ≤ (s.size : Int) := by omega
  obtain ⟨R, hR⟩ : ∃ R, a + nx (s.data.toList.drop a) = R := ⟨_, rfl⟩
  have HR := Lib.hid hR
  rw [hR]
  clear hR
  go_enter Tryd.func35, Tryd.ntmps35
  go_wp2
  go_loop [1] (fun i => ∃ k : Nat, k ≤ s.size ∧ i = .int .i64 k ∧ k + nx (s.data.toList.drop k) = R) (fun i => s.size - (intOf i).toNat)
  case atStart => exact ⟨a, ha, rfl, HR.out⟩
  case round =>
    obtain ⟨k, hk, rfl, ht⟩ := hrel
    clear HR
    have HT := Lib.hid ht
    clear ht
    by_cases hlt : k < s.size
    · have hi0 : (0 : Int) ≤ (k : Int) := Int.natCast_nonneg _
      have hi1 : (k : Int) < (s.size : Int) := by omega
      have h255 : (s[k]).toNat < 256 := (s[k]).toNat_lt
      by_cases h1 : (s[k]).toNat < 128
      · have E := Lib.hid (nx_stop s k hlt (by simp [isSt, h1]))
        have h1' : ((s[k]).toNat : Int) < 128 := by omega
        go_wp2
        go_ret2
        exact ⟨by rw [← HT.out, E.out]; rfl, rfl⟩
      by_cases h2 : 191 < (s[k]).toNat
      · have E := Lib.hid (nx_stop s k hlt (by simp [isSt, h2]))
        have h2' : (191 : Int) < ((s[k]).toNat : Int) := by omega
        have h2d : decide ((191 : Int) < ((s[k]).toNat : Int)) = true := by simp; omega
        have h1d : decide (((s[k]).toNat : Int) < 128) = false := by simp; omega
        go_wp2
        go_ret2
        exact ⟨by rw [← HT.out, E.out]; rfl, rfl⟩
      · have E := Lib.hid (nx_go s k hlt (by simp [isSt]; omega))
        have h2d : decide ((191 : Int) < ((s[k]).toNat : Int)) = false := by simp; omega
        have h1d : decide (((s[k]).toNat : Int) < 128) = false := by simp; omega
        go_wp2
        go_round
        case rel => exact ⟨k + 1, by omega, by go_num, by rw [← HT.out, E.out]; omega⟩
        case measure => simp [intOf]; omega
    · have E := Lib.hid (nx_end s k (by omega))
      go_wp2
      go_ret2
      exact ⟨by rw [← HT.out, E.out]; rfl, rfl⟩
theorem implNextNo (s : ByteArray) (a : Int) (w : World) (hs : s.size ≤ maxLen) (h : 240 < s.size ∨ a < 0 ∨ (s.size : Int) < a) :
    Calls Tryd.prog 35 #[.string s, .int .i64 a] w fun e w' => e = .returned (.tuple #[.int .i64 0, .bool false]) ∧ w = w' := by
  unfold maxLen at hs
  have h' : (decide ((240 : Int) < (s.size : Int)) || decide (a < 0) || decide ((s.size : Int) < a)) = true := by simp; omega
  clear h
  go_enter Tryd.func35, Tryd.ntmps35
  go_wp2
  all_goals
    go_ret2
    exact ⟨rfl, rfl⟩
theorem specNext (s : ByteArray) (a : Nat) (w : World) (hs : s.size ≤ 240) (ha : a ≤ s.size) :
    Calls Tryd.prog 45 #[.string s, .int .i64 a] w fun e w' => e = .returned (.tuple #[.int .i64 ((a + nx (s.data.toList.drop a) : Nat) : Int), .bool true]) ∧ w = w' := by
  have ha' : (a : Int) ≤ (s.size : Int) := by omega
  obtain ⟨R, hR⟩ : ∃ R, a + nx (s.data.toList.drop a) = R := ⟨_, rfl⟩
  have HR := Lib.hid hR
  rw [hR]
  clear hR
  go_enter Tryd.func45, Tryd.ntmps45
  go_wp2
  go_loop [1] (fun i => ∃ k : Nat, k ≤ s.size ∧ i = .int .i64 k ∧ k + nx (s.data.toList.drop k) = R) (fun i => s.size - (intOf i).toNat)
  case atStart => exact ⟨a, ha, rfl, HR.out⟩
  case round =>
    obtain ⟨k, hk, rfl, ht⟩ := hrel
    clear HR
    have HT := Lib.hid ht
    clear ht
    by_cases hlt : k < s.size
    · have hi0 : (0 : Int) ≤ (k : Int) := Int.natCast_nonneg _
      have hi1 : (k : Int) < (s.size : Int) := by omega
      have h255 : (s[k]).toNat < 256 := (s[k]).toNat_lt
      by_cases h1 : (s[k]).toNat < 128
      · have E := Lib.hid (nx_stop s k hlt (by simp [isSt, h1]))
        have h1' : ((s[k]).toNat : Int) < 128 := by omega
        go_wp2
        go_ret2
        exact ⟨by rw [← HT.out, E.out]; rfl, rfl⟩
      by_cases h2 : 191 < (s[k]).toNat
      · have E := Lib.hid (nx_stop s k hlt (by simp [isSt, h2]))
        have h2' : (191 : Int) < ((s[k]).toNat : Int) := by omega
        have h2d : decide ((191 : Int) < ((s[k]).toNat : Int)) = true := by simp; omega
        have h1d : decide (((s[k]).toNat : Int) < 128) = false := by simp; omega
        go_wp2
        go_ret2
        exact ⟨by rw [← HT.out, E.out]; rfl, rfl⟩
      · have E := Lib.hid (nx_go s k hlt (by simp [isSt]; omega))
        have h2d : decide ((191 : Int) < ((s[k]).toNat : Int)) = false := by simp; omega
        have h1d : decide (((s[k]).toNat : Int) < 128) = false := by simp; omega
        go_wp2
        go_round
        case rel => exact ⟨k + 1, by omega, by go_num, by rw [← HT.out, E.out]; omega⟩
        case measure => simp [intOf]; omega
    · have E := Lib.hid (nx_end s k (by omega))
      go_wp2
      go_ret2
      exact ⟨by rw [← HT.out, E.out]; rfl, rfl⟩
theorem specNextNo (s : ByteArray) (a : Int) (w : World) (hs : s.size ≤ maxLen) (h : 240 < s.size ∨ a < 0 ∨ (s.size : Int) < a) :
    Calls Tryd.prog 45 #[.string s, .int .i64 a] w fun e w' => e = .returned (.tuple #[.int .i64 0, .bool false]) ∧ w = w' := by
  unfold maxLen at hs
  by_cases h1 : 240 < s.size
  · clear h
    have h1' : (240 : Int) < (s.size : Int) := by omega
    have t : decide ((s.size : Int) ≤ 240) = false := by simp; omega
    go_enter Tryd.func45, Tryd.ntmps45
    go_wp2
    go_ret2
    exact ⟨rfl, rfl⟩
  by_cases h2 : a < 0
  · clear h
    have t : decide ((0 : Int) ≤ a) = false := by simp; omega
    go_enter Tryd.func45, Tryd.ntmps45
    go_wp2
    go_ret2
    exact ⟨rfl, rfl⟩
  · have t : decide (a ≤ (s.size : Int)) = false := by simp; omega
    have h0 : 0 ≤ a := by omega
    clear h
    go_enter Tryd.func45, Tryd.ntmps45
    go_wp2
    go_ret2
    exact ⟨rfl, rfl⟩
end Go.Proofs.YtehmlkcnhccjmabDoor.Rune
