/-
  What the law on digests wants of the laws' own: two rows of numbers compared, and a number out of bytes.
-/
import Derived.Test.YtfoclgijhkibeabDoorCur
import Derived.Deep.QuietTactic
import Derived.BigQuiet
namespace Go.Proofs.YtfoclgijhkibeabDoor.DrawI
open Go.ChangeShapes Go.WideShapes Go.ChangeAt Go.RowKit
open Go.Proofs.YtfoclgijhkibeabDoor.Mem Go.Proofs.YtfoclgijhkibeabDoor.Ints Go.Proofs.YtfoclgijhkibeabDoor.Cur
set_option linter.unusedVariables false
set_option maxRecDepth 100000

set_option maxRecDepth 100000 in
set_option maxHeartbeats 1000000 in
theorem sameInts (A D : Option Addr) (n m c d : Nat) (xs ys : List Int) (B B' : Nat) (w : World) (hn : n ≤ 1048576) (hm : m ≤ maxLen) (hx : Rd w B 1 A n (ints xs)) (hy : Rd w B' 1 D m (ints ys)) :
    Calls Tryd.prog 102 #[.slice A n c, .slice D m d] w fun e w' => e = .returned (.bool (decide (xs = ys))) ∧ ∃ q, w' = w.drewN q := by
  have lx := hx.len
  have ly := hy.len
  unfold maxLen at hm
  by_cases hnm : n = m
  · subst hnm
    have HX := Lib.hid hx
    have HY := Lib.hid hy
    have LX := Lib.hid lx
    have LY := Lib.hid ly
    clear hx hy lx ly
    go_enter Tryd.func102, Tryd.ntmps102
    go_wp2
    go_loopw [13] (fun i wr => ∃ k q : Nat, k ≤ n ∧ i = .int .i64 k ∧ wr = w.drewN q ∧ xs.take k = ys.take k) (fun i _ => n - (intOf i).toNat)
    case atStart => exact ⟨0, 0, by omega, rfl, rfl, rfl⟩
    case round =>
      obtain ⟨k, q, hk, rfl, rfl, ht⟩ := hrel
      have HT := Lib.hid ht
      clear ht
      by_cases hlt : k < n
      · obtain ⟨b, off, hl, rfl, _, hc⟩ := HX.out.int hlt
        obtain ⟨b', off', hl', rfl, _, hc'⟩ := HY.out.int hlt
        have i0 : (0 : Int) ≤ (k : Int) := by omega
        have i1 : (k : Int) < (n : Int) := by omega
        by_cases he : xs[k] = ys[k]
        · have hb : (xs[k] != ys[k]) = false := by simp [he]
          have HE := Lib.hid he
          clear he
          go_wp2_with fail
          go_quiet (fail)
          go_wp2
          go_roundw
          case rel => exact ⟨k + 1, _, by omega, by go_num, rfl, take_eq_succ hl hl' HT.out HE.out⟩
          case measure => simp [intOf]; omega
        · have hb : (xs[k] != ys[k]) = true := by simp [he]
          have hne : decide (xs = ys) = false := by
            rw [decide_eq_false_iff_not]; intro e; apply he; simp only [e]
          have HN := Lib.hid hne
          clear he hne
          go_wp2_with fail
          go_quiet (fail)
          go_wp2
          go_ret
          exact ⟨by rw [HN.out]; rfl, _, World.drewN_drewN ..⟩
      · have hd : decide (xs = ys) = true := by
          rw [decide_eq_true_iff]
          have h := HT.out
          have l1 := LX.out
          have l2 := LY.out
          rwa [List.take_of_length_le (by omega), List.take_of_length_le (by omega)] at h
        have HD := Lib.hid hd
        clear hd
        go_wp2
        go_ret
        exact ⟨by rw [HD.out]; rfl, _, rfl⟩
  · have hd : decide (xs = ys) = false := by
      rw [decide_eq_false_iff_not]; intro e; subst e; omega
    have HD := Lib.hid hd
    have hne : ((n : Int) != (m : Int)) = true := by rw [bne_iff_ne]; omega
    clear hd lx ly hx hy
    go_enter Tryd.func102, Tryd.ntmps102
    go_wp2
    go_ret
    exact ⟨by rw [HD.out]; rfl, 0, rfl⟩
set_option maxRecDepth 100000 in
set_option maxHeartbeats 1000000 in
theorem numberOf (A : Option Addr) (n c : Nat) (cs : List UInt8) (B : Nat) (w : World) (hn : n ≤ maxLen) (hx : Rd w B 1 A n (Cur.bytes cs)) :
    Calls Tryd.prog 33 #[.slice A n c] w fun e w' => ∃ z : Int, e = .returned (.int .i64 z) ∧ 0 ≤ z ∧ z < 1000003 ∧ w' = w := by
  unfold maxLen at hn
  have HX := Lib.hid hx
  clear hx
  go_enter Tryd.func33, Tryd.ntmps33
  go_wp2
  go_loop [3, 8] (fun v i => ∃ (k : Nat) (z : Int), k ≤ n ∧ i = .int .i64 k ∧ v = .int .i64 z ∧ 0 ≤ z ∧ z < 1000003) (fun _ i => n - (intOf i).toNat)
  case atStart => exact ⟨0, 0, by omega, rfl, rfl, by omega, by omega⟩
  case round =>
    obtain ⟨k, z, hk, rfl, rfl, z0, z1⟩ := hrel
    by_cases hlt : k < n
    · obtain ⟨b, off, hl, rfl, _, hc⟩ := rd_byte HX.out hlt
      have h255 := (cs[k]).toNat_lt
      have i0 : (0 : Int) ≤ (k : Int) := by omega
      have i1 : (k : Int) < (n : Int) := by omega
      go_wp2
      go_round
      case rel => exact ⟨k + 1, _, by omega, by go_num, rfl, by omega, by omega⟩
      case measure => simp [intOf]; omega
    · go_wp2
      go_ret
      exact ⟨z, rfl, z0, z1, rfl⟩
end Go.Proofs.YtfoclgijhkibeabDoor.DrawI
