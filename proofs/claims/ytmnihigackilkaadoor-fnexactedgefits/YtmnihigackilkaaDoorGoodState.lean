/-
  GoodState by the reference and by the program: contracts, and the walk of the law on GoodState.
-/
import Derived.Test.YtmnihigackilkaaDoorState
namespace Go.Proofs.YtmnihigackilkaaDoor.GoodState
open Go.ChangeShapes Go.WideShapes Go.ChangeAt Go.RowKit
open Go.Proofs.YtmnihigackilkaaDoor.Mem Go.Proofs.YtmnihigackilkaaDoor.Ints Go.Proofs.YtmnihigackilkaaDoor.State
set_option linter.unusedVariables false
set_option maxRecDepth 100000

theorem goodS_no {zs : List Int} {s : ByteArray} {L : Int} (h : ¬ (zs.length = 8 ∧ allB zs 0 4294967295 = true ∧ 0 ≤ L ∧ L ≤ 1000000 ∧ (s.size : Int) = L % 64)) : goodS zs s L = false := decide_eq_false h
theorem goodS_yes {zs : List Int} {s : ByteArray} {L : Int} (h : zs.length = 8 ∧ allB zs 0 4294967295 = true ∧ 0 ≤ L ∧ L ≤ 1000000 ∧ (s.size : Int) = L % 64) : goodS zs s L = true := decide_eq_true h
set_option maxHeartbeats 1000000 in
theorem implGood (A : Option Addr) (n c : Nat) (s : ByteArray) (L : Int) (zs : List Int) (w : World) (hn : n ≤ 1048576) (hs : s.size ≤ maxLen) (hx : Rd w w.heap.size 1 A n (ints zs)) :
    Calls Tryd.prog 133 #[stV A n c s L] w fun e w' => e = .returned (.bool (goodS zs s L)) ∧ Below w.heap.size w w' := by
  unfold stV
  unfold maxLen at hs
  have lx := hx.len
  have hal : Below w.heap.size w (w.alloc (.cells #[.slice A n c, .string s, .int .i64 L] 107)) := (Below.refl _ w).alloc (Nat.le_refl _) _
  have HX := Lib.hid (hx.below hal (Nat.le_refl _))
  clear hx
  by_cases h8 : n = 8
  · subst h8
    have LX := Lib.hid lx
    clear lx
    go_enter Tryd.func133, Tryd.ntmps133
    go_wp2
    go_loop [12] (fun i => ∃ k : Nat, k ≤ 8 ∧ i = .int .i64 k ∧ allB (zs.take k) 0 4294967295 = true) (fun i => 8 - (intOf i).toNat)
    case atStart => exact ⟨0, by omega, rfl, rfl⟩
    case round =>
      obtain ⟨k, hk, rfl, ht⟩ := hrel
      have HT := Lib.hid ht
      clear ht
      by_cases hlt : k < 8
      · obtain ⟨b, off, hl, rfl, _, hc⟩ := HX.out.int hlt
        by_cases hz : 0 ≤ zs[k] ∧ zs[k] ≤ 4294967295
        · obtain ⟨hz0, hz1⟩ := hz
          go_wp2
          go_round
          case rel => exact ⟨k + 1, by omega, by go_num, allB_take_succ hl HT.out ⟨hz0, hz1⟩⟩
          case measure => simp [intOf]; omega
        · have e := Lib.hid (goodS_no (zs := zs) (s := s) (L := L) (fun h => by have := allB_no hl hz; rw [this] at h; exact absurd h.2.1 (by decide)))
          by_cases hz0 : zs[k] < 0
          · clear hz
            go_wp2
            go_ret
            exact ⟨by rw [e.out]; rfl, hal⟩
          · have hz1 : 4294967295 < zs[k] := by omega
            clear hz
            go_wp2
            go_ret
            exact ⟨by rw [e.out]; rfl, hal⟩
      · have hall := HT.out
        have lx := LX.out
        rw [List.take_of_length_le (by omega)] at hall
        have hG : goodS zs s L = (decide (0 ≤ L) && decide (L ≤ 1000000) && decide ((s.size : Int) = L % 64)) := by
          unfold goodS; simp [lx, hall, Bool.decide_and, Bool.and_assoc]
        have HG := Lib.hid hG
        clear hG hall lx
        by_cases hL0 : 0 ≤ L
        · by_cases hL1 : L ≤ 1000000
          · by_cases hr : (s.size : Int) = L % 64
            · have t : ((s.size : Int) == L % 64) = true := by rw [beq_iff_eq]; exact hr
              have e := Lib.hid (HG.out.trans (by simp [hL0, hL1, hr] : _ = true))
              clear hr
              go_wp2
              go_ret
              exact ⟨by rw [e.out]; rfl, hal⟩
            · have t : ((s.size : Int) == L % 64) = false := by rw [beq_eq_false_iff_ne]; exact hr
              have e := Lib.hid (HG.out.trans (by simp [hr] : _ = false))
              clear hr
              go_wp2
              go_ret
              exact ⟨by rw [e.out]; rfl, hal⟩
          · have t : decide (L ≤ 1000000) = false := by simpa using hL1
            have e := Lib.hid (HG.out.trans (by simp [hL1] : _ = false))
            clear hL1
            go_wp2
            go_ret
            exact ⟨by rw [e.out]; rfl, hal⟩
        · have t : decide (0 ≤ L) = false := by simpa using hL0
          have e := Lib.hid (HG.out.trans (by simp [hL0] : _ = false))
          clear hL0
          go_wp2
          go_ret
          exact ⟨by rw [e.out]; rfl, hal⟩
  · have e := Lib.hid (goodS_no (zs := zs) (s := s) (L := L) (fun h => h8 (lx ▸ h.1)))
    have t : ((n : Int) != 8) = true := by rw [bne_iff_ne]; omega
    clear h8 lx HX
    go_enter Tryd.func133, Tryd.ntmps133
    go_wp2
    go_ret
    exact ⟨by rw [e.out]; rfl, hal⟩
end Go.Proofs.YtmnihigackilkaaDoor.GoodState
