/-
  What the laws of chapter 3 draw: each drawing function returns, and changes nothing that was in memory.
-/
import Derived.Test.YtehmlkcnhccjmaaDrawA
import Derived.Test.YtehmlkcnhccjmaaHex
import Derived.Test.YtehmlkcnhccjmaaSigI
namespace Go.Proofs.Ytehmlkcnhccjmaa.DrawS
open Go.ChangeShapes Go.WideShapes Go.ChangeAt Go.RowKit
open Go.Proofs.Ytehmlkcnhccjmaa.Mem Go.Proofs.Ytehmlkcnhccjmaa.Ints Go.Proofs.Ytehmlkcnhccjmaa.Cur Go.Proofs.Ytehmlkcnhccjmaa.DrawA
set_option linter.unusedVariables false

/-- The reference's two encodings of a text of at most 601 bytes: some text of a known length. -/
theorem someSigns (t : ByteArray) (w : World) (ht : t.size ≤ 601) : Calls Try.prog 22 #[.string t] w fun e w' => ∃ (u : ByteArray) (b : Bool), e = .returned (.tuple #[.string u, .bool b]) ∧ u.size ≤ 800 ∧ Below w.heap.size w w' := by
  by_cases h : t.size ≤ 600
  · refine (SigI.specSigns t w h).mono ?_
    rintro e w' ⟨rfl, hb⟩
    refine ⟨_, true, rfl, ?_, hb⟩
    rw [mk_size, SigM.enc_len]; simp; omega
  · refine (SigI.specLong t w (by omega) (by unfold maxLen; omega)).mono ?_
    rintro e w' ⟨rfl, rfl⟩
    exact ⟨_, false, rfl, by simp [ByteArray.size], Below.refl _ _⟩
theorem someHex (t : ByteArray) (w : World) (ht : t.size ≤ 601) : Calls Try.prog 52 #[.string t] w fun e w' => ∃ (u : ByteArray) (b : Bool), e = .returned (.tuple #[.string u, .bool b]) ∧ u.size ≤ 1200 ∧ Below w.heap.size w w' := by
  by_cases h : t.size ≤ 600
  · refine (Hex.specHex t w h).mono ?_
    rintro e w' ⟨rfl, hb⟩
    refine ⟨_, true, rfl, ?_, hb⟩
    rw [mk_size, Hex.hexL_len]; simp; omega
  · refine (Hex.specLong t w (by omega) (by unfold maxLen; omega)).mono ?_
    rintro e w' ⟨rfl, rfl⟩
    exact ⟨_, false, rfl, by simp [ByteArray.size], Below.refl _ _⟩
theorem upd_bel {p : Nat} {a w w' : World} (h : Upd p a w) (hb : Below w.heap.size w w') : Upd p a w' := h.trans (Upd.of_below hb (Nat.le_refl _))
theorem cur_bel {w w' : World} {p B K : Nat} (h : Cur w p B K) (hb : Below w.heap.size w w') : Cur w' p B K := h.below hb h.lt
theorem box_bel {w w1 : World} {o : Obj} (h : Upd w.heap.size (w.alloc o) w1) : Below w.heap.size w w1 := ((Below.refl _ w).alloc (Nat.le_refl _) _).trans (h.below (Nat.le_refl _) (by simp))
theorem drawSignsOf (A : Option Addr) (n c : Nat) (cs : List UInt8) (w : World) (hn : n ≤ maxLen) (hx : Rd w w.heap.size 1 A n (Cur.bytes cs)) :
    Calls Try.prog 28 #[.slice A n c] w fun e w' => ∃ t : ByteArray, e = .returned (.string t) ∧ t.size ≤ 601 ∧ Below w.heap.size w w' := by
  go_enter Try.func28, Try.ntmps28
  go_wp2_with fail
  refine (text w.heap.size w.heap.size 0 _ (by omega) (boxed_cur A n c cs w hn hx)).mono ?_
  rintro e w1 ⟨t, rfl, ht, hc1, hu1⟩
  have hb := box_bel hu1
  go_wp2
  go_ret
  exact ⟨t, rfl, ht, hb⟩
set_option maxHeartbeats 1000000 in
theorem drawOfSigns (A : Option Addr) (n c : Nat) (cs : List UInt8) (w : World) (hn : n ≤ maxLen) (hx : Rd w w.heap.size 1 A n (Cur.bytes cs)) :
    Calls Try.prog 30 #[.slice A n c] w fun e w' => ∃ t : ByteArray, e = .returned (.string t) ∧ t.size ≤ 802 ∧ Below w.heap.size w w' := by
  go_enter Try.func30, Try.ntmps30
  go_wp2_with fail
  refine (text w.heap.size w.heap.size 0 _ (by omega) (boxed_cur A n c cs w hn hx)).mono ?_
  rintro e w1 ⟨t, rfl, ht, hc1, hu1⟩
  go_wp2_with fail
  refine (someSigns t w1 ht).mono ?_
  rintro e w2 ⟨u, b, rfl, hu, hb2⟩
  have hc2 := cur_bel hc1 hb2
  have hu2 := upd_bel hu1 hb2
  clear hc1 hu1 hb2
  go_wp2_with fail
  refine (one w.heap.size w.heap.size _ 3 w2 (by omega) (by omega) hc2).mono ?_
  rintro e w3 ⟨q, rfl, hc3, hu3⟩
  have hu4 := hu2.trans hu3
  clear hu2 hu3 hc2
  cases q
  · have hb := box_bel hu4
    clear hc3 hu4
    go_wp2
    go_ret
    exact ⟨u, rfl, by omega, hb⟩
  · go_wp2_with fail
    refine (spoilt w.heap.size w.heap.size _ u _ w3 (by omega) (by omega) (by decide) (by decide) hc3).mono ?_
    rintro e w5 ⟨v, rfl, hv, hc5, hu5⟩
    have hb := box_bel (hu4.trans hu5)
    clear hc3 hu4 hc5 hu5
    go_wp2
    go_ret
    exact ⟨v, rfl, by omega, hb⟩
set_option maxHeartbeats 1000000 in
theorem drawOfHex (A : Option Addr) (n c : Nat) (cs : List UInt8) (w : World) (hn : n ≤ maxLen) (hx : Rd w w.heap.size 1 A n (Cur.bytes cs)) :
    Calls Try.prog 31 #[.slice A n c] w fun e w' => ∃ t : ByteArray, e = .returned (.string t) ∧ t.size ≤ 1202 ∧ Below w.heap.size w w' := by
  go_enter Try.func31, Try.ntmps31
  go_wp2_with fail
  refine (text w.heap.size w.heap.size 0 _ (by omega) (boxed_cur A n c cs w hn hx)).mono ?_
  rintro e w1 ⟨t, rfl, ht, hc1, hu1⟩
  go_wp2_with fail
  refine (someHex t w1 ht).mono ?_
  rintro e w2 ⟨u, b, rfl, hu, hb2⟩
  have hc2 := cur_bel hc1 hb2
  have hu2 := upd_bel hu1 hb2
  clear hc1 hu1 hb2
  go_wp2_with fail
  refine (one w.heap.size w.heap.size _ 3 w2 (by omega) (by omega) hc2).mono ?_
  rintro e w3 ⟨q, rfl, hc3, hu3⟩
  have hu4 := hu2.trans hu3
  clear hu2 hu3 hc2
  cases q
  · have hb := box_bel hu4
    clear hc3 hu4
    go_wp2
    go_ret
    exact ⟨u, rfl, by omega, hb⟩
  · go_wp2_with fail
    refine (spoilt w.heap.size w.heap.size _ u _ w3 (by omega) (by omega) (by decide) (by decide) hc3).mono ?_
    rintro e w5 ⟨v, rfl, hv, hc5, hu5⟩
    have hb := box_bel (hu4.trans hu5)
    clear hc3 hu4 hc5 hu5
    go_wp2
    go_ret
    exact ⟨v, rfl, by omega, hb⟩
theorem drawSignAt (A : Option Addr) (n c : Nat) (cs : List UInt8) (w : World) (hn : n ≤ maxLen) (hx : Rd w w.heap.size 1 A n (Cur.bytes cs)) :
    Calls Try.prog 32 #[.slice A n c] w fun e w' => ∃ z : Int, e = .returned (.int .i64 z) ∧ Below w.heap.size w w' := by
  have hc := boxed_cur A n c cs w hn hx
  go_enter Try.func32, Try.ntmps32
  go_wp2_with fail
  have hbx : Below w.heap.size w (w.alloc (.cells #[.slice A n c, .int .i64 0, .int .u64 0] 61)) := (Below.refl _ w).alloc (Nat.le_refl _) _
  have hzx : (w.alloc (.cells #[.slice A n c, .int .i64 0, .int .u64 0] 61)).heap.size = w.heap.size + 1 := by simp
  generalize w.alloc (.cells #[.slice A n c, .int .i64 0, .int .u64 0] 61) = w1 at *
  have hR := lit_rd w1 #[.int .i64 (-1), .int .i64 0, .int .i64 25, .int .i64 26, .int .i64 51, .int .i64 52, .int .i64 61, .int .i64 62, .int .i64 63, .int .i64 64] 3 [-1, 0, 25, 26, 51, 52, 61, 62, 63, 64] rfl
  rw [hzx] at hR
  have C := among w.heap.size w.heap.size 0 (some ⟨w.heap.size + 1, 0, none⟩) 10 10 [-1, 0, 25, 26, 51, 52, 61, 62, 63, 64] (w.heap.size + 1 + 1) _ (by omega) (by omega) (by omega) hR (by rintro b ⟨rfl⟩; dsimp only; omega) (by simp; omega) (cur_alloc hc _)
  refine C.mono ?_
  rintro e w3 ⟨z, rfl, hz, hc3, hu3⟩
  have hb : Below w.heap.size w w3 := hbx.trans (((upd_alloc (Upd.refl w.heap.size w1) _).trans hu3).below (Nat.le_refl _) (by omega))
  clear hz hR hu3 hc3 C
  go_wp2
  go_ret
  exact ⟨z, rfl, hb⟩
theorem drawLengthAs (A : Option Addr) (n c : Nat) (cs : List UInt8) (w : World) (hn : n ≤ maxLen) (hx : Rd w w.heap.size 1 A n (Cur.bytes cs)) :
    Calls Try.prog 33 #[.slice A n c] w fun e w' => ∃ z : Int, e = .returned (.int .i64 z) ∧ Below w.heap.size w w' := by
  have hc := boxed_cur A n c cs w hn hx
  go_enter Try.func33, Try.ntmps33
  go_wp2_with fail
  have hbx : Below w.heap.size w (w.alloc (.cells #[.slice A n c, .int .i64 0, .int .u64 0] 61)) := (Below.refl _ w).alloc (Nat.le_refl _) _
  have hzx : (w.alloc (.cells #[.slice A n c, .int .i64 0, .int .u64 0] 61)).heap.size = w.heap.size + 1 := by simp
  generalize w.alloc (.cells #[.slice A n c, .int .i64 0, .int .u64 0] 61) = w1 at *
  have hR := lit_rd w1 #[.int .i64 (-1), .int .i64 0, .int .i64 1, .int .i64 2, .int .i64 3, .int .i64 599, .int .i64 600, .int .i64 601] 3 [-1, 0, 1, 2, 3, 599, 600, 601] rfl
  rw [hzx] at hR
  have C := among w.heap.size w.heap.size 0 (some ⟨w.heap.size + 1, 0, none⟩) 8 8 [-1, 0, 1, 2, 3, 599, 600, 601] (w.heap.size + 1 + 1) _ (by omega) (by omega) (by omega) hR (by rintro b ⟨rfl⟩; dsimp only; omega) (by simp; omega) (cur_alloc hc _)
  refine C.mono ?_
  rintro e w3 ⟨z, rfl, hz, hc3, hu3⟩
  have hb : Below w.heap.size w w3 := hbx.trans (((upd_alloc (Upd.refl w.heap.size w1) _).trans hu3).below (Nat.le_refl _) (by omega))
  clear hz hR hu3 hc3 C
  go_wp2
  go_ret
  exact ⟨z, rfl, hb⟩
end Go.Proofs.Ytehmlkcnhccjmaa.DrawS
