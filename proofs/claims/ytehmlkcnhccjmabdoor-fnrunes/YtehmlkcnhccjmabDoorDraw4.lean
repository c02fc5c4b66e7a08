/-
  What the law FnRunes draws and calls: contracts in the forms that its walk uses.
-/
import Derived.Test.YtehmlkcnhccjmabDoorDraw3
import Derived.Test.YtehmlkcnhccjmabDoorRuneAt
import Derived.Test.YtehmlkcnhccjmabDoorRuneLaws
namespace Go.Proofs.YtehmlkcnhccjmabDoor.Draw4
open Go.ChangeShapes Go.WideShapes Go.ChangeAt Go.RowKit
open Go.Proofs.YtehmlkcnhccjmabDoor.Mem Go.Proofs.YtehmlkcnhccjmabDoor.Ints Go.Proofs.YtehmlkcnhccjmabDoor.Mark Go.Proofs.YtehmlkcnhccjmabDoor.Cur Go.Proofs.YtehmlkcnhccjmabDoor.Rune Go.Proofs.YtehmlkcnhccjmabDoor.Enc Go.Proofs.YtehmlkcnhccjmabDoor.Draw2 Go.Proofs.YtehmlkcnhccjmabDoor.Draw3
set_option linter.unusedVariables false

theorem drawRunesOf (A : Option Addr) (n c : Nat) (cs : List UInt8) (w : World) (hn : n ≤ maxLen) (hx : Rd w w.heap.size 1 A n (Cur.bytes cs)) :
    Calls Tryd.prog 30 #[.slice A n c] w fun e w' => ∃ t : ByteArray, e = .returned (.string t) ∧ t.size ≤ 1000 ∧ Below w.heap.size w w' := by
  have R := Lib.hid (runeText w.heap.size w.heap.size 0 _ (by omega) (boxed_cur A n c cs w hn hx))
  clear hx
  go_enter Tryd.func30, Tryd.ntmps30
  go_wp2_with fail
  refine R.out.mono ?_
  rintro e w1 ⟨a, rfl, ha, hc1, hu1⟩
  have hb : Below w.heap.size w w1 := ((Below.refl _ w).alloc (Nat.le_refl _) _).trans (hu1.below (Nat.le_refl _) (by simp))
  clear R hc1 hu1
  go_wp2
  go_ret
  exact ⟨a, rfl, ha, hb⟩
theorem drawGoodRune (A : Option Addr) (n c : Nat) (cs : List UInt8) (w : World) (hn : n ≤ maxLen) (hx : Rd w w.heap.size 1 A n (Cur.bytes cs)) :
    Calls Tryd.prog 83 #[.slice A n c] w fun e w' => ∃ z : Int, e = .returned (.int .i64 z) ∧ Below w.heap.size w w' := by
  have R := Lib.hid (badRune w.heap.size w.heap.size 0 _ (by omega) (boxed_cur A n c cs w hn hx))
  clear hx
  go_enter Tryd.func83, Tryd.ntmps83
  go_wp2_with fail
  refine R.out.mono ?_
  rintro e w1 ⟨a, rfl, hc1, hu1⟩
  have hb : Below w.heap.size w w1 := ((Below.refl _ w).alloc (Nat.le_refl _) _).trans (hu1.below (Nat.le_refl _) (by simp))
  clear R hc1 hu1
  go_wp2
  go_ret
  exact ⟨a, rfl, hb⟩
theorem drawRuneBytes (A : Option Addr) (n c : Nat) (cs : List UInt8) (w : World) (hn : n ≤ maxLen) (hx : Rd w w.heap.size 1 A n (Cur.bytes cs)) :
    Calls Tryd.prog 39 #[.slice A n c] w fun e w' => ∃ z : Int, e = .returned (.int .i64 z) ∧ Below w.heap.size w w' := by
  have R := Lib.hid (drawGoodRune A n c cs w hn hx)
  clear hx
  go_enter Tryd.func39, Tryd.ntmps39
  go_wp2_with fail
  refine R.out.mono ?_
  rintro e w1 ⟨a, rfl, hb⟩
  go_wp2
  go_ret
  exact ⟨a, rfl, hb⟩
theorem drawRuneAt (A : Option Addr) (n c : Nat) (cs : List UInt8) (w : World) (hn : n ≤ maxLen) (hx : Rd w w.heap.size 1 A n (Cur.bytes cs)) :
    Calls Tryd.prog 42 #[.slice A n c] w fun e w' => ∃ (t : ByteArray) (z : Int), e = .returned (.tuple #[.string t, .int .i64 z]) ∧ t.size ≤ 1000 ∧ Below w.heap.size w w' := by
  have R := Lib.hid (runeText w.heap.size w.heap.size 0 _ (by omega) (boxed_cur A n c cs w hn hx))
  clear hx
  go_enter Tryd.func42, Tryd.ntmps42
  go_wp2_with fail
  refine R.out.mono ?_
  rintro e w1 ⟨a, rfl, ha, hc1, hu1⟩
  have hb : Below w.heap.size w w1 := ((Below.refl _ w).alloc (Nat.le_refl _) _).trans (hu1.below (Nat.le_refl _) (by simp))
  have hs1 := hb.size
  have PK := Lib.hid (pick w.heap.size w.heap.size (0 + 300) ((a.size : Int) + 2) w1 (by omega) (by omega) hc1)
  clear R hc1 hu1
  go_wp2_with fail
  refine PK.out.mono ?_
  rintro e w2 ⟨x, rfl, x0, x1, hc2, hu2⟩
  have hb2 : Below w.heap.size w w2 := hb.trans (hu2.below (Nat.le_refl _) hs1)
  have x2 : x ≤ 1002 := by omega
  clear PK hc2 hu2 hb x1
  go_wp2
  go_ret2
  exact ⟨a, _, rfl, ha, hb2⟩
theorem drawNextStart (A : Option Addr) (n c : Nat) (cs : List UInt8) (w : World) (hn : n ≤ maxLen) (hx : Rd w w.heap.size 1 A n (Cur.bytes cs)) :
    Calls Tryd.prog 44 #[.slice A n c] w fun e w' => ∃ (t : ByteArray) (z : Int), e = .returned (.tuple #[.string t, .int .i64 z]) ∧ t.size ≤ 1000 ∧ Below w.heap.size w w' := by
  have R := Lib.hid (drawRuneAt A n c cs w hn hx)
  clear hx
  go_enter Tryd.func44, Tryd.ntmps44
  go_wp2_with fail
  refine R.out.mono ?_
  rintro e w1 ⟨a, z, rfl, ha, hb⟩
  go_wp2
  go_ret2
  exact ⟨a, z, rfl, ha, hb⟩
theorem drawIsStart (A : Option Addr) (n c : Nat) (cs : List UInt8) (w : World) (hn : n ≤ maxLen) (hx : Rd w w.heap.size 1 A n (Cur.bytes cs)) :
    Calls Tryd.prog 46 #[.slice A n c] w fun e w' => ∃ z : Int, e = .returned (.int .u8 z) ∧ 0 ≤ z ∧ z ≤ 255 ∧ Below w.heap.size w w' := by
  have hc0 := boxed_cur A n c cs w hn hx
  go_enter Tryd.func46, Tryd.ntmps46
  go_wp2_with fail
  refine (among w.heap.size w.heap.size 0 _ 6 6 [0, 127, 128, 191, 192, 255] (w.heap.size + 1 + 1) _ (by omega) (by omega) (by omega) (by have h := lit_rd (w.alloc (.cells #[.slice A n c, .int .i64 0, .int .u64 0] 82)) #[.int .i64 0, .int .i64 127, .int .i64 128, .int .i64 191, .int .i64 192, .int .i64 255] 3 [0, 127, 128, 191, 192, 255] rfl; simpa using h) (by rintro b ⟨rfl⟩; dsimp only; omega) (by simp) (cur_alloc hc0 _)).mono ?_
  rintro e w1 ⟨z, rfl, hz, hc1, hu1⟩
  have hz2 : 0 ≤ z ∧ z ≤ 255 := by simp at hz; omega
  obtain ⟨z0, z1⟩ := hz2
  have hb1 : Below w.heap.size w w1 := (((Below.refl _ w).alloc (Nat.le_refl _) _).alloc (by simp) _).trans (hu1.below (Nat.le_refl _) (by simp; omega))
  clear hu1 hc1 hc0 hx hz
  go_wp2
  go_ret
  exact ⟨z, rfl, z0, z1, hb1⟩
set_option maxRecDepth 100000 in
set_option maxHeartbeats 1000000 in
theorem numberOf (A : Option Addr) (n c : Nat) (cs : List UInt8) (B : Nat) (w : World) (hn : n ≤ maxLen) (hx : Rd w B 1 A n (Cur.bytes cs)) :
    Calls Tryd.prog 22 #[.slice A n c] w fun e w' => ∃ z : Int, e = .returned (.int .i64 z) ∧ 0 ≤ z ∧ z < 1000003 ∧ w' = w := by
  unfold maxLen at hn
  have HX := Lib.hid hx
  clear hx
  go_enter Tryd.func22, Tryd.ntmps22
  go_wp2
  go_loop [3, 8] (fun v i => ∃ (k : Nat) (z : Int), k ≤ n ∧ i = .int .i64 k ∧ v = .int .i64 z ∧ 0 ≤ z ∧ z < 1000003) (fun _ i => n - (intOf i).toNat)
  case atStart => exact ⟨0, 0, by omega, rfl, rfl, by omega, by omega⟩
  case round =>
    obtain ⟨k, z, hk, rfl, rfl, z0, z1⟩ := hrel
    by_cases hlt : k < n
    · obtain ⟨b, off, hl, rfl, _, hc⟩ := rd_byte HX.out hlt
      have h255 := (cs[k]).toNat_lt
      have i0 : (0 : Int) ≤ (k : Int) := by omega
      have i1 : (k : Int) < (n : Int) := by omega
      go_wp2
      go_round
      case rel => exact ⟨k + 1, _, by omega, by go_num, rfl, by omega, by omega⟩
      case measure => simp [intOf]; omega
    · go_wp2
      go_ret
      exact ⟨z, rfl, z0, z1, rfl⟩
/-- RuneAt answers alike on both sides. -/
theorem atBoth (s : ByteArray) (a : Int) (hs : s.size ≤ 1000) : ∃ (x y : Int) (t : Bool), (∀ w, Lib.Utf8Tabs 1 2 w → Calls Tryd.prog 36 #[.string s, .int .i64 a] w fun e w' => e = .returned (.tuple #[.int .i64 x, .int .i64 y, .bool t]) ∧ Below w.heap.size w w')
    ∧ (∀ w, Calls Tryd.prog 43 #[.string s, .int .i64 a] w fun e w' => e = .returned (.tuple #[.int .i64 x, .int .i64 y, .bool t]) ∧ Below w.heap.size w w') := by
  by_cases hb : 240 < s.size ∨ a < 0 ∨ (s.size : Int) ≤ a
  · refine ⟨0, 0, false, fun w _ => (RuneAt.implAtNo s a w (by unfold maxLen; omega) hb).mono ?_, fun w => (RuneAt.specAtNo s a w (by unfold maxLen; omega) hb).mono ?_⟩
    · rintro e w' ⟨rfl, rfl⟩; exact ⟨rfl, Below.refl _ _⟩
    · rintro e w' ⟨rfl, rfl⟩; exact ⟨rfl, Below.refl _ _⟩
  · obtain ⟨k, rfl⟩ := Int.eq_ofNat_of_zero_le (show 0 ≤ a by omega)
    obtain ⟨x, y, t, e⟩ := RuneAt.atV_cases s k
    exact ⟨x, y, t, fun w hT => by rw [← e]; exact RuneAt.implAt s k w (by omega) (by omega) hT, fun w => by rw [← e]; exact RuneAt.specAt s k w (by omega) (by omega)⟩
/-- NextStart answers alike on both sides. -/
theorem nextBoth (s : ByteArray) (a : Int) (hs : s.size ≤ 1000) : ∃ (x : Int) (t : Bool), (∀ w, Calls Tryd.prog 35 #[.string s, .int .i64 a] w fun e w' => e = .returned (.tuple #[.int .i64 x, .bool t]) ∧ w = w')
    ∧ (∀ w, Calls Tryd.prog 45 #[.string s, .int .i64 a] w fun e w' => e = .returned (.tuple #[.int .i64 x, .bool t]) ∧ w = w') := by
  by_cases hb : 240 < s.size ∨ a < 0 ∨ (s.size : Int) < a
  · exact ⟨0, false, fun w => implNextNo s a w (by unfold maxLen; omega) hb, fun w => specNextNo s a w (by unfold maxLen; omega) hb⟩
  · obtain ⟨k, rfl⟩ := Int.eq_ofNat_of_zero_le (show 0 ≤ a by omega)
    exact ⟨_, _, fun w => implNext s k w (by omega) (by omega), fun w => specNext s k w (by omega) (by omega)⟩
def stB (x : Int) : Bool := decide (x < 128) || decide (191 < x)
theorem implStart (x : Int) (w : World) : Calls Tryd.prog 47 #[.int .u8 x] w fun e w' => e = .returned (.bool (stB x)) ∧ w' = w := by
  by_cases h : x < 128
  · have E := Lib.hid (show stB x = true by simp [stB, h])
    go_enter Tryd.func47, Tryd.ntmps47
    go_wp2
    go_ret
    exact ⟨by rw [E.out]; rfl, rfl⟩
  by_cases h1 : 191 < x
  · have E := Lib.hid (show stB x = true by simp [stB, h1])
    have t : decide (191 < x) = true := by simpa using h1
    have t' : decide (x < 128) = false := by simpa using h
    go_enter Tryd.func47, Tryd.ntmps47
    go_wp2
    go_ret
    exact ⟨by rw [E.out]; rfl, rfl⟩
  · have E := Lib.hid (show stB x = false by simp [stB, h, h1])
    have t : decide (191 < x) = false := by simpa using h1
    have t' : decide (x < 128) = false := by simpa using h
    go_enter Tryd.func47, Tryd.ntmps47
    go_wp2
    go_ret
    exact ⟨by rw [E.out]; rfl, rfl⟩
theorem specStart (x : Int) (w : World) : Calls Tryd.prog 48 #[.int .u8 x] w fun e w' => e = .returned (.bool (stB x)) ∧ w' = w := by
  by_cases h : x < 128
  · have E := Lib.hid (show stB x = true by simp [stB, h])
    go_enter Tryd.func48, Tryd.ntmps48
    go_wp2
    go_ret
    exact ⟨by rw [E.out]; rfl, rfl⟩
  by_cases h1 : 191 < x
  · have E := Lib.hid (show stB x = true by simp [stB, h1])
    have t : decide (191 < x) = true := by simpa using h1
    have t' : decide (x < 128) = false := by simpa using h
    go_enter Tryd.func48, Tryd.ntmps48
    go_wp2
    go_ret
    exact ⟨by rw [E.out]; rfl, rfl⟩
  · have E := Lib.hid (show stB x = false by simp [stB, h, h1])
    have t : decide (191 < x) = false := by simpa using h1
    have t' : decide (x < 128) = false := by simpa using h
    go_enter Tryd.func48, Tryd.ntmps48
    go_wp2
    go_ret
    exact ⟨by rw [E.out]; rfl, rfl⟩
theorem enc_front {n : Int} (h : goodR n = true) : 1 ≤ (Utf8.encode n).size ∧ (Utf8.encode n).size ≤ 4 ∧ ∀ h0 : 0 < (Utf8.encode n).size, stB (((Utf8.encode n)[0]'h0).toNat : Int) = true := by
  have hb := goodR_bd h
  by_cases h1 : n < 128
  · rw [enc1 h h1]
    refine ⟨Nat.le_of_ble_eq_true rfl, Nat.le_of_ble_eq_true rfl, fun _ => ?_⟩
    have := Utf.of8 n.toNat (by omega)
    show stB ((UInt8.ofNat n.toNat).toNat : Int) = true
    rw [this]; simp [stB]; omega
  by_cases h2 : n < 2048
  · rw [enc2 h (by omega) h2]
    refine ⟨Nat.le_of_ble_eq_true rfl, Nat.le_of_ble_eq_true rfl, fun _ => ?_⟩
    have := Utf.of8 (192 + n.toNat / 64) (by omega)
    show stB ((UInt8.ofNat (192 + n.toNat / 64)).toNat : Int) = true
    rw [this]; simp [stB]; omega
  by_cases h3 : n < 65536
  · rw [enc3 h (by omega) h3]
    refine ⟨Nat.le_of_ble_eq_true rfl, Nat.le_of_ble_eq_true rfl, fun _ => ?_⟩
    have := Utf.of8 (224 + n.toNat / 4096) (by omega)
    show stB ((UInt8.ofNat (224 + n.toNat / 4096)).toNat : Int) = true
    rw [this]; simp [stB]; omega
  · rw [enc4 h (by omega)]
    refine ⟨Nat.le_of_ble_eq_true rfl, Nat.le_of_ble_eq_true rfl, fun _ => ?_⟩
    have := Utf.of8 (240 + n.toNat / 262144) (by omega)
    show stB ((UInt8.ofNat (240 + n.toNat / 262144)).toNat : Int) = true
    rw [this]; simp [stB]; omega
end Go.Proofs.YtehmlkcnhccjmabDoor.Draw4
