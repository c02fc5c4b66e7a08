/-
  What the laws of chapter 6 draw, composed.
-/
import Derived.Test.YtbljmgmpmmajeaaDoorDrawN
namespace Go.Proofs.YtbljmgmpmmajeaaDoor.DrawO
open Go.ChangeShapes Go.WideShapes Go.ChangeAt Go.RowKit
open Go.Proofs.YtbljmgmpmmajeaaDoor.Mem Go.Proofs.YtbljmgmpmmajeaaDoor.Ints Go.Proofs.YtbljmgmpmmajeaaDoor.Cur Go.Proofs.YtbljmgmpmmajeaaDoor.DrawM Go.Proofs.YtbljmgmpmmajeaaDoor.Strs Go.Proofs.YtbljmgmpmmajeaaDoor.Sch Go.Proofs.YtbljmgmpmmajeaaDoor.Key Go.Proofs.YtbljmgmpmmajeaaDoor.Cha Go.Proofs.YtbljmgmpmmajeaaDoor.Chb Go.Proofs.YtbljmgmpmmajeaaDoor.Rec Go.Proofs.YtbljmgmpmmajeaaDoor.Sgt Go.Proofs.YtbljmgmpmmajeaaDoor.DrawN
set_option linter.unusedVariables false
set_option maxRecDepth 100000

/-- Both give one key. -/
theorem keyBoth (n : Int) : ∃ (k : Int) (b : Bool), (∀ W, Calls Tryd.prog 35 #[.int .i64 n] W fun e w' => e = .returned (.tuple #[.int .i64 k, .bool b]) ∧ W = w') ∧ (∀ W, Calls Tryd.prog 36 #[.int .i64 n] W fun e w' => e = .returned (.tuple #[.int .i64 k, .bool b]) ∧ W = w') ∧ b = okS n ∧ (b = true → k = (pw 4 n.toNat : Nat)) := by
  cases h : okS n
  · exact ⟨0, false, fun W => implForNo n W h, fun W => specForNo n W h, rfl, by simp⟩
  · obtain ⟨k, rfl, h1, h2⟩ := okS_yes h
    exact ⟨_, true, fun W => implFor k W h1 h2, fun W => specFor k W h1 h2, rfl, fun _ => by simp⟩
theorem drawNonce (A : Option Addr) (n c : Nat) (cs : List UInt8) (w : World) (hn : n ≤ maxLen) (hx : Rd w w.heap.size 1 A n (Cur.bytes cs)) :
    Calls Tryd.prog 68 #[.slice A n c] w fun e w' => ∃ (a : Int) (t : ByteArray), e = .returned (.tuple #[.int .i64 a, .string t]) ∧ t.size ≤ 201 ∧ Below w.heap.size w w' := by
  go_enter Tryd.func68, Tryd.ntmps68
  go_wp2_with fail
  refine (secret w.heap.size w.heap.size 0 _ (by omega) (boxed_cur A n c cs w hn hx)).mono ?_
  rintro e w1 ⟨a, rfl, a0, a1, hc1, hu1⟩
  go_wp2_with fail
  refine (message w.heap.size w.heap.size _ w1 (by omega) hc1).mono ?_
  rintro e w2 ⟨t, rfl, ht, hc2, hu2⟩
  have hb := box_bel (hu1.trans hu2)
  clear hc1 hu1 hc2 hu2 hx
  go_wp2
  go_ret2
  exact ⟨a, t, rfl, ht, hb⟩
theorem drawText (A : Option Addr) (n c : Nat) (cs : List UInt8) (w : World) (hn : n ≤ maxLen) (hx : Rd w w.heap.size 1 A n (Cur.bytes cs)) :
    Calls Tryd.prog 34 #[.slice A n c] w fun e w' => ∃ (a : Int) (t : ByteArray), e = .returned (.tuple #[.int .i64 a, .string t]) ∧ t.size ≤ 201 ∧ Below w.heap.size w w' := by
  go_enter Tryd.func34, Tryd.ntmps34
  go_wp2_with fail
  refine (drawNonce A n c cs _ hn hx).mono ?_
  rintro e w1 ⟨a, t, rfl, ht, hb⟩
  go_wp2
  go_ret2
  exact ⟨a, t, rfl, ht, hb⟩
theorem drawWith (A : Option Addr) (n c : Nat) (cs : List UInt8) (w : World) (hn : n ≤ maxLen) (hx : Rd w w.heap.size 1 A n (Cur.bytes cs)) :
    Calls Tryd.prog 38 #[.slice A n c] w fun e w' => ∃ (a b : Int) (t : ByteArray), e = .returned (.tuple #[.int .i64 a, .int .i64 b, .string t]) ∧ t.size ≤ 201 ∧ Below w.heap.size w w' := by
  go_enter Tryd.func38, Tryd.ntmps38
  go_wp2_with fail
  refine (secret w.heap.size w.heap.size 0 _ (by omega) (boxed_cur A n c cs w hn hx)).mono ?_
  rintro e w1 ⟨a, rfl, a0, a1, hc1, hu1⟩
  go_wp2_with fail
  refine (secret w.heap.size w.heap.size _ w1 (by omega) hc1).mono ?_
  rintro e w2 ⟨b, rfl, b0, b1, hc2, hu2⟩
  go_wp2_with fail
  refine (message w.heap.size w.heap.size _ w2 (by omega) hc2).mono ?_
  rintro e w3 ⟨t, rfl, ht, hc3, hu3⟩
  have hb := box_bel ((hu1.trans hu2).trans hu3)
  clear hc1 hu1 hc2 hu2 hc3 hu3 hx
  go_wp2
  go_ret3
  exact ⟨a, b, t, rfl, ht, hb⟩
theorem drawKey (A : Option Addr) (n c : Nat) (cs : List UInt8) (w : World) (hn : n ≤ maxLen) (hx : Rd w w.heap.size 1 A n (Cur.bytes cs)) :
    Calls Tryd.prog 41 #[.slice A n c] w fun e w' => ∃ a : Int, e = .returned (.int .i64 a) ∧ Below w.heap.size w w' := by
  go_enter Tryd.func41, Tryd.ntmps41
  go_wp2_with fail
  refine (secret w.heap.size w.heap.size 0 _ (by omega) (boxed_cur A n c cs w hn hx)).mono ?_
  rintro e w1 ⟨a, rfl, a0, a1, hc1, hu1⟩
  obtain ⟨k, b, -, S, -, -⟩ := keyBoth a
  have HS := Lib.hid S
  clear S
  go_wp2_with fail
  refine (HS.out _).mono ?_
  rintro e w' ⟨rfl, rfl⟩
  go_wp2_with fail
  refine (one w.heap.size w.heap.size _ 2 w1 (by omega) (by omega) hc1).mono ?_
  rintro e w2 ⟨d, rfl, hc2, hu2⟩
  have hu := hu1.trans hu2
  clear hc1 hu1 hu2 hx HS
  cases d
  · have hb := box_bel hu
    clear hu hc2
    go_wp2
    go_ret
    exact ⟨k, rfl, hb⟩
  · go_wp2_with fail
    refine (amongLit w.heap.size w.heap.size _ _ [0, 1, 2, 3, 4, 2026, 2027] w2 (by omega) (by simp) (by simp) rfl hc2).mono ?_
    rintro e w3 ⟨z, rfl, hz, hc3, hu3⟩
    have hb := box_bel (hu.trans hu3)
    clear hz hu hc2 hc3 hu3
    go_wp2
    go_ret
    exact ⟨z, rfl, hb⟩
theorem drawOf (A : Option Addr) (n c : Nat) (cs : List UInt8) (w : World) (hn : n ≤ maxLen) (hx : Rd w w.heap.size 1 A n (Cur.bytes cs)) :
    Calls Tryd.prog 40 #[.slice A n c] w fun e w' => ∃ (a b : Int) (t : ByteArray), e = .returned (.tuple #[.int .i64 a, .int .i64 b, .string t]) ∧ t.size ≤ 201 ∧ Below w.heap.size w w' := by
  have C := amongLit w.heap.size w.heap.size 0 _ [0, 1, 4, 2026, 2027] _ (by omega) (by simp) (by simp) rfl (boxed_cur A n c cs w hn hx)
  simp only [World.size_alloc] at C
  have HC := Lib.hid C
  clear C
  go_enter Tryd.func40, Tryd.ntmps40
  go_wp2_with fail
  refine HC.out.mono ?_
  rintro e w1 ⟨a, rfl, ha, hc1, hu1⟩
  have hb1 := box_bel hu1
  clear ha
  go_wp2_with fail
  refine (drawKey A n c cs w1 hn ((hx.below hb1 (Nat.le_refl _)).mono hb1.size)).mono ?_
  rintro e w2 ⟨b, rfl, hb2⟩
  have hc2 := curBel hc1 hb2
  have hu2 := updBel hu1 hb2
  clear hc1 hu1 hb1 hb2 hx
  go_wp2_with fail
  refine (message w.heap.size w.heap.size _ w2 (by omega) hc2).mono ?_
  rintro e w3 ⟨t, rfl, ht, hc3, hu3⟩
  have hb := box_bel (hu2.trans hu3)
  clear hc2 hu2 hc3 hu3
  go_wp2
  go_ret3
  exact ⟨a, b, t, rfl, ht, hb⟩
end Go.Proofs.YtbljmgmpmmajeaaDoor.DrawO
