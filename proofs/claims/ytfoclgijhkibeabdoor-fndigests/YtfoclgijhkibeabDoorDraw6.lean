/-
  The drawing functions of chapter 1 that give a text or a state, and the test that two states are the same.
-/
import Derived.Test.YtfoclgijhkibeabDoorDraw5
import Derived.Test.YtfoclgijhkibeabDoorDrawI
namespace Go.Proofs.YtfoclgijhkibeabDoor.Draw6
open Go.ChangeShapes Go.WideShapes Go.ChangeAt Go.RowKit
open Go.Proofs.YtfoclgijhkibeabDoor.Mem Go.Proofs.YtfoclgijhkibeabDoor.Ints Go.Proofs.YtfoclgijhkibeabDoor.State Go.Proofs.YtfoclgijhkibeabDoor.Absorb Go.Proofs.YtfoclgijhkibeabDoor.End Go.Proofs.YtfoclgijhkibeabDoor.Cur Go.Proofs.YtfoclgijhkibeabDoor.Mark
set_option linter.unusedVariables false
set_option maxRecDepth 100000

theorem drawDigestOf (A : Option Addr) (n c : Nat) (cs : List UInt8) (w : World) (hn : n ≤ maxLen) (hx : Rd w w.heap.size 1 A n (Cur.bytes cs)) :
    Calls Tryd.prog 28 #[.slice A n c] w fun e w' => ∃ t : ByteArray, e = .returned (.string t) ∧ t.size ≤ 601 ∧ Below w.heap.size w w' := by
  go_enter Tryd.func28, Tryd.ntmps28
  go_wp2_with fail
  refine (Draw1.drawPadText A n c cs w hn hx).mono ?_
  rintro e w1 ⟨t, rfl, ht, hb⟩
  go_wp2
  go_ret
  exact ⟨t, rfl, ht, hb⟩
set_option maxHeartbeats 2000000 in
theorem sameState (A D : Option Addr) (c d : Nat) (n : Nat) (s : ByteArray) (L : Int) (xs : List Int) (w : World) (hn : n ≤ 1048576) (hx : Rd w w.heap.size 1 A n (ints xs)) (hy : Rd w w.heap.size 1 D n (ints xs)) :
    Calls Tryd.prog 42 #[.agg #[.slice A n c, .string s, .int .i64 L], .agg #[.slice D n d, .string s, .int .i64 L]] w fun e w' => e = .returned (.bool true) ∧ Below w.heap.size w w' := by
  have SI := Lib.hid (fun W B B' (hx : Rd W B 1 A n (ints xs)) (hy : Rd W B' 1 D n (ints xs)) => DrawI.sameInts A D n n c d xs xs B B' W hn (by unfold maxLen; omega) hx hy)
  obtain ⟨k0, y0, z0⟩ := boxed w #[.slice A n c, .string s, .int .i64 L] 60
  go_enter Tryd.func42, Tryd.ntmps42
  go_wp2_with fail
  generalize World.alloc w _ = W0 at *
  obtain ⟨k1, y1, z1⟩ := boxed W0 #[.slice D n d, .string s, .int .i64 L] 60
  have K0 := Lib.hid (LawFeed.bx k0 y1)
  rw [z0] at k1
  generalize World.alloc W0 _ = W1 at *
  have B1 : Below w.heap.size w W1 := y0.trans (y1.mono (by omega))
  refine (SI.out W1 _ _ (hx.below B1 (Nat.le_refl _)) (hy.below B1 (Nat.le_refl _))).mono ?_
  rintro e w2 ⟨rfl, q, rfl⟩
  obtain ⟨p0, p1, p2⟩ := row3 K0.out
  obtain ⟨q0, q1, q2⟩ := row3 k1
  have l1 := LawFeed.bx_lt K0.out
  clear y0 y1 k0
  go_wp2
  go_ret
  exact ⟨by simp, ⟨B1.os, B1.tape, B1.output, B1.size, B1.block⟩⟩
set_option maxHeartbeats 2000000 in
theorem drawGoodState (A : Option Addr) (n c : Nat) (cs : List UInt8) (w : World) (hn : n ≤ maxLen) (hx : Rd w w.heap.size 1 A n (Cur.bytes cs)) :
    Calls Tryd.prog 99 #[.slice A n c] w fun e w' => ∃ (g c : Nat) (l : List Int) (rs : ByteArray) (Lr : Int), e = .returned (.agg #[.slice (some ⟨g, 0, none⟩) 8 c, .string rs, .int .i64 Lr]) ∧ rs.size ≤ 1000 ∧ w'.ownsRow w.heap.size 3 1 (.slice (some ⟨g, 0, none⟩) 8 c) 8 (ints l) ∧ Below w.heap.size w w' := by
  obtain ⟨k0, y0, z0⟩ := boxed w #[.slice none 0 0, .string ⟨#[]⟩, .int .i64 0] 60
  have hx0 := (hx.below y0 (Nat.le_refl _)).mono y0.size
  have C0 := Draw1.boxed_cur A n c cs _ hn hx0
  rw [z0] at C0
  have C0 := Lib.hid C0
  have k1 := Lib.hid k0
  have Y0 := Lib.hid y0
  clear hx hx0 k0 y0
  go_enter Tryd.func99, Tryd.ntmps99
  go_wp2_with fail
  generalize World.alloc w _ = W0 at *
  obtain ⟨_, y1, z1⟩ := boxed W0 #[.slice A n c, .int .i64 0, .int .u64 0] 73
  have K1 := Lib.hid (LawFeed.bx k1.out y1)
  have B1 : Below w.heap.size w _ := Y0.out.trans (y1.mono (by omega))
  generalize World.alloc W0 _ = W1 at *
  clear y1 k1 Y0
  refine (Draw5.state (w.heap.size + 1) (w.heap.size + 1) 0 W1 (by omega) C0.out).mono ?_
  rintro e w2 ⟨g, c', l, rs, Lr, rfl, hrs, ho, hc2, hu2⟩
  have B2 := B1.trans (hu2.below (B := w.heap.size) (by omega) (by omega))
  have R2 := Lib.hid ((hu2.block w.heap.size (by omega) (by omega)).trans K1.out)
  have s2 := hu2.size
  have lg := ho.lt g rfl
  have O2 := Lib.hid ho
  have C2 := Lib.hid hc2
  clear hu2 hc2 ho K1 B1 C0
  obtain ⟨r0, r1, r2⟩ := row3 R2.out
  have e0 := frozen_of_row w2 _ 0 _ _ R2.out
  have e1 := frozen_of_row w2 _ 1 _ _ R2.out
  have e2 := frozen_of_row w2 _ 2 _ _ R2.out
  have l2 := LawFeed.bx_lt R2.out
  go_wp2
  refine bodyPost_ret (v := .agg #[.slice (some ⟨g, 0, none⟩) 8 c', .string rs, .int .i64 Lr]) (by simp [results, Tryd.results99, go_sem, r0, r1, r2]) rfl ⟨g, c', l, rs, Lr, rfl, hrs, own_base (own_heap O2.out ?_) (by omega), ((B2.setCell (Nat.le_refl _) _).setCell (Nat.le_refl _) _).setCell (Nat.le_refl _) _⟩
  rw [Below.heap_setCell _ _ _ _ (by dsimp only; omega), Below.heap_setCell _ _ _ _ (by dsimp only; omega), Below.heap_setCell _ _ _ _ (by dsimp only; omega)]
theorem drawEndState (A : Option Addr) (n c : Nat) (cs : List UInt8) (w : World) (hn : n ≤ maxLen) (hx : Rd w w.heap.size 1 A n (Cur.bytes cs)) :
    Calls Tryd.prog 40 #[.slice A n c] w fun e w' => ∃ (g c : Nat) (l : List Int) (rs : ByteArray) (Lr : Int), e = .returned (.agg #[.slice (some ⟨g, 0, none⟩) 8 c, .string rs, .int .i64 Lr]) ∧ rs.size ≤ 1000 ∧ w'.ownsRow w.heap.size 3 1 (.slice (some ⟨g, 0, none⟩) 8 c) 8 (ints l) ∧ Below w.heap.size w w' := by
  obtain ⟨k0, y0, z0⟩ := boxed w #[.slice none 0 0, .string ⟨#[]⟩, .int .i64 0] 60
  have hx0 := Lib.hid ((hx.below y0 (Nat.le_refl _)).mono y0.size)
  have k1 := Lib.hid k0
  have Y0 := Lib.hid y0
  clear hx k0 y0
  go_enter Tryd.func40, Tryd.ntmps40
  go_wp2_with fail
  generalize World.alloc w _ = W0 at *
  refine (drawGoodState A n c cs W0 hn hx0.out).mono ?_
  rintro e w2 ⟨g, c', l, rs, Lr, rfl, hrs, ho, hb⟩
  have B2 := Y0.out.trans (hb.mono (by omega))
  have R2 := Lib.hid (LawFeed.bx k1.out hb)
  have lg := ho.lt g rfl
  have O2 := Lib.hid ho
  clear hb ho k1 Y0 hx0
  obtain ⟨r0, r1, r2⟩ := row3 R2.out
  have e0 := frozen_of_row w2 _ 0 _ _ R2.out
  have e1 := frozen_of_row w2 _ 1 _ _ R2.out
  have e2 := frozen_of_row w2 _ 2 _ _ R2.out
  have l2 := LawFeed.bx_lt R2.out
  go_wp2
  refine bodyPost_ret (v := .agg #[.slice (some ⟨g, 0, none⟩) 8 c', .string rs, .int .i64 Lr]) (by simp [results, Tryd.results40, go_sem, r0, r1, r2]) rfl ⟨g, c', l, rs, Lr, rfl, hrs, own_base (own_heap O2.out ?_) (by omega), ((B2.setCell (Nat.le_refl _) _).setCell (Nat.le_refl _) _).setCell (Nat.le_refl _) _⟩
  rw [Below.heap_setCell _ _ _ _ (by dsimp only; omega), Below.heap_setCell _ _ _ _ (by dsimp only; omega), Below.heap_setCell _ _ _ _ (by dsimp only; omega)]
set_option maxHeartbeats 2000000 in
theorem drawFeedState (A : Option Addr) (n c : Nat) (cs : List UInt8) (w : World) (hn : n ≤ maxLen) (hx : Rd w w.heap.size 1 A n (Cur.bytes cs)) :
    Calls Tryd.prog 38 #[.slice A n c] w fun e w' => ∃ (g c : Nat) (l : List Int) (rs : ByteArray) (Lr : Int) (t : ByteArray), e = .returned (.tuple #[.agg #[.slice (some ⟨g, 0, none⟩) 8 c, .string rs, .int .i64 Lr], .string t]) ∧ rs.size ≤ 1000 ∧ t.size ≤ 601 ∧ w'.ownsRow w.heap.size 3 1 (.slice (some ⟨g, 0, none⟩) 8 c) 8 (ints l) ∧ Below w.heap.size w w' := by
  obtain ⟨k0, y0, z0⟩ := boxed w #[.slice none 0 0, .string ⟨#[]⟩, .int .i64 0] 60
  have hx0 := (hx.below y0 (Nat.le_refl _)).mono y0.size
  have C0 := Draw1.boxed_cur A n c cs _ hn hx0
  rw [z0] at C0
  have C0 := Lib.hid C0
  have k1 := Lib.hid k0
  have Y0 := Lib.hid y0
  clear hx hx0 k0 y0
  go_enter Tryd.func38, Tryd.ntmps38
  go_wp2_with fail
  generalize World.alloc w _ = W0 at *
  obtain ⟨_, y1, z1⟩ := boxed W0 #[.slice A n c, .int .i64 0, .int .u64 0] 73
  have K1 := Lib.hid (LawFeed.bx k1.out y1)
  have B1 : Below w.heap.size w _ := Y0.out.trans (y1.mono (by omega))
  generalize World.alloc W0 _ = W1 at *
  clear y1 k1 Y0
  refine (Draw5.state (w.heap.size + 1) (w.heap.size + 1) 0 W1 (by omega) C0.out).mono ?_
  rintro e w2 ⟨g, c', l, rs, Lr, rfl, hrs, ho, hc2, hu2⟩
  have B2 := B1.trans (hu2.below (B := w.heap.size) (by omega) (by omega))
  have R2 := Lib.hid ((hu2.block w.heap.size (by omega) (by omega)).trans K1.out)
  have s2 := hu2.size
  have lg := ho.lt g rfl
  have O2 := Lib.hid ho
  have C2 := Lib.hid hc2
  clear hu2 hc2 ho K1 B1 C0
  go_wp2_with fail
  refine (Draw1.text (w.heap.size + 1) (w.heap.size + 1) (0 + 200) w2 (by omega) C2.out).mono ?_
  rintro e w3 ⟨t, rfl, ht, hc3, hu3⟩
  have B3 := B2.trans (hu3.below (B := w.heap.size) (by omega) (by omega))
  have R3 := Lib.hid ((hu3.block w.heap.size (by omega) (by omega)).trans R2.out)
  have O3 := Lib.hid (own_heap O2.out (hu3.block g (by omega) (by omega)))
  clear hu3 hc3 O2 R2 B2 C2
  obtain ⟨r0, r1, r2⟩ := row3 R3.out
  have e0 := frozen_of_row w3 _ 0 _ _ R3.out
  have e1 := frozen_of_row w3 _ 1 _ _ R3.out
  have e2 := frozen_of_row w3 _ 2 _ _ R3.out
  have l3 := LawFeed.bx_lt R3.out
  go_wp2
  refine bodyPost_ret (v := .tuple #[.agg #[.slice (some ⟨g, 0, none⟩) 8 c', .string rs, .int .i64 Lr], .string t]) (by simp [results, Tryd.results38, go_sem, r0, r1, r2]) rfl ⟨g, c', l, rs, Lr, t, rfl, hrs, ht, own_base (own_heap O3.out ?_) (by omega), ((B3.setCell (Nat.le_refl _) _).setCell (Nat.le_refl _) _).setCell (Nat.le_refl _) _⟩
  rw [Below.heap_setCell _ _ _ _ (by dsimp only; omega), Below.heap_setCell _ _ _ _ (by dsimp only; omega), Below.heap_setCell _ _ _ _ (by dsimp only; omega)]
end Go.Proofs.YtfoclgijhkibeabDoor.Draw6
