/-
  The walk of the law on EndState: for every state both answer alike, and the argument is left as it was. The program's table of round constants is as its text lays it.
-/
import Derived.Test.YtehmlkcnhccjmabDoorSpecEnd
namespace Go.Proofs.YtehmlkcnhccjmabDoor.LawEndState
open Go.ChangeShapes Go.WideShapes Go.ChangeAt Go.RowKit
open Go.Proofs.YtehmlkcnhccjmabDoor.Mem Go.Proofs.YtehmlkcnhccjmabDoor.Ints Go.Proofs.YtehmlkcnhccjmabDoor.State Go.Proofs.YtehmlkcnhccjmabDoor.GoodState Go.Proofs.YtehmlkcnhccjmabDoor.ShaComp
set_option linter.unusedVariables false
set_option maxRecDepth 100000

set_option maxHeartbeats 2000000 in
theorem walk (A : Option Addr) (n c : Nat) (s : ByteArray) (L : Int) (zs : List Int) (hn : n ≤ maxLen) (hs : s.size ≤ maxLen) (w : World) (hk : w.rangeAt 3 0 (u32s consts)) (hx : Rd w w.heap.size 1 A n (ints zs)) :
    Calls Tryd.prog 3 #[stV A n c s L] w fun e w' => e = .returned (.bool true) ∧ Below w.heap.size w w' := by
  have hal : Below w.heap.size w (w.alloc (.cells #[.slice A n c, .string s, .int .i64 L] 24)) := (Below.refl _ w).alloc (Nat.le_refl _) _
  by_cases hbig : 1048576 < n + s.size
  · have C := Lib.hid (fun W => szState_big A n c s L W hn hs hbig)
    unfold stV at *
    clear hx hk
    go_enter Tryd.func3, Tryd.ntmps3
    go_wp2_with fail
    refine (C.out _).mono ?_
    rintro e w1 ⟨rfl, hb1⟩
    have hb : Below w.heap.size w w1 := hal.trans (hb1.mono (by simp))
    clear hb1
    go_wp2
    go_ret
    exact ⟨rfl, hb⟩
  · have C := Lib.hid (fun W => szState_ok A n c s L W (by omega))
    have hn' : n ≤ 1048576 := by omega
    have T := Lib.hid (fun W (h : Below w.heap.size w W) => toState A n c s L zs W hn' ((hx.below h (Nat.le_refl _)).mono h.size))
    have hltK : 3 < w.heap.size := World.block_lt_of_cell? w ⟨3, 0, none⟩ (hk 0 (.int .u32 0x428a2f98) rfl)
    obtain ⟨t, ok, S0, I0⟩ := SpecEnd.both n s L zs hn' hs hx.len
    have G1 := Lib.hid (fun g W (h : Rd W W.heap.size 1 (some ⟨g, 0, none⟩) n (ints zs)) => S0 (some ⟨g, 0, none⟩) n W h)
    have G2 := Lib.hid (fun g W (hB : Below w.heap.size w W) (h : Rd W W.heap.size 1 (some ⟨g, 0, none⟩) n (ints zs)) => I0 (some ⟨g, 0, none⟩) n W h (rangeAt_heap (hB.block 3 hltK) hk))
    clear S0 I0
    have Q := Lib.hid (fun g g' W B B' (h : Rd W B 1 (some ⟨g, 0, none⟩) n (ints zs)) (h' : Rd W B' 1 (some ⟨g', 0, none⟩) n (ints zs)) (hB : B ≤ W.heap.size) (hB' : B' ≤ W.heap.size) => eqState (some ⟨g, 0, none⟩) (some ⟨g', 0, none⟩) n n n n s s L L zs zs B B' W hn' hn h h' hB hB' true (by simp))
    unfold stV at *
    clear hx hk
    go_enter Tryd.func3, Tryd.ntmps3
    go_wp2_with fail
    refine (C.out _).mono ?_
    rintro e w1 ⟨rfl, hb1⟩
    simp only [World.size_alloc] at hb1
    have hB1 : Below w.heap.size w w1 := below_box hb1 (by omega)
    obtain ⟨c0, c1, c2⟩ := box3 hb1
    go_wp2_with fail
    refine (T.out _ hB1).mono ?_
    rintro e w2 ⟨g2, rfl, ho2, hb2⟩
    clear c0 c1 c2
    go_wp2_with fail
    refine (G1.out g2 _ (Rd.own ho2)).mono ?_
    rintro e w3 ⟨rfl, hb3⟩
    have h3 : Below (w.heap.size + 1) (w.alloc (.cells #[.slice A n c, .string s, .int .i64 L] 24)) w3 := hb1.trans ((hb2.trans (hb3.mono hb2.size)).mono (by have := hb1.size; simpa using this))
    have hB3 : Below w.heap.size w w3 := below_box h3 (by omega)
    obtain ⟨c0, c1, c2⟩ := box3 h3
    clear hb2 hb3 ho2 hb1 hB1
    go_wp2_with fail
    refine (T.out _ hB3).mono ?_
    rintro e w4 ⟨g4, rfl, ho4, hb4⟩
    have h4 := h3.trans (hb4.mono (by have := h3.size; simpa using this))
    clear c0 c1 c2 hB3
    have z4 := h4.size
    simp only [World.size_alloc] at z4
    have hR4 := Lib.hid ((Rd.own ho4).below ((Below.refl _ w4).alloc (Nat.le_refl _) (.cells #[.slice (some ⟨g4, 0, none⟩) n n, .string s, .int .i64 L] 28)) (Nat.le_refl _))
    have HB4 := Lib.hid ((below_box h4 (by omega)).alloc (by omega) (.cells #[.slice (some ⟨g4, 0, none⟩) n n, .string s, .int .i64 L] 28))
    clear ho4 hb4 h3
    go_wp2_with fail
    refine (G2.out g4 _ HB4.out (hR4.out.mono (by simp))).mono ?_
    rintro e w5 ⟨rfl, hb5⟩
    simp only [World.size_alloc] at hb5
    obtain ⟨c0, c1, c2⟩ := box3 hb5
    have h5 := h4.trans (below_box hb5 (by omega) |>.mono (by omega))
    obtain ⟨d0, d1, d2⟩ := box3 h5
    have hB5 := Lib.hid (below_box h5 (by omega))
    have hR5 := Lib.hid (hR4.out.below hb5 (by omega))
    have z5 := hb5.size
    simp only [World.size_alloc] at z5
    have z4' : w4.heap.size ≤ w5.heap.size := by omega
    have K5 := Lib.hid h5
    have K4 := Lib.hid hb5
    clear h4 h5 hb5 hR4 hal
    clear HB4
    cases ok
    all_goals
      go_wp2_with fail
      go_region_held3 (fun w' => w'.cell? ⟨w4.heap.size, 0, none⟩ = some (.slice (some ⟨g4, 0, none⟩) n n) ∧ w'.cell? ⟨w4.heap.size, 1, none⟩ = some (.string s) ∧ w'.cell? ⟨w4.heap.size, 2, none⟩ = some (.int .i64 L) ∧
          w'.cell? ⟨w.heap.size, 0, none⟩ = some (.slice A n c) ∧ w'.cell? ⟨w.heap.size, 1, none⟩ = some (.string s) ∧ w'.cell? ⟨w.heap.size, 2, none⟩ = some (.int .i64 L))
        (first | go_keep | (go_split_ands; refine ⟨?_, ?_, ?_, ?_, ?_, ?_⟩ <;> (rw [hb6.cell (by simp; omega)]; assumption)) | (go_split_ands; refine ⟨?_, ?_, ?_, ?_, ?_, ?_⟩ <;> (rw [hb7.cell (by simp; omega)]; assumption)))
        (first
          | (go_at_call 10; refine (T.out _ hB5.out.drew).mono ?_; rintro e w6 ⟨g6, rfl, ho6, hb6⟩; have hb6' : Below w5.heap.size w5 w6 := (Below.drew (Below.refl _ w5)).trans hb6; have z6 := hb6'.size)
          | (go_at_call 12; refine (Q.out g4 g6 _ w5.heap.size _ ((hR5.out.mono z4').below hb6' (Nat.le_refl _)) (Rd.own ho6) hb6'.size (Nat.le_refl _)).mono ?_; rintro e w7 ⟨rfl, hb7⟩))
      have hb : Below w.heap.size w w7 := hB5.out.trans ((hb6'.trans (hb7.mono hb6'.size)).mono hB5.out.size)
      clear hb6 hb7 hb6' ho6 K4 K5
      go_wp2
      go_ret
      exact ⟨rfl, hb⟩
end Go.Proofs.YtehmlkcnhccjmabDoor.LawEndState
