/-
  A state fed with a text where that is refused, by the program and by the specification; and fed where it fits, by the specification.
-/
import Derived.Test.YtfoclgijhkibeabDoorImplFeed
namespace Go.Proofs.YtfoclgijhkibeabDoor.FeedNo
open Go.ChangeShapes Go.WideShapes Go.ChangeAt Go.RowKit
open Go.Proofs.YtfoclgijhkibeabDoor.Mem Go.Proofs.YtfoclgijhkibeabDoor.Ints Go.Proofs.YtfoclgijhkibeabDoor.State Go.Proofs.YtfoclgijhkibeabDoor.ShaComp Go.Proofs.YtfoclgijhkibeabDoor.ShaSched Go.Proofs.YtfoclgijhkibeabDoor.ShaRound Go.Proofs.YtfoclgijhkibeabDoor.Absorb Go.Proofs.YtfoclgijhkibeabDoor.End Go.Proofs.YtfoclgijhkibeabDoor.GoodState Go.Proofs.YtfoclgijhkibeabDoor.Feed Go.Proofs.YtfoclgijhkibeabDoor.Feed2 Go.Proofs.YtfoclgijhkibeabDoor.ImplFeed
set_option linter.unusedVariables false
set_option maxRecDepth 100000
set_option maxHeartbeats 2000000 in
theorem implFeedNo (A : Option Addr) (n c : Nat) (s t : ByteArray) (L : Int) (zs : List Int) (w : World) (hn : n ≤ 1048576) (hss : s.size ≤ maxLen) (hm : t.size ≤ maxLen) (h : goodS zs s L = false ∨ 600 < t.size ∨ 1000000 < L + t.size) (hx : Rd w w.heap.size 1 A n (ints zs)) :
    Calls Tryd.prog 34 #[stV A n c s L, .string t] w fun e w' => e = .returned (.tuple #[.agg #[.slice none 0 0, .string ⟨#[]⟩, .int .i64 0], .bool false]) ∧ Below w.heap.size w w' := by
  have HG := Lib.hid (fun W (h : Below w.heap.size w W) => implGood A n c s L zs W hn hss ((hx.below h (Nat.le_refl _)).mono h.size))
  clear hx
  unfold maxLen at hm
  have key : ∀ b : Bool, goodS zs s L = b → (b = true → (0 ≤ L ∧ L ≤ 1000000) ∧ (600 < t.size ∨ 1000000 < L + t.size)) → Calls Tryd.prog 34 #[stV A n c s L, .string t] w fun e w' => e = .returned (.tuple #[.agg #[.slice none 0 0, .string ⟨#[]⟩, .int .i64 0], .bool false]) ∧ Below w.heap.size w w' := by
    intro b hb hh
    rw [hb] at HG
    have HH := Lib.hid hh
    clear hh hb h
    unfold stV at *
    go_enter Tryd.func34, Tryd.ntmps34
    go_wp2_with fail
    obtain ⟨x0, y0, z0⟩ := boxed w #[.slice A n c, .string s, .int .i64 L] 60
    generalize World.alloc w _ = W00 at *
    obtain ⟨xx0, yy0, zz0⟩ := boxed W00 #[.slice none 0 0, .string ⟨#[]⟩, .int .i64 0] 60
    generalize World.alloc W00 _ = W0 at *
    rw [z0] at xx0 zz0
    have y00 : Below w.heap.size w W0 := y0.trans (yy0.mono (by omega))
    have x00 := (yy0.block w.heap.size (by omega)).trans x0
    clear x0 y0 yy0
    refine (HG.out W0 y00).mono ?_
    rintro e' w1 ⟨rfl, hb1⟩
    have hs1 := hb1.size
    have q1 := (hb1.block (w.heap.size + 1) (by omega)).trans xx0
    have x1 := (hb1.block w.heap.size (by omega)).trans x00
    have B1 : Below w.heap.size w w1 := y00.trans (hb1.mono (by omega))
    obtain ⟨k0, k1, k2⟩ := row3 q1
    obtain ⟨p0, p1, p2⟩ := row3 x1
    have f0 := frozen_of_row w1 _ 0 _ _ q1
    have f1 := frozen_of_row w1 _ 1 _ _ q1
    have f2 := frozen_of_row w1 _ 2 _ _ q1
    clear HG y00 xx0 x00 hb1 q1 x1
    have fin : Below w.heap.size w (((w1.setCell ⟨w.heap.size + 1, 0, none⟩ (.slice none 0 0)).setCell ⟨w.heap.size + 1, 1, none⟩ (.string ⟨#[]⟩)).setCell ⟨w.heap.size + 1, 2, none⟩ (.int .i64 0)) := ((B1.setCell (p := ⟨w.heap.size + 1, 0, none⟩) (by dsimp only; omega) _).setCell (p := ⟨w.heap.size + 1, 1, none⟩) (by dsimp only; omega) _).setCell (p := ⟨w.heap.size + 1, 2, none⟩) (by dsimp only; omega) _
    cases b
    · clear HH
      go_wp2
      exact bodyPost_ret (v := .tuple #[.agg #[.slice none 0 0, .string ⟨#[]⟩, .int .i64 0], .bool false]) (by simp [results, Tryd.results34, go_sem, k0, k1, k2]) rfl ⟨rfl, fin⟩
    · obtain ⟨⟨l0, l1⟩, hor⟩ := HH.out rfl
      clear HH
      by_cases h6 : 600 < t.size
      · clear hor
        go_wp2
        exact bodyPost_ret (v := .tuple #[.agg #[.slice none 0 0, .string ⟨#[]⟩, .int .i64 0], .bool false]) (by simp [results, Tryd.results34, go_sem, k0, k1, k2]) rfl ⟨rfl, fin⟩
      · have h7 : 1000000 < L + (t.size : Int) := by omega
        have h8 : t.size ≤ 600 := by omega
        clear hor h6
        go_wp2
        exact bodyPost_ret (v := .tuple #[.agg #[.slice none 0 0, .string ⟨#[]⟩, .int .i64 0], .bool false]) (by simp [results, Tryd.results34, go_sem, k0, k1, k2]) rfl ⟨rfl, fin⟩
  cases hg : goodS zs s L with
  | false => exact key false hg (fun h => by cases h)
  | true =>
    refine key true hg (fun _ => ?_)
    obtain ⟨_, _, h3, h4, _⟩ := of_decide_eq_true hg
    refine ⟨⟨h3, h4⟩, ?_⟩
    rcases h with h | h
    · rw [hg] at h; cases h
    · exact h
set_option maxHeartbeats 2000000 in
theorem specFeedNo (A : Option Addr) (n c : Nat) (s t : ByteArray) (L : Int) (zs : List Int) (w : World) (hn : n ≤ 1048576) (hss : s.size ≤ maxLen) (hm : t.size ≤ maxLen) (h : goodS zs s L = false ∨ 600 < t.size ∨ 1000000 < L + t.size) (hx : Rd w w.heap.size 1 A n (ints zs)) :
    Calls Tryd.prog 39 #[stV A n c s L, .string t] w fun e w' => e = .returned (.tuple #[.agg #[.slice none 0 0, .string ⟨#[]⟩, .int .i64 0], .bool false]) ∧ Below w.heap.size w w' := by
  have HG := Lib.hid (fun W (h : Below w.heap.size w W) => specGood A n c s L zs W hn hss ((hx.below h (Nat.le_refl _)).mono h.size))
  clear hx
  unfold maxLen at hm
  have key : ∀ b : Bool, goodS zs s L = b → (b = true → (0 ≤ L ∧ L ≤ 1000000) ∧ (600 < t.size ∨ 1000000 < L + t.size)) → Calls Tryd.prog 39 #[stV A n c s L, .string t] w fun e w' => e = .returned (.tuple #[.agg #[.slice none 0 0, .string ⟨#[]⟩, .int .i64 0], .bool false]) ∧ Below w.heap.size w w' := by
    intro b hb hh
    rw [hb] at HG
    have HH := Lib.hid hh
    clear hh hb h
    unfold stV at *
    go_enter Tryd.func39, Tryd.ntmps39
    go_wp2_with fail
    obtain ⟨x0, y0, z0⟩ := boxed w #[.slice A n c, .string s, .int .i64 L] 60
    generalize World.alloc w _ = W00 at *
    obtain ⟨xx0, yy0, zz0⟩ := boxed W00 #[.slice none 0 0, .string ⟨#[]⟩, .int .i64 0] 60
    generalize World.alloc W00 _ = W0 at *
    rw [z0] at xx0 zz0
    have y00 : Below w.heap.size w W0 := y0.trans (yy0.mono (by omega))
    have x00 := (yy0.block w.heap.size (by omega)).trans x0
    clear x0 y0 yy0
    refine (HG.out W0 y00).mono ?_
    rintro e' w1 ⟨rfl, hb1⟩
    have hs1 := hb1.size
    have q1 := (hb1.block (w.heap.size + 1) (by omega)).trans xx0
    have x1 := (hb1.block w.heap.size (by omega)).trans x00
    have B1 : Below w.heap.size w w1 := y00.trans (hb1.mono (by omega))
    obtain ⟨k0, k1, k2⟩ := row3 q1
    obtain ⟨p0, p1, p2⟩ := row3 x1
    have f0 := frozen_of_row w1 _ 0 _ _ q1
    have f1 := frozen_of_row w1 _ 1 _ _ q1
    have f2 := frozen_of_row w1 _ 2 _ _ q1
    clear HG y00 xx0 x00 hb1 q1 x1
    have fin : Below w.heap.size w (((w1.setCell ⟨w.heap.size + 1, 0, none⟩ (.slice none 0 0)).setCell ⟨w.heap.size + 1, 1, none⟩ (.string ⟨#[]⟩)).setCell ⟨w.heap.size + 1, 2, none⟩ (.int .i64 0)) := ((B1.setCell (p := ⟨w.heap.size + 1, 0, none⟩) (by dsimp only; omega) _).setCell (p := ⟨w.heap.size + 1, 1, none⟩) (by dsimp only; omega) _).setCell (p := ⟨w.heap.size + 1, 2, none⟩) (by dsimp only; omega) _
    cases b
    · clear HH
      go_wp2
      exact bodyPost_ret (v := .tuple #[.agg #[.slice none 0 0, .string ⟨#[]⟩, .int .i64 0], .bool false]) (by simp [results, Tryd.results39, go_sem, k0, k1, k2]) rfl ⟨rfl, fin⟩
    · obtain ⟨⟨l0, l1⟩, hor⟩ := HH.out rfl
      clear HH
      by_cases h6 : 600 < t.size
      · clear hor
        go_wp2
        exact bodyPost_ret (v := .tuple #[.agg #[.slice none 0 0, .string ⟨#[]⟩, .int .i64 0], .bool false]) (by simp [results, Tryd.results39, go_sem, k0, k1, k2]) rfl ⟨rfl, fin⟩
      · have h7 : 1000000 < L + (t.size : Int) := by omega
        have h8 : t.size ≤ 600 := by omega
        clear hor h6
        go_wp2
        exact bodyPost_ret (v := .tuple #[.agg #[.slice none 0 0, .string ⟨#[]⟩, .int .i64 0], .bool false]) (by simp [results, Tryd.results39, go_sem, k0, k1, k2]) rfl ⟨rfl, fin⟩
  cases hg : goodS zs s L with
  | false => exact key false hg (fun h => by cases h)
  | true =>
    refine key true hg (fun _ => ?_)
    obtain ⟨_, _, h3, h4, _⟩ := of_decide_eq_true hg
    refine ⟨⟨h3, h4⟩, ?_⟩
    rcases h with h | h
    · rw [hg] at h; cases h
    · exact h
end Go.Proofs.YtfoclgijhkibeabDoor.FeedNo
