/-
  What the laws of chapter 2 draw: contracts of the drawing functions, and of the laws' own comparison of rows.
-/
import Derived.Test.YtehmlkcnhccjmabDoorDraw2
import Derived.Test.YtehmlkcnhccjmabDoorPairs
namespace Go.Proofs.YtehmlkcnhccjmabDoor.Draw3
open Go.ChangeShapes Go.WideShapes Go.ChangeAt Go.RowKit
open Go.Proofs.YtehmlkcnhccjmabDoor.Mem Go.Proofs.YtehmlkcnhccjmabDoor.Ints Go.Proofs.YtehmlkcnhccjmabDoor.Mark Go.Proofs.YtehmlkcnhccjmabDoor.Cur Go.Proofs.YtehmlkcnhccjmabDoor.Rune Go.Proofs.YtehmlkcnhccjmabDoor.Enc Go.Proofs.YtehmlkcnhccjmabDoor.Pairs Go.Proofs.YtehmlkcnhccjmabDoor.Draw2
set_option linter.unusedVariables false

theorem boxed_cur (A : Option Addr) (n c : Nat) (cs : List UInt8) (w : World) (hn : n ≤ maxLen) (hx : Rd w w.heap.size 1 A n (Cur.bytes cs)) :
    Cur (w.alloc (.cells #[.slice A n c, .int .i64 0, .int .u64 0] 82)) w.heap.size w.heap.size 0 :=
  ⟨A, n, c, 0, 0, cs, heap_alloc_new w _, hn, hx.below ((Below.refl _ w).alloc (Nat.le_refl _) _) (Nat.le_refl _), Nat.le_refl _, by omega, by omega, by omega⟩
theorem drawTextOf (A : Option Addr) (n c : Nat) (cs : List UInt8) (w : World) (hn : n ≤ maxLen) (hx : Rd w w.heap.size 1 A n (Cur.bytes cs)) :
    Calls Tryd.prog 37 #[.slice A n c] w fun e w' => ∃ (v : Value) (zs : List Int), e = .returned v ∧ zs.length ≤ 61 ∧ w'.ownsRow w.heap.size 3 1 v zs.length (ints zs) ∧ Below w.heap.size w w' := by
  have R := Lib.hid (runes w.heap.size w.heap.size 0 _ (by omega) (boxed_cur A n c cs w hn hx))
  clear hx
  go_enter Tryd.func37, Tryd.ntmps37
  go_wp2_with fail
  refine R.out.mono ?_
  rintro e w1 ⟨v, zs, rfl, hl, ho, hc1, hu1⟩
  have hb : Below w.heap.size w w1 := ((Below.refl _ w).alloc (Nat.le_refl _) _).trans (hu1.below (Nat.le_refl _) (by simp))
  have HO := Lib.hid (own_base ho (show w.heap.size ≤ _ by simp))
  clear ho hc1 hu1
  go_wp2
  go_ret
  exact ⟨v, zs, rfl, hl, HO.out, hb⟩
set_option maxRecDepth 100000 in
set_option maxHeartbeats 1000000 in
theorem sameInts (A D : Option Addr) (n m c d : Nat) (xs ys : List Int) (B B' : Nat) (w : World) (hn : n ≤ 1048576) (hm : m ≤ maxLen) (hx : Rd w B 1 A n (ints xs)) (hy : Rd w B' 1 D m (ints ys)) :
    Calls Tryd.prog 33 #[.slice A n c, .slice D m d] w fun e w' => e = .returned (.bool (decide (xs = ys))) ∧ ∃ q, w' = w.drewN q := by
  have lx := hx.len
  have ly := hy.len
  unfold maxLen at hm
  by_cases hnm : n = m
  · subst hnm
    have HX := Lib.hid hx
    have HY := Lib.hid hy
    have LX := Lib.hid lx
    have LY := Lib.hid ly
    clear hx hy lx ly
    go_enter Tryd.func33, Tryd.ntmps33
    go_wp2
    go_loopw [13] (fun i wr => ∃ k q : Nat, k ≤ n ∧ i = .int .i64 k ∧ wr = w.drewN q ∧ xs.take k = ys.take k) (fun i _ => n - (intOf i).toNat)
    case atStart => exact ⟨0, 0, by omega, rfl, rfl, rfl⟩
    case round =>
      obtain ⟨k, q, hk, rfl, rfl, ht⟩ := hrel
      have HT := Lib.hid ht
      clear ht
      by_cases hlt : k < n
      · obtain ⟨b, off, hl, rfl, _, hc⟩ := HX.out.int hlt
        obtain ⟨b', off', hl', rfl, _, hc'⟩ := HY.out.int hlt
        have i0 : (0 : Int) ≤ (k : Int) := by omega
        have i1 : (k : Int) < (n : Int) := by omega
        by_cases he : xs[k] = ys[k]
        · have hb : (xs[k] != ys[k]) = false := by simp [he]
          have HE := Lib.hid he
          clear he
          go_wp2_with fail
          go_quiet (fail)
          go_wp2
          go_roundw
          case rel => exact ⟨k + 1, _, by omega, by go_num, rfl, take_eq_succ hl hl' HT.out HE.out⟩
          case measure => simp [intOf]; omega
        · have hb : (xs[k] != ys[k]) = true := by simp [he]
          have hne : decide (xs = ys) = false := by
            rw [decide_eq_false_iff_not]; intro e; apply he; simp only [e]
          have HN := Lib.hid hne
          clear he hne
          go_wp2_with fail
          go_quiet (fail)
          go_wp2
          go_ret
          exact ⟨by rw [HN.out]; rfl, _, World.drewN_drewN ..⟩
      · have hd : decide (xs = ys) = true := by
          rw [decide_eq_true_iff]
          have h := HT.out
          have l1 := LX.out
          have l2 := LY.out
          rwa [List.take_of_length_le (by omega), List.take_of_length_le (by omega)] at h
        have HD := Lib.hid hd
        clear hd
        go_wp2
        go_ret
        exact ⟨by rw [HD.out]; rfl, _, rfl⟩
  · have hd : decide (xs = ys) = false := by
      rw [decide_eq_false_iff_not]; intro e; subst e; omega
    have HD := Lib.hid hd
    have hne : ((n : Int) != (m : Int)) = true := by rw [bne_iff_ne]; omega
    clear hd lx ly hx hy
    go_enter Tryd.func33, Tryd.ntmps33
    go_wp2
    go_ret
    exact ⟨by rw [HD.out]; rfl, 0, rfl⟩
theorem own_some {w : World} {base e size n c : Nat} {A : Option Addr} {xs : List Value} (h : w.ownsRow base e size (.slice A n c) n xs) (hn : 0 < n) : ∃ g, A = some ⟨g, 0, none⟩ ∧ base ≤ g := by
  rcases h.2 with ⟨_, h0⟩ | ⟨g, cap, cur, h1, h2, _⟩
  · omega
  · obtain ⟨rfl, rfl⟩ : A = some ⟨g, 0, none⟩ ∧ c = cap := by simpa using h1
    exact ⟨g, rfl, h2⟩
end Go.Proofs.YtehmlkcnhccjmabDoor.Draw3
