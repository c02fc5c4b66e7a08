/-
  States of the hash: contracts of the laws' own helpers on states, of GoodState by the reference and by the program, and the walk of the law on GoodState.
-/
import Derived.Test.YtehmlkcnhccjmabDoorRows
import Derived.Test.YtehmlkcnhccjmabDoorMem
import Derived.Test.YtehmlkcnhccjmabDoorInts
namespace Go.Proofs.YtehmlkcnhccjmabDoor.State
open Go.ChangeShapes Go.WideShapes Go.ChangeAt Go.RowKit
open Go.Proofs.YtehmlkcnhccjmabDoor.Mem Go.Proofs.YtehmlkcnhccjmabDoor.Ints
set_option linter.unusedVariables false
set_option maxRecDepth 100000

def stV (A : Option Addr) (n c : Nat) (s : ByteArray) (L : Int) : Value := .agg #[.slice A n c, .string s, .int .i64 L]

theorem szState_ok (A : Option Addr) (n c : Nat) (s : ByteArray) (L : Int) (w : World) (h : n + s.size ≤ 1048576) :
    Calls Tryd.prog 8 #[stV A n c s L, .int .i64 1048576] w fun e w' => e = .returned (.int .i64 (1048576 - n - s.size)) ∧ Below w.heap.size w w' := by
  unfold stV
  go_enter Tryd.func8, Tryd.ntmps8
  go_wp2
  go_ret
  exact ⟨rfl, (Below.refl _ _).alloc (Nat.le_refl _) _⟩
theorem szState_big (A : Option Addr) (n c : Nat) (s : ByteArray) (L : Int) (w : World) (hn : n ≤ maxLen) (hs : s.size ≤ maxLen) (h : 1048576 < n + s.size) :
    Calls Tryd.prog 8 #[stV A n c s L, .int .i64 1048576] w fun e w' => e = .returned (.int .i64 (-1)) ∧ Below w.heap.size w w' := by
  unfold stV
  unfold maxLen at hn hs
  by_cases h1 : 1048576 < n
  · go_enter Tryd.func8, Tryd.ntmps8
    go_wp2
    go_ret
    exact ⟨rfl, (Below.refl _ _).alloc (Nat.le_refl _) _⟩
  · go_enter Tryd.func8, Tryd.ntmps8
    go_wp2
    go_ret
    exact ⟨rfl, (Below.refl _ _).alloc (Nat.le_refl _) _⟩
theorem toState (A : Option Addr) (n c : Nat) (s : ByteArray) (L : Int) (zs : List Int) (w : World) (hn : n ≤ 1048576) (hx : Rd w w.heap.size 1 A n (ints zs)) :
    Calls Tryd.prog 10 #[stV A n c s L] w fun e w' => ∃ g, e = .returned (stV (some ⟨g, 0, none⟩) n n s L) ∧ w'.ownsRow w.heap.size 3 1 (.slice (some ⟨g, 0, none⟩) n n) n (ints zs) ∧ Below w.heap.size w w' := by
  unfold stV
  go_enter Tryd.func10, Tryd.ntmps10
  go_wp2_with fail
  refine (toIntS A n c zs _ hn ((hx.below ((((Below.refl _ w).alloc (Nat.le_refl _) _).alloc (by simp) _).alloc (by simp; omega) _) (Nat.le_refl _)).mono (by simp; omega))).mono ?_
  rintro e w1 ⟨rfl, hown, hb1⟩
  have hc := bel_cell hb1
  have hf := bel_frozen hb1
  have HO := Lib.hid hown
  clear hown
  go_wp2
  refine bodyPost_ret (v := .agg #[.slice (some ⟨w.heap.size + 1 + 1 + 1, 0, none⟩) n n, .string s, .int .i64 L]) (by simp [results, Tryd.results10, go_sem, hc]) rfl ⟨w.heap.size + 1 + 1 + 1, rfl, ?_, ?_⟩
  · have ho : w1.ownsRow (w.heap.size + 1 + 1 + 1) 3 1 (.slice (some ⟨w.heap.size + 1 + 1 + 1, 0, none⟩) n n) n (ints zs) := by simpa using HO.out
    refine own_base ?_ (show w.heap.size ≤ w.heap.size + 1 + 1 + 1 by omega)
    exact (ownsRow_setCell_below (ownsRow_setCell_below (ownsRow_setCell_below (ownsRow_setCell_below (ownsRow_setCell_below (ownsRow_setCell_below ho (by dsimp only; omega) _) (by dsimp only; omega) _) (by dsimp only; omega) _) (by dsimp only; omega) _) (by dsimp only; omega) _) (by dsimp only; omega) _)
  · have hb : Below w.heap.size w w1 := (((((Below.refl _ w).alloc (Nat.le_refl _) _).alloc (by simp) _).alloc (by simp; omega) _)).trans (hb1.mono (by simp; omega))
    exact (Below.setCell (Below.setCell (Below.setCell (Below.setCell (Below.setCell (Below.setCell hb (by dsimp only; omega) _) (by dsimp only; omega) _) (by dsimp only; omega) _) (by dsimp only; omega) _) (by dsimp only; omega) _) (by dsimp only; omega) _)
theorem eqState (A D : Option Addr) (n m c d : Nat) (s t : ByteArray) (L M : Int) (xs ys : List Int) (B B' : Nat) (w : World) (hn : n ≤ 1048576) (hm : m ≤ maxLen) (hx : Rd w B 1 A n (ints xs)) (hy : Rd w B' 1 D m (ints ys))
    (hB : B ≤ w.heap.size) (hB' : B' ≤ w.heap.size) (b : Bool) (hb : b = decide (xs = ys ∧ s = t ∧ L = M)) :
    Calls Tryd.prog 12 #[stV A n c s L, stV D m d t M] w fun e w' => e = .returned (.bool b) ∧ Below w.heap.size w w' := by
  unfold stV
  have hal : Below w.heap.size w ((w.alloc (.cells #[.slice A n c, .string s, .int .i64 L] 28)).alloc (.cells #[.slice D m d, .string t, .int .i64 M] 28)) := ((Below.refl _ w).alloc (Nat.le_refl _) _).alloc (by simp) _
  have C := Lib.hid (eqIntS A D n m c d xs ys B B' _ hn hm (hx.below hal hB) (hy.below hal hB'))
  have HB := Lib.hid hb
  clear hx hy hb
  by_cases h1 : xs = ys
  · have d1 : decide (xs = ys) = true := decide_eq_true h1
    by_cases h2 : s = t
    · subst h2
      by_cases h3 : L = M
      · subst h3
        have e := Lib.hid (HB.out.trans (decide_eq_true ⟨h1, rfl, rfl⟩))
        clear h1 HB
        go_enter Tryd.func12, Tryd.ntmps12
        go_wp2_with fail
        refine C.out.mono ?_
        rintro e' w' ⟨rfl, q, rfl⟩
        rw [d1]
        clear d1 C
        go_wp2
        go_ret
        exact ⟨by rw [e.out]; rfl, below_drewN hal _⟩
      · have e := Lib.hid (HB.out.trans (decide_eq_false fun h => h3 h.2.2))
        have t3 : (L != M) = true := by rw [bne_iff_ne]; exact h3
        clear h1 HB h3
        go_enter Tryd.func12, Tryd.ntmps12
        go_wp2_with fail
        refine C.out.mono ?_
        rintro e' w' ⟨rfl, q, rfl⟩
        rw [d1]
        clear d1 C
        go_wp2
        go_ret
        exact ⟨by rw [e.out]; rfl, below_drewN hal _⟩
    · have e := Lib.hid (HB.out.trans (decide_eq_false fun h => h2 h.2.1))
      have t2 := str_ne h2
      clear h1 HB h2
      go_enter Tryd.func12, Tryd.ntmps12
      go_wp2_with fail
      refine C.out.mono ?_
      rintro e' w' ⟨rfl, q, rfl⟩
      rw [d1]
      clear d1 C
      go_wp2
      go_ret
      exact ⟨by rw [e.out]; rfl, below_drewN hal _⟩
  · have d1 : decide (xs = ys) = false := decide_eq_false h1
    have e := Lib.hid (HB.out.trans (decide_eq_false fun h => h1 h.1))
    clear h1 HB
    go_enter Tryd.func12, Tryd.ntmps12
    go_wp2_with fail
    refine C.out.mono ?_
    rintro e' w' ⟨rfl, q, rfl⟩
    rw [d1]
    clear d1 C
    go_wp2
    go_ret
    exact ⟨by rw [e.out]; rfl, below_drewN hal _⟩
def inB (z lo hi : Int) : Bool := decide (lo ≤ z ∧ z ≤ hi)
def allB (zs : List Int) (lo hi : Int) : Bool := zs.all fun z => inB z lo hi
theorem allB_take_succ {zs : List Int} {lo hi : Int} {k : Nat} (h : k < zs.length) (ht : allB (zs.take k) lo hi = true) (hz : lo ≤ zs[k] ∧ zs[k] ≤ hi) : allB (zs.take (k + 1)) lo hi = true := by
  rw [take_snoc_int zs k h]; unfold allB at *; rw [List.all_append, ht]; simp [inB, hz]
theorem allB_no {zs : List Int} {lo hi : Int} {k : Nat} (h : k < zs.length) (hz : ¬ (lo ≤ zs[k] ∧ zs[k] ≤ hi)) : allB zs lo hi = false := by
  unfold allB; rw [List.all_eq_false]; exact ⟨zs[k], List.getElem_mem h, by simp [inB]; omega⟩
set_option maxHeartbeats 1000000 in
theorem l1All (A : Option Addr) (n c : Nat) (zs : List Int) (lo hi : Int) (B : Nat) (w : World) (hn : n ≤ 1048576) (hx : Rd w B 1 A n (ints zs)) :
    Calls Tryd.prog 71 #[.slice A n c, .int .i64 lo, .int .i64 hi] w fun e w' => e = .returned (.bool (allB zs lo hi)) ∧ w = w' := by
  have lx := hx.len
  subst lx
  have HX := Lib.hid hx
  clear hx
  go_enter Tryd.func71, Tryd.ntmps71
  go_wp2
  go_loop [11] (fun i => ∃ k : Nat, k ≤ zs.length ∧ i = .int .i64 k ∧ allB (zs.take k) lo hi = true) (fun i => zs.length - (intOf i).toNat)
  case atStart => exact ⟨0, by omega, rfl, rfl⟩
  case round =>
    obtain ⟨k, hk, rfl, ht⟩ := hrel
    have HT := Lib.hid ht
    clear ht
    by_cases hlt : k < zs.length
    · obtain ⟨b, off, hl, rfl, _, hc⟩ := HX.out.int hlt
      by_cases h0 : lo ≤ zs[k]
      · by_cases h1 : zs[k] ≤ hi
        · go_wp2
          go_round
          case rel => exact ⟨k + 1, by omega, by go_num, allB_take_succ hl HT.out ⟨h0, h1⟩⟩
          case measure => simp [intOf]; omega
        · have e := Lib.hid (allB_no (lo := lo) (hi := hi) hl (by omega))
          have h1' : decide (zs[k] ≤ hi) = false := by simpa using h1
          go_wp2
          go_ret
          exact ⟨by rw [e.out]; rfl, rfl⟩
      · have e := Lib.hid (allB_no (lo := lo) (hi := hi) hl (by omega))
        have h0' : decide (lo ≤ zs[k]) = false := by simpa using h0
        go_wp2
        go_ret
        exact ⟨by rw [e.out]; rfl, rfl⟩
    · have e := HT.out
      rw [List.take_of_length_le (by omega)] at e
      have E := Lib.hid e
      clear e
      go_wp2
      go_ret
      exact ⟨by rw [E.out]; rfl, rfl⟩
def goodS (zs : List Int) (s : ByteArray) (L : Int) : Bool := decide (zs.length = 8 ∧ allB zs 0 4294967295 = true ∧ 0 ≤ L ∧ L ≤ 1000000 ∧ (s.size : Int) = L % 64)
end Go.Proofs.YtehmlkcnhccjmabDoor.State
