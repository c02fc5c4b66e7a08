/-
  What the laws of chapter 4 draw: each drawing function returns numbers of a known range, and changes nothing that was in memory.
-/
import Derived.Test.YtbljmgmpmmajeabCur
import Derived.Laws.Closers25b
import Derived.Laws.Cover4
namespace Go.Proofs.Ytbljmgmpmmajeab.DrawM
open Go.ChangeShapes Go.WideShapes Go.ChangeAt Go.RowKit
open Go.Proofs.Ytbljmgmpmmajeab.Mem Go.Proofs.Ytbljmgmpmmajeab.Ints Go.Proofs.Ytbljmgmpmmajeab.Cur
set_option linter.unusedVariables false
set_option maxRecDepth 100000

theorem upd_alloc {p : Nat} {a w : World} (h : Upd p a w) (o : Obj) : Upd p a (w.alloc o) :=
  h.trans (Upd.of_below ((Below.refl _ w).alloc (Nat.le_refl _) o) (Nat.le_refl _))
theorem cur_alloc {w : World} {p B K : Nat} (h : Cur w p B K) (o : Obj) : Cur (w.alloc o) p B K := h.below ((Below.refl _ w).alloc (Nat.le_refl _) o) h.lt
theorem boxed_cur (A : Option Addr) (n c : Nat) (cs : List UInt8) (w : World) (hn : n ≤ maxLen) (hx : Rd w w.heap.size 1 A n (Cur.bytes cs)) :
    Cur (w.alloc (.cells #[.slice A n c, .int .i64 0, .int .u64 0] 39)) w.heap.size w.heap.size 0 :=
  ⟨A, n, c, 0, 0, cs, heap_alloc_new w _, hn, hx.below ((Below.refl _ w).alloc (Nat.le_refl _) _) (Nat.le_refl _), Nat.le_refl _, by omega, by omega, by omega⟩
theorem box_bel {w w1 : World} {o : Obj} (h : Upd w.heap.size (w.alloc o) w1) : Below w.heap.size w w1 := ((Below.refl _ w).alloc (Nat.le_refl _) _).trans (h.below (Nat.le_refl _) (by simp))
/-- A choice among the numbers of a literal. -/
theorem amongLit (p B K : Nat) (cs : Array Value) (zs : List Int) (w : World) (hK : K ≤ 999990) (h0 : 0 < zs.length) (h1 : zs.length ≤ 1000) (hl : cs = (ints zs).toArray) (hc : Cur w p B K) :
    Calls Try.prog 19 #[.pointer (some ⟨p, 0, none⟩), .slice (some ⟨w.heap.size, 0, none⟩) zs.length zs.length] (w.alloc (.cells cs 3)) fun e w' => ∃ z : Int, e = .returned (.int .i64 z) ∧ z ∈ zs ∧ Cur w' p B (K + 2) ∧ Upd p w w' := by
  have hp := hc.lt
  subst hl
  have hR := lit_rd w (ints zs).toArray 3 zs rfl
  have hR2 : Rd (w.alloc (.cells (ints zs).toArray 3)) (w.heap.size + 1) 1 (some ⟨w.heap.size, 0, none⟩) zs.length (ints zs) := by simpa [ints] using hR
  refine (among p B K _ zs.length zs.length zs (w.heap.size + 1) _ hK h0 h1 hR2 (by rintro b ⟨rfl⟩; dsimp only; omega) (by simp) (cur_alloc hc _)).mono ?_
  rintro e w' ⟨z, rfl, hz, hc', hu'⟩
  exact ⟨z, rfl, hz, hc', (upd_alloc (Upd.refl p w) _).trans hu'⟩
theorem prime (p B K : Nat) (w : World) (hK : K ≤ 900000) (hc : Cur w p B K) :
    Calls Try.prog 17 #[.pointer (some ⟨p, 0, none⟩)] w fun e w' => ∃ z : Int, e = .returned (.int .i64 z) ∧ 0 ≤ z ∧ z ≤ 10009 ∧ Cur w' p B (K + 4) ∧ Upd p w w' := by
  go_enter Try.func17, Try.ntmps17
  go_wp2_with fail
  refine (one p B K 12 w (by omega) (by omega) hc).mono ?_
  rintro e w1 ⟨b, rfl, hc1, hu1⟩
  cases b
  · go_wp2_with fail
    refine (amongLit p B (K + 2) _ [3, 5, 7, 13, 17, 101, 1009, 1013, 7919] w1 (by omega) (by simp) (by simp) rfl hc1).mono ?_
    rintro e w2 ⟨z, rfl, hz, hc2, hu2⟩
    have hu := hu1.trans hu2
    have hb : 0 ≤ z ∧ z ≤ 10009 := by simp at hz; omega
    clear hz hc1 hu1 hu2
    go_wp2
    go_ret
    exact ⟨z, rfl, hb.1, hb.2, hc2, hu⟩
  · go_wp2_with fail
    refine (amongLit p B (K + 2) _ [0, 1, 2, 4, 9, 10007, 10009] w1 (by omega) (by simp) (by simp) rfl hc1).mono ?_
    rintro e w2 ⟨z, rfl, hz, hc2, hu2⟩
    have hu := hu1.trans hu2
    have hb : 0 ≤ z ∧ z ≤ 10009 := by simp at hz; omega
    clear hz hc1 hu1 hu2
    go_wp2
    go_ret
    exact ⟨z, rfl, hb.1, hb.2, hc2, hu⟩
set_option maxHeartbeats 1000000 in
theorem below (p B K : Nat) (q : Int) (w : World) (hK : K ≤ 900000) (q0 : 0 ≤ q) (q1 : q ≤ 10009) (hc : Cur w p B K) :
    Calls Try.prog 18 #[.pointer (some ⟨p, 0, none⟩), .int .i64 q] w fun e w' => ∃ z : Int, e = .returned (.int .i64 z) ∧ -1 ≤ z ∧ z ≤ 10009 ∧ Cur w' p B (K + 6) ∧ Upd p w w' := by
  by_cases h2 : q < 2
  · go_enter Try.func18, Try.ntmps18
    go_wp2_with fail
    refine (amongLit p B K _ [-1, 0, 1, q] w (by omega) (by simp) (by simp) rfl hc).mono ?_
    rintro e w2 ⟨z, rfl, hz, hc2, hu2⟩
    have hb : -1 ≤ z ∧ z ≤ 10009 := by simp at hz; omega
    clear hz hc
    go_wp2
    go_ret
    exact ⟨z, rfl, hb.1, hb.2, hc2.mono (by omega), hu2⟩
  · go_enter Try.func18, Try.ntmps18
    go_wp2_with fail
    refine (one p B K 20 w (by omega) (by omega) hc).mono ?_
    rintro e w1 ⟨b, rfl, hc1, hu1⟩
    cases b
    · go_wp2_with fail
      refine (pick p B (K + 2) 256 w1 (by omega) (by omega) hc1).mono ?_
      rintro e w2 ⟨x, rfl, x0, x1, hc2, hu2⟩
      go_wp2_with fail
      refine (pick p B (K + 4) 37 w2 (by omega) (by omega) hc2).mono ?_
      rintro e w3 ⟨y, rfl, y0, y1, hc3, hu3⟩
      have hu := (hu1.trans hu2).trans hu3
      have hx : x ≤ 255 := by omega
      have hy : y ≤ 36 := by omega
      have m0 := Int.emod_nonneg (x * 37 + y) (show q ≠ 0 by omega)
      have m1 := Int.emod_lt_of_pos (x * 37 + y) (show 0 < q by omega)
      clear x1 y1 hc hc1 hc2 hu1 hu2 hu3
      go_wp2
      go_ret
      exact ⟨_, rfl, by omega, by omega, hc3.mono (by omega), hu⟩
    · go_wp2_with fail
      refine (amongLit p B (K + 2) _ [-1, 0, 1, q] w1 (by omega) (by simp) (by simp) rfl hc1).mono ?_
      rintro e w2 ⟨z, rfl, hz, hc2, hu2⟩
      have hb : -1 ≤ z ∧ z ≤ 10009 := by simp at hz; omega
      have hu := hu1.trans hu2
      clear hz hc hc1 hu1 hu2
      go_wp2
      go_ret
      exact ⟨z, rfl, hb.1, hb.2, hc2.mono (by omega), hu⟩
theorem drawInverse (A : Option Addr) (n c : Nat) (cs : List UInt8) (w : World) (hn : n ≤ maxLen) (hx : Rd w w.heap.size 1 A n (Cur.bytes cs)) :
    Calls Try.prog 8 #[.slice A n c] w fun e w' => ∃ a q : Int, e = .returned (.tuple #[.int .i64 a, .int .i64 q]) ∧ -1 ≤ a ∧ a ≤ 10009 ∧ 0 ≤ q ∧ q ≤ 10009 ∧ Below w.heap.size w w' := by
  go_enter Try.func8, Try.ntmps8
  go_wp2_with fail
  refine (prime w.heap.size w.heap.size 0 _ (by omega) (boxed_cur A n c cs w hn hx)).mono ?_
  rintro e w1 ⟨q, rfl, q0, q1, hc1, hu1⟩
  go_wp2_with fail
  refine (below w.heap.size w.heap.size _ q w1 (by omega) q0 q1 hc1).mono ?_
  rintro e w2 ⟨a, rfl, a0, a1, hc2, hu2⟩
  have hb := box_bel (hu1.trans hu2)
  clear hc1 hu1 hc2 hu2 hx
  go_wp2
  go_ret2
  exact ⟨a, q, rfl, a0, a1, q0, q1, hb⟩
set_option maxHeartbeats 1000000 in
theorem numberOf (A : Option Addr) (n c : Nat) (cs : List UInt8) (B : Nat) (w : World) (hn : n ≤ maxLen) (hx : Rd w B 1 A n (Cur.bytes cs)) :
    Calls Try.prog 7 #[.slice A n c] w fun e w' => ∃ z : Int, e = .returned (.int .i64 z) ∧ 0 ≤ z ∧ z < 1000003 ∧ w' = w := by
  unfold maxLen at hn
  have HX := Lib.hid hx
  clear hx
  go_enter Try.func7, Try.ntmps7
  go_wp2
  go_loop [3, 8] (fun v i => ∃ (k : Nat) (z : Int), k ≤ n ∧ i = .int .i64 k ∧ v = .int .i64 z ∧ 0 ≤ z ∧ z < 1000003) (fun _ i => n - (intOf i).toNat)
  case atStart => exact ⟨0, 0, by omega, rfl, rfl, by omega, by omega⟩
  case round =>
    obtain ⟨k, z, hk, rfl, rfl, z0, z1⟩ := hrel
    by_cases hlt : k < n
    · obtain ⟨b, off, hl, rfl, _, hc⟩ := rd_byte HX.out hlt
      have h255 := (cs[k]).toNat_lt
      have i0 : (0 : Int) ≤ (k : Int) := by omega
      have i1 : (k : Int) < (n : Int) := by omega
      go_wp2
      go_round
      case rel => exact ⟨k + 1, _, by omega, by go_num, rfl, by omega, by omega⟩
      case measure => simp [intOf]; omega
    · go_wp2
      go_ret
      exact ⟨z, rfl, z0, z1, rfl⟩
end Go.Proofs.Ytbljmgmpmmajeab.DrawM
