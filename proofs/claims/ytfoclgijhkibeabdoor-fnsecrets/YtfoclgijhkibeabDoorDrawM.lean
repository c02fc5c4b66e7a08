/-
  What the laws of chapter 4 draw: each drawing function returns numbers of a known range, and changes nothing that was in memory.
-/
import Derived.Test.YtfoclgijhkibeabDoorCur
import Derived.Laws.Closers25b
import Derived.Laws.Cover4
namespace Go.Proofs.YtfoclgijhkibeabDoor.DrawM
open Go.ChangeShapes Go.WideShapes Go.ChangeAt Go.RowKit
open Go.Proofs.YtfoclgijhkibeabDoor.Mem Go.Proofs.YtfoclgijhkibeabDoor.Ints Go.Proofs.YtfoclgijhkibeabDoor.Cur
set_option linter.unusedVariables false
set_option maxRecDepth 100000

theorem upd_alloc {p : Nat} {a w : World} (h : Upd p a w) (o : Obj) : Upd p a (w.alloc o) :=
  h.trans (Upd.of_below ((Below.refl _ w).alloc (Nat.le_refl _) o) (Nat.le_refl _))
theorem cur_alloc {w : World} {p B K : Nat} (h : Cur w p B K) (o : Obj) : Cur (w.alloc o) p B K := h.below ((Below.refl _ w).alloc (Nat.le_refl _) o) h.lt
theorem boxed_cur (A : Option Addr) (n c : Nat) (cs : List UInt8) (w : World) (hn : n ≤ maxLen) (hx : Rd w w.heap.size 1 A n (Cur.bytes cs)) :
    Cur (w.alloc (.cells #[.slice A n c, .int .i64 0, .int .u64 0] 73)) w.heap.size w.heap.size 0 :=
  ⟨A, n, c, 0, 0, cs, heap_alloc_new w _, hn, hx.below ((Below.refl _ w).alloc (Nat.le_refl _) _) (Nat.le_refl _), Nat.le_refl _, by omega, by omega, by omega⟩
theorem box_bel {w w1 : World} {o : Obj} (h : Upd w.heap.size (w.alloc o) w1) : Below w.heap.size w w1 := ((Below.refl _ w).alloc (Nat.le_refl _) _).trans (h.below (Nat.le_refl _) (by simp))
/-- A choice among the numbers of a literal. -/
theorem amongLit (p B K : Nat) (cs : Array Value) (zs : List Int) (w : World) (hK : K ≤ 999990) (h0 : 0 < zs.length) (h1 : zs.length ≤ 1000) (hl : cs = (ints zs).toArray) (hc : Cur w p B K) :
    Calls Tryd.prog 85 #[.pointer (some ⟨p, 0, none⟩), .slice (some ⟨w.heap.size, 0, none⟩) zs.length zs.length] (w.alloc (.cells cs 3)) fun e w' => ∃ z : Int, e = .returned (.int .i64 z) ∧ z ∈ zs ∧ Cur w' p B (K + 2) ∧ Upd p w w' := by
  have hp := hc.lt
  subst hl
  have hR := lit_rd w (ints zs).toArray 3 zs rfl
  have hR2 : Rd (w.alloc (.cells (ints zs).toArray 3)) (w.heap.size + 1) 1 (some ⟨w.heap.size, 0, none⟩) zs.length (ints zs) := by simpa [ints] using hR
  refine (among p B K _ zs.length zs.length zs (w.heap.size + 1) _ hK h0 h1 hR2 (by rintro b ⟨rfl⟩; dsimp only; omega) (by simp) (cur_alloc hc _)).mono ?_
  rintro e w' ⟨z, rfl, hz, hc', hu'⟩
  exact ⟨z, rfl, hz, hc', (upd_alloc (Upd.refl p w) _).trans hu'⟩
set_option maxHeartbeats 1000000 in
theorem numberOf (A : Option Addr) (n c : Nat) (cs : List UInt8) (B : Nat) (w : World) (hn : n ≤ maxLen) (hx : Rd w B 1 A n (Cur.bytes cs)) :
    Calls Tryd.prog 33 #[.slice A n c] w fun e w' => ∃ z : Int, e = .returned (.int .i64 z) ∧ 0 ≤ z ∧ z < 1000003 ∧ w' = w := by
  unfold maxLen at hn
  have HX := Lib.hid hx
  clear hx
  go_enter Tryd.func33, Tryd.ntmps33
  go_wp2
  go_loop [3, 8] (fun v i => ∃ (k : Nat) (z : Int), k ≤ n ∧ i = .int .i64 k ∧ v = .int .i64 z ∧ 0 ≤ z ∧ z < 1000003) (fun _ i => n - (intOf i).toNat)
  case atStart => exact ⟨0, 0, by omega, rfl, rfl, by omega, by omega⟩
  case round =>
    obtain ⟨k, z, hk, rfl, rfl, z0, z1⟩ := hrel
    by_cases hlt : k < n
    · obtain ⟨b, off, hl, rfl, _, hc⟩ := rd_byte HX.out hlt
      have h255 := (cs[k]).toNat_lt
      have i0 : (0 : Int) ≤ (k : Int) := by omega
      have i1 : (k : Int) < (n : Int) := by omega
      go_wp2
      go_round
      case rel => exact ⟨k + 1, _, by omega, by go_num, rfl, by omega, by omega⟩
      case measure => simp [intOf]; omega
    · go_wp2
      go_ret
      exact ⟨z, rfl, z0, z1, rfl⟩
end Go.Proofs.YtfoclgijhkibeabDoor.DrawM
