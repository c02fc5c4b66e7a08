/-
  The drawing functions of chapter 1: each returns, with a text or numbers in a known range, and changes nothing that was in memory.
-/
import Derived.Test.YtfoclgijhkibeabDoorCur
import Derived.Test.YtfoclgijhkibeabDoorPad
import Derived.Laws.Closers25b
namespace Go.Proofs.YtfoclgijhkibeabDoor.Draw1
open Go.ChangeShapes Go.WideShapes Go.ChangeAt Go.RowKit
open Go.Proofs.YtfoclgijhkibeabDoor.Mem Go.Proofs.YtfoclgijhkibeabDoor.Ints Go.Proofs.YtfoclgijhkibeabDoor.Cur
set_option linter.unusedVariables false
set_option maxRecDepth 100000

theorem own_upd {w w1 : World} {p base e size n : Nat} {v : Value} {xs : List Value} (h : w.ownsRow base e size v n xs) (hu : Upd p w w1) (hp : p < base) : w1.ownsRow base e size v n xs := by
  refine ⟨h.1, ?_⟩
  rcases h.2 with h0 | ⟨g, cap, cur, h1, h2, h3, h4⟩
  · exact .inl h0
  · have hlt : g < w.heap.size := by
      rcases Nat.lt_or_ge g w.heap.size with q | q
      · exact q
      · rw [Array.getElem?_eq_none q] at h3; cases h3
    exact .inr ⟨g, cap, cur, h1, h2, (hu.block g hlt (by omega)).trans h3, h4⟩
theorem upd_grown {p : Nat} {a w w' : World} {row : Option Nat} (h : Upd p a w) (hg : w.grownBy w' row) (hr : ∀ k, row = some k → a.heap.size ≤ k) : Upd p a w' :=
  ⟨hg.os.trans h.os, hg.tape.trans h.tape, hg.output.trans h.output, Nat.le_trans h.size hg.size, fun k hk hp => (hg.block k (Nat.lt_of_lt_of_le hk h.size) (fun e => by have := hr k e.symm; omega)).trans (h.block k hk hp)⟩
theorem upd_alloc {p : Nat} {a w : World} (h : Upd p a w) (o : Obj) : Upd p a (w.alloc o) :=
  h.trans (Upd.of_below ((Below.refl _ w).alloc (Nat.le_refl _) o) (Nat.le_refl _))
theorem upd_set {p : Nat} {a w : World} (h : Upd p a w) {b i : Nat} (hb : a.heap.size ≤ b) (u : Value) : Upd p a (w.setCell ⟨b, i, none⟩ u) :=
  ⟨h.os, h.tape, h.output, by simpa [World.setCell] using h.size, fun k hk hp => (Below.heap_setCell w ⟨b, i, none⟩ u k (by dsimp only; omega)).trans (h.block k hk hp)⟩
theorem cur_grown {w w' : World} {p B K : Nat} {row : Option Nat} (h : Cur w p B K) (hg : w.grownBy w' row) (hr : ∀ k, row = some k → p < k) : Cur w' p B K :=
  h.below (B' := p + 1) ⟨hg.os, hg.tape, hg.output, hg.size, fun k hk => hg.block k (by have := h.lt; omega) (fun e => by have := hr k e.symm; omega)⟩ (by omega)
theorem cur_alloc {w : World} {p B K : Nat} (h : Cur w p B K) (o : Obj) : Cur (w.alloc o) p B K := h.below ((Below.refl _ w).alloc (Nat.le_refl _) o) h.lt
theorem cur_set {w : World} {p B K b i : Nat} (h : Cur w p B K) (hb : p < b) (u : Value) : Cur (w.setCell ⟨b, i, none⟩ u) p B K :=
  h.below (B' := p + 1) ((Below.refl _ w).setCell (by dsimp only; omega) u) (by omega)

set_option maxHeartbeats 2000000 in
theorem text (p B K : Nat) (w : World) (hK : K ≤ 900000) (hc : Cur w p B K) :
    Calls Tryd.prog 78 #[.pointer (some ⟨p, 0, none⟩)] w fun e w' => ∃ t : ByteArray, e = .returned (.string t) ∧ t.size ≤ 601 ∧ Cur w' p B (K + 100) ∧ Upd p w w' := by
  have hpw := hc.lt
  obtain ⟨i0, hi, hz0, hz1, hz2⟩ := info_parts Pad.infoB
  go_enter Tryd.func78, Tryd.ntmps78
  go_wp2_with fail
  refine (one p B K 12 w (by omega) (by omega) hc).mono ?_
  rintro e w1 ⟨b, rfl, hc1, hu1⟩
  have z1 := hu1.size
  cases b
  · go_wp2_with fail
    refine (pick p B (K + 2) 20 w1 (by omega) (by omega) hc1).mono ?_
    rintro e w2 ⟨x, rfl, x0, x1, hc2, hu2⟩
    have hu12 := hu1.trans hu2
    clear hu1 hu2 hc1
    obtain ⟨n, rfl⟩ := Int.eq_ofNat_of_zero_le x0
    have hn : n < 20 := by omega
    have z2 := hu12.size
    clear x0 x1 z1
    go_wp2_with (at_make; refine wpList_make_full _ rfl _ _ 22 rfl w2.heap.size 5 i0 _ 1 Tryd.underlying22 hi hz0 hz1 .i64 .i64 _ _ n rfl rfl (by omega) (by omega) (by rw [hz2]; omega) (by unfold maxLen; omega) (by simp) ?_; intro w3 hown3 hgrow3)
    rw [Pad.made_zero] at hown3
    have hc3 := cur_grown hc2 hgrow3 (fun k hk => by cases hk)
    have hu3 := upd_grown hu12 hgrow3 (fun k hk => by cases hk)
    clear hgrow3 hc2 hu12
    go_loopw [17] (fun i wr => ∃ (k : Nat) (l : List UInt8), k ≤ n ∧ i = .int .i64 k ∧ l.length = n ∧ wr.ownsRow w2.heap.size 5 1 (.slice (some ⟨w2.heap.size, 0, none⟩) n n) n (l.map byteV) ∧ Cur wr p B (K + 4 + 2 * k) ∧ Upd p w wr)
      (fun i _ => n - (intOf i).toNat)
    case atStart => exact ⟨0, List.replicate n 0, by omega, rfl, by simp, hown3, hc3, hu3⟩
    case round =>
      obtain ⟨k, l, hk, rfl, hl, hown, hcr, hur⟩ := hrel
      clear hown3 hc3 hu3
      have HL := Lib.hid hl
      have HO := Lib.hid hown
      clear hl hown
      by_cases hlt : k < n
      · go_wp2_with fail
        refine (pick p B (K + 4 + 2 * k) 256 wr (by omega) (by omega) hcr).mono ?_
        rintro e w4 ⟨x, rfl, x0, x1, hc4, hu4⟩
        have x2 : x ≤ 255 := by omega
        clear x1
        have ho4 := own_upd HO.out hu4 (by omega)
        obtain ⟨uo, hcell⟩ := own_cell ho4 hlt
        have hfz := ho4.frozenAt k
        have R := ho4.stored k (byteV (UInt8.ofNat x.toNat))
        rw [← Pad.map_set_byte] at R
        have hv : byteV (UInt8.ofNat x.toNat) = .int .u8 x := by
          unfold byteV; rw [UInt8.toNat_ofNat']; congr 1; omega
        rw [hv] at R
        have HR := Lib.hid R
        have i1 : (k : Int) < (n : Int) := by omega
        clear R hv ho4 HO hcr
        go_wp2
        go_roundw
        case rel => exact ⟨k + 1, l.set k (UInt8.ofNat x.toNat), by omega, by go_num, by rw [List.length_set]; exact HL.out, HR.out.1, (cur_set hc4 (by omega) _).mono (by omega), upd_set (hur.trans hu4) (by omega) _⟩
        case measure => simp [intOf]; omega
      · have hconv := run_own_string (P := Tryd.prog) wr 22 9 5 _ _ _ _ Tryd.underlying22 Tryd.underlying5 Tryd.underlying9 HO.out
        clear HO
        go_wp2
        go_ret
        have hll := HL.out
        exact ⟨_, rfl, by simp [ByteArray.size, hll]; omega, hcr.mono (by omega), hur⟩
  · go_wp2_with fail
    have hR := lit_rd w1 #[.int .i64 55, .int .i64 56, .int .i64 63, .int .i64 64, .int .i64 65, .int .i64 119, .int .i64 600, .int .i64 601] 3 [55, 56, 63, 64, 65, 119, 600, 601] rfl
    refine (among p B (K + 2) (some ⟨w1.heap.size, 0, none⟩) 8 8 [55, 56, 63, 64, 65, 119, 600, 601] (w1.heap.size + 1) _ (by omega) (by omega) (by omega) hR (by rintro b ⟨rfl⟩; dsimp only; omega) (by simp) (cur_alloc hc1 _)).mono ?_
    rintro e w3 ⟨z, rfl, hz, hc3, hu3⟩
    have hu := (upd_alloc hu1 _).trans hu3
    have hz601 : 0 ≤ z ∧ z ≤ 601 := by simp at hz; omega
    clear hz hR hu3 hc1 hu1
    obtain ⟨n, rfl⟩ := Int.eq_ofNat_of_zero_le hz601.1
    have hn : n ≤ 601 := by omega
    clear hz601
    go_wp2_with (at_make; refine wpList_make_full _ rfl _ _ 22 rfl w3.heap.size 5 i0 _ 1 Tryd.underlying22 hi hz0 hz1 .i64 .i64 _ _ n rfl rfl (by omega) (by omega) (by rw [hz2]; omega) (by unfold maxLen; omega) (by simp) ?_; intro w4 hown4 hgrow4; rw [Pad.made_zero] at hown4; have hconv := run_own_string (P := Tryd.prog) w4 22 9 5 _ _ _ _ Tryd.underlying22 Tryd.underlying5 Tryd.underlying9 hown4; clear hown4)
    have hc4 := cur_grown hc3 hgrow4 (fun k hk => by cases hk)
    have hu4 := upd_grown hu hgrow4 (fun k hk => by cases hk)
    clear hgrow4 hc3 hu hconv
    go_wp2
    go_ret
    exact ⟨_, rfl, by simp [ByteArray.size]; omega, hc4.mono (by omega), hu4⟩
theorem boxed_cur (A : Option Addr) (n c : Nat) (cs : List UInt8) (w : World) (hn : n ≤ maxLen) (hx : Rd w w.heap.size 1 A n (Cur.bytes cs)) :
    Cur (w.alloc (.cells #[.slice A n c, .int .i64 0, .int .u64 0] 73)) w.heap.size w.heap.size 0 :=
  ⟨A, n, c, 0, 0, cs, heap_alloc_new w _, hn, hx.below ((Below.refl _ w).alloc (Nat.le_refl _) _) (Nat.le_refl _), Nat.le_refl _, by omega, by omega, by omega⟩
theorem drawPadText (A : Option Addr) (n c : Nat) (cs : List UInt8) (w : World) (hn : n ≤ maxLen) (hx : Rd w w.heap.size 1 A n (Cur.bytes cs)) :
    Calls Tryd.prog 89 #[.slice A n c] w fun e w' => ∃ t : ByteArray, e = .returned (.string t) ∧ t.size ≤ 601 ∧ Below w.heap.size w w' := by
  go_enter Tryd.func89, Tryd.ntmps89
  go_wp2_with fail
  refine (text w.heap.size w.heap.size 0 _ (by omega) (boxed_cur A n c cs w hn hx)).mono ?_
  rintro e w1 ⟨t, rfl, ht, hc1, hu1⟩
  have hb : Below w.heap.size w w1 := ((Below.refl _ w).alloc (Nat.le_refl _) _).trans (hu1.below (Nat.le_refl _) (by simp))
  go_wp2
  go_ret
  exact ⟨t, rfl, ht, hb⟩
end Go.Proofs.YtfoclgijhkibeabDoor.Draw1
