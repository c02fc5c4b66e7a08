/-
  The drawing functions of chapter 1: each returns, with a text or numbers in a known range, and changes nothing that was in memory.
-/
import Derived.Test.YtdpiinecjjeklabCur
import Derived.Test.YtdpiinecjjeklabPad
import Derived.Laws.Closers25b
namespace Go.Proofs.Ytdpiinecjjeklab.Draw1
open Go.ChangeShapes Go.WideShapes Go.ChangeAt Go.RowKit
open Go.Proofs.Ytdpiinecjjeklab.Mem Go.Proofs.Ytdpiinecjjeklab.Ints Go.Proofs.Ytdpiinecjjeklab.Cur
set_option linter.unusedVariables false

theorem own_upd {w w1 : World} {p base e size n : Nat} {v : Value} {xs : List Value} (h : w.ownsRow base e size v n xs) (hu : Upd p w w1) (hp : p < base) : w1.ownsRow base e size v n xs := by
  refine ⟨h.1, ?_⟩
  rcases h.2 with h0 | ⟨g, cap, cur, h1, h2, h3, h4⟩
  · exact .inl h0
  · have hlt : g < w.heap.size := by
      rcases Nat.lt_or_ge g w.heap.size with q | q
      · exact q
      · rw [Array.getElem?_eq_none q] at h3; cases h3
    exact .inr ⟨g, cap, cur, h1, h2, (hu.block g hlt (by omega)).trans h3, h4⟩
theorem upd_grown {p : Nat} {a w w' : World} {row : Option Nat} (h : Upd p a w) (hg : w.grownBy w' row) (hr : ∀ k, row = some k → a.heap.size ≤ k) : Upd p a w' :=
  ⟨hg.os.trans h.os, hg.tape.trans h.tape, hg.output.trans h.output, Nat.le_trans h.size hg.size, fun k hk hp => (hg.block k (Nat.lt_of_lt_of_le hk h.size) (fun e => by have := hr k e.symm; omega)).trans (h.block k hk hp)⟩
theorem upd_alloc {p : Nat} {a w : World} (h : Upd p a w) (o : Obj) : Upd p a (w.alloc o) :=
  h.trans (Upd.of_below ((Below.refl _ w).alloc (Nat.le_refl _) o) (Nat.le_refl _))
theorem upd_set {p : Nat} {a w : World} (h : Upd p a w) {b i : Nat} (hb : a.heap.size ≤ b) (u : Value) : Upd p a (w.setCell ⟨b, i, none⟩ u) :=
  ⟨h.os, h.tape, h.output, by simpa [World.setCell] using h.size, fun k hk hp => (Below.heap_setCell w ⟨b, i, none⟩ u k (by dsimp only; omega)).trans (h.block k hk hp)⟩
theorem cur_grown {w w' : World} {p B K : Nat} {row : Option Nat} (h : Cur w p B K) (hg : w.grownBy w' row) (hr : ∀ k, row = some k → p < k) : Cur w' p B K :=
  h.below (B' := p + 1) ⟨hg.os, hg.tape, hg.output, hg.size, fun k hk => hg.block k (by have := h.lt; omega) (fun e => by have := hr k e.symm; omega)⟩ (by omega)
theorem cur_alloc {w : World} {p B K : Nat} (h : Cur w p B K) (o : Obj) : Cur (w.alloc o) p B K := h.below ((Below.refl _ w).alloc (Nat.le_refl _) o) h.lt
theorem cur_set {w : World} {p B K b i : Nat} (h : Cur w p B K) (hb : p < b) (u : Value) : Cur (w.setCell ⟨b, i, none⟩ u) p B K :=
  h.below (B' := p + 1) ((Below.refl _ w).setCell (by dsimp only; omega) u) (by omega)

set_option maxHeartbeats 2000000 in
theorem text (p B K : Nat) (w : World) (hK : K ≤ 900000) (hc : Cur w p B K) :
    Calls Try.prog 13 #[.pointer (some ⟨p, 0, none⟩)] w fun e w' => ∃ t : ByteArray, e = .returned (.string t) ∧ t.size ≤ 601 ∧ Cur w' p B (K + 100) ∧ Upd p w w' := by
  have hpw := hc.lt
  obtain ⟨i0, hi, hz0, hz1, hz2⟩ := info_parts Pad.infoB
  go_enter Try.func13, Try.ntmps13
  go_wp2_with fail
  refine (one p B K 12 w (by omega) (by omega) hc).mono ?_
  rintro e w1 ⟨b, rfl, hc1, hu1⟩
  have z1 := hu1.size
  cases b
  · go_wp2_with fail
    refine (pick p B (K + 2) 20 w1 (by omega) (by omega) hc1).mono ?_
    rintro e w2 ⟨x, rfl, x0, x1, hc2, hu2⟩
    have hu12 := hu1.trans hu2
    clear hu1 hu2 hc1
    obtain ⟨n, rfl⟩ := Int.eq_ofNat_of_zero_le x0
    have hn : n < 20 := by omega
    have z2 := hu12.size
    clear x0 x1 z1
    go_wp2_with (at_make; refine wpList_make_full _ rfl _ _ 22 rfl w2.heap.size 5 i0 _ 1 Try.underlying22 hi hz0 hz1 .i64 .i64 _ _ n rfl rfl (by omega) (by omega) (by rw [hz2]; omega) (by unfold maxLen; omega) (by simp) ?_; intro w3 hown3 hgrow3)
    rw [Pad.made_zero] at hown3
    have hc3 := cur_grown hc2 hgrow3 (fun k hk => by cases hk)
    have hu3 := upd_grown hu12 hgrow3 (fun k hk => by cases hk)
    clear hgrow3 hc2 hu12
    go_loopw [17] (fun i wr => ∃ (k : Nat) (l : List UInt8), k ≤ n ∧ i = .int .i64 k ∧ l.length = n ∧ wr.ownsRow w2.heap.size 5 1 (.slice (some ⟨w2.heap.size, 0, none⟩) n n) n (l.map byteV) ∧ Cur wr p B (K + 4 + 2 * k) ∧ Upd p w wr)
      (fun i _ => n - (intOf i).toNat)
    case atStart => exact ⟨0, List.replicate n 0, by omega, rfl, by simp, hown3, hc3, hu3⟩
    case round =>
      obtain ⟨k, l, hk, rfl, hl, hown, hcr, hur⟩ := hrel
      clear hown3 hc3 hu3
      have HL := Lib.hid hl
      have HO := Lib.hid hown
      clear hl hown
      by_cases hlt : k < n
      · go_wp2_with fail
        refine (pick p B (K + 4 + 2 * k) 256 wr (by omega) (by omega) hcr).mono ?_
        rintro e w4 ⟨x, rfl, x0, x1, hc4, hu4⟩
        have x2 : x ≤ 255 := by omega
        clear x1
        have ho4 := own_upd HO.out hu4 (by omega)
        obtain ⟨uo, hcell⟩ := own_cell ho4 hlt
        have hfz := ho4.frozenAt k
        have R := ho4.stored k (byteV (UInt8.ofNat x.toNat))
        rw [← Pad.map_set_byte] at R
        have hv : byteV (UInt8.ofNat x.toNat) = .int .u8 x := by
          unfold byteV; rw [UInt8.toNat_ofNat']; congr 1; omega
        rw [hv] at R
        have HR := Lib.hid R
        have i1 : (k : Int) < (n : Int) := by omega
        clear R hv ho4 HO hcr
        go_wp2
        go_roundw
        case rel => exact ⟨k + 1, l.set k (UInt8.ofNat x.toNat), by omega, by go_num, by rw [List.length_set]; exact HL.out, HR.out.1, (cur_set hc4 (by omega) _).mono (by omega), upd_set (hur.trans hu4) (by omega) _⟩
        case measure => simp [intOf]; omega
      · have hconv := run_own_string (P := Try.prog) wr 22 9 5 _ _ _ _ Try.underlying22 Try.underlying5 Try.underlying9 HO.out
        clear HO
        go_wp2
        go_ret
        have hll := HL.out
        exact ⟨_, rfl, by simp [ByteArray.size, hll]; omega, hcr.mono (by omega), hur⟩
  · go_wp2_with fail
    have hR := lit_rd w1 #[.int .i64 55, .int .i64 56, .int .i64 63, .int .i64 64, .int .i64 65, .int .i64 119, .int .i64 600, .int .i64 601] 3 [55, 56, 63, 64, 65, 119, 600, 601] rfl
    refine (among p B (K + 2) (some ⟨w1.heap.size, 0, none⟩) 8 8 [55, 56, 63, 64, 65, 119, 600, 601] (w1.heap.size + 1) _ (by omega) (by omega) (by omega) hR (by rintro b ⟨rfl⟩; dsimp only; omega) (by simp) (cur_alloc hc1 _)).mono ?_
    rintro e w3 ⟨z, rfl, hz, hc3, hu3⟩
    have hu := (upd_alloc hu1 _).trans hu3
    have hz601 : 0 ≤ z ∧ z ≤ 601 := by simp at hz; omega
    clear hz hR hu3 hc1 hu1
    obtain ⟨n, rfl⟩ := Int.eq_ofNat_of_zero_le hz601.1
    have hn : n ≤ 601 := by omega
    clear hz601
    go_wp2_with (at_make; refine wpList_make_full _ rfl _ _ 22 rfl w3.heap.size 5 i0 _ 1 Try.underlying22 hi hz0 hz1 .i64 .i64 _ _ n rfl rfl (by omega) (by omega) (by rw [hz2]; omega) (by unfold maxLen; omega) (by simp) ?_; intro w4 hown4 hgrow4; rw [Pad.made_zero] at hown4; have hconv := run_own_string (P := Try.prog) w4 22 9 5 _ _ _ _ Try.underlying22 Try.underlying5 Try.underlying9 hown4; clear hown4)
    have hc4 := cur_grown hc3 hgrow4 (fun k hk => by cases hk)
    have hu4 := upd_grown hu hgrow4 (fun k hk => by cases hk)
    clear hgrow4 hc3 hu hconv
    go_wp2
    go_ret
    exact ⟨_, rfl, by simp [ByteArray.size]; omega, hc4.mono (by omega), hu4⟩
theorem boxed_cur (A : Option Addr) (n c : Nat) (cs : List UInt8) (w : World) (hn : n ≤ maxLen) (hx : Rd w w.heap.size 1 A n (Cur.bytes cs)) :
    Cur (w.alloc (.cells #[.slice A n c, .int .i64 0, .int .u64 0] 34)) w.heap.size w.heap.size 0 :=
  ⟨A, n, c, 0, 0, cs, heap_alloc_new w _, hn, hx.below ((Below.refl _ w).alloc (Nat.le_refl _) _) (Nat.le_refl _), Nat.le_refl _, by omega, by omega, by omega⟩
theorem drawPadText (A : Option Addr) (n c : Nat) (cs : List UInt8) (w : World) (hn : n ≤ maxLen) (hx : Rd w w.heap.size 1 A n (Cur.bytes cs)) :
    Calls Try.prog 4 #[.slice A n c] w fun e w' => ∃ t : ByteArray, e = .returned (.string t) ∧ t.size ≤ 601 ∧ Below w.heap.size w w' := by
  go_enter Try.func4, Try.ntmps4
  go_wp2_with fail
  refine (text w.heap.size w.heap.size 0 _ (by omega) (boxed_cur A n c cs w hn hx)).mono ?_
  rintro e w1 ⟨t, rfl, ht, hc1, hu1⟩
  have hb : Below w.heap.size w w1 := ((Below.refl _ w).alloc (Nat.le_refl _) _).trans (hu1.below (Nat.le_refl _) (by simp))
  go_wp2
  go_ret
  exact ⟨t, rfl, ht, hb⟩
set_option maxHeartbeats 1000000 in
theorem drawTurnWord (A : Option Addr) (n c : Nat) (cs : List UInt8) (w : World) (hn : n ≤ maxLen) (hx : Rd w w.heap.size 1 A n (Cur.bytes cs)) :
    Calls Try.prog 10 #[.slice A n c] w fun e w' => ∃ a b : Int, e = .returned (.tuple #[.int .i64 a, .int .i64 b]) ∧ Below w.heap.size w w' := by
  have hc0 := boxed_cur A n c cs w hn hx
  go_enter Try.func10, Try.ntmps10
  go_wp2_with fail
  refine (among w.heap.size w.heap.size 0 _ 7 7 [-1, 0, 1, 77, 2147483653, 4294967295, 4294967296] (w.heap.size + 1 + 1) _ (by omega) (by omega) (by omega) (by have h := lit_rd (w.alloc (.cells #[.slice A n c, .int .i64 0, .int .u64 0] 34)) #[.int .i64 (-1), .int .i64 0, .int .i64 1, .int .i64 77, .int .i64 2147483653, .int .i64 4294967295, .int .i64 4294967296] 3 [-1, 0, 1, 77, 2147483653, 4294967295, 4294967296] rfl; simpa using h) (by rintro b ⟨rfl⟩; dsimp only; omega) (by simp) (cur_alloc hc0 _)).mono ?_
  rintro e w1 ⟨a, rfl, _, hc1, hu1⟩
  have z1 := hu1.size
  simp only [World.size_alloc] at z1
  have hb1 : Below w.heap.size w w1 := (((Below.refl _ w).alloc (Nat.le_refl _) _).alloc (by simp) _).trans (hu1.below (Nat.le_refl _) (by simp; omega))
  clear hu1 hc0 hx
  go_wp2_with fail
  refine (among w.heap.size w.heap.size 2 _ 6 6 [-1, 0, 1, 7, 31, 32] (w1.heap.size + 1) _ (by omega) (by omega) (by omega) (lit_rd w1 _ 3 [-1, 0, 1, 7, 31, 32] rfl) (by rintro b ⟨rfl⟩; dsimp only; omega) (by simp) (cur_alloc hc1 _)).mono ?_
  rintro e w2 ⟨b, rfl, _, hc2, hu2⟩
  have hb2 : Below w.heap.size w w2 := (hb1.alloc hb1.size _).trans (hu2.below (Nat.le_refl _) (by have := hb1.size; simp; omega))
  clear hu2 hc1 hc2 hb1
  go_wp2
  go_ret2
  exact ⟨a, b, rfl, hb2⟩
/-- '[]byte(s)' as a block known whole. -/
theorem bytes_row {P : Program} (w : World) (src dst e : Nat) (s : ByteArray) (hs : P.underlying src = some .string) (hd : P.underlying dst = some (.slice e)) (he : P.underlying e = some (.int .u8)) :
    ∃ cap cur W, (convert src dst (.string s)).run P w = .ok (.slice (some ⟨w.heap.size, 0, none⟩) s.size cap) W ∧ W.heap[w.heap.size]? = some (.cells cur e (cur.size, cur.size + 1)) ∧ (∀ j, j < s.size → ∃ c : UInt8, cur[j]? = some (byteV c)) ∧ Below w.heap.size w W := by
  refine ⟨_, bytesRow s _, _, run_bytes_of_string w src dst e s hs hd he, heap_alloc_new w.drew _, fun j hj => ⟨s[j], bytesRow_at s _ j hj⟩, (Below.refl _ _).drew.alloc (by simp) _⟩
theorem bits_byte (o : BinOp) (a b : Int) : ∃ d : UInt8, bits o .u8 a b = (d.toNat : Int) := by
  have h0 := bits_lo_u8 o a b
  have h1 := bits_hi_u8 o a b
  exact ⟨UInt8.ofNat (bits o .u8 a b).toNat, by rw [UInt8.toNat_ofNat']; omega⟩
/-- Block g is a row of bytes, at least n of them. -/
def BRow (w : World) (g e n : Nat) : Prop := ∃ cur : Array Value, w.heap[g]? = some (.cells cur e (cur.size, cur.size + 1)) ∧ ∀ j, j < n → ∃ c : UInt8, cur[j]? = some (byteV c)
theorem BRow.lt {w : World} {g e n : Nat} (h : BRow w g e n) : g < w.heap.size := by
  obtain ⟨cur, hh, _⟩ := h
  rcases Nat.lt_or_ge g w.heap.size with q | q
  · exact q
  · rw [Array.getElem?_eq_none q] at hh; cases hh
theorem BRow.upd {w w' : World} {g e n p : Nat} (h : BRow w g e n) (hu : Upd p w w') (hp : g ≠ p) : BRow w' g e n := by
  have hl := h.lt
  obtain ⟨cur, hh, hc⟩ := h
  exact ⟨cur, (hu.block g hl hp).trans hh, hc⟩
theorem BRow.cell {w : World} {g e n : Nat} (h : BRow w g e n) {j : Nat} (hj : j < n) : ∃ c : UInt8, w.cell? ⟨g, j, none⟩ = some (.int .u8 (c.toNat : Int)) ∧ w.frozen? ⟨g, j, none⟩ = false := by
  obtain ⟨cur, hh, hc⟩ := h
  obtain ⟨c, hcj⟩ := hc j hj
  have hlt : j < cur.size := by
    rcases Nat.lt_or_ge j cur.size with q | q
    · exact q
    · rw [Array.getElem?_eq_none q] at hcj; cases hcj
  refine ⟨c, by rw [cell_of_row w g j cur e _ hh, hcj]; rfl, ?_⟩
  simp [World.frozen?, hh]; omega
theorem BRow.set_ {w : World} {g e n : Nat} (h : BRow w g e n) (i : Nat) (c : UInt8) : BRow (w.setCell ⟨g, i, none⟩ (byteV c)) g e n := by
  obtain ⟨cur, hh, hc⟩ := h
  refine ⟨cur.setIfInBounds i (byteV c), by simp [World.setCell, Array.getElem?_modify, hh], fun j hj => ?_⟩
  obtain ⟨d, hd⟩ := hc j hj
  by_cases hij : i = j
  · subst hij
    have hlt : i < cur.size := by
      rcases Nat.lt_or_ge i cur.size with q | q
      · exact q
      · rw [Array.getElem?_eq_none q] at hd; cases hd
    exact ⟨c, by simp [hlt]⟩
  · exact ⟨d, by rw [Array.getElem?_setIfInBounds_ne hij]; exact hd⟩
theorem BRow.str {P : Program} {w : World} {g e n : Nat} (h : BRow w g e n) (src dst cap : Nat) (hs : P.underlying src = some (.slice e)) (he : P.underlying e = some (.int .u8)) (hd : P.underlying dst = some .string) :
    ∃ t : ByteArray, t.size = n ∧ (convert src dst (.slice (some ⟨g, 0, none⟩) n cap)).run P w = .ok (.string t) w := by
  obtain ⟨f, hf⟩ := Classical.axiomOfChoice (r := fun (j : Fin n) (c : UInt8) => w.cell? ⟨g, j.1, none⟩ = some (.int .u8 (c.toNat : Int))) (fun j => by obtain ⟨c, hc, _⟩ := h.cell j.2; exact ⟨c, hc⟩)
  have hl : (List.ofFn f).length = n := by simp
  refine ⟨⟨(List.ofFn f).toArray⟩, by simp [ByteArray.size], ?_⟩
  have hb := run_convert_bytes_back (P := P) w src dst e ⟨g, 0, none⟩ cap (List.ofFn f) hs he hd (fun j hj => by
    have hadd : (⟨g, 0, none⟩ : Addr).add j = ⟨g, j, none⟩ := by unfold Addr.add; split <;> simp_all
    rw [hadd, List.getElem_ofFn]
    exact hf ⟨j, by simpa using hj⟩)
  rw [hl] at hb
  exact hb
set_option maxHeartbeats 4000000 in
theorem drawUnpadText (A : Option Addr) (n c : Nat) (cs : List UInt8) (w : World) (hn : n ≤ maxLen) (hx : Rd w w.heap.size 1 A n (Cur.bytes cs)) :
    Calls Try.prog 8 #[.slice A n c] w fun e w' => ∃ t : ByteArray, e = .returned (.string t) ∧ t.size ≤ 673 ∧ Below w.heap.size w w' := by
  have hc0 := boxed_cur A n c cs w hn hx
  go_enter Try.func8, Try.ntmps8
  go_wp2_with fail
  refine (text w.heap.size w.heap.size 0 _ (by omega) hc0).mono ?_
  rintro e w1 ⟨t, rfl, ht, hc1, hu1⟩
  have hb1 : Below w.heap.size w w1 := ((Below.refl _ w).alloc (Nat.le_refl _) _).trans (hu1.below (Nat.le_refl _) (by simp))
  have z1 := hu1.size
  simp only [World.size_alloc] at z1
  clear hu1 hc0 hx
  by_cases h6 : t.size ≤ 600
  · have hz := Pad.zeros_lt t.size
    have hl := Pad.tailL_len t.size
    have hsz : (t ++ (⟨(Pad.tailL t.size).toArray⟩ : ByteArray)).size = t.size + (9 + Pad.zeros t.size) := by
      rw [ByteArray.size_append, mk_size (Pad.tailL t.size), hl]
    go_wp2_with fail
    refine (Pad.specPad t _ h6).mono ?_
    rintro e w2 ⟨rfl, hb2⟩
    have hc2 := hc1.below hb2 (by omega)
    have hB2 : Below w.heap.size w w2 := hb1.trans (hb2.mono hb1.size)
    have z2 := hb2.size
    have hs1 : 0 < (t ++ (⟨(Pad.tailL t.size).toArray⟩ : ByteArray)).size := by omega
    have hs2 : (t ++ (⟨(Pad.tailL t.size).toArray⟩ : ByteArray)).size ≤ 672 := by omega
    clear hc1 hb1 hb2 hsz hl hz
    generalize (t ++ (⟨(Pad.tailL t.size).toArray⟩ : ByteArray)) = s at *
    go_wp2_with fail
    refine (one w.heap.size w.heap.size 100 3 w2 (by omega) (by omega) hc2).mono ?_
    rintro e w3 ⟨b, rfl, hc3, hu3⟩
    have hB3 : Below w.heap.size w w3 := hB2.trans (hu3.below (Nat.le_refl _) (by omega))
    have z3 := hu3.size
    clear hc2 hB2 hu3
    cases b
    · go_wp2_with fail
      refine (one w.heap.size w.heap.size 102 12 w3 (by omega) (by omega) hc3).mono ?_
      rintro e w4 ⟨b, rfl, hc4, hu4⟩
      have hB4 : Below w.heap.size w w4 := hB3.trans (hu4.below (Nat.le_refl _) (by omega))
      clear hc3 hB3 hu4
      cases b
      · go_wp2
        go_ret
        exact ⟨_, rfl, by omega, hB4⟩
      · go_wp2
        go_ret
        exact ⟨_, rfl, by rw [size_snoc]; omega, hB4⟩
    · obtain ⟨cap, cur, W, hrun, hblk, hcur, hbW⟩ := bytes_row (P := Try.prog) w3 9 22 5 s Try.underlying9 Try.underlying22 Try.underlying5
      have hrow : BRow W w3.heap.size 5 s.size := ⟨cur, hblk, hcur⟩
      have hcW := hc3.below hbW (by omega)
      have hBW : Below w.heap.size w W := hB3.trans (hbW.mono (by omega))
      have zW := hbW.size
      have hgW := hrow.lt
      clear hblk hcur hbW hc3 hB3
      go_wp2_with fail
      clear hrun
      have hcD : Cur W.drew w.heap.size w.heap.size (100 + 2) := hcW.alike rfl
      have hrD : BRow W.drew w3.heap.size 5 s.size := hrow
      have hgne : w3.heap.size ≠ w.heap.size := by omega
      clear hcW
      go_region_with (first
        | (go_at_call_of 18 ((s.size : Int)); refine (pick w.heap.size w.heap.size (100 + 2) s.size _ (by omega) (by omega) (by exact hcD)).mono ?_; rintro e w5 ⟨x, rfl, x0, x1, hc5, hu5⟩; obtain ⟨k, rfl⟩ := Int.eq_ofNat_of_zero_le x0; have hks : (k : Int) < (s.size : Int) := (by omega); obtain ⟨c5, hcell5, hf5⟩ := (hrD.upd hu5 hgne).cell (j := k) (by omega); have z5 := hu5.size)
        | (go_at_call_of 18 ((8 : Int)); refine (pick w.heap.size w.heap.size (100 + 2 + 2) 8 _ (by omega) (by omega) hc5).mono ?_; rintro e w6 ⟨y, rfl, y0, y1, hc6, hu6⟩; have y2 : y ≤ 7 := (by omega); have hgl : w3.heap.size < w5.heap.size := (hrD.upd hu5 hgne).lt; have hcell6 := (World.cell?_of_block (a := ⟨w3.heap.size, k, none⟩) (hu6.block _ hgl hgne)).trans hcell5; have hf6 := (World.frozen?_of_block (a := ⟨w3.heap.size, k, none⟩) (hu6.block _ hgl hgne)).trans hf5))
      all_goals
        obtain ⟨d, hd⟩ := bits_byte .xor (c5.toNat : Int) (IntKind.u8.wrap (2 ^ min (IntKind.u64.wrap y).toNat 8))
        rw [hd]
        clear hd
        have hr6 := (hrD.upd hu5 hgne).upd hu6 hgne
        have hr7 := hr6.set_ k d
        have hz6 := hu6.size
        have hc7 := cur_set (b := w3.heap.size) (i := k) hc6 (by omega) (byteV d)
        have hB7 : Below w.heap.size w (w6.setCell ⟨w3.heap.size, k, none⟩ (byteV d)) := ((hBW.drew.trans (hu5.below (Nat.le_refl _) (by have := hBW.size; simp; omega))).trans (hu6.below (Nat.le_refl _) (by have := hBW.size; simp at z5; omega))).setCell (by dsimp only; omega) _
        have hz7 : w.heap.size < (w6.setCell ⟨w3.heap.size, k, none⟩ (byteV d)).heap.size := hc7.lt
        obtain ⟨t2, ht2, hconv⟩ := hr7.str (P := Try.prog) 22 9 cap Try.underlying22 Try.underlying5 Try.underlying9
        unfold byteV at hr7 hc7 hB7 hz7 hconv
        clear hr7 hr6 hc6 hu6 hc5 hu5 hcell5 hcell6 hf5 hf6 hrD hcD hBW hrow
        generalize w6.setCell ⟨w3.heap.size, k, none⟩ (.int .u8 (d.toNat : Int)) = w7 at *
        go_wp2_with fail
        clear hconv
        refine (one w.heap.size w.heap.size _ 12 w7 (by omega) (by omega) hc7).mono ?_
        rintro e w4 ⟨b, rfl, hc4, hu4⟩
        have hB4 : Below w.heap.size w w4 := hB7.trans (hu4.below (Nat.le_refl _) (by omega))
        clear hc7 hB7 hu4
        have ht3 : t2.size ≤ 672 := by omega
        clear ht2
        cases b
        · go_wp2
          go_ret
          exact ⟨_, rfl, by omega, hB4⟩
        · go_wp2
          go_ret
          exact ⟨_, rfl, by rw [size_snoc]; omega, hB4⟩
  · obtain h6 : t.size = 601 := by omega
    go_wp2_with fail
    refine (Pad.specLong t _ (by omega) (by unfold maxLen; omega)).mono ?_
    rintro e w2 ⟨rfl, rfl⟩
    clear h6
    go_wp2_with fail
    refine (one w.heap.size w.heap.size 100 12 w1 (by omega) (by omega) hc1).mono ?_
    rintro e w4 ⟨b, rfl, hc4, hu4⟩
    have hB4 : Below w.heap.size w w4 := hb1.trans (hu4.below (Nat.le_refl _) (by omega))
    clear hc1 hb1 hu4
    cases b
    · go_wp2
      go_ret
      exact ⟨_, rfl, by decide, hB4⟩
    · go_wp2
      go_ret
      exact ⟨_, rfl, by decide, hB4⟩
end Go.Proofs.Ytdpiinecjjeklab.Draw1
