/-
  The reader of choices that the drawing functions use: contracts of its methods. They say that a method returns, in which range its answer lies, and that of memory only the reader's own block is changed.
-/
import Derived.Test.YtfoclgijhkibeabDoorRows
import Derived.Test.YtfoclgijhkibeabDoorMem
import Derived.Test.YtfoclgijhkibeabDoorInts
namespace Go.Proofs.YtfoclgijhkibeabDoor.Cur
open Go.ChangeShapes Go.WideShapes Go.ChangeAt Go.RowKit
open Go.Proofs.YtfoclgijhkibeabDoor.Mem Go.Proofs.YtfoclgijhkibeabDoor.Ints
set_option linter.unusedVariables false
set_option maxRecDepth 100000

/-- Of what was there, only block p may have changed. -/
structure Upd (p : Nat) (w w' : World) : Prop where
  os : w'.os = w.os
  tape : w'.tape = w.tape
  output : w'.output = w.output
  size : w.heap.size ≤ w'.heap.size
  block : ∀ k, k < w.heap.size → k ≠ p → w'.heap[k]? = w.heap[k]?
theorem Upd.refl (p : Nat) (w : World) : Upd p w w := ⟨rfl, rfl, rfl, Nat.le_refl _, fun _ _ _ => rfl⟩
theorem Upd.trans {p : Nat} {a b c : World} (h : Upd p a b) (k : Upd p b c) : Upd p a c :=
  ⟨k.os.trans h.os, k.tape.trans h.tape, k.output.trans h.output, Nat.le_trans h.size k.size, fun i hi hp => (k.block i (Nat.lt_of_lt_of_le hi h.size) hp).trans (h.block i hi hp)⟩
theorem Upd.drewN {p : Nat} {a b : World} (h : Upd p a b) (n : Nat) : Upd p a (b.drewN n) := ⟨h.os, h.tape, h.output, h.size, h.block⟩
theorem Upd.setCell {p : Nat} {a b : World} (h : Upd p a b) (i : Nat) (u : Value) : Upd p a (b.setCell ⟨p, i, none⟩ u) :=
  h.trans ⟨rfl, rfl, rfl, by simp [World.setCell], fun k hk hp => Below.heap_setCell _ _ _ _ hp⟩
theorem Upd.below {p B : Nat} {w w' : World} (h : Upd p w w') (hp : B ≤ p) (hB : B ≤ w.heap.size) : Below B w w' := ⟨h.os, h.tape, h.output, h.size, fun k hk => h.block k (by omega) (by omega)⟩
theorem Upd.of_below {p B : Nat} {w w' : World} (h : Below B w w') (hB : w.heap.size ≤ B) : Upd p w w' := ⟨h.os, h.tape, h.output, h.size, fun k hk _ => h.block k (by omega)⟩

def bytes (cs : List UInt8) : List Value := cs.map byteV
/-- A cell that reads as a slice of bytes. -/
theorem bytes_open {H : Type} {enc : TypeId × Value → H} {P : Program} {w : World} {base : Nat} {spare : Nat → Bool} {held : Bool} {t e fuel : Nat} {v : Value} {y : DataW H × List MemPlace}
    (ht : P.underlying t = some (.slice e)) (he : P.underlying e = some (.int .u8)) (hc : P.cellsOf e = 1) (h : DataW.trod enc P w base spare held fuel t [v] = some y) :
    ∃ A n c cs, v = .slice A n c ∧ n ≤ maxLen ∧ Rd w w.heap.size 1 A n (bytes cs) := by
  rcases open_ints ht he hc h with ⟨hcs, _⟩ | ⟨a, len, cap, zs, hcs, _, hl, hm, hz, _, hcell, hwf⟩
  · simp at hcs
    exact ⟨none, 0, 0, [], hcs, Nat.zero_le _, by simp [bytes], fun hn => absurd hn (by omega)⟩
  · simp at hcs
    have hzl : len ≤ zs.length := by rw [hz]; split <;> omega
    refine ⟨some a, len, cap, (zs.take len).map (fun z => UInt8.ofNat z.toNat), hcs, by omega, by simp [bytes, hzl], fun hn => ?_⟩
    have h0 := hcell 0 (by omega)
    obtain ⟨b, off, spot⟩ := a
    have hspot : spot = none := by simpa [Addr.add] using World.cell?_spot h0
    subst hspot
    refine ⟨b, off, rfl, ?_, fun j u hu => ?_⟩
    · have := World.block_lt_of_cell? w _ h0
      simpa [Addr.add] using this
    · have hj : j < len := by
        have := (List.getElem?_eq_some_iff.1 hu).1
        simp [bytes] at this; omega
      have hcj := hcell j (by omega)
      have ha : (⟨b, off, none⟩ : Addr).add j = ⟨b, off + j, none⟩ := by unfold Addr.add; split <;> simp_all
      rw [ha] at hcj
      have hjz : j < zs.length := by omega
      have hw := bounds_u8 (hwf zs[j] (List.getElem_mem hjz))
      rw [hcj, ← hu]
      have e1 : zs.getD j 0 = zs[j] := by simp [hjz]
      simp only [bytes, List.getElem?_map, List.getElem?_take, hj, if_true, List.getElem?_eq_getElem hjz, Option.map_some, byteV, e1]
      rw [UInt8.toNat_ofNat']
      congr 2
      omega
/-- Block p is a reader: its bytes lie below block B; it has read at most K of them. -/
def Cur (w : World) (p B K : Nat) : Prop :=
  ∃ (A : Option Addr) (n c k : Nat) (sd : Int) (cs : List UInt8), w.heap[p]? = some (.cells #[.slice A n c, .int .i64 k, .int .u64 sd] 73 (0, 0)) ∧ n ≤ maxLen ∧ Rd w B 1 A n (bytes cs) ∧ B ≤ p ∧ k ≤ K ∧ 0 ≤ sd ∧ sd < 18446744073709551616
theorem Cur.lt {w : World} {p B K : Nat} (h : Cur w p B K) : p < w.heap.size := by
  obtain ⟨A, n, c, k, sd, cs, hh, _⟩ := h
  rcases Nat.lt_or_ge p w.heap.size with h1 | h1
  · exact h1
  · rw [Array.getElem?_eq_none h1] at hh; cases hh
theorem Cur.below {w w' : World} {p B K B' : Nat} (h : Cur w p B K) (hb : Below B' w w') (hp : p < B') : Cur w' p B K := by
  obtain ⟨A, n, c, k, sd, cs, hh, hn, hr, hB, hk, h0, h1⟩ := h
  exact ⟨A, n, c, k, sd, cs, (hb.block p hp).trans hh, hn, hr.below hb (by omega), hB, hk, h0, h1⟩
theorem Cur.alike {w w' : World} {p B K : Nat} (h : Cur w p B K) (e : w'.heap = w.heap) : Cur w' p B K := by
  obtain ⟨A, n, c, k, sd, cs, hh, hn, hr, hB, hk, h0, h1⟩ := h
  exact ⟨A, n, c, k, sd, cs, by rw [e]; exact hh, hn, hr.keep fun b o hb => by simp [World.cell?, e], hB, hk, h0, h1⟩
theorem Upd.alike {p : Nat} {w w1 w2 : World} (h : Upd p w w1) (e : w2.heap = w1.heap) (e1 : w2.os = w1.os) (e2 : w2.tape = w1.tape) (e3 : w2.output = w1.output) : Upd p w w2 :=
  ⟨e1.trans h.os, e2.trans h.tape, e3.trans h.output, by rw [e]; exact h.size, fun k hk hp => by rw [e]; exact h.block k hk hp⟩
theorem Cur.mono {w : World} {p B K K' : Nat} (h : Cur w p B K) (hK : K ≤ K') : Cur w p B K' := by
  obtain ⟨A, n, c, k, sd, cs, hh, hn, hr, hB, hk, h0, h1⟩ := h
  exact ⟨A, n, c, k, sd, cs, hh, hn, hr, hB, by omega, h0, h1⟩
theorem and255 (x : Int) (h0 : 0 ≤ x) (h1 : x < 18446744073709551616) : bits .and .u64 x 255 = x % 256 := by
  have h := bits_mask .u64 64 (by decide) (fun n h0 h1 => by rw [IntKind.wrap_u64]; omega) 8 (by decide) x h0 (by omega)
  have e : ((2 : Int) ^ 8 - 1) = 255 := by decide
  rw [e] at h
  simpa using h
theorem rd_byte {w : World} {B n k : Nat} {A : Option Addr} {cs : List UInt8} (h : Rd w B 1 A n (bytes cs)) (hk : k < n) : ∃ b off, ∃ hl : k < cs.length, A = some ⟨b, off, none⟩ ∧ b < B ∧ w.cell? ⟨b, off + k, none⟩ = some (.int .u8 (cs[k].toNat : Int)) := by
  obtain ⟨b, off, u, e, hb, hx, hc⟩ := h.at1 hk
  have hl : k < cs.length := by have := h.1; simp [bytes] at this; omega
  refine ⟨b, off, hl, e, hb, ?_⟩
  rw [hc, ← hx]
  simp [bytes, hl, byteV]

theorem heap_set {w : World} {p t : Nat} {cs : Array Value} (h : w.heap[p]? = some (.cells cs t (0, 0))) (i : Nat) (u : Value) : (w.setCell ⟨p, i, none⟩ u).heap[p]? = some (.cells (cs.setIfInBounds i u) t (0, 0)) := by
  simp [World.setCell, Array.getElem?_modify, h]
theorem wrap_bd (x : Int) : 0 ≤ IntKind.u64.wrap x ∧ IntKind.u64.wrap x < 18446744073709551616 := by rw [IntKind.wrap_u64]; omega
/-- The reader behind one step. -/
theorem cur_step {w : World} {p B K n c k : Nat} {A : Option Addr} {sd sd2 : Int} {cs : List UInt8} (q : Nat) (hh : w.heap[p]? = some (.cells #[.slice A n c, .int .i64 k, .int .u64 sd] 73 (0, 0))) (hn : n ≤ maxLen)
    (hr : Rd w B 1 A n (bytes cs)) (hB : B ≤ p) (hk : k ≤ K) (h0 : 0 ≤ sd2) (h1 : sd2 < 18446744073709551616) :
    Cur (((w.drewN q).setCell ⟨p, 1, none⟩ (.int .i64 ((k : Int) + 1))).setCell ⟨p, 2, none⟩ (.int .u64 sd2)) p B (K + 1) ∧ Upd p w (((w.drewN q).setCell ⟨p, 1, none⟩ (.int .i64 ((k : Int) + 1))).setCell ⟨p, 2, none⟩ (.int .u64 sd2)) := by
  have hu : Upd p w (((w.drewN q).setCell ⟨p, 1, none⟩ (.int .i64 ((k : Int) + 1))).setCell ⟨p, 2, none⟩ (.int .u64 sd2)) := (((Upd.refl p w).drewN q).setCell 1 _).setCell 2 _
  refine ⟨⟨A, n, c, k + 1, sd2, cs, ?_, hn, hr.keep fun b o hb => ?_, hB, by omega, h0, h1⟩, hu⟩
  · have e := heap_set (heap_set (w := w.drewN q) hh 1 (.int .i64 ((k : Int) + 1))) 2 (.int .u64 sd2)
    rw [e]
    simp
  · have hlt : p < w.heap.size := by
      rcases Nat.lt_or_ge p w.heap.size with h1 | h1
      · exact h1
      · rw [Array.getElem?_eq_none h1] at hh; cases hh
    exact World.cell?_of_block (a := ⟨b, o, none⟩) (hu.block b (by omega) (by omega))

set_option maxRecDepth 100000 in
set_option maxHeartbeats 2000000 in
theorem next (p B K : Nat) (w : World) (hK : K ≤ 1000000) (hc : Cur w p B K) :
    Calls Tryd.prog 119 #[.pointer (some ⟨p, 0, none⟩)] w fun e w' => ∃ x : Int, e = .returned (.int .i64 x) ∧ 0 ≤ x ∧ x ≤ 255 ∧ Cur w' p B (K + 1) ∧ Upd p w w' := by
  obtain ⟨A, n, c, k, sd, cs, hh, hn, hr, hB, hk, hs0, hs1⟩ := hc
  have d0 : w.cell? ⟨p, 0, none⟩ = some (.slice A n c) := cell_of_row w p 0 _ _ _ hh
  have d1 : w.cell? ⟨p, 1, none⟩ = some (.int .i64 k) := cell_of_row w p 1 _ _ _ hh
  have d2 : w.cell? ⟨p, 2, none⟩ = some (.int .u64 sd) := cell_of_row w p 2 _ _ _ hh
  have f1 : w.frozen? ⟨p, 1, none⟩ = false := frozen_of_row w p 1 _ _ hh
  have f2 : w.frozen? ⟨p, 2, none⟩ = false := frozen_of_row w p 2 _ _ hh
  unfold maxLen at hn
  by_cases hkn : k < n
  · obtain ⟨b, off, hl, rfl, hbB, hcb⟩ := rd_byte hr hkn
    have i0 : (0 : Int) ≤ (k : Int) := by omega
    have i1 : (k : Int) < (n : Int) := by omega
    have hc256 := (cs[k]).toNat_lt
    have t1 : decide ((k : Int) < (n : Int)) = true := by simpa using hkn
    have HR := Lib.hid hr
    have HH := Lib.hid hh
    clear hr hh hs1
    go_enter Tryd.func119, Tryd.ntmps119
    go_wp2_with fail
    go_quiet (fail)
    go_wp2_with fail
    go_quiet (fail)
    go_wp2_with fail
    generalize hsd : IntKind.u64.wrap (IntKind.u64.wrap (IntKind.u64.wrap (sd * 6364136223846793005) + _) + 1442695040888963407) = sd2
    have hbd := wrap_bd (IntKind.u64.wrap (IntKind.u64.wrap (sd * 6364136223846793005) + (cs[k].toNat : Int)) + 1442695040888963407)
    rw [hsd] at hbd
    have HBD := Lib.hid hbd
    clear hbd hsd
    have t2 : decide ((k : Int) + 1 ≤ (n : Int)) = true := by simp; omega
    go_quiet (fail)
    go_wp2
    go_ret
    have R := cur_step (sd2 := sd2) (B := B) (K := K) 0 HH.out (by unfold maxLen; omega) HR.out hB hk HBD.out.1 HBD.out.2
    refine ⟨_, rfl, by omega, by omega, ?_, ?_⟩
    · exact R.1.alike rfl
    · exact R.2.alike rfl rfl rfl rfl
  · have t1 : decide ((k : Int) < (n : Int)) = false := by simp; omega
    have t2 : decide ((k : Int) + 1 ≤ (n : Int)) = false := by simp; omega
    have HR := Lib.hid hr
    have HH := Lib.hid hh
    clear hr hh hs1
    go_enter Tryd.func119, Tryd.ntmps119
    go_wp2_with fail
    go_quiet (fail)
    go_wp2_with fail
    generalize hsd : IntKind.u64.wrap (_ + 1442695040888963407) = sd2
    have hbd : 0 ≤ sd2 ∧ sd2 < 18446744073709551616 := by rw [← hsd]; exact wrap_bd _
    have HBD := Lib.hid hbd
    have hand := and255 (sd2 / 1099511627776) (by omega) (by omega)
    have hlo : 0 ≤ sd2 / 1099511627776 % 256 := by omega
    have hhi : sd2 / 1099511627776 % 256 ≤ 255 := by omega
    clear hbd hsd
    go_quiet (fail)
    go_wp2
    go_ret
    have R := cur_step (sd2 := sd2) (B := B) (K := K) 0 HH.out (by unfold maxLen; omega) HR.out hB hk HBD.out.1 HBD.out.2
    refine ⟨_, rfl, by omega, by omega, ?_, ?_⟩
    · exact R.1.alike rfl
    · exact R.2.alike rfl rfl rfl rfl

set_option maxRecDepth 100000 in
set_option maxHeartbeats 2000000 in
theorem pick (p B K : Nat) (n : Int) (w : World) (hK : K ≤ 999990) (hn : n ≤ 60000) (hc : Cur w p B K) :
    Calls Tryd.prog 66 #[.pointer (some ⟨p, 0, none⟩), .int .i64 n] w fun e w' => ∃ x : Int, e = .returned (.int .i64 x) ∧ 0 ≤ x ∧ (x < n ∨ x = 0) ∧ Cur w' p B (K + 2) ∧ Upd p w w' := by
  by_cases h1 : n ≤ 1
  · have HC := Lib.hid hc
    clear hc
    go_enter Tryd.func66, Tryd.ntmps66
    go_wp2
    go_ret
    exact ⟨0, rfl, by omega, by omega, HC.out.mono (by omega), Upd.refl _ _⟩
  have N1 := Lib.hid (next p B K w (by omega) hc)
  by_cases h2 : n ≤ 200
  · clear hc
    go_enter Tryd.func66, Tryd.ntmps66
    go_wp2_with fail
    refine N1.out.mono ?_
    rintro e w1 ⟨x, rfl, x0, x1, hc1, hu1⟩
    have HC := Lib.hid hc1
    clear hc1
    go_wp2
    go_ret
    exact ⟨x % n, rfl, Int.emod_nonneg _ (by omega), .inl (Int.emod_lt_of_pos _ (by omega)), HC.out.mono (by omega), hu1⟩
  · clear hc
    go_enter Tryd.func66, Tryd.ntmps66
    go_wp2_with fail
    refine N1.out.mono ?_
    rintro e w1 ⟨x, rfl, x0, x1, hc1, hu1⟩
    have N2 := Lib.hid (next p B (K + 1) w1 (by omega) hc1)
    clear hc1
    go_wp2_with fail
    refine N2.out.mono ?_
    rintro e w2 ⟨y, rfl, y0, y1, hc2, hu2⟩
    have HC := Lib.hid hc2
    clear hc2
    go_wp2
    go_ret
    exact ⟨(x * 256 + y) % n, rfl, Int.emod_nonneg _ (by omega), .inl (Int.emod_lt_of_pos _ (by omega)), HC.out, hu1.trans hu2⟩
theorem one (p B K : Nat) (n : Int) (w : World) (hK : K ≤ 999990) (hn : n ≤ 60000) (hc : Cur w p B K) :
    Calls Tryd.prog 61 #[.pointer (some ⟨p, 0, none⟩), .int .i64 n] w fun e w' => ∃ b : Bool, e = .returned (.bool b) ∧ Cur w' p B (K + 2) ∧ Upd p w w' := by
  go_enter Tryd.func61, Tryd.ntmps61
  go_wp2_with fail
  refine (pick p B K n w hK hn hc).mono ?_
  rintro e w1 ⟨x, rfl, x0, x1, hc1, hu1⟩
  have HC := Lib.hid hc1
  clear hc1
  go_wp2
  go_ret
  exact ⟨_, rfl, HC.out, hu1⟩
theorem among (p B K : Nat) (A : Option Addr) (n c : Nat) (zs : List Int) (B' : Nat) (w : World) (hK : K ≤ 999990) (hn : 0 < n) (hn' : n ≤ 1000) (hx : Rd w B' 1 A n (ints zs)) (hB' : ∀ b, A = some b → b.block ≠ p) (hlt : B' ≤ w.heap.size) (hc : Cur w p B K) :
    Calls Tryd.prog 85 #[.pointer (some ⟨p, 0, none⟩), .slice A n c] w fun e w' => ∃ z : Int, e = .returned (.int .i64 z) ∧ z ∈ zs ∧ Cur w' p B (K + 2) ∧ Upd p w w' := by
  obtain ⟨b, off, rfl, hb, _⟩ := hx.2 hn
  have hbp := hB' _ rfl
  simp only at hbp
  have HX := Lib.hid hx
  go_enter Tryd.func85, Tryd.ntmps85
  go_wp2_with fail
  refine (pick p B K n w hK (by omega) hc).mono ?_
  rintro e w1 ⟨x, rfl, x0, x1, hc1, hu1⟩
  obtain ⟨k, rfl⟩ := Int.eq_ofNat_of_zero_le x0
  have hkn : k < n := by omega
  obtain ⟨b2, off2, hl, e2, hb2, hcell⟩ := HX.out.int hkn
  simp only [Option.some.injEq, Addr.mk.injEq, and_true] at e2
  obtain ⟨rfl, rfl⟩ := e2
  have hcell1 : w1.cell? ⟨b, off + k, none⟩ = some (.int .i64 zs[k]) := (World.cell?_of_block (a := ⟨b, off + k, none⟩) (hu1.block b (by omega) hbp)).trans hcell
  have i1 : (k : Int) < (n : Int) := by omega
  have HC := Lib.hid hc1
  clear hc1 x1 x0 HX hx hcell
  go_wp2
  go_ret
  exact ⟨zs[k], rfl, List.getElem_mem hl, HC.out, hu1⟩
end Go.Proofs.YtfoclgijhkibeabDoor.Cur
