/-
  A signature drawn.
-/
import Derived.Test.YtfoclgijhkibeabDoorDrawM
import Derived.Test.YtfoclgijhkibeabDoorSgt
import Derived.Test.YtfoclgijhkibeabDoorChlX
import Derived.Test.YtfoclgijhkibeabDoorStrs
namespace Go.Proofs.YtfoclgijhkibeabDoor.DrawN
open Go.ChangeShapes Go.WideShapes Go.ChangeAt Go.RowKit
open Go.Proofs.YtfoclgijhkibeabDoor.Mem Go.Proofs.YtfoclgijhkibeabDoor.Ints Go.Proofs.YtfoclgijhkibeabDoor.Cur Go.Proofs.YtfoclgijhkibeabDoor.DrawM Go.Proofs.YtfoclgijhkibeabDoor.Strs Go.Proofs.YtfoclgijhkibeabDoor.Key Go.Proofs.YtfoclgijhkibeabDoor.Cha Go.Proofs.YtfoclgijhkibeabDoor.Chb Go.Proofs.YtfoclgijhkibeabDoor.Rec Go.Proofs.YtfoclgijhkibeabDoor.Sgt
set_option linter.unusedVariables false
set_option maxRecDepth 100000

theorem infoB : (Tryd.prog.info? 5).map (fun i => (i.zero, i.size, i.bytes)) = some (some (.int .u8 0), 1, 1) := by kernel_rfl
theorem made_zero0 (n : Nat) : (madeCells (Value.int .u8 0).cells (n * 1)).toList = (List.replicate n (0 : UInt8)).map byteV := by
  have : (Value.int IntKind.u8 0).cells = #[.int .u8 0] := rfl
  rw [this, toList_madeCells_one, Nat.mul_one, List.map_replicate]; rfl
theorem updGrown {p : Nat} {a w w' : World} {row : Option Nat} (h : Upd p a w) (hg : w.grownBy w' row) (hr : ∀ k, row = some k → a.heap.size ≤ k) : Upd p a w' :=
  ⟨hg.os.trans h.os, hg.tape.trans h.tape, hg.output.trans h.output, Nat.le_trans h.size hg.size, fun k hk hp => (hg.block k (Nat.lt_of_lt_of_le hk h.size) (fun e => by have := hr k e.symm; omega)).trans (h.block k hk hp)⟩
theorem curGrown {w w' : World} {p B K : Nat} {row : Option Nat} (h : Cur w p B K) (hg : w.grownBy w' row) (hr : ∀ k, row = some k → p < k) : Cur w' p B K :=
  h.below (B' := p + 1) ⟨hg.os, hg.tape, hg.output, hg.size, fun k hk => hg.block k (by have := h.lt; omega) (fun e => by have := hr k e.symm; omega)⟩ (by omega)
theorem curBel {w w' : World} {p B K : Nat} (h : Cur w p B K) (hb : Below w.heap.size w w') : Cur w' p B K := h.below hb h.lt
theorem updBel {p : Nat} {a w w' : World} (h : Upd p a w) (hb : Below w.heap.size w w') : Upd p a w' := h.trans (Upd.of_below hb (Nat.le_refl _))
theorem updSet {p : Nat} {a w : World} (h : Upd p a w) {b i : Nat} (hb : a.heap.size ≤ b) (u : Value) : Upd p a (w.setCell ⟨b, i, none⟩ u) :=
  ⟨h.os, h.tape, h.output, by simpa using h.size, fun k hk hp => (heap_setCell_other _ _ _ _ (by dsimp only; omega)).trans (h.block k hk hp)⟩
theorem curSet {w : World} {p B K b i : Nat} (h : Cur w p B K) (hb : p < b) (u : Value) : Cur (w.setCell ⟨b, i, none⟩ u) p B K :=
  h.below (B' := p + 1) ((Below.refl _ w).setCell (by dsimp only; omega) u) (by omega)
theorem rowUpd {p : Nat} {a b : World} {k : Nat} {o : Obj} (h : a.heap[k]? = some o) (u : Upd p a b) (hk : k ≠ p) : b.heap[k]? = some o := (u.block k (Array.getElem?_eq_some_iff.1 h).1 hk).trans h

theorem secret (p B K : Nat) (w : World) (hK : K ≤ 900000) (hc : Cur w p B K) :
    Calls Tryd.prog 45 #[.pointer (some ⟨p, 0, none⟩)] w fun e w' => ∃ z : Int, e = .returned (.int .i64 z) ∧ 0 ≤ z ∧ z ≤ 1013 ∧ Cur w' p B (K + 4) ∧ Upd p w w' := by
  go_enter Tryd.func45, Tryd.ntmps45
  go_wp2_with fail
  refine (one p B K 12 w (by omega) (by omega) hc).mono ?_
  rintro e w1 ⟨b, rfl, hc1, hu1⟩
  cases b
  · go_wp2_with fail
    refine (pick p B (K + 2) 253 w1 (by omega) (by omega) hc1).mono ?_
    rintro e w2 ⟨x, rfl, x0, x1, hc2, hu2⟩
    have hu := hu1.trans hu2
    have hx : x < 253 := by omega
    clear hc1 hu1 hu2 x1
    go_wp2
    go_ret
    exact ⟨_, rfl, by omega, by omega, hc2.mono (by omega), hu⟩
  · go_wp2_with fail
    refine (amongLit p B (K + 2) _ [0, 1, 1012, 1013] w1 (by omega) (by simp) (by simp) rfl hc1).mono ?_
    rintro e w2 ⟨z, rfl, hz, hc2, hu2⟩
    have hu := hu1.trans hu2
    have hb : 0 ≤ z ∧ z ≤ 1013 := by simp at hz; omega
    clear hz hc1 hu1 hu2
    go_wp2
    go_ret
    exact ⟨z, rfl, hb.1, hb.2, hc2, hu⟩
/-- A choice among strings. -/
theorem of (p B K : Nat) (A : Option Addr) (n c : Nat) (zs : List ByteArray) (B' : Nat) (w : World) (hK : K ≤ 999990) (hn : 0 < n) (hn' : n ≤ 1000) (hx : Rd w B' 1 A n (svs zs)) (hB' : ∀ b, A = some b → b.block ≠ p) (hlt : B' ≤ w.heap.size) (hc : Cur w p B K) :
    Calls Tryd.prog 105 #[.pointer (some ⟨p, 0, none⟩), .slice A n c] w fun e w' => ∃ z : ByteArray, e = .returned (.string z) ∧ z ∈ zs ∧ Cur w' p B (K + 2) ∧ Upd p w w' := by
  obtain ⟨b, off, rfl, hb, _⟩ := hx.2 hn
  have hbp := hB' _ rfl
  simp only at hbp
  have HX := Lib.hid hx
  go_enter Tryd.func105, Tryd.ntmps105
  go_wp2_with fail
  refine (pick p B K n w hK (by omega) hc).mono ?_
  rintro e w1 ⟨x, rfl, x0, x1, hc1, hu1⟩
  obtain ⟨k, rfl⟩ := Int.eq_ofNat_of_zero_le x0
  have hkn : k < n := by omega
  obtain ⟨b2, off2, hl, e2, hb2, hcell⟩ := rd_str HX.out hkn
  simp only [Option.some.injEq, Addr.mk.injEq, and_true] at e2
  obtain ⟨rfl, rfl⟩ := e2
  have hcell1 : w1.cell? ⟨b, off + k, none⟩ = some (.string zs[k]) := (World.cell?_of_block (a := ⟨b, off + k, none⟩) (hu1.block b (by omega) hbp)).trans hcell
  have i1 : (k : Int) < (n : Int) := by omega
  have HC := Lib.hid hc1
  clear hc1 x1 x0 HX hx hcell
  go_wp2
  go_ret
  exact ⟨zs[k], rfl, List.getElem_mem hl, HC.out, hu1⟩
theorem lit_rdS (W : World) (cs : Array Value) (t : Nat) (zs : List ByteArray) (h : cs.toList = svs zs) : Rd (W.alloc (.cells cs t)) (W.heap.size + 1) 1 (some ⟨W.heap.size, 0, none⟩) zs.length (svs zs) := by
  refine ⟨by simp [svs], fun _ => ⟨W.heap.size, 0, rfl, by omega, fun j u hu => ?_⟩⟩
  rw [Nat.zero_add, cell_of_row _ W.heap.size j cs t (0, 0) (heap_alloc_new W _), ← hu, ← h]
  simp
theorem ofLit (p B K : Nat) (cs : Array Value) (zs : List ByteArray) (w : World) (hK : K ≤ 999990) (h0 : 0 < zs.length) (h1 : zs.length ≤ 1000) (hl : cs = (svs zs).toArray) (hc : Cur w p B K) :
    Calls Tryd.prog 105 #[.pointer (some ⟨p, 0, none⟩), .slice (some ⟨w.heap.size, 0, none⟩) zs.length zs.length] (w.alloc (.cells cs 9)) fun e w' => ∃ z : ByteArray, e = .returned (.string z) ∧ z ∈ zs ∧ Cur w' p B (K + 2) ∧ Upd p w w' := by
  have hp := hc.lt
  subst hl
  have hR := lit_rdS w (svs zs).toArray 9 zs rfl
  have hR2 : Rd (w.alloc (.cells (svs zs).toArray 9)) (w.heap.size + 1) 1 (some ⟨w.heap.size, 0, none⟩) zs.length (svs zs) := by simpa [svs] using hR
  refine (of p B K _ zs.length zs.length zs (w.heap.size + 1) _ hK h0 h1 hR2 (by rintro b ⟨rfl⟩; dsimp only; omega) (by simp) (cur_alloc hc _)).mono ?_
  rintro e w' ⟨z, rfl, hz, hc', hu'⟩
  exact ⟨z, rfl, hz, hc', (upd_alloc (Upd.refl p w) _).trans hu'⟩
def zs0 (n : Nat) : ByteArray := ⟨(List.replicate n (0 : UInt8)).toArray⟩
theorem zs0_size (n : Nat) : (zs0 n).size = n := by simp [zs0, ByteArray.size]
theorem made_str (w2 w3 : World) (n : Nat) (h : w3.ownsRow w2.heap.size 5 1 (.slice (some ⟨w2.heap.size, 0, none⟩) n n) n (madeCells (Value.int .u8 0).cells (n * 1)).toList) :
    (convert 22 9 (.slice (some ⟨w2.heap.size, 0, none⟩) n n)).run Tryd.prog w3 = .ok (.string (zs0 n)) w3 := by
  rw [made_zero0] at h
  exact run_own_string (P := Tryd.prog) w3 22 9 5 _ _ _ _ Tryd.underlying22 Tryd.underlying5 Tryd.underlying9 h
def msgs : List ByteArray := [⟨#[]⟩, ⟨#[97]⟩, ⟨#[112, 97, 121, 32, 53]⟩, ⟨#[112, 97, 121, 32, 54]⟩, ⟨#[115, 111, 109, 101, 32, 101, 110, 116, 114, 121]⟩]
theorem msgs_le : ∀ z ∈ msgs, z.size ≤ 201 := by
  intro z hz
  simp only [msgs, List.mem_cons, List.not_mem_nil, or_false] at hz
  rcases hz with rfl | rfl | rfl | rfl | rfl <;> decide
set_option maxHeartbeats 1000000 in
theorem message (p B K : Nat) (w : World) (hK : K ≤ 900000) (hc : Cur w p B K) :
    Calls Tryd.prog 46 #[.pointer (some ⟨p, 0, none⟩)] w fun e w' => ∃ t : ByteArray, e = .returned (.string t) ∧ t.size ≤ 201 ∧ Cur w' p B (K + 4) ∧ Upd p w w' := by
  have hpw := hc.lt
  obtain ⟨i0, hi, hz0, hz1, hz2⟩ := info_parts infoB
  go_enter Tryd.func46, Tryd.ntmps46
  go_wp2_with fail
  refine (one p B K 20 w (by omega) (by omega) hc).mono ?_
  rintro e w1 ⟨b, rfl, hc1, hu1⟩
  cases b
  · go_wp2_with fail
    refine (ofLit p B (K + 2) _ msgs w1 (by omega) (by simp [msgs]) (by simp [msgs]) rfl hc1).mono ?_
    rintro e w2 ⟨z, rfl, hz, hc2, hu2⟩
    have hu := hu1.trans hu2
    have hb := msgs_le z hz
    clear hz hc1 hu1 hu2
    go_wp2
    go_ret
    exact ⟨z, rfl, hb, hc2, hu⟩
  · go_wp2_with fail
    refine (amongLit p B (K + 2) _ [200, 201] w1 (by omega) (by simp) (by simp) rfl hc1).mono ?_
    rintro e w2 ⟨z, rfl, hz, hc2, hu2⟩
    have hu := hu1.trans hu2
    obtain ⟨n, rfl, hn⟩ : ∃ n : Nat, z = n ∧ n ≤ 201 := ⟨z.toNat, by simp at hz; omega, by simp at hz; omega⟩
    have HS := Lib.hid (zs0_size n)
    clear hz hc1 hu1 hu2
    go_wp2_with (at_make; refine wpList_make_full _ rfl _ _ 22 rfl w2.heap.size 5 i0 _ 1 Tryd.underlying22 hi hz0 hz1 .i64 .i64 _ _ n rfl rfl (by omega) (by omega) (by rw [hz2]; omega) (by unfold maxLen; omega) (by simp) ?_; intro w3 hown3 hgrow3; have hconv := made_str w2 w3 n hown3; have HC3 := Lib.hid (curGrown hc2 hgrow3 (fun k hk => by cases hk)); have HU3 := Lib.hid (updGrown hu hgrow3 (fun k hk => by cases hk)); clear hown3 hgrow3)
    go_ret
    exact ⟨zs0 n, rfl, by rw [HS.out]; exact hn, HC3.out, HU3.out⟩
end Go.Proofs.YtfoclgijhkibeabDoor.DrawN

namespace Go.Proofs.YtfoclgijhkibeabDoor.DrawO
open Go.ChangeShapes Go.WideShapes Go.ChangeAt Go.RowKit
open Go.Proofs.YtfoclgijhkibeabDoor.Mem Go.Proofs.YtfoclgijhkibeabDoor.Ints Go.Proofs.YtfoclgijhkibeabDoor.Cur Go.Proofs.YtfoclgijhkibeabDoor.DrawM Go.Proofs.YtfoclgijhkibeabDoor.Strs Go.Proofs.YtfoclgijhkibeabDoor.Sch Go.Proofs.YtfoclgijhkibeabDoor.Key Go.Proofs.YtfoclgijhkibeabDoor.Cha Go.Proofs.YtfoclgijhkibeabDoor.Chb Go.Proofs.YtfoclgijhkibeabDoor.Rec Go.Proofs.YtfoclgijhkibeabDoor.Sgt Go.Proofs.YtfoclgijhkibeabDoor.DrawN
set_option linter.unusedVariables false
set_option maxRecDepth 100000

/-- Both give one key. -/
theorem keyBoth (n : Int) : ∃ (k : Int) (b : Bool), (∀ W, Calls Tryd.prog 8 #[.int .i64 n] W fun e w' => e = .returned (.tuple #[.int .i64 k, .bool b]) ∧ W = w') ∧ (∀ W, Calls Tryd.prog 59 #[.int .i64 n] W fun e w' => e = .returned (.tuple #[.int .i64 k, .bool b]) ∧ W = w') ∧ b = okS n ∧ (b = true → k = (pw 4 n.toNat : Nat)) := by
  cases h : okS n
  · exact ⟨0, false, fun W => implForNo n W h, fun W => specForNo n W h, rfl, by simp⟩
  · obtain ⟨k, rfl, h1, h2⟩ := okS_yes h
    exact ⟨_, true, fun W => implFor k W h1 h2, fun W => specFor k W h1 h2, rfl, fun _ => by simp⟩
theorem drawWith (A : Option Addr) (n c : Nat) (cs : List UInt8) (w : World) (hn : n ≤ maxLen) (hx : Rd w w.heap.size 1 A n (Cur.bytes cs)) :
    Calls Tryd.prog 7 #[.slice A n c] w fun e w' => ∃ (a b : Int) (t : ByteArray), e = .returned (.tuple #[.int .i64 a, .int .i64 b, .string t]) ∧ t.size ≤ 201 ∧ Below w.heap.size w w' := by
  go_enter Tryd.func7, Tryd.ntmps7
  go_wp2_with fail
  refine (secret w.heap.size w.heap.size 0 _ (by omega) (boxed_cur A n c cs w hn hx)).mono ?_
  rintro e w1 ⟨a, rfl, a0, a1, hc1, hu1⟩
  go_wp2_with fail
  refine (secret w.heap.size w.heap.size _ w1 (by omega) hc1).mono ?_
  rintro e w2 ⟨b, rfl, b0, b1, hc2, hu2⟩
  go_wp2_with fail
  refine (message w.heap.size w.heap.size _ w2 (by omega) hc2).mono ?_
  rintro e w3 ⟨t, rfl, ht, hc3, hu3⟩
  have hb := box_bel ((hu1.trans hu2).trans hu3)
  clear hc1 hu1 hc2 hu2 hc3 hu3 hx
  go_wp2
  go_ret3
  exact ⟨a, b, t, rfl, ht, hb⟩
end Go.Proofs.YtfoclgijhkibeabDoor.DrawO

namespace Go.Proofs.YtfoclgijhkibeabDoor.DrawQ
open Go.ChangeShapes Go.WideShapes Go.ChangeAt Go.RowKit
open Go.Proofs.YtfoclgijhkibeabDoor.Mem Go.Proofs.YtfoclgijhkibeabDoor.Ints Go.Proofs.YtfoclgijhkibeabDoor.Cur Go.Proofs.YtfoclgijhkibeabDoor.DrawM Go.Proofs.YtfoclgijhkibeabDoor.Strs Go.Proofs.YtfoclgijhkibeabDoor.Sch Go.Proofs.YtfoclgijhkibeabDoor.Key Go.Proofs.YtfoclgijhkibeabDoor.Cha Go.Proofs.YtfoclgijhkibeabDoor.Chb Go.Proofs.YtfoclgijhkibeabDoor.Rec Go.Proofs.YtfoclgijhkibeabDoor.Sgt Go.Proofs.YtfoclgijhkibeabDoor.DrawN Go.Proofs.YtfoclgijhkibeabDoor.DrawO
set_option linter.unusedVariables false
set_option maxRecDepth 100000

theorem curDrew {w : World} {p B K : Nat} (h : Cur w p B K) : Cur w.drew p B K := h.alike rfl
theorem updDrew {p : Nat} {a w : World} (h : Upd p a w) : Upd p a w.drew := h.alike rfl rfl rfl rfl
def SomeS (p B K : Nat) (w : World) (e : Ending) (w' : World) : Prop := ∃ (k : Int) (t : ByteArray) (R S : Int), e = .returned (.tuple #[.int .i64 k, .string t, .agg #[.int .i64 R, .int .i64 S]]) ∧ t.size ≤ 202 ∧ Cur w' p B (K + 30) ∧ Upd p w w'
end Go.Proofs.YtfoclgijhkibeabDoor.DrawQ
