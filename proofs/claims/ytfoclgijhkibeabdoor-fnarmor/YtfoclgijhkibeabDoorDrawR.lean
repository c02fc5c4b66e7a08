/-
  What the law on armored texts draws.
-/
import Derived.Test.YtfoclgijhkibeabDoorDrawS
import Derived.Test.YtfoclgijhkibeabDoorArmor
namespace Go.Proofs.YtfoclgijhkibeabDoor.DrawR
open Go.ChangeShapes Go.WideShapes Go.ChangeAt Go.RowKit
open Go.Proofs.YtfoclgijhkibeabDoor.Mem Go.Proofs.YtfoclgijhkibeabDoor.Ints Go.Proofs.YtfoclgijhkibeabDoor.Cur Go.Proofs.YtfoclgijhkibeabDoor.Strs Go.Proofs.YtfoclgijhkibeabDoor.Lines Go.Proofs.YtfoclgijhkibeabDoor.Armor Go.Proofs.YtfoclgijhkibeabDoor.Name Go.Proofs.YtfoclgijhkibeabDoor.DrawA Go.Proofs.YtfoclgijhkibeabDoor.DrawS
set_option linter.unusedVariables false
set_option maxRecDepth 100000

/-- A choice among strings. -/
theorem of (p B K : Nat) (A : Option Addr) (n c : Nat) (zs : List ByteArray) (B' : Nat) (w : World) (hK : K ≤ 999990) (hn : 0 < n) (hn' : n ≤ 1000) (hx : Rd w B' 1 A n (svs zs)) (hB' : ∀ b, A = some b → b.block ≠ p) (hlt : B' ≤ w.heap.size) (hc : Cur w p B K) :
    Calls Tryd.prog 105 #[.pointer (some ⟨p, 0, none⟩), .slice A n c] w fun e w' => ∃ z : ByteArray, e = .returned (.string z) ∧ z ∈ zs ∧ Cur w' p B (K + 2) ∧ Upd p w w' := by
  obtain ⟨b, off, rfl, hb, _⟩ := hx.2 hn
  have hbp := hB' _ rfl
  simp only at hbp
  have HX := Lib.hid hx
  go_enter Tryd.func105, Tryd.ntmps105
  go_wp2_with fail
  refine (pick p B K n w hK (by omega) hc).mono ?_
  rintro e w1 ⟨x, rfl, x0, x1, hc1, hu1⟩
  obtain ⟨k, rfl⟩ := Int.eq_ofNat_of_zero_le x0
  have hkn : k < n := by omega
  obtain ⟨b2, off2, hl, e2, hb2, hcell⟩ := rd_str HX.out hkn
  simp only [Option.some.injEq, Addr.mk.injEq, and_true] at e2
  obtain ⟨rfl, rfl⟩ := e2
  have hcell1 : w1.cell? ⟨b, off + k, none⟩ = some (.string zs[k]) := (World.cell?_of_block (a := ⟨b, off + k, none⟩) (hu1.block b (by omega) hbp)).trans hcell
  have i1 : (k : Int) < (n : Int) := by omega
  have HC := Lib.hid hc1
  clear hc1 x1 x0 HX hx hcell
  go_wp2
  go_ret
  exact ⟨zs[k], rfl, List.getElem_mem hl, HC.out, hu1⟩
theorem lit_rdS (W : World) (cs : Array Value) (t : Nat) (zs : List ByteArray) (h : cs.toList = svs zs) : Rd (W.alloc (.cells cs t)) (W.heap.size + 1) 1 (some ⟨W.heap.size, 0, none⟩) zs.length (svs zs) := by
  refine ⟨by simp [svs], fun _ => ⟨W.heap.size, 0, rfl, by omega, fun j u hu => ?_⟩⟩
  rw [Nat.zero_add, cell_of_row _ W.heap.size j cs t (0, 0) (heap_alloc_new W _), ← hu, ← h]
  simp
theorem ofLit (p B K : Nat) (cs : Array Value) (zs : List ByteArray) (w : World) (hK : K ≤ 999990) (h0 : 0 < zs.length) (h1 : zs.length ≤ 1000) (hl : cs = (svs zs).toArray) (hc : Cur w p B K) :
    Calls Tryd.prog 105 #[.pointer (some ⟨p, 0, none⟩), .slice (some ⟨w.heap.size, 0, none⟩) zs.length zs.length] (w.alloc (.cells cs 9)) fun e w' => ∃ z : ByteArray, e = .returned (.string z) ∧ z ∈ zs ∧ Cur w' p B (K + 2) ∧ Upd p w w' := by
  have hp := hc.lt
  subst hl
  have hR := lit_rdS w (svs zs).toArray 9 zs rfl
  have hR2 : Rd (w.alloc (.cells (svs zs).toArray 9)) (w.heap.size + 1) 1 (some ⟨w.heap.size, 0, none⟩) zs.length (svs zs) := by simpa [svs] using hR
  refine (of p B K _ zs.length zs.length zs (w.heap.size + 1) _ hK h0 h1 hR2 (by rintro b ⟨rfl⟩; dsimp only; omega) (by simp) (cur_alloc hc _)).mono ?_
  rintro e w' ⟨z, rfl, hz, hc', hu'⟩
  exact ⟨z, rfl, hz, hc', (upd_alloc (Upd.refl p w) _).trans hu'⟩
def names : List ByteArray := [⟨#[69, 78, 84, 82, 89]⟩, ⟨#[75, 69, 89]⟩, ⟨#[83, 73, 71, 78, 69, 68]⟩, ⟨#[]⟩, ⟨#[108, 111, 119]⟩, ⟨#[84, 79, 79, 76, 79, 78, 71, 70, 79, 82, 65, 78, 65, 77, 69, 88, 88]⟩]
theorem names_le : ∀ z ∈ names, z.size ≤ 17 := by
  intro z hz
  simp only [names, List.mem_cons, List.not_mem_nil, or_false] at hz
  rcases hz with rfl | rfl | rfl | rfl | rfl | rfl <;> decide
set_option maxHeartbeats 1000000 in
theorem armorName (p B K : Nat) (w : World) (hK : K ≤ 900000) (hc : Cur w p B K) :
    Calls Tryd.prog 77 #[.pointer (some ⟨p, 0, none⟩)] w fun e w' => ∃ t : ByteArray, e = .returned (.string t) ∧ t.size ≤ 17 ∧ Cur w' p B (K + 2) ∧ Upd p w w' := by
  have hpw := hc.lt
  go_enter Tryd.func77, Tryd.ntmps77
  go_wp2_with fail
  refine (ofLit p B K _ names w (by omega) (by simp [names]) (by simp [names]) rfl hc).mono ?_
  rintro e w2 ⟨z, rfl, hz, hc2, hu2⟩
  have hb := names_le z hz
  clear hz
  go_wp2
  go_ret
  exact ⟨z, rfl, hb, hc2, hu2⟩
set_option maxHeartbeats 1000000 in
theorem drawArmorOf (A : Option Addr) (n c : Nat) (cs : List UInt8) (w : World) (hn : n ≤ maxLen) (hx : Rd w w.heap.size 1 A n (Cur.bytes cs)) :
    Calls Tryd.prog 20 #[.slice A n c] w fun e w' => ∃ u t : ByteArray, e = .returned (.tuple #[.string u, .string t]) ∧ u.size ≤ 17 ∧ t.size ≤ 601 ∧ Below w.heap.size w w' := by
  go_enter Tryd.func20, Tryd.ntmps20
  go_wp2_with fail
  refine (armorName w.heap.size w.heap.size 0 _ (by omega) (boxed_cur A n c cs w hn hx)).mono ?_
  rintro e w1 ⟨u, rfl, hu, hc1, hu1⟩
  go_wp2_with fail
  refine (text w.heap.size w.heap.size _ w1 (by omega) hc1).mono ?_
  rintro e w2 ⟨t, rfl, ht, hc2, hu2⟩
  have hb := box_bel (hu1.trans hu2)
  clear hc1 hc2 hu1 hu2
  go_wp2
  go_ret2
  exact ⟨u, t, rfl, hu, ht, hb⟩
theorem arm_le (n s : ByteArray) (hn : n.size ≤ 16) (hs : s.size ≤ 600) : (armL n s).length ≤ 911 := by
  have h1 := opn_len begO n
  have h2 := opn_len endO n
  have h3 := flat_le (lns (encS s) 64 (cnt (encS s) 64)) (fun x hx => by
    obtain ⟨i, hi, rfl⟩ := List.getElem_of_mem hx
    rw [lns_get]; exact line_le _ _ _)
  rw [lns_len] at h3
  have h4 : cnt (encS s) 64 ≤ 13 := by unfold cnt; rw [encS_size]; omega
  have e1 : begO.length = 11 := rfl
  have e2 : endO.length = 9 := rfl
  unfold armL
  simp only [List.length_append]
  omega
theorem someArmor (n t : ByteArray) (w : World) (hn : n.size ≤ 17) (ht : t.size ≤ 601) : Calls Tryd.prog 22 #[.string n, .string t] w fun e w' => ∃ (u : ByteArray) (b : Bool), e = .returned (.tuple #[.string u, .bool b]) ∧ u.size ≤ 911 ∧ Below w.heap.size w w' := by
  by_cases h : nameOK n ∧ t.size ≤ 600
  · refine (specYesA n t w h.2 h.1).mono ?_
    rintro e w' ⟨rfl, hb⟩
    exact ⟨_, true, rfl, by rw [mk_size]; exact arm_le n t h.1.2.2 h.2, hb⟩
  · refine (specNoA n t w (by unfold maxLen; omega) (by unfold maxLen; omega) h).mono ?_
    rintro e w' ⟨rfl, rfl⟩
    exact ⟨_, false, rfl, by simp [ByteArray.size], Below.refl _ _⟩
set_option maxHeartbeats 1000000 in
theorem drawOfArmor (A : Option Addr) (n c : Nat) (cs : List UInt8) (w : World) (hn : n ≤ maxLen) (hx : Rd w w.heap.size 1 A n (Cur.bytes cs)) :
    Calls Tryd.prog 23 #[.slice A n c] w fun e w' => ∃ t : ByteArray, e = .returned (.string t) ∧ t.size ≤ 913 ∧ Below w.heap.size w w' := by
  go_enter Tryd.func23, Tryd.ntmps23
  go_wp2_with fail
  refine (armorName w.heap.size w.heap.size 0 _ (by omega) (boxed_cur A n c cs w hn hx)).mono ?_
  rintro e w1 ⟨nm, rfl, hnm, hc1, hu1⟩
  go_wp2_with fail
  refine (text w.heap.size w.heap.size _ w1 (by omega) hc1).mono ?_
  rintro e w2 ⟨t, rfl, ht, hc2, hu2⟩
  have hu2 := hu1.trans hu2
  clear hc1 hu1
  go_wp2_with fail
  refine (someArmor nm t w2 hnm ht).mono ?_
  rintro e w3 ⟨u, b, rfl, hu, hb2⟩
  have hc3 := cur_bel hc2 hb2
  have hu3 := upd_bel hu2 hb2
  clear hc2 hu2 hb2
  go_wp2_with fail
  refine (one w.heap.size w.heap.size _ 3 w3 (by omega) (by omega) hc3).mono ?_
  rintro e w4 ⟨q, rfl, hc4, hu4⟩
  have hu4 := hu3.trans hu4
  clear hu3 hc3
  cases q
  · have hb := box_bel hu4
    clear hc4 hu4
    go_wp2
    go_ret
    exact ⟨u, rfl, by omega, hb⟩
  · go_wp2_with fail
    refine (spoilt w.heap.size w.heap.size _ u _ w4 (by omega) (by omega) (by decide) (by decide) hc4).mono ?_
    rintro e w5 ⟨v, rfl, hv, hc5, hu5⟩
    have hb := box_bel (hu4.trans hu5)
    clear hc4 hu4 hc5 hu5
    go_wp2
    go_ret
    exact ⟨v, rfl, by omega, hb⟩
set_option maxHeartbeats 1000000 in
theorem drawLinesOf (A : Option Addr) (n c : Nat) (cs : List UInt8) (w : World) (hn : n ≤ maxLen) (hx : Rd w w.heap.size 1 A n (Cur.bytes cs)) :
    Calls Tryd.prog 24 #[.slice A n c] w fun e w' => ∃ (t : ByteArray) (z : Int), e = .returned (.tuple #[.string t, .int .i64 z]) ∧ t.size ≤ 1200 ∧ 0 ≤ z ∧ z ≤ 101 ∧ Below w.heap.size w w' := by
  go_enter Tryd.func24, Tryd.ntmps24
  go_wp2_with fail
  refine (text w.heap.size w.heap.size 0 _ (by omega) (boxed_cur A n c cs w hn hx)).mono ?_
  rintro e w1 ⟨t, rfl, ht, hc1, hu1⟩
  go_wp2_with fail
  refine (someHex t w1 ht).mono ?_
  rintro e w2 ⟨u, b, rfl, hu, hb2⟩
  have hc2 := cur_bel hc1 hb2
  have hu2 := upd_bel hu1 hb2
  clear hc1 hu1 hb2
  have hpw := hc2.lt
  go_wp2_with fail
  have hR := lit_rd w2 #[.int .i64 0, .int .i64 1, .int .i64 4, .int .i64 64, .int .i64 100, .int .i64 101] 3 [0, 1, 4, 64, 100, 101] rfl
  have C := among w.heap.size w.heap.size _ (some ⟨w2.heap.size, 0, none⟩) 6 6 [0, 1, 4, 64, 100, 101] (w2.heap.size + 1) _ (by omega) (by omega) (by omega) hR (by rintro b ⟨rfl⟩; dsimp only; omega) (by simp) (cur_alloc hc2 _)
  refine C.mono ?_
  rintro e w3 ⟨z, rfl, hz, hc3, hu3⟩
  have hz1 : 0 ≤ z ∧ z ≤ 101 := by simp at hz; omega
  have hb := box_bel ((upd_alloc hu2 _).trans hu3)
  clear hz hR hu3 hc3 C hu2 hc2
  go_wp2
  go_ret2
  exact ⟨u, z, rfl, hu, hz1.1, hz1.2, hb⟩
end Go.Proofs.YtfoclgijhkibeabDoor.DrawR
