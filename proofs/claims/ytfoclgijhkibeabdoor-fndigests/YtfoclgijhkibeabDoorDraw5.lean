/-
  The states that chapter 1 draws: eight words of the call's own, a text and a number in a known range; the cursor goes on.
-/
import Derived.Test.YtfoclgijhkibeabDoorDraw1
import Derived.Test.YtfoclgijhkibeabDoorLawFeed
import Derived.Test.YtfoclgijhkibeabDoorDigestI
namespace Go.Proofs.YtfoclgijhkibeabDoor.Draw5
open Go.ChangeShapes Go.WideShapes Go.ChangeAt Go.RowKit
open Go.Proofs.YtfoclgijhkibeabDoor.Mem Go.Proofs.YtfoclgijhkibeabDoor.Ints Go.Proofs.YtfoclgijhkibeabDoor.State Go.Proofs.YtfoclgijhkibeabDoor.ShaComp Go.Proofs.YtfoclgijhkibeabDoor.Absorb Go.Proofs.YtfoclgijhkibeabDoor.End Go.Proofs.YtfoclgijhkibeabDoor.GoodState Go.Proofs.YtfoclgijhkibeabDoor.Mark Go.Proofs.YtfoclgijhkibeabDoor.Cur Go.Proofs.YtfoclgijhkibeabDoor.Draw1 Go.Proofs.YtfoclgijhkibeabDoor.Digest
set_option linter.unusedVariables false
set_option maxRecDepth 100000

theorem cur_bel {w w' : World} {p B K : Nat} (h : Cur w p B K) (hb : Below w.heap.size w w') : Cur w' p B K := h.below hb h.lt
theorem upd_bel {p : Nat} {a w w' : World} (h : Upd p a w) (hb : Below w.heap.size w w') : Upd p a w' := h.trans (Upd.of_below hb (Nat.le_refl _))
/-- The specification's answer at the new state and a drawn text. -/
theorem fedNewS (g c : Nat) (t : ByteArray) (W : World) (ht : t.size ≤ 601) (hx : Rd W W.heap.size 1 (some ⟨g, 0, none⟩) 8 (ints Words.firsts)) :
    Calls Tryd.prog 39 #[.agg #[.slice (some ⟨g, 0, none⟩) 8 c, .string ByteArray.empty, .int .i64 0], .string t] W fun e w' => Below W.heap.size W w' ∧ (e = .returned (.tuple #[.agg #[.slice none 0 0, .string ⟨#[]⟩, .int .i64 0], .bool false]) ∨
      ∃ (g' c' : Nat) (l : List Int) (rs : ByteArray) (Lr : Int), e = .returned (.tuple #[.agg #[.slice (some ⟨g', 0, none⟩) 8 c', .string rs, .int .i64 Lr], .bool true]) ∧ rs.size ≤ 1000 ∧ 0 ≤ Lr ∧ Lr ≤ 1000 ∧ w'.ownsRow W.heap.size 3 1 (.slice (some ⟨g', 0, none⟩) 8 c') 8 (ints l)) := by
  rw [← F8_list] at hx
  by_cases h : t.size ≤ 600
  · refine (SpecFeed.specFeed (some ⟨g, 0, none⟩) c ByteArray.empty t 0 F8 W F8_words h (by omega) (by decide) (by rw [F8_list]; exact good_new) hx).mono ?_
    rintro e w' ⟨g', c', rfl, ho, hb⟩
    exact ⟨hb, .inr ⟨g', c', _, _, _, rfl, by rw [ByteArray.size_extract]; have e0 : ByteArray.empty.size = 0 := rfl; omega, by omega, by omega, ho⟩⟩
  · refine (FeedNo.specFeedNo (some ⟨g, 0, none⟩) 8 c ByteArray.empty t 0 F8.list W (by omega) (by decide) (by unfold maxLen; omega) (.inr (.inl (by omega))) hx).mono ?_
    rintro e w' ⟨rfl, hb⟩
    exact ⟨hb, .inl rfl⟩
set_option maxHeartbeats 4000000 in
theorem state (p B K : Nat) (w : World) (hK : K ≤ 800000) (hc : Cur w p B K) :
    Calls Tryd.prog 95 #[.pointer (some ⟨p, 0, none⟩)] w fun e w' => ∃ (g c : Nat) (l : List Int) (rs : ByteArray) (Lr : Int), e = .returned (.agg #[.slice (some ⟨g, 0, none⟩) 8 c, .string rs, .int .i64 Lr]) ∧ rs.size ≤ 1000 ∧ w'.ownsRow w.heap.size 3 1 (.slice (some ⟨g, 0, none⟩) 8 c) 8 (ints l) ∧ Cur w' p B (K + 200) ∧ Upd p w w' := by
  have NW := Lib.hid (fun W => Words.specNew W)
  have FS := Lib.hid fedNewS
  have hpw := hc.lt
  unfold stV at NW
  go_enter Tryd.func95, Tryd.ntmps95
  go_wp2_with fail
  obtain ⟨k0, y0, z0⟩ := boxed w #[.slice none 0 0, .string ⟨#[]⟩, .int .i64 0] 60
  generalize World.alloc w _ = W0 at *
  refine (NW.out W0).mono ?_
  rintro e w1 ⟨g1, c1, rfl, o1, hb⟩
  have hc1 := cur_bel (cur_bel hc y0) hb
  have hu1 := upd_bel (upd_bel (Upd.refl p w) y0) hb
  have K1 := Lib.hid (LawFeed.bx k0 hb)
  have s1 := hb.size
  have O1 := Lib.hid o1
  clear k0 y0 hb hc o1
  go_wp2_with fail
  refine (text p B K w1 (by omega) hc1).mono ?_
  rintro e w2 ⟨t, rfl, ht, hc2, hu⟩
  have s2 := hu.size
  have hu2 := hu1.trans hu
  have K2 := Lib.hid ((hu.block w.heap.size (LawFeed.bx_lt K1.out) (by omega)).trans K1.out)
  have O2 := Lib.hid (own_upd O1.out hu (by omega))
  clear hc1 hu1 hu K1 O1
  go_wp2_with fail
  refine (FS.out g1 c1 t w2 ht (Rd.own O2.out)).mono ?_
  rintro e w3 ⟨hb, he⟩
  have hc3 := cur_bel hc2 hb
  have hu3 := upd_bel hu2 hb
  have s3 := hb.size
  have K3 := Lib.hid (LawFeed.bx K2.out hb)
  clear hc2 hu2 hb K2 O2 FS
  have HC := Lib.hid hc3
  have HU := Lib.hid hu3
  clear hc3 hu3
  have l3 := LawFeed.bx_lt K3.out
  obtain ⟨p0, p1, p2⟩ := row3 K3.out
  rcases he with rfl | ⟨g', c', l, rs, Lr, rfl, hrs, hL0, hL1, o3⟩
  · go_wp2_with fail
    obtain ⟨k4, y4, z4⟩ := boxed w3 #[.slice none 0 0, .string ⟨#[]⟩, .int .i64 0] 60
    generalize World.alloc w3 _ = W3 at *
    refine (NW.out W3).mono ?_
    rintro e w4 ⟨g', c', rfl, o4, hb⟩
    have s4 := hb.size
    have HC := Lib.hid (cur_bel (cur_bel HC.out y4) hb)
    have HU := Lib.hid (upd_bel (upd_bel HU.out y4) hb)
    have k5 := LawFeed.bx k4 hb
    have l4 := LawFeed.bx_lt k5
    have K5 : Hid ((((w4.setCell ⟨w3.heap.size, 0, none⟩ (.slice (some ⟨g', 0, none⟩) 8 c')).setCell ⟨w3.heap.size, 1, none⟩ (.string ByteArray.empty)).setCell ⟨w3.heap.size, 2, none⟩ (.int .i64 0)).heap[w3.heap.size]? = some (.cells #[.slice (some ⟨g', 0, none⟩) 8 c', .string ByteArray.empty, .int .i64 0] 60 (0, 0))) := Lib.hid (heap_set (heap_set (heap_set k5 0 (.slice (some ⟨g', 0, none⟩) 8 c')) 1 (.string ByteArray.empty)) 2 (.int .i64 0))
    have HC := Lib.hid (cur_set (cur_set (cur_set HC.out (b := w3.heap.size) (i := 0) (by omega) (.slice (some ⟨g', 0, none⟩) 8 c')) (b := w3.heap.size) (i := 1) (by omega) (.string ByteArray.empty)) (b := w3.heap.size) (i := 2) (by omega) (.int .i64 0))
    have HU := Lib.hid (upd_set (upd_set (upd_set HU.out (b := w3.heap.size) (i := 0) (by omega) (.slice (some ⟨g', 0, none⟩) 8 c')) (b := w3.heap.size) (i := 1) (by omega) (.string ByteArray.empty)) (b := w3.heap.size) (i := 2) (by omega) (.int .i64 0))
    have r4 := o4.lt g' rfl
    obtain ⟨q0, q1, q2⟩ := row3 k5
    have KR := Lib.hid (LawFeed.bx (LawFeed.bx K3.out y4) hb)
    clear k4 y4 hb NW p0 p1 p2
    have f0 := frozen_of_row w4 _ 0 _ _ k5
    have f1 := frozen_of_row w4 _ 1 _ _ k5
    have f2 := frozen_of_row w4 _ 2 _ _ k5
    have O5 := Lib.hid (own_base (base' := w.heap.size + 1) (own_heap o4 ((Below.heap_setCell ((w4.setCell ⟨w3.heap.size, 0, none⟩ (.slice (some ⟨g', 0, none⟩) 8 c')).setCell ⟨w3.heap.size, 1, none⟩ (.string ByteArray.empty)) ⟨w3.heap.size, 2, none⟩ (.int .i64 0) g' (by dsimp only; omega)).trans ((Below.heap_setCell (w4.setCell ⟨w3.heap.size, 0, none⟩ (.slice (some ⟨g', 0, none⟩) 8 c')) ⟨w3.heap.size, 1, none⟩ (.string ByteArray.empty) g' (by dsimp only; omega)).trans (Below.heap_setCell w4 ⟨w3.heap.size, 0, none⟩ (.slice (some ⟨g', 0, none⟩) 8 c') g' (by dsimp only; omega))))) (by omega))
    have KR := Lib.hid ((Below.heap_setCell ((w4.setCell ⟨w3.heap.size, 0, none⟩ (.slice (some ⟨g', 0, none⟩) 8 c')).setCell ⟨w3.heap.size, 1, none⟩ (.string ByteArray.empty)) ⟨w3.heap.size, 2, none⟩ (.int .i64 0) w.heap.size (by dsimp only; omega)).trans ((Below.heap_setCell (w4.setCell ⟨w3.heap.size, 0, none⟩ (.slice (some ⟨g', 0, none⟩) 8 c')) ⟨w3.heap.size, 1, none⟩ (.string ByteArray.empty) w.heap.size (by dsimp only; omega)).trans ((Below.heap_setCell w4 ⟨w3.heap.size, 0, none⟩ (.slice (some ⟨g', 0, none⟩) 8 c') w.heap.size (by dsimp only; omega)).trans KR.out)))
    clear k5 o4
    go_wp2_with fail
    clear q0 q1 q2 f0 f1 f2
    have hz : (((w4.setCell ⟨w3.heap.size, 0, none⟩ (.slice (some ⟨g', 0, none⟩) 8 c')).setCell ⟨w3.heap.size, 1, none⟩ (.string ByteArray.empty)).setCell ⟨w3.heap.size, 2, none⟩ (.int .i64 0)).heap.size = w4.heap.size := by simp [World.setCell]
    generalize hW : World.setCell (World.setCell (World.setCell w4 _ _) _ _) _ _ = W5 at *
    clear hW
    have hrs : ByteArray.empty.size ≤ 1000 := by decide
    generalize ByteArray.empty = rs at *
    obtain ⟨l, hl⟩ : ∃ l, l = Words.firsts := ⟨_, rfl⟩
    rw [← hl] at O5
    obtain ⟨Lr, hLr, hL0, hL1⟩ : ∃ Lr : Int, Lr = 0 ∧ 0 ≤ Lr ∧ Lr ≤ 1000 := ⟨0, rfl, by omega, by omega⟩
    rw [← hLr] at K5
    clear hLr hl
    have hgb : g' ≠ w3.heap.size := by omega
    refine (one p B (K + 100) 20 W5 (by omega) (by omega) HC.out).mono ?_
    rintro e w6 ⟨b, rfl, hc6, hu⟩
    have K6 := Lib.hid ((hu.block w3.heap.size (LawFeed.bx_lt K5.out) (by omega)).trans K5.out)
    have R6 := Lib.hid ((hu.block w.heap.size (LawFeed.bx_lt KR.out) (by omega)).trans KR.out)
    have O6 := Lib.hid (own_upd O5.out hu (by omega))
    have HU := Lib.hid (HU.out.trans hu)
    have HC := Lib.hid hc6
    have s6 := hu.size
    have l6 := LawFeed.bx_lt K6.out
    have lg := O6.out.lt g' rfl
    clear hu hc6 K5 O5 KR
    obtain ⟨q0, q1, q2⟩ := row3 K6.out
    cases b
    · obtain ⟨r0, r1, r2⟩ := row3 R6.out
      have e0 := frozen_of_row w6 _ 0 _ _ R6.out
      have e1 := frozen_of_row w6 _ 1 _ _ R6.out
      have e2 := frozen_of_row w6 _ 2 _ _ R6.out
      go_wp2
      refine bodyPost_ret (v := .agg #[.slice (some ⟨g', 0, none⟩) 8 c', .string rs, .int .i64 Lr]) (by simp [results, Tryd.results95, go_sem, r0, r1, r2]) rfl ⟨g', c', l, rs, Lr, rfl, hrs, own_base (own_heap O6.out ?_) (by omega), (cur_set (cur_set (cur_set HC.out (by omega) _) (by omega) _) (by omega) _).mono (by omega), upd_set (upd_set (upd_set HU.out (Nat.le_refl _) _) (Nat.le_refl _) _) (Nat.le_refl _) _⟩
      rw [Below.heap_setCell _ _ _ _ (by dsimp only; omega), Below.heap_setCell _ _ _ _ (by dsimp only; omega), Below.heap_setCell _ _ _ _ (by dsimp only; omega)]
    · have HD : Hid (Cur w6.drew p B (K + 100 + 2)) := Lib.hid (HC.out.alike rfl)
      have f2 := frozen_of_row w6 _ 2 _ _ K6.out
      go_wp2_with fail
      go_region_with (go_at_call 66; refine (pick p B (K + 100 + 2) 3 _ (by omega) (by omega) (by exact HD.out)).mono ?_; rintro e w7 ⟨x, rfl, x0, x1, hc7, hu7⟩; have x2 : x ≤ 2 := (by omega); have q27 : w7.cell? ⟨w3.heap.size, 2, none⟩ = some (.int .i64 Lr) := (World.cell?_of_block (a := ⟨w3.heap.size, 2, none⟩) (hu7.block w3.heap.size l6 (by omega))).trans q2; have f27 : w7.frozen? ⟨w3.heap.size, 2, none⟩ = false := (World.frozen?_of_block (a := ⟨w3.heap.size, 2, none⟩) (hu7.block w3.heap.size l6 (by omega))).trans f2)
      all_goals
        have z7 : w6.heap.size ≤ w7.heap.size := hu7.size
        generalize IntKind.wrap .i64 (Lr + x) = Lz at *
        have k7 : w7.heap[w3.heap.size]? = some (.cells #[.slice (some ⟨g', 0, none⟩) 8 c', .string rs, .int .i64 Lr] 60 (0, 0)) := (hu7.block w3.heap.size l6 (by omega)).trans K6.out
        have K8 : Hid ((w7.setCell ⟨w3.heap.size, 2, none⟩ (.int .i64 Lz)).heap[w3.heap.size]? = some (.cells #[.slice (some ⟨g', 0, none⟩) 8 c', .string rs, .int .i64 Lz] 60 (0, 0))) := Lib.hid (heap_set k7 2 _)
        have r7 : w7.heap[w.heap.size]? = some (.cells #[.slice none 0 0, .string ⟨#[]⟩, .int .i64 0] 60 (0, 0)) := (hu7.block w.heap.size (LawFeed.bx_lt R6.out) (by omega)).trans R6.out
        have R8 := Lib.hid ((Below.heap_setCell w7 ⟨w3.heap.size, 2, none⟩ (.int .i64 Lz) w.heap.size (by dsimp only; omega)).trans r7)
        have o7 := own_upd (w := w6.drew) O6.out hu7 (by omega)
        have O8 := Lib.hid (own_heap o7 (Below.heap_setCell w7 ⟨w3.heap.size, 2, none⟩ (.int .i64 Lz) g' (by dsimp only; omega)))
        have HU8 := Lib.hid (upd_set (b := w3.heap.size) (i := 2) ((HU.out.alike (w2 := w6.drew) rfl rfl rfl rfl).trans hu7) (by omega) (.int .i64 Lz))
        have HC8 := Lib.hid (cur_set (b := w3.heap.size) (i := 2) hc7 (by omega) (.int .i64 Lz))
        clear k7 r7 o7 hu7 hc7 HU HC HD K6 R6 O6 q0 q1 q2 f2 q27 f27
        generalize hW : World.setCell w7 _ _ = W8 at *
        clear hW
        have lg8 := O8.out.lt g' rfl
        have l8 := LawFeed.bx_lt K8.out
        obtain ⟨q0, q1, q2⟩ := row3 K8.out
        obtain ⟨r0, r1, r2⟩ := row3 R8.out
        have e0 := frozen_of_row W8 _ 0 _ _ R8.out
        have e1 := frozen_of_row W8 _ 1 _ _ R8.out
        have e2 := frozen_of_row W8 _ 2 _ _ R8.out
        go_wp2
        refine bodyPost_ret (v := .agg #[.slice (some ⟨g', 0, none⟩) 8 c', .string rs, .int .i64 Lz]) (by simp [results, Tryd.results95, go_sem, r0, r1, r2]) rfl ⟨g', c', l, rs, Lz, rfl, hrs, own_base (own_heap O8.out ?_) (by omega), (cur_set (cur_set (cur_set HC8.out (by omega) _) (by omega) _) (by omega) _).mono (by omega), upd_set (upd_set (upd_set HU8.out (Nat.le_refl _) _) (Nat.le_refl _) _) (Nat.le_refl _) _⟩
        rw [Below.heap_setCell _ _ _ _ (by dsimp only; omega), Below.heap_setCell _ _ _ _ (by dsimp only; omega), Below.heap_setCell _ _ _ _ (by dsimp only; omega)]
  · have O3 := Lib.hid o3
    have hgb : g' ≠ w3.heap.size := by have := o3.lt g' rfl; omega
    clear o3 NW
    go_wp2_with fail
    clear p0 p1 p2
    obtain ⟨k4, y4, z4⟩ := boxed w3 #[.slice (some ⟨g', 0, none⟩) 8 c', .string rs, .int .i64 Lr] 60
    generalize World.alloc w3 _ = W5 at *
    have HC := Lib.hid (cur_bel HC.out y4)
    have HU := Lib.hid (upd_bel HU.out y4)
    have K5 := Lib.hid k4
    have O5 := Lib.hid (own_base (base' := w.heap.size + 1) (own_below O3.out y4 (Nat.le_refl _)) (by omega))
    have KR := Lib.hid (LawFeed.bx K3.out y4)
    clear k4 y4 O3
    refine (one p B (K + 100) 20 W5 (by omega) (by omega) HC.out).mono ?_
    rintro e w6 ⟨b, rfl, hc6, hu⟩
    have K6 := Lib.hid ((hu.block w3.heap.size (LawFeed.bx_lt K5.out) (by omega)).trans K5.out)
    have R6 := Lib.hid ((hu.block w.heap.size (LawFeed.bx_lt KR.out) (by omega)).trans KR.out)
    have O6 := Lib.hid (own_upd O5.out hu (by omega))
    have HU := Lib.hid (HU.out.trans hu)
    have HC := Lib.hid hc6
    have s6 := hu.size
    have l6 := LawFeed.bx_lt K6.out
    have lg := O6.out.lt g' rfl
    clear hu hc6 K5 O5 KR
    obtain ⟨q0, q1, q2⟩ := row3 K6.out
    cases b
    · obtain ⟨r0, r1, r2⟩ := row3 R6.out
      have e0 := frozen_of_row w6 _ 0 _ _ R6.out
      have e1 := frozen_of_row w6 _ 1 _ _ R6.out
      have e2 := frozen_of_row w6 _ 2 _ _ R6.out
      go_wp2
      refine bodyPost_ret (v := .agg #[.slice (some ⟨g', 0, none⟩) 8 c', .string rs, .int .i64 Lr]) (by simp [results, Tryd.results95, go_sem, r0, r1, r2]) rfl ⟨g', c', l, rs, Lr, rfl, hrs, own_base (own_heap O6.out ?_) (by omega), (cur_set (cur_set (cur_set HC.out (by omega) _) (by omega) _) (by omega) _).mono (by omega), upd_set (upd_set (upd_set HU.out (Nat.le_refl _) _) (Nat.le_refl _) _) (Nat.le_refl _) _⟩
      rw [Below.heap_setCell _ _ _ _ (by dsimp only; omega), Below.heap_setCell _ _ _ _ (by dsimp only; omega), Below.heap_setCell _ _ _ _ (by dsimp only; omega)]
    · have HD : Hid (Cur w6.drew p B (K + 100 + 2)) := Lib.hid (HC.out.alike rfl)
      have f2 := frozen_of_row w6 _ 2 _ _ K6.out
      go_wp2_with fail
      go_region_with (go_at_call 66; refine (pick p B (K + 100 + 2) 3 _ (by omega) (by omega) (by exact HD.out)).mono ?_; rintro e w7 ⟨x, rfl, x0, x1, hc7, hu7⟩; have x2 : x ≤ 2 := (by omega); have q27 : w7.cell? ⟨w3.heap.size, 2, none⟩ = some (.int .i64 Lr) := (World.cell?_of_block (a := ⟨w3.heap.size, 2, none⟩) (hu7.block w3.heap.size l6 (by omega))).trans q2; have f27 : w7.frozen? ⟨w3.heap.size, 2, none⟩ = false := (World.frozen?_of_block (a := ⟨w3.heap.size, 2, none⟩) (hu7.block w3.heap.size l6 (by omega))).trans f2)
      all_goals
        have z7 : w6.heap.size ≤ w7.heap.size := hu7.size
        generalize IntKind.wrap .i64 (Lr + x) = Lz at *
        have k7 : w7.heap[w3.heap.size]? = some (.cells #[.slice (some ⟨g', 0, none⟩) 8 c', .string rs, .int .i64 Lr] 60 (0, 0)) := (hu7.block w3.heap.size l6 (by omega)).trans K6.out
        have K8 : Hid ((w7.setCell ⟨w3.heap.size, 2, none⟩ (.int .i64 Lz)).heap[w3.heap.size]? = some (.cells #[.slice (some ⟨g', 0, none⟩) 8 c', .string rs, .int .i64 Lz] 60 (0, 0))) := Lib.hid (heap_set k7 2 _)
        have r7 : w7.heap[w.heap.size]? = some (.cells #[.slice none 0 0, .string ⟨#[]⟩, .int .i64 0] 60 (0, 0)) := (hu7.block w.heap.size (LawFeed.bx_lt R6.out) (by omega)).trans R6.out
        have R8 := Lib.hid ((Below.heap_setCell w7 ⟨w3.heap.size, 2, none⟩ (.int .i64 Lz) w.heap.size (by dsimp only; omega)).trans r7)
        have o7 := own_upd (w := w6.drew) O6.out hu7 (by omega)
        have O8 := Lib.hid (own_heap o7 (Below.heap_setCell w7 ⟨w3.heap.size, 2, none⟩ (.int .i64 Lz) g' (by dsimp only; omega)))
        have HU8 := Lib.hid (upd_set (b := w3.heap.size) (i := 2) ((HU.out.alike (w2 := w6.drew) rfl rfl rfl rfl).trans hu7) (by omega) (.int .i64 Lz))
        have HC8 := Lib.hid (cur_set (b := w3.heap.size) (i := 2) hc7 (by omega) (.int .i64 Lz))
        clear k7 r7 o7 hu7 hc7 HU HC HD K6 R6 O6 q0 q1 q2 f2 q27 f27
        generalize hW : World.setCell w7 _ _ = W8 at *
        clear hW
        have lg8 := O8.out.lt g' rfl
        have l8 := LawFeed.bx_lt K8.out
        obtain ⟨q0, q1, q2⟩ := row3 K8.out
        obtain ⟨r0, r1, r2⟩ := row3 R8.out
        have e0 := frozen_of_row W8 _ 0 _ _ R8.out
        have e1 := frozen_of_row W8 _ 1 _ _ R8.out
        have e2 := frozen_of_row W8 _ 2 _ _ R8.out
        go_wp2
        refine bodyPost_ret (v := .agg #[.slice (some ⟨g', 0, none⟩) 8 c', .string rs, .int .i64 Lz]) (by simp [results, Tryd.results95, go_sem, r0, r1, r2]) rfl ⟨g', c', l, rs, Lz, rfl, hrs, own_base (own_heap O8.out ?_) (by omega), (cur_set (cur_set (cur_set HC8.out (by omega) _) (by omega) _) (by omega) _).mono (by omega), upd_set (upd_set (upd_set HU8.out (Nat.le_refl _) _) (Nat.le_refl _) _) (Nat.le_refl _) _⟩
        rw [Below.heap_setCell _ _ _ _ (by dsimp only; omega), Below.heap_setCell _ _ _ _ (by dsimp only; omega), Below.heap_setCell _ _ _ _ (by dsimp only; omega)]
end Go.Proofs.YtfoclgijhkibeabDoor.Draw5
