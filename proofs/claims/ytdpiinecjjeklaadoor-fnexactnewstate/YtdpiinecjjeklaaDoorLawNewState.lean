/-
  The law FnExactNewState: its walk.
-/
import Derived.Test.YtdpiinecjjeklaaDoorWords
namespace Go.Proofs.YtdpiinecjjeklaaDoor.LawNewState
open Go.ChangeShapes Go.WideShapes Go.ChangeAt Go.RowKit
open Go.Proofs.YtdpiinecjjeklaaDoor.Mem Go.Proofs.YtdpiinecjjeklaaDoor.Ints Go.Proofs.YtdpiinecjjeklaaDoor.State Go.Proofs.YtdpiinecjjeklaaDoor.Mark Go.Proofs.YtdpiinecjjeklaaDoor.Words
set_option linter.unusedVariables false
theorem rangeAt_heap {w w' : World} {b : Nat} {vs : List Value} (h : w'.heap[b]? = w.heap[b]?) (hr : w.rangeAt b 0 vs) : w'.rangeAt b 0 vs := fun j v hv => by
  have := hr j v hv
  simp only [World.cell?] at this ⊢
  rw [h]; exact this

/-- A boxed value. -/
theorem boxed (w : World) (cs : Array Value) (t : Nat) : (w.alloc (.cells cs t)).heap[w.heap.size]? = some (.cells cs t (0, 0)) ∧ Below w.heap.size w (w.alloc (.cells cs t)) ∧ (w.alloc (.cells cs t)).heap.size = w.heap.size + 1 :=
  ⟨heap_alloc_new w _, (Below.refl _ w).alloc (Nat.le_refl _) _, by simp⟩

theorem row3 {w : World} {b t : Nat} {x y z : Value} (h : w.heap[b]? = some (.cells #[x, y, z] t (0, 0))) : w.cell? ⟨b, 0, none⟩ = some x ∧ w.cell? ⟨b, 1, none⟩ = some y ∧ w.cell? ⟨b, 2, none⟩ = some z :=
  ⟨cell_of_row w _ 0 _ _ _ h, cell_of_row w _ 1 _ _ _ h, cell_of_row w _ 2 _ _ _ h⟩
set_option maxHeartbeats 1000000 in
theorem walk (w : World) (hr : w.rangeAt 0 0 (u32s firsts)) :
    Calls Tryd.prog 3 #[] w fun e w' => e = .returned (.bool true) ∧ Below w.heap.size w w' := by
  have h0 : 0 < w.heap.size := World.block_lt_of_cell? w ⟨0, 0, none⟩ (hr 0 _ rfl)
  have HR := Lib.hid (fun W (h : Below w.heap.size w W) => implNew W (rangeAt_heap (h.block 0 h0) hr))
  clear hr
  have HS := Lib.hid specNew
  unfold stV at HR HS
  go_enter Tryd.func3, Tryd.ntmps3
  go_wp2_with fail
  refine (HS.out w).mono ?_
  rintro e1 w1 ⟨gs, cs, rfl, os, hb1⟩
  have R1 := Rd.own os
  have hs1 := hb1.size
  go_wp2_with fail
  obtain ⟨x1, y1, z1⟩ := boxed w1 #[.slice (some ⟨gs, 0, none⟩) 8 cs, .string ByteArray.empty, .int .i64 0] 24
  generalize World.alloc w1 _ = W1 at *
  have R1' := R1.below y1 (Nat.le_refl _)
  have B1 : Below w.heap.size w W1 := hb1.trans (y1.mono hs1)
  clear hb1 y1 os R1
  refine (HR.out W1 B1).mono ?_
  rintro e2 w2 ⟨gi, ci, rfl, oi, hb2⟩
  have hgi : W1.heap.size ≤ gi := by
    obtain ⟨g', c', e, h⟩ := own_slice oi (by omega)
    obtain ⟨rfl, _⟩ : gi = g' ∧ ci = c' := by simpa using e
    exact h
  have lgi := own_lt oi
  have hs2 := hb2.size
  have R2 := R1'.below hb2 (by omega)
  have B2 : Below w.heap.size w w2 := B1.trans (hb2.mono (by omega))
  have x2 := (hb2.block w1.heap.size (by omega)).trans x1
  obtain ⟨p0, p1, p2⟩ := row3 x2
  obtain ⟨q0, q1, q2⟩ := row3 ((Below.heap_alloc w2 (.cells #[.slice (some ⟨gi, 0, none⟩) 8 ci, .string ByteArray.empty, .int .i64 0] 24) w1.heap.size (by omega)).trans x2)
  have HE := Lib.hid (fun g g' c c' W B B' (h : Rd W B 1 (some ⟨g, 0, none⟩) 8 (ints firsts)) (h' : Rd W B' 1 (some ⟨g', 0, none⟩) 8 (ints firsts)) (hB : B ≤ W.heap.size) (hB' : B' ≤ W.heap.size) => eqState (some ⟨g, 0, none⟩) (some ⟨g', 0, none⟩) 8 8 c c' ByteArray.empty ByteArray.empty 0 0 firsts firsts B B' W (by omega) (by unfold maxLen; omega) h h' hB hB' true (by simp))
  have HM := Lib.hid (fun g c base W (h : W.ownsRow base 3 1 (.slice (some ⟨g, 0, none⟩) 8 c) 8 (ints firsts)) => markState g 8 c ByteArray.empty 0 firsts 1 base W (by omega) (by omega) h)
  have HH := Lib.hid (fun g c base W (h : W.ownsRow base 3 1 (.slice (some ⟨g, 0, none⟩) 8 c) 8 (ints (marks 1 8))) => heldState (some ⟨g, 0, none⟩) 8 c ByteArray.empty 0 1 0 W (by omega) (by omega) (Rd.own h))
  unfold stV at HE HM HH
  clear x1 R1' B1 hb2
  have HX2 := Lib.hid x2
  have HR2 := Lib.hid R2
  have HOI := Lib.hid oi
  clear x2 R2 oi
  go_wp2_with fail
  obtain ⟨x3, y3, z3⟩ := boxed w2 #[.slice (some ⟨gi, 0, none⟩) 8 ci, .string ByteArray.empty, .int .i64 0] 24
  generalize World.alloc w2 _ = W2 at *
  clear p0 p1 p2 q0 q1 q2
  have o2 := own_heap HOI.out (y3.block gi lgi)
  have R2 := HR2.out.below y3 (by omega)
  have B2' : Below w.heap.size w W2 := B2.trans (y3.mono (by omega))
  have x2 := (y3.block w1.heap.size (by omega)).trans HX2.out
  clear HOI HR2 HX2 y3 B2
  refine (HE.out gi gs ci cs W2 W2.heap.size w1.heap.size (Rd.own o2) R2 (Nat.le_refl _) (by omega)).mono ?_
  rintro e3 w3 ⟨rfl, hb3⟩
  have hs3 := hb3.size
  have o3 := own_heap o2 (hb3.block gi (by omega))
  have R3 := R2.below hb3 (by omega)
  have B3 := B2'.trans (hb3.mono (by omega))
  have x3' := (hb3.block w1.heap.size (by omega)).trans x2
  have v3 := (hb3.block w2.heap.size (by omega)).trans x3
  obtain ⟨p0, p1, p2⟩ := row3 v3
  clear hb3 o2 R2 x2 x3 B2'
  have HO3 := Lib.hid o3
  have HR3 := Lib.hid R3
  have HX3 := Lib.hid x3'
  have HV3 := Lib.hid v3
  clear o3 R3 x3' v3
  go_wp2_with fail
  refine (HM.out gi ci W1.heap.size w3 HO3.out).mono ?_
  rintro e4 w4 ⟨rfl, o4, ot4, hb4⟩
  have hs4 := hb4.size
  have R4 := HR3.out.below hb4 (by omega)
  have B4 := B3.trans (hb4.mono (by omega))
  have x4 := (ot4 w1.heap.size (by omega) (by omega)).trans HX3.out
  have v4 := (ot4 w2.heap.size (by omega) (by omega)).trans HV3.out
  clear p0 p1 p2 HO3 HR3 HX3 HV3 ot4 hb4 B3
  obtain ⟨p0, p1, p2⟩ := row3 v4
  have HO4 := Lib.hid o4
  have HR4 := Lib.hid R4
  have HX4 := Lib.hid x4
  have HV4 := Lib.hid v4
  clear o4 R4 x4 v4
  go_wp2_with fail
  refine (HH.out gi ci W1.heap.size w4 HO4.out).mono ?_
  rintro e5 w5 ⟨rfl, hb5⟩
  have hs5 := hb5.size
  have o5 := own_heap HO4.out (hb5.block gi (by omega))
  have R5 := HR4.out.below hb5 (by omega)
  have B5 := B4.trans (hb5.mono (by omega))
  have x5 := (hb5.block w1.heap.size (by omega)).trans HX4.out
  have v5 := (hb5.block w2.heap.size (by omega)).trans HV4.out
  clear p0 p1 p2 HO4 HR4 HX4 HV4 hb5 B4
  have HO5 := Lib.hid o5
  have HR5 := Lib.hid R5
  have HX5 := Lib.hid x5
  have HV5 := Lib.hid v5
  clear o5 R5 x5 v5
  go_wp2_with fail
  refine (HR.out w5 B5).mono ?_
  rintro e6 w6 ⟨gh, ch, rfl, oh, hb6⟩
  have hs6 := hb6.size
  have o6 := own_heap HO5.out (hb6.block gi (by omega))
  have R6 := HR5.out.below hb6 (by omega)
  have B6 := B5.trans (hb6.mono (by omega))
  have x6 := (hb6.block w1.heap.size (by omega)).trans HX5.out
  have v6 := (hb6.block w2.heap.size (by omega)).trans HV5.out
  have lgh := own_lt oh
  clear HO5 HR5 HX5 HV5 hb6 B5
  obtain ⟨p0, p1, p2⟩ := row3 x6
  obtain ⟨q0, q1, q2⟩ := row3 ((Below.heap_alloc w6 (.cells #[.slice (some ⟨gh, 0, none⟩) 8 ch, .string ByteArray.empty, .int .i64 0] 24) w1.heap.size (by omega)).trans x6)
  have HO6 := Lib.hid o6
  have HOH := Lib.hid oh
  have HR6 := Lib.hid R6
  have HV6 := Lib.hid v6
  clear o6 R6 x6 v6 oh
  go_wp2_with fail
  obtain ⟨x7, y7, z7⟩ := boxed w6 #[.slice (some ⟨gh, 0, none⟩) 8 ch, .string ByteArray.empty, .int .i64 0] 24
  generalize World.alloc w6 _ = W6 at *
  clear p0 p1 p2 q0 q1 q2
  have oh7 := own_heap HOH.out (y7.block gh lgh)
  have o7 := own_heap HO6.out (y7.block gi (by omega))
  have R7 := HR6.out.below y7 (by omega)
  have B7 : Below w.heap.size w W6 := B6.trans (y7.mono (by omega))
  have v7 := (y7.block w2.heap.size (by omega)).trans HV6.out
  clear HOH HO6 HR6 HV6 y7 B6 x7
  refine (HE.out gh gs ch cs W6 W6.heap.size w1.heap.size (Rd.own oh7) R7 (Nat.le_refl _) (by omega)).mono ?_
  rintro e8 w8 ⟨rfl, hb8⟩
  have hs8 := hb8.size
  have o8 := own_heap o7 (hb8.block gi (by omega))
  have B8 := B7.trans (hb8.mono (by omega))
  obtain ⟨p0, p1, p2⟩ := row3 ((hb8.block w2.heap.size (by omega)).trans v7)
  clear hb8 o7 R7 v7 B7 oh7
  have HO8 := Lib.hid o8
  clear o8
  go_wp2_with fail
  refine (HH.out gi ci W1.heap.size w8 HO8.out).mono ?_
  rintro e9 w9 ⟨rfl, hb9⟩
  have B9 := B8.trans (hb9.mono (by omega))
  clear HO8 p0 p1 p2 B8 hb9
  go_wp2
  go_ret
  exact ⟨rfl, B9⟩
end Go.Proofs.YtdpiinecjjeklaaDoor.LawNewState
