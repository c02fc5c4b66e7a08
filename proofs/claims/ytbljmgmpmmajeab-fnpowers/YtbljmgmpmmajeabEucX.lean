/-
  The extended Euclidean algorithm by the program: the good case.
-/
import Derived.Test.YtbljmgmpmmajeabEuc
import Derived.Test.YtbljmgmpmmajeabHl
import Derived.IntWalk
import Derived.Deep.RegionHeld3
import Derived.BigRegion
import Derived.Deep.RegionLaw
import Derived.StillTailTactics
import Derived.Deep.QuietTactic
import Derived.BigQuiet
namespace Go.Proofs.Ytbljmgmpmmajeab.EucX
open Go.ChangeShapes Go.WideShapes Go.ChangeAt Go.RowKit
open Go.Proofs.Ytbljmgmpmmajeab.Mem Go.Proofs.Ytbljmgmpmmajeab.Ints Go.Proofs.Ytbljmgmpmmajeab.Num Go.Proofs.Ytbljmgmpmmajeab.Mod Go.Proofs.Ytbljmgmpmmajeab.Euc Go.Proofs.Ytbljmgmpmmajeab.Hl
set_option linter.unusedVariables false
set_option linter.unusedSimpArgs false
set_option maxRecDepth 100000
theorem row3 {W : World} {b t : Nat} {x y z : Value} (K : W.heap[b]? = some (.cells #[x, y, z] t)) : W.cell? ⟨b, 0, none⟩ = some x ∧ W.cell? ⟨b, 1, none⟩ = some y ∧ W.cell? ⟨b, 2, none⟩ = some z :=
  ⟨cell_of_row W _ 0 _ _ _ K, cell_of_row W _ 1 _ _ _ K, cell_of_row W _ 2 _ _ _ K⟩
theorem frz3 {W : World} {b t : Nat} {x y z : Value} (K : W.heap[b]? = some (.cells #[x, y, z] t)) : W.frozen? ⟨b, 0, none⟩ = false ∧ W.frozen? ⟨b, 1, none⟩ = false ∧ W.frozen? ⟨b, 2, none⟩ = false := by
  refine ⟨?_, ?_, ?_⟩ <;> simp [World.frozen?, K, go_sem]
theorem bx {W W' : World} {b : Nat} {o : Obj} (K : W.heap[b]? = some o) (hb : Below W.heap.size W W') : W'.heap[b]? = some o := (hb.block b (Array.getElem?_eq_some_iff.1 K).1).trans K
/-- A row of the algorithm in memory. -/
def B3 (wr : World) (b : Nat) (x y z : Int) : Prop := wr.heap[b]? = some (.cells #[.int .i64 x, .int .i64 y, .int .i64 z] 50)
theorem B3.set {wr : World} {b : Nat} {x y z : Int} (h : B3 wr b x y z) (x' y' z' : Int) : B3 (((wr.setCell ⟨b, 0, none⟩ (.int .i64 x')).setCell ⟨b, 1, none⟩ (.int .i64 y')).setCell ⟨b, 2, none⟩ (.int .i64 z')) b x' y' z' := by
  have h1 := heap_setCell_same wr b 0 _ _ (.int .i64 x') h
  have h2 := heap_setCell_same _ b 1 _ _ (.int .i64 y') h1
  have h3 := heap_setCell_same _ b 2 _ _ (.int .i64 z') h2
  simpa [B3] using h3
theorem B3.other {wr : World} {b c : Nat} {x y z : Int} {u v s : Value} (h : B3 wr b x y z) (hne : b ≠ c) : B3 (((wr.setCell ⟨c, 0, none⟩ u).setCell ⟨c, 1, none⟩ v).setCell ⟨c, 2, none⟩ s) b x y z := by
  unfold B3; rw [heap_setCell_other _ _ _ _ hne, heap_setCell_other _ _ _ _ hne, heap_setCell_other _ _ _ _ hne]; exact h
theorem B3.drew {wr : World} {b : Nat} {x y z : Int} (h : B3 wr b x y z) : B3 wr.drew b x y z := h
theorem al2 (w : World) (o o2 : Obj) : Below w.heap.size w ((w.alloc o).alloc o2) := ((Below.refl _ w).alloc (Nat.le_refl _) o).alloc (by simp) o2
theorem nw2 (w : World) (o o2 : Obj) : ((w.alloc o).alloc o2).heap[w.heap.size]? = some o ∧ ((w.alloc o).alloc o2).heap[w.heap.size + 1]? = some o2 := by
  refine ⟨bx (heap_alloc_new w o) ((Below.refl _ _).alloc (Nat.le_refl _) _), ?_⟩
  have := heap_alloc_new (w.alloc o) o2
  rwa [World.size_alloc] at this
theorem okE_of {n : Nat} (h : n ≤ 1000000) : okE n = true := by simp [okE]; omega
def Eu (f0 : Int × Int × Int) (r0 x0 y0 r1 x1 y1 : Int) : Prop := ∃ f : Nat, r1.toNat ≤ f ∧ eu f r0 x0 y0 r1 x1 y1 = f0
theorem Eu.done {f0 : Int × Int × Int} {r0 x0 y0 x1 y1 : Int} (h : Eu f0 r0 x0 y0 0 x1 y1) : (r0, x0, y0) = f0 := by
  obtain ⟨f, _, e⟩ := h; rw [← e, eu_end]
theorem Eu.step {f0 : Int × Int × Int} {r0 x0 y0 r1 x1 y1 : Int} (h : Eu f0 r0 x0 y0 r1 x1 y1) (hr : 0 < r1) (hl : r0 - r0 / r1 * r1 < r1) : Eu f0 r1 x1 y1 (r0 - r0 / r1 * r1) (x0 - r0 / r1 * x1) (y0 - r0 / r1 * y1) := by
  obtain ⟨f, hf, e⟩ := h
  obtain ⟨g, rfl⟩ : ∃ g, f = g + 1 := ⟨f - 1, by omega⟩
  rw [eu_step _ _ _ _ _ _ _ (by omega)] at e
  exact ⟨g, by omega, e⟩
/-- What is held while the exchange goes on: the first row till it is written, the second till it is. -/
def S2 (C8 C9 : World → Prop) (l : Array Bool) (w : World) : Prop := (l.getD 23 true = false → C8 w) ∧ (l.getD 24 true = false → C9 w)
theorem S2.inv {C8 C9 : World → Prop} {i : Nat} (h1 : i ≠ 23) (h2 : i ≠ 24) (l : Array Bool) (w : World) : S2 C8 C9 (l.setIfInBounds i true) w ↔ S2 C8 C9 l w := by
  unfold S2; rw [getD_set_ne true h1, getD_set_ne true h2]
theorem S2.t8 {C8 C9 : World → Prop} (l : Array Bool) (w : World) (h : l.getD 23 true = false) (s : S2 C8 C9 l w) : C8 w := s.1 h
theorem S2.t9 {C8 C9 : World → Prop} (l : Array Bool) (w : World) (h : l.getD 24 true = false) (s : S2 C8 C9 l w) : C9 w := s.2 h
def Cs (b : Nat) (x y z : Int) (w : World) : Prop := w.cell? ⟨b, 0, none⟩ = some (.int .i64 x) ∧ w.cell? ⟨b, 1, none⟩ = some (.int .i64 y) ∧ w.cell? ⟨b, 2, none⟩ = some (.int .i64 z)
theorem Cs.other {w : World} {b c : Nat} {x y z : Int} {u v s : Value} (h : Cs b x y z w) (hne : b ≠ c) : Cs b x y z (((w.setCell ⟨c, 0, none⟩ u).setCell ⟨c, 1, none⟩ v).setCell ⟨c, 2, none⟩ s) := by
  have e : (((w.setCell ⟨c, 0, none⟩ u).setCell ⟨c, 1, none⟩ v).setCell ⟨c, 2, none⟩ s).heap[b]? = w.heap[b]? := by rw [heap_setCell_other _ _ _ _ hne, heap_setCell_other _ _ _ _ hne, heap_setCell_other _ _ _ _ hne]
  obtain ⟨h0, h1, h2⟩ := h
  exact ⟨by rw [← h0]; simp only [World.cell?, e], by rw [← h1]; simp only [World.cell?, e], by rw [← h2]; simp only [World.cell?, e]⟩
theorem Cs.drew {w : World} {b : Nat} {x y z : Int} (h : Cs b x y z w) : Cs b x y z w.drew := h
set_option maxHeartbeats 4000000 in
theorem implYesP (a b : Nat) (h : 0 < a) (ha : a ≤ 1000000) (hb : b ≤ 1000000) (w : World) :
    Calls Try.prog 12 #[.int .i64 a, .int .i64 b] w fun e w' => e = .returned (.tuple #[.int .i64 (eu b a 1 0 b 0 1).1, .int .i64 (eu b a 1 0 b 0 1).2.1, .int .i64 (eu b a 1 0 b 0 1).2.2, .bool true]) ∧ Below w.heap.size w w' := by
  have Ea := Lib.hid (okE_of ha)
  have Eb := Lib.hid (okE_of hb)
  have HR := Lib.hid (rows_start a b ha hb (Or.inl h))
  have HE : Hid (Eu (eu b a 1 0 b 0 1) a 1 0 b 0 1) := Lib.hid ⟨b, by omega, rfl⟩
  have hab : ((a : Int) == 0) = false := by simp; omega
  generalize eu b (a : Int) 1 0 b 0 1 = f0 at *
  go_enter Try.func12, Try.ntmps12
  go_wp2_with fail
  refine (isEuclid _ _).mono ?_
  rintro e w' ⟨rfl, rfl⟩
  rw [Ea.out]
  go_wp2_with fail
  refine (isEuclid _ _).mono ?_
  rintro e w' ⟨rfl, rfl⟩
  rw [Eb.out]
  go_wp2_with fail
  obtain ⟨k0, k1⟩ := nw2 w (.cells #[.int .i64 (a : Int), .int .i64 1, .int .i64 0] 50) (.cells #[.int .i64 (b : Int), .int .i64 0, .int .i64 1] 50)
  have B0 := Lib.hid (al2 w (.cells #[.int .i64 (a : Int), .int .i64 1, .int .i64 0] 50) (.cells #[.int .i64 (b : Int), .int .i64 0, .int .i64 1] 50))
  have K0 : Hid (B3 _ w.heap.size (a : Int) 1 0) := Lib.hid k0
  have K1 : Hid (B3 _ (w.heap.size + 1) b 0 1) := Lib.hid k1
  clear k0 k1 hab Ea Eb
  generalize World.alloc (World.alloc w _) _ = W0 at *
  go_loopw [10] (fun q wr => ∃ (r0 x0 y0 r1 x1 y1 : Int), Hid (Num.Rows a b r0 x0 y0 r1 x1 y1) ∧ Hid (Eu f0 r0 x0 y0 r1 x1 y1) ∧ Hid (B3 wr w.heap.size r0 x0 y0) ∧ Hid (B3 wr (w.heap.size + 1) r1 x1 y1) ∧ Hid (Below w.heap.size w wr)) (fun _ wr => match wr.cell? ⟨w.heap.size + 1, 0, none⟩ with | some v => (intOf v).toNat | none => 0)
  case atStart => exact ⟨_, _, _, _, _, _, HR, HE, K0, K1, B0⟩
  case round =>
    obtain ⟨r0, x0, y0, r1, x1, y1, GR, GE, G0, G1, GB⟩ := hrel
    clear HR HE K0 K1 B0
    obtain ⟨c0, c1, c2⟩ := row3 G0.out
    obtain ⟨c3, c4, c5⟩ := row3 G1.out
    by_cases hz : r1 = 0
    · subst hz
      have E := Lib.hid GE.out.done
      go_wp2
      go_quiet (fail)
      go_wp2
      refine bodyPost_ret (v := .tuple #[.int .i64 r0, .int .i64 x0, .int .i64 y0, .bool true]) (by simp [results, Try.results12, go_sem]) rfl ⟨by rw [← E.out], ?_⟩
      exact ⟨GB.out.os, GB.out.tape, GB.out.output, GB.out.size, GB.out.block⟩
    · obtain ⟨⟨a1, a2, a3, a4, a5, a6, a7, a8⟩, ⟨q1, q2⟩, ⟨m1, m2⟩, ⟨m3, m4⟩, ⟨m5, m6⟩, ⟨d1, d2⟩, NR⟩ := rows_step (by omega) hb GR.out hz
      have HN := Lib.hid NR
      have HS := Lib.hid (GE.out.step a3 d2)
      obtain ⟨f0_, f1_, f2_⟩ := frz3 G0.out
      obtain ⟨f3_, f4_, f5_⟩ := frz3 G1.out
      clear NR
      go_wp2_with fail
      generalize r0 / r1 = q at *
      have hw1 : IntKind.i64.wrap (q * r1) = q * r1 := IntWalk.i64_in _ (by omega)
      have hw2 : IntKind.i64.wrap (q * x1) = q * x1 := IntWalk.i64_in _ (by omega)
      have hw3 : IntKind.i64.wrap (q * y1) = q * y1 := IntWalk.i64_in _ (by omega)
      have hw4 : IntKind.i64.wrap (r0 - q * r1) = r0 - q * r1 := IntWalk.i64_in _ (by omega)
      have hw5 : IntKind.i64.wrap (x0 - q * x1) = x0 - q * x1 := IntWalk.i64_in _ (by omega)
      have hw6 : IntKind.i64.wrap (y0 - q * y1) = y0 - q * y1 := IntWalk.i64_in _ (by omega)
      have DD := Lib.hid (And.intro a3 (And.intro d1 d2))
      have N0 := Lib.hid (B3.drew ((G0.out.set r1 x1 y1).other (c := w.heap.size + 1) (u := .int .i64 (r0 - q * r1)) (v := .int .i64 (x0 - q * x1)) (s := .int .i64 (y0 - q * y1)) (by omega)))
      have N1 := Lib.hid (B3.drew ((G1.out.other (c := w.heap.size) (u := .int .i64 r1) (v := .int .i64 x1) (s := .int .i64 y1) (by omega)).set (r0 - q * r1) (x0 - q * x1) (y0 - q * y1)))
      have b1 := GB.out.setCell (p := ⟨w.heap.size, 0, none⟩) (Nat.le_refl _) (.int .i64 r1)
      have b2 := b1.setCell (p := ⟨w.heap.size, 1, none⟩) (Nat.le_refl _) (.int .i64 x1)
      have b3 := b2.setCell (p := ⟨w.heap.size, 2, none⟩) (Nat.le_refl _) (.int .i64 y1)
      have b4 := b3.setCell (p := ⟨w.heap.size + 1, 0, none⟩) (Nat.le_succ _) (.int .i64 (r0 - q * r1))
      have b5 := b4.setCell (p := ⟨w.heap.size + 1, 1, none⟩) (Nat.le_succ _) (.int .i64 (x0 - q * x1))
      have b6 := b5.setCell (p := ⟨w.heap.size + 1, 2, none⟩) (Nat.le_succ _) (.int .i64 (y0 - q * y1))
      have NB := Lib.hid b6.drew
      clear b1 b2 b3 b4 b5 b6
      clear h ha hb hz a1 a2 a3 a4 a5 a6 a7 a8 q1 q2 m1 m2 m3 m4 m5 m6 d1 d2
      have h8 : Cs w.heap.size r0 x0 y0 wr.drew := ⟨c0, c1, c2⟩
      have h9 : Cs (w.heap.size + 1) r1 x1 y1 wr.drew := ⟨c3, c4, c5⟩
      have hSall : Hid (∀ l, S2 (Cs w.heap.size r0 x0 y0) (Cs (w.heap.size + 1) r1 x1 y1) l wr.drew) := Lib.hid (fun l => ⟨fun _ => h8, fun _ => h9⟩)
      have H9 := Lib.hid h9
      clear h8 h9
      refine HL.start (S := S2 (Cs w.heap.size r0 x0 y0) (Cs (w.heap.size + 1) r1 x1 y1)) (by kernel_rfl) ?_
      refine HL.take (i := 0) (W := 24) (T := Cs (w.heap.size + 1) r1 x1 y1) (oi := _) (v := ?_) rfl (by kernel_rfl) (by kernel_rfl) (by kernel_rfl) (by kernel_rfl) (by kernel_rfl) S2.t9 (S2.inv (by decide) (by decide)) (fun _ _ _ h => h) (Or.inl ⟨by rfl, ?_⟩) (hSall.out _) (fun _ => ?_)
      rotate_left
      · intro w' hw'; obtain ⟨e0, e1, e2⟩ := hw'; (first | (go_simp; done) | (go_simp; with_reducible rfl))
      try simp only [Act.put, List.setIfInBounds_toArray, List.set_cons_zero, List.set_cons_succ]
      refine HL.take (i := 1) (W := 24) (T := Cs (w.heap.size + 1) r1 x1 y1) (oi := _) (v := ?_) rfl (by kernel_rfl) (by kernel_rfl) (by kernel_rfl) (by kernel_rfl) (by kernel_rfl) S2.t9 (S2.inv (by decide) (by decide)) (fun _ _ _ h => h) (Or.inl ⟨by rfl, ?_⟩) (hSall.out _) (fun _ => ?_)
      rotate_left
      · intro w' hw'; obtain ⟨e0, e1, e2⟩ := hw'; (first | (go_simp; done) | (go_simp; with_reducible rfl))
      try simp only [Act.put, List.setIfInBounds_toArray, List.set_cons_zero, List.set_cons_succ]
      refine HL.take (i := 2) (W := 23) (T := Cs w.heap.size r0 x0 y0) (oi := _) (v := ?_) rfl (by kernel_rfl) (by kernel_rfl) (by kernel_rfl) (by kernel_rfl) (by kernel_rfl) S2.t8 (S2.inv (by decide) (by decide)) (fun _ _ _ h => h) (Or.inl ⟨by rfl, ?_⟩) (hSall.out _) (fun _ => ?_)
      rotate_left
      · intro w' hw'; obtain ⟨e0, e1, e2⟩ := hw'; (first | (go_simp; done) | (go_simp; with_reducible rfl))
      try simp only [Act.put, List.setIfInBounds_toArray, List.set_cons_zero, List.set_cons_succ]
      refine HL.take (i := 3) (W := 24) (T := Cs (w.heap.size + 1) r1 x1 y1) (oi := _) (v := ?_) rfl (by kernel_rfl) (by kernel_rfl) (by kernel_rfl) (by kernel_rfl) (by kernel_rfl) S2.t9 (S2.inv (by decide) (by decide)) (fun _ _ _ h => h) (Or.inl ⟨by rfl, ?_⟩) (hSall.out _) (fun _ => ?_)
      rotate_left
      · intro w' hw'; obtain ⟨e0, e1, e2⟩ := hw'; (first | (go_simp; done) | (go_simp; with_reducible rfl))
      try simp only [Act.put, List.setIfInBounds_toArray, List.set_cons_zero, List.set_cons_succ]
      refine HL.take (i := 4) (W := 24) (T := Cs (w.heap.size + 1) r1 x1 y1) (oi := _) (v := ?_) rfl (by kernel_rfl) (by kernel_rfl) (by kernel_rfl) (by kernel_rfl) (by kernel_rfl) S2.t9 (S2.inv (by decide) (by decide)) (fun _ _ _ h => h) (Or.inl ⟨by rfl, ?_⟩) (hSall.out _) (fun _ => ?_)
      rotate_left
      · intro w' hw'; obtain ⟨e0, e1, e2⟩ := hw'; (first | (go_simp; done) | (go_simp; with_reducible rfl))
      try simp only [Act.put, List.setIfInBounds_toArray, List.set_cons_zero, List.set_cons_succ]
      refine HL.take (i := 5) (W := 24) (T := Cs (w.heap.size + 1) r1 x1 y1) (oi := _) (v := ?_) rfl (by kernel_rfl) (by kernel_rfl) (by kernel_rfl) (by kernel_rfl) (by kernel_rfl) S2.t9 (S2.inv (by decide) (by decide)) (fun _ _ _ h => h) (Or.inl ⟨by rfl, ?_⟩) (hSall.out _) (fun _ => ?_)
      rotate_left
      · intro w' hw'; obtain ⟨e0, e1, e2⟩ := hw'; (first | (go_simp; done) | (go_simp; with_reducible rfl))
      try simp only [Act.put, List.setIfInBounds_toArray, List.set_cons_zero, List.set_cons_succ]
      refine HL.take (i := 6) (W := 24) (T := Cs (w.heap.size + 1) r1 x1 y1) (oi := _) (v := ?_) rfl (by kernel_rfl) (by kernel_rfl) (by kernel_rfl) (by kernel_rfl) (by kernel_rfl) S2.t9 (S2.inv (by decide) (by decide)) (fun _ _ _ h => h) (Or.inl ⟨by rfl, ?_⟩) (hSall.out _) (fun _ => ?_)
      rotate_left
      · intro w' hw'; obtain ⟨e0, e1, e2⟩ := hw'; (first | (go_simp; done) | (go_simp; with_reducible rfl))
      try simp only [Act.put, List.setIfInBounds_toArray, List.set_cons_zero, List.set_cons_succ]
      refine HL.take (i := 7) (W := 24) (T := Cs (w.heap.size + 1) r1 x1 y1) (oi := _) (v := ?_) rfl (by kernel_rfl) (by kernel_rfl) (by kernel_rfl) (by kernel_rfl) (by kernel_rfl) S2.t9 (S2.inv (by decide) (by decide)) (fun _ _ _ h => h) (Or.inl ⟨by rfl, ?_⟩) (hSall.out _) (fun _ => ?_)
      rotate_left
      · intro w' hw'; obtain ⟨e0, e1, e2⟩ := hw'; (first | (go_simp; done) | (go_simp; with_reducible rfl))
      try simp only [Act.put, List.setIfInBounds_toArray, List.set_cons_zero, List.set_cons_succ]
      refine HL.take (i := 8) (W := 24) (T := Cs (w.heap.size + 1) r1 x1 y1) (oi := _) (v := ?_) rfl (by kernel_rfl) (by kernel_rfl) (by kernel_rfl) (by kernel_rfl) (by kernel_rfl) S2.t9 (S2.inv (by decide) (by decide)) (fun _ _ _ h => h) (Or.inl ⟨by rfl, ?_⟩) (hSall.out _) (fun _ => ?_)
      rotate_left
      · intro w' hw'; obtain ⟨e0, e1, e2⟩ := hw'; (first | (go_simp; done) | (go_simp; with_reducible rfl))
      try simp only [Act.put, List.setIfInBounds_toArray, List.set_cons_zero, List.set_cons_succ]
      refine HL.take (i := 9) (W := 23) (T := Cs w.heap.size r0 x0 y0) (oi := _) (v := ?_) rfl (by kernel_rfl) (by kernel_rfl) (by kernel_rfl) (by kernel_rfl) (by kernel_rfl) S2.t8 (S2.inv (by decide) (by decide)) (fun _ _ _ h => h) (Or.inl ⟨by rfl, ?_⟩) (hSall.out _) (fun _ => ?_)
      rotate_left
      · intro w' hw'; obtain ⟨e0, e1, e2⟩ := hw'; (first | (go_simp; done) | (go_simp; with_reducible rfl))
      try simp only [Act.put, List.setIfInBounds_toArray, List.set_cons_zero, List.set_cons_succ]
      refine HL.take (i := 10) (W := 24) (T := Cs (w.heap.size + 1) r1 x1 y1) (oi := _) (v := ?_) rfl (by kernel_rfl) (by kernel_rfl) (by kernel_rfl) (by kernel_rfl) (by kernel_rfl) S2.t9 (S2.inv (by decide) (by decide)) (fun _ _ _ h => h) (Or.inl ⟨by rfl, ?_⟩) (hSall.out _) (fun _ => ?_)
      rotate_left
      · intro w' hw'; obtain ⟨e0, e1, e2⟩ := hw'; (first | (go_simp; done) | (go_simp; with_reducible rfl))
      try simp only [Act.put, List.setIfInBounds_toArray, List.set_cons_zero, List.set_cons_succ]
      refine HL.take (i := 11) (W := 24) (T := Cs (w.heap.size + 1) r1 x1 y1) (oi := _) (v := ?_) rfl (by kernel_rfl) (by kernel_rfl) (by kernel_rfl) (by kernel_rfl) (by kernel_rfl) S2.t9 (S2.inv (by decide) (by decide)) (fun _ _ _ h => h) (Or.inl ⟨by rfl, ?_⟩) (hSall.out _) (fun _ => ?_)
      rotate_left
      · intro w' hw'; obtain ⟨e0, e1, e2⟩ := hw'; (first | (go_simp; done) | (go_simp; with_reducible rfl))
      try simp only [Act.put, List.setIfInBounds_toArray, List.set_cons_zero, List.set_cons_succ]
      refine HL.take (i := 12) (W := 24) (T := Cs (w.heap.size + 1) r1 x1 y1) (oi := _) (v := ?_) rfl (by kernel_rfl) (by kernel_rfl) (by kernel_rfl) (by kernel_rfl) (by kernel_rfl) S2.t9 (S2.inv (by decide) (by decide)) (fun _ _ _ h => h) (Or.inl ⟨by rfl, ?_⟩) (hSall.out _) (fun _ => ?_)
      rotate_left
      · intro w' hw'; obtain ⟨e0, e1, e2⟩ := hw'; (first | (go_simp; done) | (go_simp; with_reducible rfl))
      try simp only [Act.put, List.setIfInBounds_toArray, List.set_cons_zero, List.set_cons_succ]
      refine HL.take (i := 13) (W := 24) (T := Cs (w.heap.size + 1) r1 x1 y1) (oi := _) (v := ?_) rfl (by kernel_rfl) (by kernel_rfl) (by kernel_rfl) (by kernel_rfl) (by kernel_rfl) S2.t9 (S2.inv (by decide) (by decide)) (fun _ _ _ h => h) (Or.inl ⟨by rfl, ?_⟩) (hSall.out _) (fun _ => ?_)
      rotate_left
      · intro w' hw'; obtain ⟨e0, e1, e2⟩ := hw'; (first | (go_simp; done) | (go_simp; with_reducible rfl))
      try simp only [Act.put, List.setIfInBounds_toArray, List.set_cons_zero, List.set_cons_succ]
      refine HL.take (i := 14) (W := 24) (T := Cs (w.heap.size + 1) r1 x1 y1) (oi := _) (v := ?_) rfl (by kernel_rfl) (by kernel_rfl) (by kernel_rfl) (by kernel_rfl) (by kernel_rfl) S2.t9 (S2.inv (by decide) (by decide)) (fun _ _ _ h => h) (Or.inl ⟨by rfl, ?_⟩) (hSall.out _) (fun _ => ?_)
      rotate_left
      · intro w' hw'; obtain ⟨e0, e1, e2⟩ := hw'; (first | (go_simp; done) | (go_simp; with_reducible rfl))
      try simp only [Act.put, List.setIfInBounds_toArray, List.set_cons_zero, List.set_cons_succ]
      refine HL.take (i := 15) (W := 24) (T := Cs (w.heap.size + 1) r1 x1 y1) (oi := _) (v := ?_) rfl (by kernel_rfl) (by kernel_rfl) (by kernel_rfl) (by kernel_rfl) (by kernel_rfl) S2.t9 (S2.inv (by decide) (by decide)) (fun _ _ _ h => h) (Or.inl ⟨by rfl, ?_⟩) (hSall.out _) (fun _ => ?_)
      rotate_left
      · intro w' hw'; obtain ⟨e0, e1, e2⟩ := hw'; (first | (go_simp; done) | (go_simp; with_reducible rfl))
      try simp only [Act.put, List.setIfInBounds_toArray, List.set_cons_zero, List.set_cons_succ]
      refine HL.take (i := 16) (W := 23) (T := Cs w.heap.size r0 x0 y0) (oi := _) (v := ?_) rfl (by kernel_rfl) (by kernel_rfl) (by kernel_rfl) (by kernel_rfl) (by kernel_rfl) S2.t8 (S2.inv (by decide) (by decide)) (fun _ _ _ h => h) (Or.inl ⟨by rfl, ?_⟩) (hSall.out _) (fun _ => ?_)
      rotate_left
      · intro w' hw'; obtain ⟨e0, e1, e2⟩ := hw'; (first | (go_simp; done) | (go_simp; with_reducible rfl))
      try simp only [Act.put, List.setIfInBounds_toArray, List.set_cons_zero, List.set_cons_succ]
      refine HL.take (i := 17) (W := 24) (T := Cs (w.heap.size + 1) r1 x1 y1) (oi := _) (v := ?_) rfl (by kernel_rfl) (by kernel_rfl) (by kernel_rfl) (by kernel_rfl) (by kernel_rfl) S2.t9 (S2.inv (by decide) (by decide)) (fun _ _ _ h => h) (Or.inl ⟨by rfl, ?_⟩) (hSall.out _) (fun _ => ?_)
      rotate_left
      · intro w' hw'; obtain ⟨e0, e1, e2⟩ := hw'; (first | (go_simp; done) | (go_simp; with_reducible rfl))
      try simp only [Act.put, List.setIfInBounds_toArray, List.set_cons_zero, List.set_cons_succ]
      refine HL.take (i := 18) (W := 24) (T := Cs (w.heap.size + 1) r1 x1 y1) (oi := _) (v := ?_) rfl (by kernel_rfl) (by kernel_rfl) (by kernel_rfl) (by kernel_rfl) (by kernel_rfl) S2.t9 (S2.inv (by decide) (by decide)) (fun _ _ _ h => h) (Or.inl ⟨by rfl, ?_⟩) (hSall.out _) (fun _ => ?_)
      rotate_left
      · intro w' hw'; obtain ⟨e0, e1, e2⟩ := hw'; (first | (go_simp; done) | (go_simp; with_reducible rfl))
      try simp only [Act.put, List.setIfInBounds_toArray, List.set_cons_zero, List.set_cons_succ]
      refine HL.take (i := 19) (W := 24) (T := Cs (w.heap.size + 1) r1 x1 y1) (oi := _) (v := ?_) rfl (by kernel_rfl) (by kernel_rfl) (by kernel_rfl) (by kernel_rfl) (by kernel_rfl) S2.t9 (S2.inv (by decide) (by decide)) (fun _ _ _ h => h) (Or.inl ⟨by rfl, ?_⟩) (hSall.out _) (fun _ => ?_)
      rotate_left
      · intro w' hw'; obtain ⟨e0, e1, e2⟩ := hw'; (first | (go_simp; done) | (go_simp; with_reducible rfl))
      try simp only [Act.put, List.setIfInBounds_toArray, List.set_cons_zero, List.set_cons_succ]
      refine HL.take (i := 20) (W := 24) (T := Cs (w.heap.size + 1) r1 x1 y1) (oi := _) (v := ?_) rfl (by kernel_rfl) (by kernel_rfl) (by kernel_rfl) (by kernel_rfl) (by kernel_rfl) S2.t9 (S2.inv (by decide) (by decide)) (fun _ _ _ h => h) (Or.inl ⟨by rfl, ?_⟩) (hSall.out _) (fun _ => ?_)
      rotate_left
      · intro w' hw'; obtain ⟨e0, e1, e2⟩ := hw'; (first | (go_simp; done) | (go_simp; with_reducible rfl))
      try simp only [Act.put, List.setIfInBounds_toArray, List.set_cons_zero, List.set_cons_succ]
      refine HL.take (i := 21) (W := 24) (T := Cs (w.heap.size + 1) r1 x1 y1) (oi := _) (v := ?_) rfl (by kernel_rfl) (by kernel_rfl) (by kernel_rfl) (by kernel_rfl) (by kernel_rfl) S2.t9 (S2.inv (by decide) (by decide)) (fun _ _ _ h => h) (Or.inl ⟨by rfl, ?_⟩) (hSall.out _) (fun _ => ?_)
      rotate_left
      · intro w' hw'; obtain ⟨e0, e1, e2⟩ := hw'; (first | (go_simp; done) | (go_simp; with_reducible rfl))
      try simp only [Act.put, List.setIfInBounds_toArray, List.set_cons_zero, List.set_cons_succ]
      refine HL.take (i := 22) (W := 24) (T := Cs (w.heap.size + 1) r1 x1 y1) (oi := _) (v := ?_) rfl (by kernel_rfl) (by kernel_rfl) (by kernel_rfl) (by kernel_rfl) (by kernel_rfl) S2.t9 (S2.inv (by decide) (by decide)) (fun _ _ _ h => h) (Or.inl ⟨by rfl, ?_⟩) (hSall.out _) (fun _ => ?_)
      rotate_left
      · intro w' hw'; obtain ⟨e0, e1, e2⟩ := hw'; (first | (go_simp; done) | (go_simp; with_reducible rfl))
      try simp only [Act.put, List.setIfInBounds_toArray, List.set_cons_zero, List.set_cons_succ]
      clear hw1 hw2 hw3 hw4 hw5 hw6
      refine HL.only (i := 23) (oi := _) (by kernel_rfl) rfl (by rfl) (fun K hK => ?_)
      go_simp
      refine hK.out _ _ ⟨fun h => ?_, fun _ => (H9.out.other (by omega)).drew⟩ (fun _ => ?_)
      · exact absurd ((show _ = true by kernel_rfl).symm.trans h) (by decide)
      clear hK K
      try simp only [Act.put, List.setIfInBounds_toArray, List.set_cons_zero, List.set_cons_succ]
      refine HL.only (i := 24) (oi := _) (by kernel_rfl) rfl (by rfl) (fun K hK => ?_)
      go_simp
      refine hK.out _ _ ⟨fun h => ?_, fun h => ?_⟩ (fun _ => ?_)
      · exact absurd ((show _ = true by kernel_rfl).symm.trans h) (by decide)
      · exact absurd ((show _ = true by kernel_rfl).symm.trans h) (by decide)
      clear hK K
      try simp only [Act.put, List.setIfInBounds_toArray, List.set_cons_zero, List.set_cons_succ]
      refine HL.done (by kernel_rfl) ?_
      have M0 := Lib.hid c3
      clear c0 c1 c2 c3 c4 c5
      generalize World.drew _ = W5 at *
      have e1 := Lib.hid (row3 N1.out).1
      go_wp2
      go_roundw
      case rel => exact ⟨_, _, _, _, _, _, HN, HS, N0, N1, NB⟩
      case measure =>
        have dd := DD.out
        rw [M0.out, e1.out]
        simp only [intOf]
        omega
set_option maxHeartbeats 4000000 in
theorem implYes0 (b : Nat) (h : 0 < b) (hb : b ≤ 1000000) (w : World) :
    Calls Try.prog 12 #[.int .i64 0, .int .i64 b] w fun e w' => e = .returned (.tuple #[.int .i64 (eu b 0 1 0 b 0 1).1, .int .i64 (eu b 0 1 0 b 0 1).2.1, .int .i64 (eu b 0 1 0 b 0 1).2.2, .bool true]) ∧ Below w.heap.size w w' := by
  have Ea : Hid (okE 0 = true) := Lib.hid rfl
  have Eb := Lib.hid (okE_of hb)
  have HR : Hid (Num.Rows 0 b 0 1 0 b 0 1) := Lib.hid (by simpa using rows_start 0 b (by omega) hb (Or.inr h))
  have HE : Hid (Eu (eu b 0 1 0 b 0 1) 0 1 0 b 0 1) := Lib.hid ⟨b, by omega, rfl⟩
  have hab : ((b : Int) == 0) = false := by simp; omega
  generalize eu b 0 1 0 b 0 1 = f0 at *
  go_enter Try.func12, Try.ntmps12
  go_wp2_with fail
  refine (isEuclid _ _).mono ?_
  rintro e w' ⟨rfl, rfl⟩
  rw [Ea.out]
  go_wp2_with fail
  refine (isEuclid _ _).mono ?_
  rintro e w' ⟨rfl, rfl⟩
  rw [Eb.out]
  go_wp2_with fail
  obtain ⟨k0, k1⟩ := nw2 w (.cells #[.int .i64 0, .int .i64 1, .int .i64 0] 50) (.cells #[.int .i64 (b : Int), .int .i64 0, .int .i64 1] 50)
  have B0 := Lib.hid (al2 w (.cells #[.int .i64 0, .int .i64 1, .int .i64 0] 50) (.cells #[.int .i64 (b : Int), .int .i64 0, .int .i64 1] 50))
  have K0 : Hid (B3 _ w.heap.size 0 1 0) := Lib.hid k0
  have K1 : Hid (B3 _ (w.heap.size + 1) b 0 1) := Lib.hid k1
  clear k0 k1 hab Ea Eb
  generalize World.alloc (World.alloc w _) _ = W0 at *
  go_loopw [10] (fun q wr => ∃ (r0 x0 y0 r1 x1 y1 : Int), Hid (Num.Rows 0 b r0 x0 y0 r1 x1 y1) ∧ Hid (Eu f0 r0 x0 y0 r1 x1 y1) ∧ Hid (B3 wr w.heap.size r0 x0 y0) ∧ Hid (B3 wr (w.heap.size + 1) r1 x1 y1) ∧ Hid (Below w.heap.size w wr)) (fun _ wr => match wr.cell? ⟨w.heap.size + 1, 0, none⟩ with | some v => (intOf v).toNat | none => 0)
  case atStart => exact ⟨_, _, _, _, _, _, HR, HE, K0, K1, B0⟩
  case round =>
    obtain ⟨r0, x0, y0, r1, x1, y1, GR, GE, G0, G1, GB⟩ := hrel
    clear HR HE K0 K1 B0
    obtain ⟨c0, c1, c2⟩ := row3 G0.out
    obtain ⟨c3, c4, c5⟩ := row3 G1.out
    by_cases hz : r1 = 0
    · subst hz
      have E := Lib.hid GE.out.done
      go_wp2
      go_quiet (fail)
      go_wp2
      refine bodyPost_ret (v := .tuple #[.int .i64 r0, .int .i64 x0, .int .i64 y0, .bool true]) (by simp [results, Try.results12, go_sem]) rfl ⟨by rw [← E.out], ?_⟩
      exact ⟨GB.out.os, GB.out.tape, GB.out.output, GB.out.size, GB.out.block⟩
    · obtain ⟨⟨a1, a2, a3, a4, a5, a6, a7, a8⟩, ⟨q1, q2⟩, ⟨m1, m2⟩, ⟨m3, m4⟩, ⟨m5, m6⟩, ⟨d1, d2⟩, NR⟩ := rows_step (by omega) hb GR.out hz
      have HN := Lib.hid NR
      have HS := Lib.hid (GE.out.step a3 d2)
      obtain ⟨f0_, f1_, f2_⟩ := frz3 G0.out
      obtain ⟨f3_, f4_, f5_⟩ := frz3 G1.out
      clear NR
      go_wp2_with fail
      generalize r0 / r1 = q at *
      have hw1 : IntKind.i64.wrap (q * r1) = q * r1 := IntWalk.i64_in _ (by omega)
      have hw2 : IntKind.i64.wrap (q * x1) = q * x1 := IntWalk.i64_in _ (by omega)
      have hw3 : IntKind.i64.wrap (q * y1) = q * y1 := IntWalk.i64_in _ (by omega)
      have hw4 : IntKind.i64.wrap (r0 - q * r1) = r0 - q * r1 := IntWalk.i64_in _ (by omega)
      have hw5 : IntKind.i64.wrap (x0 - q * x1) = x0 - q * x1 := IntWalk.i64_in _ (by omega)
      have hw6 : IntKind.i64.wrap (y0 - q * y1) = y0 - q * y1 := IntWalk.i64_in _ (by omega)
      have DD := Lib.hid (And.intro a3 (And.intro d1 d2))
      have N0 := Lib.hid (B3.drew ((G0.out.set r1 x1 y1).other (c := w.heap.size + 1) (u := .int .i64 (r0 - q * r1)) (v := .int .i64 (x0 - q * x1)) (s := .int .i64 (y0 - q * y1)) (by omega)))
      have N1 := Lib.hid (B3.drew ((G1.out.other (c := w.heap.size) (u := .int .i64 r1) (v := .int .i64 x1) (s := .int .i64 y1) (by omega)).set (r0 - q * r1) (x0 - q * x1) (y0 - q * y1)))
      have b1 := GB.out.setCell (p := ⟨w.heap.size, 0, none⟩) (Nat.le_refl _) (.int .i64 r1)
      have b2 := b1.setCell (p := ⟨w.heap.size, 1, none⟩) (Nat.le_refl _) (.int .i64 x1)
      have b3 := b2.setCell (p := ⟨w.heap.size, 2, none⟩) (Nat.le_refl _) (.int .i64 y1)
      have b4 := b3.setCell (p := ⟨w.heap.size + 1, 0, none⟩) (Nat.le_succ _) (.int .i64 (r0 - q * r1))
      have b5 := b4.setCell (p := ⟨w.heap.size + 1, 1, none⟩) (Nat.le_succ _) (.int .i64 (x0 - q * x1))
      have b6 := b5.setCell (p := ⟨w.heap.size + 1, 2, none⟩) (Nat.le_succ _) (.int .i64 (y0 - q * y1))
      have NB := Lib.hid b6.drew
      clear b1 b2 b3 b4 b5 b6
      clear h hb hz a1 a2 a3 a4 a5 a6 a7 a8 q1 q2 m1 m2 m3 m4 m5 m6 d1 d2
      have h8 : Cs w.heap.size r0 x0 y0 wr.drew := ⟨c0, c1, c2⟩
      have h9 : Cs (w.heap.size + 1) r1 x1 y1 wr.drew := ⟨c3, c4, c5⟩
      have hSall : Hid (∀ l, S2 (Cs w.heap.size r0 x0 y0) (Cs (w.heap.size + 1) r1 x1 y1) l wr.drew) := Lib.hid (fun l => ⟨fun _ => h8, fun _ => h9⟩)
      have H9 := Lib.hid h9
      clear h8 h9
      refine HL.start (S := S2 (Cs w.heap.size r0 x0 y0) (Cs (w.heap.size + 1) r1 x1 y1)) (by kernel_rfl) ?_
      refine HL.take (i := 0) (W := 24) (T := Cs (w.heap.size + 1) r1 x1 y1) (oi := _) (v := ?_) rfl (by kernel_rfl) (by kernel_rfl) (by kernel_rfl) (by kernel_rfl) (by kernel_rfl) S2.t9 (S2.inv (by decide) (by decide)) (fun _ _ _ h => h) (Or.inl ⟨by rfl, ?_⟩) (hSall.out _) (fun _ => ?_)
      rotate_left
      · intro w' hw'; obtain ⟨e0, e1, e2⟩ := hw'; (first | (go_simp; done) | (go_simp; with_reducible rfl))
      try simp only [Act.put, List.setIfInBounds_toArray, List.set_cons_zero, List.set_cons_succ]
      refine HL.take (i := 1) (W := 24) (T := Cs (w.heap.size + 1) r1 x1 y1) (oi := _) (v := ?_) rfl (by kernel_rfl) (by kernel_rfl) (by kernel_rfl) (by kernel_rfl) (by kernel_rfl) S2.t9 (S2.inv (by decide) (by decide)) (fun _ _ _ h => h) (Or.inl ⟨by rfl, ?_⟩) (hSall.out _) (fun _ => ?_)
      rotate_left
      · intro w' hw'; obtain ⟨e0, e1, e2⟩ := hw'; (first | (go_simp; done) | (go_simp; with_reducible rfl))
      try simp only [Act.put, List.setIfInBounds_toArray, List.set_cons_zero, List.set_cons_succ]
      refine HL.take (i := 2) (W := 23) (T := Cs w.heap.size r0 x0 y0) (oi := _) (v := ?_) rfl (by kernel_rfl) (by kernel_rfl) (by kernel_rfl) (by kernel_rfl) (by kernel_rfl) S2.t8 (S2.inv (by decide) (by decide)) (fun _ _ _ h => h) (Or.inl ⟨by rfl, ?_⟩) (hSall.out _) (fun _ => ?_)
      rotate_left
      · intro w' hw'; obtain ⟨e0, e1, e2⟩ := hw'; (first | (go_simp; done) | (go_simp; with_reducible rfl))
      try simp only [Act.put, List.setIfInBounds_toArray, List.set_cons_zero, List.set_cons_succ]
      refine HL.take (i := 3) (W := 24) (T := Cs (w.heap.size + 1) r1 x1 y1) (oi := _) (v := ?_) rfl (by kernel_rfl) (by kernel_rfl) (by kernel_rfl) (by kernel_rfl) (by kernel_rfl) S2.t9 (S2.inv (by decide) (by decide)) (fun _ _ _ h => h) (Or.inl ⟨by rfl, ?_⟩) (hSall.out _) (fun _ => ?_)
      rotate_left
      · intro w' hw'; obtain ⟨e0, e1, e2⟩ := hw'; (first | (go_simp; done) | (go_simp; with_reducible rfl))
      try simp only [Act.put, List.setIfInBounds_toArray, List.set_cons_zero, List.set_cons_succ]
      refine HL.take (i := 4) (W := 24) (T := Cs (w.heap.size + 1) r1 x1 y1) (oi := _) (v := ?_) rfl (by kernel_rfl) (by kernel_rfl) (by kernel_rfl) (by kernel_rfl) (by kernel_rfl) S2.t9 (S2.inv (by decide) (by decide)) (fun _ _ _ h => h) (Or.inl ⟨by rfl, ?_⟩) (hSall.out _) (fun _ => ?_)
      rotate_left
      · intro w' hw'; obtain ⟨e0, e1, e2⟩ := hw'; (first | (go_simp; done) | (go_simp; with_reducible rfl))
      try simp only [Act.put, List.setIfInBounds_toArray, List.set_cons_zero, List.set_cons_succ]
      refine HL.take (i := 5) (W := 24) (T := Cs (w.heap.size + 1) r1 x1 y1) (oi := _) (v := ?_) rfl (by kernel_rfl) (by kernel_rfl) (by kernel_rfl) (by kernel_rfl) (by kernel_rfl) S2.t9 (S2.inv (by decide) (by decide)) (fun _ _ _ h => h) (Or.inl ⟨by rfl, ?_⟩) (hSall.out _) (fun _ => ?_)
      rotate_left
      · intro w' hw'; obtain ⟨e0, e1, e2⟩ := hw'; (first | (go_simp; done) | (go_simp; with_reducible rfl))
      try simp only [Act.put, List.setIfInBounds_toArray, List.set_cons_zero, List.set_cons_succ]
      refine HL.take (i := 6) (W := 24) (T := Cs (w.heap.size + 1) r1 x1 y1) (oi := _) (v := ?_) rfl (by kernel_rfl) (by kernel_rfl) (by kernel_rfl) (by kernel_rfl) (by kernel_rfl) S2.t9 (S2.inv (by decide) (by decide)) (fun _ _ _ h => h) (Or.inl ⟨by rfl, ?_⟩) (hSall.out _) (fun _ => ?_)
      rotate_left
      · intro w' hw'; obtain ⟨e0, e1, e2⟩ := hw'; (first | (go_simp; done) | (go_simp; with_reducible rfl))
      try simp only [Act.put, List.setIfInBounds_toArray, List.set_cons_zero, List.set_cons_succ]
      refine HL.take (i := 7) (W := 24) (T := Cs (w.heap.size + 1) r1 x1 y1) (oi := _) (v := ?_) rfl (by kernel_rfl) (by kernel_rfl) (by kernel_rfl) (by kernel_rfl) (by kernel_rfl) S2.t9 (S2.inv (by decide) (by decide)) (fun _ _ _ h => h) (Or.inl ⟨by rfl, ?_⟩) (hSall.out _) (fun _ => ?_)
      rotate_left
      · intro w' hw'; obtain ⟨e0, e1, e2⟩ := hw'; (first | (go_simp; done) | (go_simp; with_reducible rfl))
      try simp only [Act.put, List.setIfInBounds_toArray, List.set_cons_zero, List.set_cons_succ]
      refine HL.take (i := 8) (W := 24) (T := Cs (w.heap.size + 1) r1 x1 y1) (oi := _) (v := ?_) rfl (by kernel_rfl) (by kernel_rfl) (by kernel_rfl) (by kernel_rfl) (by kernel_rfl) S2.t9 (S2.inv (by decide) (by decide)) (fun _ _ _ h => h) (Or.inl ⟨by rfl, ?_⟩) (hSall.out _) (fun _ => ?_)
      rotate_left
      · intro w' hw'; obtain ⟨e0, e1, e2⟩ := hw'; (first | (go_simp; done) | (go_simp; with_reducible rfl))
      try simp only [Act.put, List.setIfInBounds_toArray, List.set_cons_zero, List.set_cons_succ]
      refine HL.take (i := 9) (W := 23) (T := Cs w.heap.size r0 x0 y0) (oi := _) (v := ?_) rfl (by kernel_rfl) (by kernel_rfl) (by kernel_rfl) (by kernel_rfl) (by kernel_rfl) S2.t8 (S2.inv (by decide) (by decide)) (fun _ _ _ h => h) (Or.inl ⟨by rfl, ?_⟩) (hSall.out _) (fun _ => ?_)
      rotate_left
      · intro w' hw'; obtain ⟨e0, e1, e2⟩ := hw'; (first | (go_simp; done) | (go_simp; with_reducible rfl))
      try simp only [Act.put, List.setIfInBounds_toArray, List.set_cons_zero, List.set_cons_succ]
      refine HL.take (i := 10) (W := 24) (T := Cs (w.heap.size + 1) r1 x1 y1) (oi := _) (v := ?_) rfl (by kernel_rfl) (by kernel_rfl) (by kernel_rfl) (by kernel_rfl) (by kernel_rfl) S2.t9 (S2.inv (by decide) (by decide)) (fun _ _ _ h => h) (Or.inl ⟨by rfl, ?_⟩) (hSall.out _) (fun _ => ?_)
      rotate_left
      · intro w' hw'; obtain ⟨e0, e1, e2⟩ := hw'; (first | (go_simp; done) | (go_simp; with_reducible rfl))
      try simp only [Act.put, List.setIfInBounds_toArray, List.set_cons_zero, List.set_cons_succ]
      refine HL.take (i := 11) (W := 24) (T := Cs (w.heap.size + 1) r1 x1 y1) (oi := _) (v := ?_) rfl (by kernel_rfl) (by kernel_rfl) (by kernel_rfl) (by kernel_rfl) (by kernel_rfl) S2.t9 (S2.inv (by decide) (by decide)) (fun _ _ _ h => h) (Or.inl ⟨by rfl, ?_⟩) (hSall.out _) (fun _ => ?_)
      rotate_left
      · intro w' hw'; obtain ⟨e0, e1, e2⟩ := hw'; (first | (go_simp; done) | (go_simp; with_reducible rfl))
      try simp only [Act.put, List.setIfInBounds_toArray, List.set_cons_zero, List.set_cons_succ]
      refine HL.take (i := 12) (W := 24) (T := Cs (w.heap.size + 1) r1 x1 y1) (oi := _) (v := ?_) rfl (by kernel_rfl) (by kernel_rfl) (by kernel_rfl) (by kernel_rfl) (by kernel_rfl) S2.t9 (S2.inv (by decide) (by decide)) (fun _ _ _ h => h) (Or.inl ⟨by rfl, ?_⟩) (hSall.out _) (fun _ => ?_)
      rotate_left
      · intro w' hw'; obtain ⟨e0, e1, e2⟩ := hw'; (first | (go_simp; done) | (go_simp; with_reducible rfl))
      try simp only [Act.put, List.setIfInBounds_toArray, List.set_cons_zero, List.set_cons_succ]
      refine HL.take (i := 13) (W := 24) (T := Cs (w.heap.size + 1) r1 x1 y1) (oi := _) (v := ?_) rfl (by kernel_rfl) (by kernel_rfl) (by kernel_rfl) (by kernel_rfl) (by kernel_rfl) S2.t9 (S2.inv (by decide) (by decide)) (fun _ _ _ h => h) (Or.inl ⟨by rfl, ?_⟩) (hSall.out _) (fun _ => ?_)
      rotate_left
      · intro w' hw'; obtain ⟨e0, e1, e2⟩ := hw'; (first | (go_simp; done) | (go_simp; with_reducible rfl))
      try simp only [Act.put, List.setIfInBounds_toArray, List.set_cons_zero, List.set_cons_succ]
      refine HL.take (i := 14) (W := 24) (T := Cs (w.heap.size + 1) r1 x1 y1) (oi := _) (v := ?_) rfl (by kernel_rfl) (by kernel_rfl) (by kernel_rfl) (by kernel_rfl) (by kernel_rfl) S2.t9 (S2.inv (by decide) (by decide)) (fun _ _ _ h => h) (Or.inl ⟨by rfl, ?_⟩) (hSall.out _) (fun _ => ?_)
      rotate_left
      · intro w' hw'; obtain ⟨e0, e1, e2⟩ := hw'; (first | (go_simp; done) | (go_simp; with_reducible rfl))
      try simp only [Act.put, List.setIfInBounds_toArray, List.set_cons_zero, List.set_cons_succ]
      refine HL.take (i := 15) (W := 24) (T := Cs (w.heap.size + 1) r1 x1 y1) (oi := _) (v := ?_) rfl (by kernel_rfl) (by kernel_rfl) (by kernel_rfl) (by kernel_rfl) (by kernel_rfl) S2.t9 (S2.inv (by decide) (by decide)) (fun _ _ _ h => h) (Or.inl ⟨by rfl, ?_⟩) (hSall.out _) (fun _ => ?_)
      rotate_left
      · intro w' hw'; obtain ⟨e0, e1, e2⟩ := hw'; (first | (go_simp; done) | (go_simp; with_reducible rfl))
      try simp only [Act.put, List.setIfInBounds_toArray, List.set_cons_zero, List.set_cons_succ]
      refine HL.take (i := 16) (W := 23) (T := Cs w.heap.size r0 x0 y0) (oi := _) (v := ?_) rfl (by kernel_rfl) (by kernel_rfl) (by kernel_rfl) (by kernel_rfl) (by kernel_rfl) S2.t8 (S2.inv (by decide) (by decide)) (fun _ _ _ h => h) (Or.inl ⟨by rfl, ?_⟩) (hSall.out _) (fun _ => ?_)
      rotate_left
      · intro w' hw'; obtain ⟨e0, e1, e2⟩ := hw'; (first | (go_simp; done) | (go_simp; with_reducible rfl))
      try simp only [Act.put, List.setIfInBounds_toArray, List.set_cons_zero, List.set_cons_succ]
      refine HL.take (i := 17) (W := 24) (T := Cs (w.heap.size + 1) r1 x1 y1) (oi := _) (v := ?_) rfl (by kernel_rfl) (by kernel_rfl) (by kernel_rfl) (by kernel_rfl) (by kernel_rfl) S2.t9 (S2.inv (by decide) (by decide)) (fun _ _ _ h => h) (Or.inl ⟨by rfl, ?_⟩) (hSall.out _) (fun _ => ?_)
      rotate_left
      · intro w' hw'; obtain ⟨e0, e1, e2⟩ := hw'; (first | (go_simp; done) | (go_simp; with_reducible rfl))
      try simp only [Act.put, List.setIfInBounds_toArray, List.set_cons_zero, List.set_cons_succ]
      refine HL.take (i := 18) (W := 24) (T := Cs (w.heap.size + 1) r1 x1 y1) (oi := _) (v := ?_) rfl (by kernel_rfl) (by kernel_rfl) (by kernel_rfl) (by kernel_rfl) (by kernel_rfl) S2.t9 (S2.inv (by decide) (by decide)) (fun _ _ _ h => h) (Or.inl ⟨by rfl, ?_⟩) (hSall.out _) (fun _ => ?_)
      rotate_left
      · intro w' hw'; obtain ⟨e0, e1, e2⟩ := hw'; (first | (go_simp; done) | (go_simp; with_reducible rfl))
      try simp only [Act.put, List.setIfInBounds_toArray, List.set_cons_zero, List.set_cons_succ]
      refine HL.take (i := 19) (W := 24) (T := Cs (w.heap.size + 1) r1 x1 y1) (oi := _) (v := ?_) rfl (by kernel_rfl) (by kernel_rfl) (by kernel_rfl) (by kernel_rfl) (by kernel_rfl) S2.t9 (S2.inv (by decide) (by decide)) (fun _ _ _ h => h) (Or.inl ⟨by rfl, ?_⟩) (hSall.out _) (fun _ => ?_)
      rotate_left
      · intro w' hw'; obtain ⟨e0, e1, e2⟩ := hw'; (first | (go_simp; done) | (go_simp; with_reducible rfl))
      try simp only [Act.put, List.setIfInBounds_toArray, List.set_cons_zero, List.set_cons_succ]
      refine HL.take (i := 20) (W := 24) (T := Cs (w.heap.size + 1) r1 x1 y1) (oi := _) (v := ?_) rfl (by kernel_rfl) (by kernel_rfl) (by kernel_rfl) (by kernel_rfl) (by kernel_rfl) S2.t9 (S2.inv (by decide) (by decide)) (fun _ _ _ h => h) (Or.inl ⟨by rfl, ?_⟩) (hSall.out _) (fun _ => ?_)
      rotate_left
      · intro w' hw'; obtain ⟨e0, e1, e2⟩ := hw'; (first | (go_simp; done) | (go_simp; with_reducible rfl))
      try simp only [Act.put, List.setIfInBounds_toArray, List.set_cons_zero, List.set_cons_succ]
      refine HL.take (i := 21) (W := 24) (T := Cs (w.heap.size + 1) r1 x1 y1) (oi := _) (v := ?_) rfl (by kernel_rfl) (by kernel_rfl) (by kernel_rfl) (by kernel_rfl) (by kernel_rfl) S2.t9 (S2.inv (by decide) (by decide)) (fun _ _ _ h => h) (Or.inl ⟨by rfl, ?_⟩) (hSall.out _) (fun _ => ?_)
      rotate_left
      · intro w' hw'; obtain ⟨e0, e1, e2⟩ := hw'; (first | (go_simp; done) | (go_simp; with_reducible rfl))
      try simp only [Act.put, List.setIfInBounds_toArray, List.set_cons_zero, List.set_cons_succ]
      refine HL.take (i := 22) (W := 24) (T := Cs (w.heap.size + 1) r1 x1 y1) (oi := _) (v := ?_) rfl (by kernel_rfl) (by kernel_rfl) (by kernel_rfl) (by kernel_rfl) (by kernel_rfl) S2.t9 (S2.inv (by decide) (by decide)) (fun _ _ _ h => h) (Or.inl ⟨by rfl, ?_⟩) (hSall.out _) (fun _ => ?_)
      rotate_left
      · intro w' hw'; obtain ⟨e0, e1, e2⟩ := hw'; (first | (go_simp; done) | (go_simp; with_reducible rfl))
      try simp only [Act.put, List.setIfInBounds_toArray, List.set_cons_zero, List.set_cons_succ]
      clear hw1 hw2 hw3 hw4 hw5 hw6
      refine HL.only (i := 23) (oi := _) (by kernel_rfl) rfl (by rfl) (fun K hK => ?_)
      go_simp
      refine hK.out _ _ ⟨fun h => ?_, fun _ => (H9.out.other (by omega)).drew⟩ (fun _ => ?_)
      · exact absurd ((show _ = true by kernel_rfl).symm.trans h) (by decide)
      clear hK K
      try simp only [Act.put, List.setIfInBounds_toArray, List.set_cons_zero, List.set_cons_succ]
      refine HL.only (i := 24) (oi := _) (by kernel_rfl) rfl (by rfl) (fun K hK => ?_)
      go_simp
      refine hK.out _ _ ⟨fun h => ?_, fun h => ?_⟩ (fun _ => ?_)
      · exact absurd ((show _ = true by kernel_rfl).symm.trans h) (by decide)
      · exact absurd ((show _ = true by kernel_rfl).symm.trans h) (by decide)
      clear hK K
      try simp only [Act.put, List.setIfInBounds_toArray, List.set_cons_zero, List.set_cons_succ]
      refine HL.done (by kernel_rfl) ?_
      have M0 := Lib.hid c3
      clear c0 c1 c2 c3 c4 c5
      generalize World.drew _ = W5 at *
      have e1 := Lib.hid (row3 N1.out).1
      go_wp2
      go_roundw
      case rel => exact ⟨_, _, _, _, _, _, HN, HS, N0, N1, NB⟩
      case measure =>
        have dd := DD.out
        rw [M0.out, e1.out]
        simp only [intOf]
        omega
end Go.Proofs.Ytbljmgmpmmajeab.EucX
