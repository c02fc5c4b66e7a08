/-
  The extended Euclidean algorithm by the reference: the good case; and the walk of the law on BothEuclid.
-/
import Derived.Test.YtbljmgmpmmajeabEucX
import Derived.Deep.AppendLies
import Derived.Laws.OwnMore
import Derived.Deep.RegionHeldLaw
namespace Go.Proofs.Ytbljmgmpmmajeab.EucS
open Go.ChangeShapes Go.WideShapes Go.ChangeAt Go.RowKit
open Go.Proofs.Ytbljmgmpmmajeab.Mem Go.Proofs.Ytbljmgmpmmajeab.Ints Go.Proofs.Ytbljmgmpmmajeab.Num Go.Proofs.Ytbljmgmpmmajeab.Mod Go.Proofs.Ytbljmgmpmmajeab.Euc Go.Proofs.Ytbljmgmpmmajeab.EucX
set_option linter.unusedVariables false
set_option maxRecDepth 100000
/-- Three numbers in a block. -/
def C3 (wr : World) (g : Nat) (x y z : Int) : Prop := g < wr.heap.size ∧ ∀ j, j < 3 → wr.cell? ⟨g, j, none⟩ = some (.int .i64 (([x, y, z] : List Int).getD j 0))
theorem C3.below {wr w1 : World} {g : Nat} {x y z : Int} (h : C3 wr g x y z) (hb : Below wr.heap.size wr w1) : C3 w1 g x y z :=
  ⟨Nat.lt_of_lt_of_le h.1 hb.size, fun j hj => (hb.cell (p := ⟨g, j, none⟩) h.1).trans (h.2 j hj)⟩
theorem C3.drewN {wr : World} {g : Nat} {x y z : Int} (h : C3 wr g x y z) (n : Nat) : C3 (wr.drewN n) g x y z := ⟨h.1, h.2⟩
theorem C3.of3 {wr : World} {g t : Nat} {x y z : Int} (h : wr.heap[g]? = some (.cells #[.int .i64 x, .int .i64 y, .int .i64 z] t)) : C3 wr g x y z := by
  obtain ⟨c0, c1, c2⟩ := row3 h
  refine ⟨(Array.getElem?_eq_some_iff.1 h).1, fun j hj => ?_⟩
  match j, hj with
  | 0, _ => exact c0
  | 1, _ => exact c1
  | 2, _ => exact c2
theorem app_int {w wr wa w1 : World} {e : Nat} {v v' : Value} {n m : Nat} {l : List Int} {x : Int} {ys : List Value} (hb : Below w.heap.size w wa)
    (hown : wr.ownsRow w.heap.size e 1 v n (ints l)) (h1 : w1.ownsRow w.heap.size e 1 v' m (ints l ++ ys)) (hy : ys = [.int .i64 x]) (hg : wa.grownBy w1 v.ownBlock) :
    w1.ownsRow w.heap.size e 1 v' m (ints (l ++ [x])) ∧ Below w.heap.size w w1 := by
  subst hy
  refine ⟨by unfold ints at *; rw [List.map_append]; exact h1, hb.grown hg hb.size (fun g hgg => ownBlock_ge hown g hgg)⟩
theorem own3 {w : World} {base : Nat} {v : Value} {x y z : Int} (h : w.ownsRow base 3 1 v 3 (ints [x, y, z])) : ∃ g c, v = .slice (some ⟨g, 0, none⟩) 3 c ∧ C3 w g x y z := by
  have h' := h
  rcases h.2 with ⟨h0, h1⟩ | ⟨g, cap, cur, h1, _⟩
  · omega
  · subst h1
    refine ⟨g, cap, rfl, (h'.lt g rfl).2, fun j hj => ?_⟩
    have := h'.cellAt j (by omega)
    rw [this]
    match j, hj with
    | 0, _ => rfl
    | 1, _ => rfl
    | 2, _ => rfl
theorem take3 (x y z : Int) (j : Nat) (hj : j < 3) : ([x, y, z] : List Int).take (j + 1) = ([x, y, z] : List Int).take j ++ [([x, y, z] : List Int).getD j 0] := by
  match j, hj with
  | 0, _ => rfl
  | 1, _ => rfl
  | 2, _ => rfl
theorem sub3 (x y z u v s q : Int) (j : Nat) (hj : j < 3) : ([x - q * u, y - q * v, z - q * s] : List Int).getD j 0 = ([x, y, z] : List Int).getD j 0 - q * ([u, v, s] : List Int).getD j 0 := by
  match j, hj with
  | 0, _ => rfl
  | 1, _ => rfl
  | 2, _ => rfl
theorem bd3 (x y z : Int) (lo hi : Int) (h0 : lo ≤ x ∧ x ≤ hi) (h1 : lo ≤ y ∧ y ≤ hi) (h2 : lo ≤ z ∧ z ≤ hi) (j : Nat) (hj : j < 3) : lo ≤ ([x, y, z] : List Int).getD j 0 ∧ ([x, y, z] : List Int).getD j 0 ≤ hi := by
  match j, hj with
  | 0, _ => exact h0
  | 1, _ => exact h1
  | 2, _ => exact h2
theorem mul3 (u v s q : Int) (j : Nat) (hj : j < 3) : ([q * u, q * v, q * s] : List Int).getD j 0 = q * ([u, v, s] : List Int).getD j 0 := by
  match j, hj with
  | 0, _ => rfl
  | 1, _ => rfl
  | 2, _ => rfl
set_option maxHeartbeats 4000000 in
theorem specYesP (a b : Nat) (h : 0 < a) (ha : a ≤ 1000000) (hb : b ≤ 1000000) (w : World) :
    Calls Try.prog 13 #[.int .i64 (a : Int), .int .i64 b] w fun e w' => e = .returned (.tuple #[.int .i64 (eu b (a : Int) 1 0 b 0 1).1, .int .i64 (eu b (a : Int) 1 0 b 0 1).2.1, .int .i64 (eu b (a : Int) 1 0 b 0 1).2.2, .bool true]) ∧ Below w.heap.size w w' := by
  have Ea := Lib.hid (okE_of ha)
  have Eb := Lib.hid (okE_of hb)
  have HR := Lib.hid (rows_start a b ha hb (Or.inl h))
  have HE : Hid (Eu (eu b a 1 0 b 0 1) a 1 0 b 0 1) := Lib.hid ⟨b, by omega, rfl⟩
  have hab : ((a : Int) == 0) = false := by simp; omega
  generalize eu b (a : Int) 1 0 b 0 1 = f0 at *
  obtain ⟨i0, hi, hz0, hz1, hz2⟩ := info_parts infoI
  go_enter Try.func13, Try.ntmps13
  go_wp2_with fail
  refine (l1InE _ _).mono ?_
  rintro e w' ⟨rfl, rfl⟩
  rw [Ea.out]
  go_wp2_with fail
  refine (l1InE _ _).mono ?_
  rintro e w' ⟨rfl, rfl⟩
  rw [Eb.out]
  go_wp2_with fail
  obtain ⟨k0, k1⟩ := nw2 w (.cells #[.int .i64 (a : Int), .int .i64 1, .int .i64 0] 3) (.cells #[.int .i64 (b : Int), .int .i64 0, .int .i64 1] 3)
  have B0 := Lib.hid (al2 w (.cells #[.int .i64 (a : Int), .int .i64 1, .int .i64 0] 3) (.cells #[.int .i64 (b : Int), .int .i64 0, .int .i64 1] 3))
  have K0 := Lib.hid (C3.of3 k0)
  have K1 := Lib.hid (C3.of3 k1)
  clear k0 k1 hab Ea Eb
  generalize World.alloc (World.alloc w _) _ = W0 at *
  go_loopw [8, 9] (fun s8 s9 wr => ∃ (gA cA gB cB : Nat) (r0 x0 y0 r1 x1 y1 : Int), s8 = .slice (some ⟨gA, 0, none⟩) 3 cA ∧ s9 = .slice (some ⟨gB, 0, none⟩) 3 cB ∧ Hid (Num.Rows a b r0 x0 y0 r1 x1 y1) ∧ Hid (Eu f0 r0 x0 y0 r1 x1 y1) ∧ Hid (C3 wr gA r0 x0 y0) ∧ Hid (C3 wr gB r1 x1 y1) ∧ Hid (Below w.heap.size w wr)) (fun _ s9 wr => match s9 with | .slice (some a) _ _ => (match wr.cell? a with | some v => (intOf v).toNat | none => 0) | _ => 0)
  case atStart => exact ⟨_, _, _, _, _, _, _, _, _, _, rfl, rfl, HR, HE, K0, K1, B0⟩
  case round =>
    obtain ⟨gA, cA, gB, cB, r0, x0, y0, r1, x1, y1, rfl, rfl, GR, GE, G0, G1, GB⟩ := hrel
    clear HR HE K0 K1 B0
    have c0 : wr.cell? ⟨gA, 0, none⟩ = some (.int .i64 r0) := G0.out.2 0 (by omega)
    have c1 : wr.cell? ⟨gA, 1, none⟩ = some (.int .i64 x0) := G0.out.2 1 (by omega)
    have c2 : wr.cell? ⟨gA, 2, none⟩ = some (.int .i64 y0) := G0.out.2 2 (by omega)
    have c3 : wr.cell? ⟨gB, 0, none⟩ = some (.int .i64 r1) := G1.out.2 0 (by omega)
    by_cases hz : r1 = 0
    · subst hz
      have E := Lib.hid GE.out.done
      go_wp2
      go_quiet (fail)
      go_wp2
      refine bodyPost_ret (v := .tuple #[.int .i64 r0, .int .i64 x0, .int .i64 y0, .bool true]) (by simp [results, Try.results13, go_sem]) rfl ⟨by rw [← E.out], ?_⟩
      exact ⟨GB.out.os, GB.out.tape, GB.out.output, GB.out.size, GB.out.block⟩
    · obtain ⟨⟨a1, a2, a3, a4, a5, a6, a7, a8⟩, ⟨q1, q2⟩, ⟨m1, m2⟩, ⟨m3, m4⟩, ⟨m5, m6⟩, ⟨d1, d2⟩, NR⟩ := rows_step (by omega) hb GR.out hz
      have HN := Lib.hid NR
      have HS := Lib.hid (GE.out.step a3 d2)
      have DD := Lib.hid (And.intro a3 (And.intro d1 d2))
      clear NR
      have hnz : (r1 != 0) = true := by simpa using hz
      go_wp2_with fail
      go_quiet (fail)
      have hbd1 := Lib.hid (bd3 r0 x0 y0 (-1000000) 1000000 (by omega) (by omega) (by omega))
      have hbd2 := Lib.hid (bd3 (r0 / r1 * r1) (r0 / r1 * x1) (r0 / r1 * y1) (-1000000) 1000000 (by omega) (by omega) (by omega))
      have F0 := Lib.hid (G0.out.drewN nq)
      have F1 := Lib.hid (G1.out.drewN nq)
      have FB : Hid (Below w.heap.size w (wr.drewN nq)) := Lib.hid ⟨GB.out.os, GB.out.tape, GB.out.output, GB.out.size, GB.out.block⟩
      have M0 := Lib.hid c3
      generalize r0 / r1 = q at *
      clear c0 c1 c2 c3 G0 G1 GB h hz a1 a2 a3 a4 a5 a6 a7 a8 q1 q2 m1 m2 m3 m4 m5 m6 d1 d2
      generalize hwr : wr.drewN nq = w9 at *
      clear hwr
      go_wp2_with fail
      have z9 := FB.out.size
      try rw [show ((3 : Nat) : Int) = 3 from rfl]
      go_loopw [11, 46] (fun o i wr => ∃ j : Nat, j ≤ 3 ∧ i = .int .i64 j ∧ wr.ownsRow w9.heap.size 3 1 o j (ints (([r0 - q * r1, x0 - q * x1, y0 - q * y1] : List Int).take j)) ∧ Below w9.heap.size w9 wr) (fun _ i _ => 3 - (intOf i).toNat)
      case atStart => exact ⟨0, by omega, rfl, World.ownsRow_nil _ _ _ _, Below.refl _ _⟩
      case round =>
        obtain ⟨j, hj, rfl, hQ, hbq⟩ := hrel
        have HQ := Lib.hid hQ
        clear hQ
        have hzq := hbq.size
        by_cases hlt : j < 3
        · have cA9 := F0.out.2 j hlt
          have cB9 := F1.out.2 j hlt
          have cA := (F0.out.below hbq).2 j hlt
          have cB := (F1.out.below hbq).2 j hlt
          have gA9 := F0.out.1
          have gB9 := F1.out.1
          have gAw : gA < wr.heap.size := by omega
          have gBw : gB < wr.heap.size := by omega
          have HT := Lib.hid (take3 (r0 - q * r1) (x0 - q * x1) (y0 - q * y1) j hlt)
          have HSb := Lib.hid (sub3 r0 x0 y0 r1 x1 y1 q j hlt)
          obtain ⟨l1, l2⟩ := hbd1.out j hlt
          have hm3 := mul3 r1 x1 y1 q j hlt
          obtain ⟨l3, l4⟩ := hbd2.out j hlt
          rw [hm3] at l3 l4
          clear hm3
          have j0 : (0 : Int) ≤ (j : Int) := by omega
          have j1 : (j : Int) < 3 := by omega
          generalize ([r0, x0, y0] : List Int).getD j 0 = pp at *
          generalize ([r1, x1, y1] : List Int).getD j 0 = qq at *
          have hw1 : IntKind.i64.wrap (q * qq) = q * qq := IntWalk.i64_in _ (by omega)
          have hw2 : IntKind.i64.wrap (pp - q * qq) = pp - q * qq := IntWalk.i64_in _ (by omega)
          go_wp2_with fail
          go_region_held3 (fun w' => w'.cell? ⟨gA, j, none⟩ = some (.int .i64 pp) ∧ w'.cell? ⟨gB, j, none⟩ = some (.int .i64 qq)) (first | (go_keep; done) | exact ⟨cA, cB⟩ | exact ⟨s1, s2⟩ | (refine ⟨?_, ?_⟩ <;> (simp [*, go_sem]; done))) ((refine step_append_lies _ (by rfl) _ _ _ (by rfl) w9.heap.size 3 i0 _ 1 8 Try.underlying43 hi hz0 hz1 hz2 rfl (by omega) _ j _ (by rfl) ((HQ.out.alloc _).drew) ⟨wr.heap.size, 0, none⟩ 1 1 _ (by rfl) (by rfl) (World.news_of_block (heap_alloc_new wr _)) (by simp [Value.oneCell']) (by omega) (by unfold maxLen; omega) (by omega) (by simp; omega) (wr.heap.size + 1) (by simp) ?_; intro g cap' w1 hown1 hgrow hat hlt1; have HA := Lib.hid (app_int ((hbq.alloc hzq _).drew) HQ.out hown1 (by rfl) hgrow); have s1 : w1.cell? ⟨gA, j, none⟩ = some (.int .i64 pp) := (HA.out.2.cell (p := ⟨gA, j, none⟩) gA9).trans cA9; have s2 : w1.cell? ⟨gB, j, none⟩ = some (.int .i64 qq) := (HA.out.2.cell (p := ⟨gB, j, none⟩) gB9).trans cB9; clear hown1 hgrow hat))
          have HR : Hid (w1.ownsRow w9.heap.size 3 1 (.slice (some ⟨g, 0, none⟩) (j + 1) cap') (j + 1) (ints (([r0 - q * r1, x0 - q * x1, y0 - q * y1] : List Int).take (j + 1)))) := Lib.hid (by rw [HT.out, HSb.out]; exact HA.out.1)
          have hBn := HA.out.2
          clear HA s1 s2 cA cB cA9 cB9 hw1 hw2 l1 l2 l3 l4
          go_wp2
          go_roundw
          case rel => exact ⟨j + 1, by omega, by go_num, HR.out, hBn⟩
          case measure => simp [intOf]; omega
        · obtain rfl : j = 3 := by omega
          obtain ⟨gN, cN, hv, hC⟩ := own3 (show wr.ownsRow w9.heap.size 3 1 _ 3 (ints [r0 - q * r1, x0 - q * x1, y0 - q * y1]) from HQ.out)
          have HC := Lib.hid hC
          have G1' := Lib.hid (F1.out.below hbq)
          have GB' := Lib.hid (FB.out.trans (hbq.mono z9))
          have e1 := Lib.hid (show wr.cell? ⟨gN, 0, none⟩ = some (.int .i64 (r0 - q * r1)) from hC.2 0 (by omega))
          clear hC HQ hbq hzq F0 F1 FB z9 hbd1 hbd2
          subst hv
          try rw [show ((3 : Nat) : Int) = 3 from rfl]
          go_wp2
          go_roundw
          case rel => exact ⟨_, _, _, _, _, _, _, _, _, _, rfl, rfl, HN, HS, G1', HC, GB'⟩
          case measure =>
            have dd := DD.out
            simp only [M0.out, e1.out, intOf]
            omega
set_option maxHeartbeats 4000000 in
theorem specYes0 (b : Nat) (h : 0 < b) (hb : b ≤ 1000000) (w : World) :
    Calls Try.prog 13 #[.int .i64 0, .int .i64 b] w fun e w' => e = .returned (.tuple #[.int .i64 (eu b 0 1 0 b 0 1).1, .int .i64 (eu b 0 1 0 b 0 1).2.1, .int .i64 (eu b 0 1 0 b 0 1).2.2, .bool true]) ∧ Below w.heap.size w w' := by
  have Ea : Hid (okE 0 = true) := Lib.hid rfl
  have Eb := Lib.hid (okE_of hb)
  have HR : Hid (Num.Rows 0 b 0 1 0 b 0 1) := Lib.hid (by simpa using rows_start 0 b (by omega) hb (Or.inr h))
  have HE : Hid (Eu (eu b 0 1 0 b 0 1) 0 1 0 b 0 1) := Lib.hid ⟨b, by omega, rfl⟩
  have hab : ((b : Int) == 0) = false := by simp; omega
  generalize eu b 0 1 0 b 0 1 = f0 at *
  obtain ⟨i0, hi, hz0, hz1, hz2⟩ := info_parts infoI
  go_enter Try.func13, Try.ntmps13
  go_wp2_with fail
  refine (l1InE _ _).mono ?_
  rintro e w' ⟨rfl, rfl⟩
  rw [Ea.out]
  go_wp2_with fail
  refine (l1InE _ _).mono ?_
  rintro e w' ⟨rfl, rfl⟩
  rw [Eb.out]
  go_wp2_with fail
  obtain ⟨k0, k1⟩ := nw2 w (.cells #[.int .i64 0, .int .i64 1, .int .i64 0] 3) (.cells #[.int .i64 (b : Int), .int .i64 0, .int .i64 1] 3)
  have B0 := Lib.hid (al2 w (.cells #[.int .i64 0, .int .i64 1, .int .i64 0] 3) (.cells #[.int .i64 (b : Int), .int .i64 0, .int .i64 1] 3))
  have K0 := Lib.hid (C3.of3 k0)
  have K1 := Lib.hid (C3.of3 k1)
  clear k0 k1 hab Ea Eb
  generalize World.alloc (World.alloc w _) _ = W0 at *
  go_loopw [8, 9] (fun s8 s9 wr => ∃ (gA cA gB cB : Nat) (r0 x0 y0 r1 x1 y1 : Int), s8 = .slice (some ⟨gA, 0, none⟩) 3 cA ∧ s9 = .slice (some ⟨gB, 0, none⟩) 3 cB ∧ Hid (Num.Rows 0 b r0 x0 y0 r1 x1 y1) ∧ Hid (Eu f0 r0 x0 y0 r1 x1 y1) ∧ Hid (C3 wr gA r0 x0 y0) ∧ Hid (C3 wr gB r1 x1 y1) ∧ Hid (Below w.heap.size w wr)) (fun _ s9 wr => match s9 with | .slice (some a) _ _ => (match wr.cell? a with | some v => (intOf v).toNat | none => 0) | _ => 0)
  case atStart => exact ⟨_, _, _, _, _, _, _, _, _, _, rfl, rfl, HR, HE, K0, K1, B0⟩
  case round =>
    obtain ⟨gA, cA, gB, cB, r0, x0, y0, r1, x1, y1, rfl, rfl, GR, GE, G0, G1, GB⟩ := hrel
    clear HR HE K0 K1 B0
    have c0 : wr.cell? ⟨gA, 0, none⟩ = some (.int .i64 r0) := G0.out.2 0 (by omega)
    have c1 : wr.cell? ⟨gA, 1, none⟩ = some (.int .i64 x0) := G0.out.2 1 (by omega)
    have c2 : wr.cell? ⟨gA, 2, none⟩ = some (.int .i64 y0) := G0.out.2 2 (by omega)
    have c3 : wr.cell? ⟨gB, 0, none⟩ = some (.int .i64 r1) := G1.out.2 0 (by omega)
    by_cases hz : r1 = 0
    · subst hz
      have E := Lib.hid GE.out.done
      go_wp2
      go_quiet (fail)
      go_wp2
      refine bodyPost_ret (v := .tuple #[.int .i64 r0, .int .i64 x0, .int .i64 y0, .bool true]) (by simp [results, Try.results13, go_sem]) rfl ⟨by rw [← E.out], ?_⟩
      exact ⟨GB.out.os, GB.out.tape, GB.out.output, GB.out.size, GB.out.block⟩
    · obtain ⟨⟨a1, a2, a3, a4, a5, a6, a7, a8⟩, ⟨q1, q2⟩, ⟨m1, m2⟩, ⟨m3, m4⟩, ⟨m5, m6⟩, ⟨d1, d2⟩, NR⟩ := rows_step (by omega) hb GR.out hz
      have HN := Lib.hid NR
      have HS := Lib.hid (GE.out.step a3 d2)
      have DD := Lib.hid (And.intro a3 (And.intro d1 d2))
      clear NR
      have hnz : (r1 != 0) = true := by simpa using hz
      go_wp2_with fail
      go_quiet (fail)
      have hbd1 := Lib.hid (bd3 r0 x0 y0 (-1000000) 1000000 (by omega) (by omega) (by omega))
      have hbd2 := Lib.hid (bd3 (r0 / r1 * r1) (r0 / r1 * x1) (r0 / r1 * y1) (-1000000) 1000000 (by omega) (by omega) (by omega))
      have F0 := Lib.hid (G0.out.drewN nq)
      have F1 := Lib.hid (G1.out.drewN nq)
      have FB : Hid (Below w.heap.size w (wr.drewN nq)) := Lib.hid ⟨GB.out.os, GB.out.tape, GB.out.output, GB.out.size, GB.out.block⟩
      have M0 := Lib.hid c3
      generalize r0 / r1 = q at *
      clear c0 c1 c2 c3 G0 G1 GB h hz a1 a2 a3 a4 a5 a6 a7 a8 q1 q2 m1 m2 m3 m4 m5 m6 d1 d2
      generalize hwr : wr.drewN nq = w9 at *
      clear hwr
      go_wp2_with fail
      have z9 := FB.out.size
      try rw [show ((3 : Nat) : Int) = 3 from rfl]
      go_loopw [11, 46] (fun o i wr => ∃ j : Nat, j ≤ 3 ∧ i = .int .i64 j ∧ wr.ownsRow w9.heap.size 3 1 o j (ints (([r0 - q * r1, x0 - q * x1, y0 - q * y1] : List Int).take j)) ∧ Below w9.heap.size w9 wr) (fun _ i _ => 3 - (intOf i).toNat)
      case atStart => exact ⟨0, by omega, rfl, World.ownsRow_nil _ _ _ _, Below.refl _ _⟩
      case round =>
        obtain ⟨j, hj, rfl, hQ, hbq⟩ := hrel
        have HQ := Lib.hid hQ
        clear hQ
        have hzq := hbq.size
        by_cases hlt : j < 3
        · have cA9 := F0.out.2 j hlt
          have cB9 := F1.out.2 j hlt
          have cA := (F0.out.below hbq).2 j hlt
          have cB := (F1.out.below hbq).2 j hlt
          have gA9 := F0.out.1
          have gB9 := F1.out.1
          have gAw : gA < wr.heap.size := by omega
          have gBw : gB < wr.heap.size := by omega
          have HT := Lib.hid (take3 (r0 - q * r1) (x0 - q * x1) (y0 - q * y1) j hlt)
          have HSb := Lib.hid (sub3 r0 x0 y0 r1 x1 y1 q j hlt)
          obtain ⟨l1, l2⟩ := hbd1.out j hlt
          have hm3 := mul3 r1 x1 y1 q j hlt
          obtain ⟨l3, l4⟩ := hbd2.out j hlt
          rw [hm3] at l3 l4
          clear hm3
          have j0 : (0 : Int) ≤ (j : Int) := by omega
          have j1 : (j : Int) < 3 := by omega
          generalize ([r0, x0, y0] : List Int).getD j 0 = pp at *
          generalize ([r1, x1, y1] : List Int).getD j 0 = qq at *
          have hw1 : IntKind.i64.wrap (q * qq) = q * qq := IntWalk.i64_in _ (by omega)
          have hw2 : IntKind.i64.wrap (pp - q * qq) = pp - q * qq := IntWalk.i64_in _ (by omega)
          go_wp2_with fail
          go_region_held3 (fun w' => w'.cell? ⟨gA, j, none⟩ = some (.int .i64 pp) ∧ w'.cell? ⟨gB, j, none⟩ = some (.int .i64 qq)) (first | (go_keep; done) | exact ⟨cA, cB⟩ | exact ⟨s1, s2⟩ | (refine ⟨?_, ?_⟩ <;> (simp [*, go_sem]; done))) ((refine step_append_lies _ (by rfl) _ _ _ (by rfl) w9.heap.size 3 i0 _ 1 8 Try.underlying43 hi hz0 hz1 hz2 rfl (by omega) _ j _ (by rfl) ((HQ.out.alloc _).drew) ⟨wr.heap.size, 0, none⟩ 1 1 _ (by rfl) (by rfl) (World.news_of_block (heap_alloc_new wr _)) (by simp [Value.oneCell']) (by omega) (by unfold maxLen; omega) (by omega) (by simp; omega) (wr.heap.size + 1) (by simp) ?_; intro g cap' w1 hown1 hgrow hat hlt1; have HA := Lib.hid (app_int ((hbq.alloc hzq _).drew) HQ.out hown1 (by rfl) hgrow); have s1 : w1.cell? ⟨gA, j, none⟩ = some (.int .i64 pp) := (HA.out.2.cell (p := ⟨gA, j, none⟩) gA9).trans cA9; have s2 : w1.cell? ⟨gB, j, none⟩ = some (.int .i64 qq) := (HA.out.2.cell (p := ⟨gB, j, none⟩) gB9).trans cB9; clear hown1 hgrow hat))
          have HR : Hid (w1.ownsRow w9.heap.size 3 1 (.slice (some ⟨g, 0, none⟩) (j + 1) cap') (j + 1) (ints (([r0 - q * r1, x0 - q * x1, y0 - q * y1] : List Int).take (j + 1)))) := Lib.hid (by rw [HT.out, HSb.out]; exact HA.out.1)
          have hBn := HA.out.2
          clear HA s1 s2 cA cB cA9 cB9 hw1 hw2 l1 l2 l3 l4
          go_wp2
          go_roundw
          case rel => exact ⟨j + 1, by omega, by go_num, HR.out, hBn⟩
          case measure => simp [intOf]; omega
        · obtain rfl : j = 3 := by omega
          obtain ⟨gN, cN, hv, hC⟩ := own3 (show wr.ownsRow w9.heap.size 3 1 _ 3 (ints [r0 - q * r1, x0 - q * x1, y0 - q * y1]) from HQ.out)
          have HC := Lib.hid hC
          have G1' := Lib.hid (F1.out.below hbq)
          have GB' := Lib.hid (FB.out.trans (hbq.mono z9))
          have e1 := Lib.hid (show wr.cell? ⟨gN, 0, none⟩ = some (.int .i64 (r0 - q * r1)) from hC.2 0 (by omega))
          clear hC HQ hbq hzq F0 F1 FB z9 hbd1 hbd2
          subst hv
          try rw [show ((3 : Nat) : Int) = 3 from rfl]
          go_wp2
          go_roundw
          case rel => exact ⟨_, _, _, _, _, _, _, _, _, _, rfl, rfl, HN, HS, G1', HC, GB'⟩
          case measure =>
            have dd := DD.out
            simp only [M0.out, e1.out, intOf]
            omega
theorem euBoth (a b : Int) : ∃ (x y z : Int) (ok : Bool), (∀ W, Calls Try.prog 12 #[.int .i64 a, .int .i64 b] W fun e w' => e = .returned (.tuple #[.int .i64 x, .int .i64 y, .int .i64 z, .bool ok]) ∧ Below W.heap.size W w') ∧ (∀ W, Calls Try.prog 13 #[.int .i64 a, .int .i64 b] W fun e w' => e = .returned (.tuple #[.int .i64 x, .int .i64 y, .int .i64 z, .bool ok]) ∧ Below W.heap.size W w') ∧ (ok = true → ∃ n m : Nat, a = n ∧ b = m ∧ n ≤ 1000000 ∧ m ≤ 1000000 ∧ (0 < n ∨ 0 < m) ∧ (x, y, z) = eu m n 1 0 m 0 1) := by
  by_cases h : refused a b
  · refine ⟨0, 0, 0, false, fun W => (implNo a b W h).mono ?_, fun W => (specNo a b W h).mono ?_, by simp⟩
    · rintro e w' ⟨rfl, rfl⟩; exact ⟨rfl, Below.refl _ _⟩
    · rintro e w' ⟨rfl, rfl⟩; exact ⟨rfl, Below.refl _ _⟩
  · obtain ⟨n, m, rfl, rfl, hn, hm, h0⟩ : ∃ n m : Nat, a = n ∧ b = m ∧ n ≤ 1000000 ∧ m ≤ 1000000 ∧ (0 < n ∨ 0 < m) := by
      unfold refused at h
      have h1 : okE a = true := by cases e : okE a <;> simp_all
      have h2 : okE b = true := by cases e : okE b <;> simp_all
      obtain ⟨n, rfl, hn⟩ := okE_yes h1
      obtain ⟨m, rfl, hm⟩ := okE_yes h2
      refine ⟨n, m, rfl, rfl, hn, hm, ?_⟩
      simp only [h1, h2] at h
      omega
    rcases Nat.eq_zero_or_pos n with rfl | hp
    · have hm0 : 0 < m := by omega
      exact ⟨_, _, _, true, fun W => implYes0 m hm0 hm W, fun W => specYes0 m hm0 hm W, fun _ => ⟨0, m, rfl, rfl, hn, hm, h0, rfl⟩⟩
    · exact ⟨_, _, _, true, fun W => implYesP n m hp hn hm W, fun W => specYesP n m hp hn hm W, fun _ => ⟨n, m, rfl, rfl, hn, hm, h0, rfl⟩⟩
end Go.Proofs.Ytbljmgmpmmajeab.EucS
