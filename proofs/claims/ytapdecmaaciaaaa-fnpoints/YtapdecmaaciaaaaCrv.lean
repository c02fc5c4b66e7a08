/-
  Curves and points: contracts of the functions of both sides on valid curves and on points of the field, and the walks of the laws on GoodCurve and ZeroPoint.
-/
import Derived.Test.YtapdecmaaciaaaaKind
import Derived.Test.YtapdecmaaciaaaaEd
namespace Go.Proofs.Ytapdecmaaciaaaa.Crv
open Go.ChangeShapes Go.WideShapes Go.ChangeAt Go.RowKit
open Go.Proofs.Ytapdecmaaciaaaa.Mem Go.Proofs.Ytapdecmaaciaaaa.Num Go.Proofs.Ytapdecmaaciaaaa.Mod Go.Proofs.Ytapdecmaaciaaaa.Pow Go.Proofs.Ytapdecmaaciaaaa.Kind Go.Proofs.Ytapdecmaaciaaaa.Ed
set_option linter.unusedVariables false
set_option maxRecDepth 100000

/-- Two numbers as a record. -/
def pv (a b : Int) : Value := .agg #[.int .i64 a, .int .i64 b]
theorem row2 {W : World} {b t : Nat} {x y : Value} (K : W.heap[b]? = some (.cells #[x, y] t)) : W.cell? ⟨b, 0, none⟩ = some x ∧ W.cell? ⟨b, 1, none⟩ = some y :=
  ⟨cell_of_row W _ 0 _ _ _ K, cell_of_row W _ 1 _ _ _ K⟩
theorem frz2 {W : World} {b t : Nat} {x y : Value} (K : W.heap[b]? = some (.cells #[x, y] t)) : W.frozen? ⟨b, 0, none⟩ = false ∧ W.frozen? ⟨b, 1, none⟩ = false := by
  refine ⟨?_, ?_⟩ <;> simp [World.frozen?, K, go_sem]
theorem bx {W W' : World} {b : Nat} {o : Obj} (K : W.heap[b]? = some o) (hb : Below W.heap.size W W') : W'.heap[b]? = some o := (hb.block b (Array.getElem?_eq_some_iff.1 K).1).trans K
theorem bx_lt {W : World} {b : Nat} {o : Obj} (K : W.heap[b]? = some o) : b < W.heap.size := (Array.getElem?_eq_some_iff.1 K).1

theorem int_open {H : Type} {enc : TypeId × Value → H} {P : Program} {w : World} {base : Nat} {spare : Nat → Bool} {held : Bool} {t fuel : Nat} {v : Value} {y : DataW H × List MemPlace}
    (ht : P.underlying t = some (.int .i64)) (h : DataW.trod enc P w base spare held fuel t [v] = some y) : ∃ z, v = .int .i64 z ∧ (Lit.int .i64 z).wf = true := by
  obtain ⟨z, e, _, hw⟩ := DataW.trod_int ht h
  exact ⟨z, by simpa using e, hw⟩
/-- A valid curve. -/
def okC (P D : Int) : Bool := decide (5 ≤ P) && decide (P ≤ 199) && prB P.toNat && decide (2 ≤ D) && decide (D < P) && decide (kind D.toNat P.toNat = -1)
theorem okC_yes {P D : Int} (h : okC P D = true) : ∃ (p : Nat) (i : NeZero p) (d : Fin p), P = p ∧ D = vl d ∧ Cv p d ∧ 5 ≤ p ∧ p ≤ 199 ∧ 2 ≤ D ∧ kind d.val p = -1 := by
  simp only [okC, Bool.and_eq_true, decide_eq_true_eq] at h
  obtain ⟨⟨⟨⟨⟨h1, h2⟩, h3⟩, h4⟩, h5⟩, h6⟩ := h
  have hp : Pr P.toNat := ⟨h3, by omega, by omega⟩
  have i : NeZero P.toNat := ⟨by omega⟩
  refine ⟨P.toNat, i, ⟨D.toNat, by omega⟩, by omega, by simp only [vl]; omega, ⟨hp, ?_⟩, by omega, by omega, h4, h6⟩
  intro z hz
  have := (kind_root hp D.toNat (by omega)).2 ⟨z.val, z.isLt, by have := congrArg Fin.val hz; rw [Fin.val_mul] at this; exact this⟩
  omega
theorem kind_zero {p : Nat} (hp : Pr p) : kind 0 p = 0 := by
  rcases half_cases hp 0 (by have := hp.ge; omega) with ⟨_, _, h⟩ | ⟨h, _⟩ | ⟨h, _⟩
  · exact h
  · omega
  · omega
theorem kind_one {p : Nat} (hp : Pr p) : kind 1 p = 1 := by
  have := hp.ge
  unfold kind
  rw [Nat.one_pow, Nat.mod_eq_of_lt (by omega)]; rfl
theorem okC_kind {p a : Nat} (hp : Pr p) (h5 : 5 ≤ p) (h9 : p ≤ 199) (ha : a < p) : okC p a = decide (kind a p = -1) := by
  have e1 : decide (5 ≤ (p : Int)) = true := by simp; omega
  have e2 : decide ((p : Int) ≤ 199) = true := by simp; omega
  have e3 : prB (p : Int).toNat = true := hp.pr
  have e4 : decide ((a : Int) < (p : Int)) = true := by simp; omega
  rw [okC, e1, e2, e3, e4]
  by_cases h : 2 ≤ a
  · have e5 : decide (2 ≤ (a : Int)) = true := by simp; omega
    rw [e5]; rfl
  · have e5 : decide (2 ≤ (a : Int)) = false := by simp; omega
    rw [e5]
    have : a = 0 ∨ a = 1 := by omega
    rcases this with rfl | rfl
    · rw [kind_zero hp]; rfl
    · rw [kind_one hp]; rfl
theorem okC_out {P D : Int} (h : okR D P = false) : okC P D = false := by
  cases e : okC P D with
  | false => rfl
  | true =>
    obtain ⟨p, i, d, rfl, rfl, hc, _⟩ := okC_yes e
    have := okR_of hc.pr d.isLt
    rw [vl, this] at h; cases h
theorem okC_far {P D : Int} (h : P < 5 ∨ 199 < P) : okC P D = false := by
  cases e : okC P D with
  | false => rfl
  | true => obtain ⟨p, i, d, rfl, rfl, hc, _⟩ := okC_yes e; omega

set_option maxHeartbeats 1000000 in
theorem implGood (P D : Int) (w : World) : Calls Try.prog 17 #[pv P D] w fun e w' => e = .returned (.bool (okC P D)) ∧ Below w.heap.size w w' := by
  have hal : Below w.heap.size w (w.alloc (.cells #[.int .i64 P, .int .i64 D] 25)) := (Below.refl _ w).alloc (Nat.le_refl _) _
  unfold pv
  by_cases h1 : P < 5
  · have E := Lib.hid (okC_far (D := D) (Or.inl h1))
    go_enter Try.func17, Try.ntmps17
    go_wp2
    go_ret
    exact ⟨by rw [E.out]; rfl, hal⟩
  by_cases h2 : 199 < P
  · have E := Lib.hid (okC_far (D := D) (Or.inr h2))
    have h1' : ¬ P < 5 := h1
    go_enter Try.func17, Try.ntmps17
    go_wp2
    go_ret
    exact ⟨by rw [E.out]; rfl, hal⟩
  cases ho : okR D P with
  | false =>
    have E := Lib.hid (okC_out ho)
    go_enter Try.func17, Try.ntmps17
    go_wp2_with fail
    refine (implKindNo _ _ _ ho).mono ?_
    rintro e w' ⟨rfl, rfl⟩
    go_wp2
    go_ret
    exact ⟨by rw [E.out]; rfl, hal⟩
  | true =>
    obtain ⟨a, p, rfl, rfl, ha, hp⟩ := okR_yes ho
    have E := Lib.hid (okC_kind hp (by omega) (by omega) ha)
    clear ho
    go_enter Try.func17, Try.ntmps17
    go_wp2_with fail
    refine (implKind a p _ hp ha).mono ?_
    rintro e w' ⟨rfl, rfl⟩
    generalize kind a p = k at *
    go_wp2
    go_ret
    exact ⟨by rw [E.out]; rfl, hal⟩
set_option maxHeartbeats 1000000 in
theorem specGood (P D : Int) (w : World) : Calls Try.prog 15 #[pv P D] w fun e w' => e = .returned (.bool (okC P D)) ∧ Below w.heap.size w w' := by
  have hal : Below w.heap.size w (w.alloc (.cells #[.int .i64 P, .int .i64 D] 25)) := (Below.refl _ w).alloc (Nat.le_refl _) _
  unfold pv
  by_cases h1 : P < 5 ∨ 199 < P
  · have E := Lib.hid (okC_far (D := D) h1)
    go_enter Try.func15, Try.ntmps15
    go_wp2_with fail
    refine (inNo _ _ _ _ h1).mono ?_
    rintro e w' ⟨rfl, rfl⟩
    go_wp2
    go_ret
    exact ⟨by rw [E.out]; rfl, hal⟩
  obtain ⟨p, rfl⟩ : ∃ p : Nat, P = p := ⟨P.toNat, by omega⟩
  cases hb : prB p with
  | false =>
    have E : Hid (okC p D = false) := Lib.hid (by
      cases e : okC p D with
      | false => rfl
      | true => obtain ⟨p', i, d, e1, rfl, hc, _⟩ := okC_yes e; have : p = p' := by omega
                subst this; rw [hc.pr.pr] at hb; cases hb)
    go_enter Try.func15, Try.ntmps15
    go_wp2_with fail
    refine (inYes _ _ _ _ (by omega) (by omega)).mono ?_
    rintro e w' ⟨rfl, rfl⟩
    go_wp2_with fail
    refine (l4Prime p _ (by omega)).mono ?_
    rintro e w' ⟨rfl, rfl⟩
    rw [hb]
    go_wp2
    go_ret
    exact ⟨by rw [E.out]; rfl, hal⟩
  | true =>
    have hp : Pr p := ⟨hb, by omega, by omega⟩
    by_cases h2 : D < 2 ∨ (p : Int) - 1 < D
    · have E : Hid (okC p D = false) := Lib.hid (by
        cases e : okC p D with
        | false => rfl
        | true => obtain ⟨p', i, d, e1, e2, hc, _, _, h, _⟩ := okC_yes e; have := vl_lt d; omega)
      go_enter Try.func15, Try.ntmps15
      go_wp2_with fail
      refine (inYes _ _ _ _ (by omega) (by omega)).mono ?_
      rintro e w' ⟨rfl, rfl⟩
      go_wp2_with fail
      refine (l4Prime p _ (by omega)).mono ?_
      rintro e w' ⟨rfl, rfl⟩
      rw [hb]
      go_wp2_with fail
      refine (inNo _ _ _ _ h2).mono ?_
      rintro e w' ⟨rfl, rfl⟩
      go_wp2
      go_ret
      exact ⟨by rw [E.out]; rfl, hal⟩
    · obtain ⟨a, rfl⟩ : ∃ a : Nat, D = a := ⟨D.toNat, by omega⟩
      have E := Lib.hid (okC_kind hp (by omega) (by omega) (show a < p by omega))
      go_enter Try.func15, Try.ntmps15
      go_wp2_with fail
      refine (inYes _ _ _ _ (by omega) (by omega)).mono ?_
      rintro e w' ⟨rfl, rfl⟩
      go_wp2_with fail
      refine (l4Prime p _ (by omega)).mono ?_
      rintro e w' ⟨rfl, rfl⟩
      rw [hb]
      go_wp2_with fail
      refine (inYes _ _ _ _ (by omega) (by omega)).mono ?_
      rintro e w' ⟨rfl, rfl⟩
      go_wp2_with fail
      refine (l4Kind a p _ hp (by omega)).mono ?_
      rintro e w' ⟨rfl, rfl⟩
      generalize kind a p = k at *
      go_wp2
      go_ret
      exact ⟨by rw [E.out]; rfl, hal⟩

theorem toCurve (P D : Int) (w : World) : Calls Try.prog 16 #[pv P D] w fun e w' => e = .returned (pv P D) ∧ Below w.heap.size w w' := by
  unfold pv
  go_enter Try.func16, Try.ntmps16
  go_wp2
  refine bodyPost_ret (v := .agg #[.int .i64 P, .int .i64 D]) (by simp [results, Try.results16, go_sem]) rfl ⟨rfl, ?_⟩
  repeat (first | exact Below.refl _ _ | refine Below.setCell ?_ (by simp; done) _ | refine Below.alloc ?_ (by simp <;> omega) _)
theorem toPoint (X Y : Int) (w : World) : Calls Try.prog 19 #[pv X Y] w fun e w' => e = .returned (pv X Y) ∧ Below w.heap.size w w' := by
  unfold pv
  go_enter Try.func19, Try.ntmps19
  go_wp2
  refine bodyPost_ret (v := .agg #[.int .i64 X, .int .i64 Y]) (by simp [results, Try.results19, go_sem]) rfl ⟨rfl, ?_⟩
  repeat (first | exact Below.refl _ _ | refine Below.setCell ?_ (by simp; done) _ | refine Below.alloc ?_ (by simp <;> omega) _)
theorem eqPoint (X Y : Int) (w : World) : Calls Try.prog 23 #[pv X Y, pv X Y] w fun e w' => e = .returned (.bool true) ∧ Below w.heap.size w w' := by
  unfold pv
  go_enter Try.func23, Try.ntmps23
  go_wp2
  go_ret
  refine ⟨rfl, ?_⟩
  repeat (first | exact Below.refl _ _ | refine Below.setCell ?_ (by simp; done) _ | refine Below.alloc ?_ (by simp <;> omega) _)
theorem neutral (w : World) : Calls Try.prog 54 #[] w fun e w' => e = .returned (pv 0 1) ∧ Below w.heap.size w w' := by
  unfold pv
  go_enter Try.func54, Try.ntmps54
  go_wp2
  refine bodyPost_ret (v := .agg #[.int .i64 0, .int .i64 1]) (by simp [results, Try.results54, go_sem]) rfl ⟨rfl, ?_⟩
  repeat (first | exact Below.refl _ _ | refine Below.setCell ?_ (by simp; done) _ | refine Below.alloc ?_ (by simp <;> omega) _)
namespace G
theorem walk (P D : Int) (w0 : (Lit.int .i64 P).wf = true) (w1 : (Lit.int .i64 D).wf = true) (w : World) :
    Calls Try.prog 3 #[pv P D] w fun e w' => e = .returned (.bool true) ∧ Below w.heap.size w w' := by
  have hal : Below w.heap.size w (w.alloc (.cells #[.int .i64 P, .int .i64 D] 23)) := (Below.refl _ w).alloc (Nat.le_refl _) _
  have K0 : (w.alloc (.cells #[.int .i64 P, .int .i64 D] 23)).heap[w.heap.size]? = some (.cells #[.int .i64 P, .int .i64 D] 23) := heap_alloc_new w _
  have T := Lib.hid (fun W => toCurve P D W)
  have C1 := Lib.hid (fun W => specGood P D W)
  have C2 := Lib.hid (fun W => implGood P D W)
  unfold pv at *
  go_enter Try.func3, Try.ntmps3
  go_wp2_with fail
  refine (T.out _).mono ?_
  rintro e w1 ⟨rfl, b1⟩
  have K1 := bx K0 b1
  have B1 := hal.trans (b1.mono (by simp))
  clear b1
  go_wp2_with fail
  refine (C1.out _).mono ?_
  rintro e w2 ⟨rfl, b2⟩
  have K2 := bx K1 b2
  have B2 := B1.trans (b2.mono B1.size)
  obtain ⟨c0, c1⟩ := row2 K2
  clear b2
  go_wp2_with fail
  refine (T.out _).mono ?_
  rintro e w3 ⟨rfl, b3⟩
  have B3 := B2.trans (b3.mono B2.size)
  clear b3 c0 c1
  go_wp2_with fail
  refine (C2.out _).mono ?_
  rintro e w4 ⟨rfl, b4⟩
  have B4 := B3.trans (b4.mono B3.size)
  clear b4
  go_wp2
  go_ret
  exact ⟨rfl, B4⟩
end G
theorem implZero (P D : Int) (w : World) : Calls Try.prog 25 #[pv P D] w fun e w' => e = .returned (.tuple #[if okC P D then pv 0 1 else pv 0 0, .bool (okC P D)]) ∧ Below w.heap.size w w' := by
  have C1 := Lib.hid (fun W => implGood P D W)
  have C2 := Lib.hid (fun W => neutral W)
  unfold pv at *
  generalize okC P D = b at *
  go_enter Try.func25, Try.ntmps25
  go_wp2_with fail
  refine (C1.out _).mono ?_
  rintro e w1 ⟨rfl, b1⟩
  have K := bx (heap_alloc_new _ _) b1
  simp only [World.size_alloc] at K
  obtain ⟨c0, c1⟩ := row2 K
  obtain ⟨f0, f1⟩ := frz2 K
  have B : Below w.heap.size w w1 := (((Below.refl _ w).alloc (Nat.le_refl _) _).alloc (by simp) _).trans (b1.mono (by simp; omega))
  have hz : w.heap.size + 1 < w1.heap.size := bx_lt K
  clear b1
  cases b
  · go_wp2
    refine bodyPost_ret (v := .tuple #[.agg #[.int .i64 0, .int .i64 0], .bool false]) (by simp [results, Try.results25, go_sem, c0, c1]) rfl ⟨rfl, ?_⟩
    exact (B.setCell (by simp) _).setCell (by simp) _
  · go_wp2_with fail
    refine (C2.out _).mono ?_
    rintro e w2 ⟨rfl, b2⟩
    have K2 := bx K b2
    obtain ⟨c0', c1'⟩ := row2 K2
    obtain ⟨f0', f1'⟩ := frz2 K2
    have B2 := B.trans (b2.mono B.size)
    clear b2 c0 c1 f0 f1
    go_wp2
    refine bodyPost_ret (v := .tuple #[.agg #[.int .i64 0, .int .i64 1], .bool true]) (by simp [results, Try.results25, go_sem, c0', c1']) rfl ⟨rfl, ?_⟩
    exact (B2.setCell (by simp) _).setCell (by simp) _
end Go.Proofs.Ytapdecmaaciaaaa.Crv
