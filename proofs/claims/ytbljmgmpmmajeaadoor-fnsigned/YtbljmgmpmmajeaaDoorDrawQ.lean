/-
  A signature drawn.
-/
import Derived.Test.YtbljmgmpmmajeaaDoorDrawO
namespace Go.Proofs.YtbljmgmpmmajeaaDoor.DrawQ
open Go.ChangeShapes Go.WideShapes Go.ChangeAt Go.RowKit
open Go.Proofs.YtbljmgmpmmajeaaDoor.Mem Go.Proofs.YtbljmgmpmmajeaaDoor.Ints Go.Proofs.YtbljmgmpmmajeaaDoor.Cur Go.Proofs.YtbljmgmpmmajeaaDoor.DrawM Go.Proofs.YtbljmgmpmmajeaaDoor.Strs Go.Proofs.YtbljmgmpmmajeaaDoor.Sch Go.Proofs.YtbljmgmpmmajeaaDoor.Key Go.Proofs.YtbljmgmpmmajeaaDoor.Cha Go.Proofs.YtbljmgmpmmajeaaDoor.Chb Go.Proofs.YtbljmgmpmmajeaaDoor.Rec Go.Proofs.YtbljmgmpmmajeaaDoor.Sgt Go.Proofs.YtbljmgmpmmajeaaDoor.DrawN Go.Proofs.YtbljmgmpmmajeaaDoor.DrawO
set_option linter.unusedVariables false
set_option maxRecDepth 100000

theorem curDrew {w : World} {p B K : Nat} (h : Cur w p B K) : Cur w.drew p B K := h.alike rfl
theorem updDrew {p : Nat} {a w : World} (h : Upd p a w) : Upd p a w.drew := h.alike rfl rfl rfl rfl
def SomeS (p B K : Nat) (w : World) (e : Ending) (w' : World) : Prop := ∃ (k : Int) (t : ByteArray) (R S : Int), e = .returned (.tuple #[.int .i64 k, .string t, .agg #[.int .i64 R, .int .i64 S]]) ∧ t.size ≤ 202 ∧ Cur w' p B (K + 30) ∧ Upd p w w'
set_option maxHeartbeats 4000000 in
theorem signed (p B K : Nat) (w : World) (hK : K ≤ 800000) (hc : Cur w p B K) :
    Calls Tryd.prog 72 #[.pointer (some ⟨p, 0, none⟩)] w (SomeS p B K w) := by
  have hpw := hc.lt
  have k0 := nw1 w (.cells #[.int .i64 0, .int .i64 0] 28)
  have hc0 := cur_alloc hc (.cells #[.int .i64 0, .int .i64 0] 28)
  have hu0 := upd_alloc (Upd.refl p w) (.cells #[.int .i64 0, .int .i64 0] 28)
  go_enter Tryd.func72, Tryd.ntmps72
  go_wp2_with fail
  generalize World.alloc w _ = W0 at *
  refine (secret p B K W0 (by omega) hc0).mono ?_
  rintro e w1 ⟨n, rfl, n0, n1, hc1, hu1⟩
  obtain ⟨k, bk, -, KS, -, -⟩ := keyBoth n
  have HKS := Lib.hid KS
  have hU1 := hu0.trans hu1
  have H0 := Lib.hid (rowUpd k0 hu1 (by omega))
  clear KS hc0 hu0 hu1 k0
  go_wp2_with fail
  refine (HKS.out _).mono ?_
  rintro e w' ⟨rfl, rfl⟩
  clear HKS
  go_wp2_with fail
  refine (message p B _ w1 (by omega) hc1).mono ?_
  rintro e w2 ⟨t, rfl, ht, hc2, hu2⟩
  have hU2 := hU1.trans hu2
  have H1 := Lib.hid (rowUpd H0.out hu2 (by omega))
  obtain ⟨u, v, bt, -, TS, -, -⟩ := textBoth n t (by unfold maxLen; omega)
  have HTS := Lib.hid TS
  clear TS hc1 hu2 hU1 H0
  unfold pv at HTS
  go_wp2_with fail
  refine (HTS.out _).mono ?_
  rintro e w3 ⟨rfl, b3⟩
  have hc3 := cur_alloc (curBel hc2 b3) (.cells #[.int .i64 u, .int .i64 v] 28)
  have hU3 := upd_alloc (updBel hU2 b3) (.cells #[.int .i64 u, .int .i64 v] 28)
  have H0 := Lib.hid (bx (bx H1.out b3) (al1 w3 (.cells #[.int .i64 u, .int .i64 v] 28)))
  have k9 := nw1 w3 (.cells #[.int .i64 u, .int .i64 v] 28)
  have hz3 : w.heap.size < w3.heap.size := bx_lt (bx H1.out b3)
  clear HTS hc2 b3 hU2 H1
  go_wp2_with fail
  generalize World.alloc w3 _ = W3 at *
  generalize w3.heap.size = g at *
  refine (pick p B _ 8 W3 (by omega) (by omega) hc3).mono ?_
  rintro e w4 ⟨x, rfl, x0, x1, hc4, hu4⟩
  have HC := Lib.hid hc4
  have HU := Lib.hid (hU3.trans hu4)
  have H1 := Lib.hid (rowUpd H0.out hu4 (by omega))
  have H9 := Lib.hid (rowUpd k9 hu4 (by omega))
  have hx8 : x < 8 := by omega
  clear hc3 hU3 H0 k9 hc4 hu4 x1
  have H0 := H1
  clear H1
  by_cases e0 : x = 0
  · subst e0
    obtain ⟨c0, c1⟩ := row2 H9.out
    obtain ⟨f0, f1⟩ := frz2 H9.out
    have zg := bx_lt H9.out
    go_wp2_with fail
    generalize (wrap64 (v + 1)).tmod 1014 = y at *
    have N9 := Lib.hid (heap_setCell_same w4 g 1 _ _ (.int .i64 y) H9.out)
    have N0 : Hid ((w4.setCell ⟨g, 1, none⟩ (.int .i64 y)).heap[w.heap.size]? = some (.cells #[.int .i64 0, .int .i64 0] 28)) := Lib.hid ((heap_setCell_other _ _ _ _ (by dsimp only; omega)).trans H0.out)
    have NC := Lib.hid (curSet (b := g) (i := 1) HC.out (by omega) (.int .i64 y))
    have NU := Lib.hid (updSet (b := g) (i := 1) HU.out (by omega) (.int .i64 y))
    clear HC HU H0 H9 c0 c1 f0 f1 zg
    generalize World.setCell w4 _ _ = v5 at *
    have H9 : Hid (v5.heap[g]? = some (.cells #[.int .i64 u, .int .i64 y] 28)) := Lib.hid (by simpa using N9.out)
    have H0 := N0
    have HC := NC
    have HU := NU
    clear N9 N0 NC NU
    go_wp2_with fail
    obtain ⟨c0, c1⟩ := row2 H9.out
    obtain ⟨d0, d1⟩ := row2 H0.out
    obtain ⟨f0, f1⟩ := frz2 H0.out
    have zz := bx_lt H0.out
    go_region_held3 (fun w' => w'.cell? ⟨g, 0, none⟩ = some (.int .i64 u) ∧ w'.cell? ⟨g, 1, none⟩ = some (.int .i64 y))
      (first | (refine ⟨?_, ?_⟩ <;> with_reducible assumption) | (refine ⟨?_, ?_⟩ <;> (refine cell_set2 ?_ ?_; with_reducible assumption; omega)) | (go_keep; done)) (fail)
    all_goals
      go_wp2
      refine bodyPost_ret (v := .tuple #[.int .i64 k, .string t, .agg #[.int .i64 u, .int .i64 y]]) (by simp [results, Tryd.results72, go_sem, d0, d1]) rfl ⟨k, t, _, _, rfl, by omega, ?_, ?_⟩
      · (repeat (first | exact HC.out.mono (by omega) | refine curDrew ?_ | refine curSet ?_ (by omega) _)); done
      · (repeat (first | exact HU.out | refine updDrew ?_ | refine updSet ?_ (Nat.le_refl _) _)); done
  by_cases e1 : x = 1
  · subst e1
    go_wp2_with fail
    refine (amongLit p B _ _ [0, 1, 4, 2027] w4 (by omega) (by simp) (by simp) rfl HC.out).mono ?_
    rintro e w5 ⟨z, rfl, hz, hc5, hu5⟩
    have NC := Lib.hid hc5
    have NU := Lib.hid (HU.out.trans hu5)
    have N0 := Lib.hid (rowUpd H0.out hu5 (by omega))
    have N9 := Lib.hid (rowUpd H9.out hu5 (by omega))
    clear hz hc5 hu5 H0 H9 HC HU
    obtain ⟨c0, c1⟩ := row2 N9.out
    obtain ⟨f0, f1⟩ := frz2 N9.out
    have zg := bx_lt N9.out
    go_wp2_with fail
    have M9 := Lib.hid (heap_setCell_same w5 g 0 _ _ (.int .i64 z) N9.out)
    have M0 : Hid ((w5.setCell ⟨g, 0, none⟩ (.int .i64 z)).heap[w.heap.size]? = some (.cells #[.int .i64 0, .int .i64 0] 28)) := Lib.hid ((heap_setCell_other _ _ _ _ (by dsimp only; omega)).trans N0.out)
    have HC := Lib.hid (curSet (b := g) (i := 0) NC.out (by omega) (.int .i64 z))
    have HU := Lib.hid (updSet (b := g) (i := 0) NU.out (by omega) (.int .i64 z))
    clear NC NU N0 N9 c0 c1 f0 f1 zg
    generalize World.setCell w5 _ _ = v5 at *
    have H9 : Hid (v5.heap[g]? = some (.cells #[.int .i64 z, .int .i64 v] 28)) := Lib.hid (by simpa using M9.out)
    have H0 := M0
    clear M9 M0
    go_wp2_with fail
    obtain ⟨c0, c1⟩ := row2 H9.out
    obtain ⟨d0, d1⟩ := row2 H0.out
    obtain ⟨f0, f1⟩ := frz2 H0.out
    have zz := bx_lt H0.out
    go_region_held3 (fun w' => w'.cell? ⟨g, 0, none⟩ = some (.int .i64 z) ∧ w'.cell? ⟨g, 1, none⟩ = some (.int .i64 v))
      (first | (refine ⟨?_, ?_⟩ <;> with_reducible assumption) | (refine ⟨?_, ?_⟩ <;> (refine cell_set2 ?_ ?_; with_reducible assumption; omega)) | (go_keep; done)) (fail)
    all_goals
      go_wp2
      refine bodyPost_ret (v := .tuple #[.int .i64 k, .string t, .agg #[.int .i64 z, .int .i64 v]]) (by simp [results, Tryd.results72, go_sem, d0, d1]) rfl ⟨k, t, _, _, rfl, by omega, ?_, ?_⟩
      · (repeat (first | exact HC.out.mono (by omega) | refine curDrew ?_ | refine curSet ?_ (by omega) _)); done
      · (repeat (first | exact HU.out | refine updDrew ?_ | refine updSet ?_ (Nat.le_refl _) _)); done
  by_cases e2 : x = 2
  · subst e2
    have hadd : ∀ W, (Op.stringOp .add t ⟨#[33]⟩).run Tryd.prog W = .ok (.string (t ++ ⟨#[33]⟩)) W := fun W => run_string_add_sum W t ⟨#[33]⟩ (by show _ + 1 ≤ _; omega)
    have hts : (t ++ (⟨#[33]⟩ : ByteArray)).size ≤ 202 := by rw [ByteArray.size_append]; show _ + 1 ≤ _; omega
    have HTS := Lib.hid hts
    clear hts
    go_wp2_with fail
    clear hadd
    generalize t ++ (⟨#[33]⟩ : ByteArray) = t2 at *
    go_wp2_with fail
    obtain ⟨c0, c1⟩ := row2 H9.out
    obtain ⟨d0, d1⟩ := row2 H0.out
    obtain ⟨f0, f1⟩ := frz2 H0.out
    have zz := bx_lt H0.out
    go_region_held3 (fun w' => w'.cell? ⟨g, 0, none⟩ = some (.int .i64 u) ∧ w'.cell? ⟨g, 1, none⟩ = some (.int .i64 v))
      (first | (refine ⟨?_, ?_⟩ <;> with_reducible assumption) | (refine ⟨?_, ?_⟩ <;> (refine cell_set2 ?_ ?_; with_reducible assumption; omega)) | (go_keep; done)) (fail)
    all_goals
      go_wp2
      refine bodyPost_ret (v := .tuple #[.int .i64 k, .string t2, .agg #[.int .i64 u, .int .i64 v]]) (by simp [results, Tryd.results72, go_sem, d0, d1]) rfl ⟨k, t2, _, _, rfl, HTS.out, ?_, ?_⟩
      · (repeat (first | exact HC.out.mono (by omega) | refine curDrew ?_ | refine curSet ?_ (by omega) _)); done
      · (repeat (first | exact HU.out | refine updDrew ?_ | refine updSet ?_ (Nat.le_refl _) _)); done
  have ne0 : ¬ x = 0 := e0
  have ne1 : ¬ x = 1 := e1
  have ne2 : ¬ x = 2 := e2
  go_wp2_with fail
  obtain ⟨c0, c1⟩ := row2 H9.out
  obtain ⟨d0, d1⟩ := row2 H0.out
  obtain ⟨f0, f1⟩ := frz2 H0.out
  have zz := bx_lt H0.out
  go_region_held3 (fun w' => w'.cell? ⟨g, 0, none⟩ = some (.int .i64 u) ∧ w'.cell? ⟨g, 1, none⟩ = some (.int .i64 v))
    (first | (refine ⟨?_, ?_⟩ <;> with_reducible assumption) | (refine ⟨?_, ?_⟩ <;> (refine cell_set2 ?_ ?_; with_reducible assumption; omega)) | (go_keep; done)) (fail)
  all_goals
    go_wp2
    refine bodyPost_ret (v := .tuple #[.int .i64 k, .string t, .agg #[.int .i64 u, .int .i64 v]]) (by simp [results, Tryd.results72, go_sem, d0, d1]) rfl ⟨k, t, _, _, rfl, by omega, ?_, ?_⟩
    · (repeat (first | exact HC.out.mono (by omega) | refine curDrew ?_ | refine curSet ?_ (by omega) _)); done
    · (repeat (first | exact HU.out | refine updDrew ?_ | refine updSet ?_ (Nat.le_refl _) _)); done
theorem drawCheck (A : Option Addr) (n c : Nat) (cs : List UInt8) (w : World) (hn : n ≤ maxLen) (hx : Rd w w.heap.size 1 A n (Cur.bytes cs)) :
    Calls Tryd.prog 39 #[.slice A n c] w fun e w' => ∃ (k : Int) (t : ByteArray) (R S : Int), e = .returned (.tuple #[.int .i64 k, .string t, .agg #[.int .i64 R, .int .i64 S]]) ∧ t.size ≤ 202 ∧ Below w.heap.size w w' := by
  have b0 := al1 w (.cells #[.int .i64 0, .int .i64 0] 28)
  have k0 := nw1 w (.cells #[.int .i64 0, .int .i64 0] 28)
  have hx0 := (hx.below b0 (Nat.le_refl _)).mono b0.size
  have hc0 := boxed_cur A n c cs _ hn hx0
  have k1 := Lib.hid (bx k0 (al1 (w.alloc (.cells #[.int .i64 0, .int .i64 0] 28)) (.cells #[.slice A n c, .int .i64 0, .int .u64 0] 91)))
  simp only [World.size_alloc] at hc0
  have HC0 := Lib.hid hc0
  have B0 := Lib.hid (al2 w (.cells #[.int .i64 0, .int .i64 0] 28) (.cells #[.slice A n c, .int .i64 0, .int .u64 0] 91))
  clear hc0 hx0 b0 k0
  go_enter Tryd.func39, Tryd.ntmps39
  go_wp2_with fail
  generalize World.alloc (World.alloc w _) _ = W0 at *
  refine (signed (w.heap.size + 1) _ 0 W0 (by omega) HC0.out).mono ?_
  rintro e w1 ⟨k, t, R, S, rfl, ht, hc1, hu1⟩
  have K1 := rowUpd k1.out hu1 (by omega)
  obtain ⟨c0, c1⟩ := row2 K1
  obtain ⟨f0, f1⟩ := frz2 K1
  have hz := bx_lt K1
  have B1 : Below w.heap.size w w1 := B0.out.trans (hu1.below (by omega) B0.out.size)
  clear hc1 hu1 K1 k1 B0 HC0
  go_wp2
  refine bodyPost_ret (v := .tuple #[.int .i64 k, .string t, .agg #[.int .i64 R, .int .i64 S]]) (by simp [results, Tryd.results39, go_sem, c0, c1]) rfl ⟨k, t, R, S, rfl, ht, ?_⟩
  repeat (first | exact B1 | refine Below.setCell ?_ (by simp) _)
end Go.Proofs.YtbljmgmpmmajeaaDoor.DrawQ
