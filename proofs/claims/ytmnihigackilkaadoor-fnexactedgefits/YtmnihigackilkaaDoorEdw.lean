/-
  NewEdge by both sides: one answer.
-/
import Derived.Test.YtmnihigackilkaaDoorEdn
namespace Go.Proofs.YtmnihigackilkaaDoor.Edw
open Go.ChangeShapes Go.WideShapes Go.ChangeAt Go.RowKit
open Go.Proofs.YtmnihigackilkaaDoor.Mem Go.Proofs.YtmnihigackilkaaDoor.Ints Go.Proofs.YtmnihigackilkaaDoor.Strs Go.Proofs.YtmnihigackilkaaDoor.Slq Go.Proofs.YtmnihigackilkaaDoor.Rec Go.Proofs.YtmnihigackilkaaDoor.Edg Go.Proofs.YtmnihigackilkaaDoor.Pop Go.Proofs.YtmnihigackilkaaDoor.Bit Go.Proofs.YtmnihigackilkaaDoor.Pts Go.Proofs.YtmnihigackilkaaDoor.Edq Go.Proofs.YtmnihigackilkaaDoor.Edn
set_option linter.unusedVariables false
set_option maxRecDepth 100000

/-- May there be a frontier of one part? -/
def okN (m : Int) (s : ByteArray) : Bool := decide (0 ≤ m ∧ m ≤ 524288 ∧ (m.toNat &&& (m.toNat - 1)) = 0 ∧ s.size = 32)
theorem okN_one {k : Nat} (h : k ≤ 1000000) : pc k ≤ 1 ↔ (k ≤ 524288 ∧ (k &&& (k - 1)) = 0) := by
  by_cases h0 : k = 0
  · subst h0; rw [pc_zero]; simp
  · rw [pc_one (by omega), ← pow_and k k (Nat.le_refl _) (by omega)]
    refine ⟨fun q => ⟨?_, q⟩, fun q => q.2⟩
    have q' := (pow_and k k (Nat.le_refl _) (by omega)).1 q
    obtain ⟨j, e, a1, a2⟩ := top_spec (show 1 ≤ k by omega)
    rw [q'] at e
    rcases Nat.lt_or_ge j 20 with hj | hj
    · have : 2 ^ j ≤ 2 ^ 19 := Nat.pow_le_pow_right (by omega) (by omega)
      omega
    · have : 2 ^ 20 ≤ 2 ^ j := Nat.pow_le_pow_right (by omega) hj
      omega
def nwL (m : Int) (s : ByteArray) : List ByteArray := if okN m s = true ∧ m ≠ 0 then [s] else []
def nwM (m : Int) (s : ByteArray) : Int := if okN m s = true then m else 0
def Ans (k : Int) (l : List ByteArray) (b : Bool) (w : World) (e : Ending) (w' : World) : Prop := ∃ A c, e = .returned (.tuple #[edV k A l.length c, .bool b]) ∧ w'.ownsRow w.heap.size 9 1 (.slice A l.length c) l.length (svs l) ∧ Below w.heap.size w w'
theorem litS (w : World) (s : ByteArray) : (w.alloc (.cells #[.string s] 9)).ownsRow w.heap.size 9 1 (.slice (some ⟨w.heap.size, 0, none⟩) 1 1) 1 (svs [s]) :=
  World.ownsRow_lit (base := w.heap.size) (e := 9) (size := 1) w #[.string s] 1 (Nat.le_refl _) (by unfold maxLen; omega) (by simp)
theorem and_pred (k : Nat) (h : k ≤ 1000000) : bits .and .i64 (k : Int) ((k : Int) - 1) = ((k &&& (k - 1) : Nat) : Int) := by
  by_cases h0 : k = 0
  · subst h0; decide
  · rw [show ((k : Int) - 1) = ((k - 1 : Nat) : Int) from by omega]
    exact and_i k (k - 1) (by omega) (by omega)
/-- The three ways. -/
theorem okN_no {m : Int} {s : ByteArray} (h : okN m s = false) : nwM m s = 0 ∧ nwL m s = [] := by unfold nwM nwL; rw [h]; simp
theorem okN_zero {s : ByteArray} : nwM 0 s = 0 ∧ nwL 0 s = [] := by unfold nwM nwL; simp
theorem okN_pos {m : Int} {s : ByteArray} (h : okN m s = true) (h0 : m ≠ 0) : nwM m s = m ∧ nwL m s = [s] := by unfold nwM nwL; rw [h]; simp [h0]
theorem ansNo {w W1 : World} (b : Bool) (hb : Below w.heap.size w W1) : Ans 0 [] b w (.returned (.tuple #[.agg #[.int .i64 0, .slice none 0 0], .bool b])) W1 := ⟨none, 0, rfl, World.ownsRow_nil _ _ _ _, hb⟩
set_option maxHeartbeats 8000000 in
theorem specNew (m : Int) (s : ByteArray) (w : World) (hs : s.size ≤ maxLen) : Calls Tryd.prog 60 #[.int .i64 m, .string s] w (Ans (nwM m s) (nwL m s) (okN m s) w) := by
  unfold maxLen at hs
  have C1 := Lib.hid (fun W => inB m 0 524288 W)
  have b1 := al1 w (.cells #[.int .i64 0, .slice none 0 0] 53)
  have k1 := nw1 w (.cells #[.int .i64 0, .slice none 0 0] 53)
  have z1 : (w.alloc (.cells #[.int .i64 0, .slice none 0 0] 53)).heap.size = w.heap.size + 1 := World.size_alloc _ _
  have FIN : ∀ (b : Bool), okN m s = b → nwM m s = 0 → nwL m s = [] → True := fun _ _ _ _ => trivial
  by_cases h1 : 0 ≤ m ∧ m ≤ 524288
  · obtain ⟨k, rfl⟩ : ∃ k : Nat, m = k := ⟨m.toNat, by omega⟩
    rw [decide_eq_true h1] at C1
    have hk : k ≤ 524288 := by omega
    have HA := and_pred k (by omega)
    obtain ⟨q, hq⟩ : ∃ q, q = k &&& (k - 1) := ⟨_, rfl⟩
    have HO : okN (k : Int) s = (decide (q = 0) && decide (s.size = 32)) := by
      unfold okN
      rw [Int.toNat_natCast, ← hq]
      by_cases q1 : q = 0 <;> by_cases q2 : s.size = 32 <;> simp [q1, q2] <;> omega
    rw [← hq] at HA
    clear hq
    by_cases hok : okN (k : Int) s = true
    · rw [hok]
      rw [hok] at HO
      have q1 : q = 0 := by have := HO.symm; simp at this; exact this.1
      have q2 : s.size = 32 := by have := HO.symm; simp at this; exact this.2
      have n1 : (((q : Nat) : Int) != 0) = false := by rw [q1]; rfl
      have n2 : ((s.size : Int) != 32) = false := by rw [bne_eq_false_iff_eq]; omega
      by_cases hz : k = 0
      · have e := okN_zero (s := s)
        have n3 : ((k : Int) == 0) = true := by rw [hz]; rfl
        rw [show nwM (k : Int) s = 0 from by rw [hz]; exact e.1, show nwL (k : Int) s = [] from by rw [hz]; exact e.2]
        clear HO q1 q2 hok e FIN h1 hz
        obtain ⟨c0, c1⟩ := row2 k1
        obtain ⟨f0, f1⟩ := frz2 k1
        go_enter Tryd.func60, Tryd.ntmps60
        go_wp2_with fail
        generalize World.alloc w _ = W0 at *
        refine (C1.out W0).mono ?_
        rintro e w' ⟨rfl, rfl⟩
        go_wp2
        obtain ⟨e0, e1⟩ := row2 (heap_set2 (x := .int .i64 0) (y := .slice none 0 0) k1)
        refine bodyPost_ret (v := .tuple #[.agg #[.int .i64 0, .slice none 0 0], .bool true]) (by simp [results, Tryd.results60, go_sem, e0, e1]) rfl (ansNo true (Below.setCell (Below.setCell b1 (Nat.le_refl _) _) (Nat.le_refl _) _))
      · have e := okN_pos hok (by omega)
        rw [e.1, e.2]
        have n3 : ((k : Int) == 0) = false := by rw [beq_eq_false_iff_ne]; omega
        clear HO q1 q2 hok e FIN h1
        unfold Ans edV
        obtain ⟨c0, c1⟩ := row2 k1
        obtain ⟨f0, f1⟩ := frz2 k1
        go_enter Tryd.func60, Tryd.ntmps60
        go_wp2_with fail
        generalize World.alloc w _ = W0 at *
        refine (C1.out W0).mono ?_
        rintro e w' ⟨rfl, rfl⟩
        go_wp2
        have r := bx (heap_set2 (x := .int .i64 (k : Int)) (y := .slice (some ⟨w.heap.size + 1, 0, none⟩) 1 1) k1) (al1 _ (.cells #[.string s] 9))
        have o := litS ((W0.setCell ⟨w.heap.size, 0, none⟩ (.int .i64 (k : Int))).setCell ⟨w.heap.size, 1, none⟩ (.slice (some ⟨w.heap.size + 1, 0, none⟩) 1 1)) s
        have z2 : ((W0.setCell ⟨w.heap.size, 0, none⟩ (.int .i64 (k : Int))).setCell ⟨w.heap.size, 1, none⟩ (.slice (some ⟨w.heap.size + 1, 0, none⟩) 1 1)).heap.size = w.heap.size + 1 := by simp [World.setCell, z1]
        rw [z2] at o
        have bF : Below w.heap.size w (((W0.setCell ⟨w.heap.size, 0, none⟩ (.int .i64 (k : Int))).setCell ⟨w.heap.size, 1, none⟩ (.slice (some ⟨w.heap.size + 1, 0, none⟩) 1 1)).alloc (.cells #[.string s] 9)) := Below.alloc (Below.setCell (Below.setCell b1 (Nat.le_refl _) _) (Nat.le_refl _) _) (by omega) _
        obtain ⟨e0, e1⟩ := row2 r
        refine bodyPost_ret (v := .tuple #[.agg #[.int .i64 (k : Int), .slice (some ⟨w.heap.size + 1, 0, none⟩) 1 1], .bool true]) (by simp [results, Tryd.results60, go_sem, e0, e1]) rfl ⟨some ⟨w.heap.size + 1, 0, none⟩, 1, rfl, own_base o (show w.heap.size ≤ w.heap.size + 1 by omega), bF⟩
    · have hok' := Bool.eq_false_iff.2 hok
      have e := okN_no hok'
      rw [hok', e.1, e.2]
      rw [hok'] at HO
      by_cases q1 : q = 0
      · have q2 : s.size ≠ 32 := by
          intro q2
          rw [decide_eq_true q1, decide_eq_true q2] at HO
          cases HO
        have n1 : (((q : Nat) : Int) != 0) = false := by rw [q1]; rfl
        have n2 : ((s.size : Int) != 32) = true := by rw [bne_iff_ne]; omega
        clear HO q1 q2 hok hok' e FIN h1
        obtain ⟨c0, c1⟩ := row2 k1
        obtain ⟨f0, f1⟩ := frz2 k1
        go_enter Tryd.func60, Tryd.ntmps60
        go_wp2_with fail
        generalize World.alloc w _ = W0 at *
        refine (C1.out W0).mono ?_
        rintro e w' ⟨rfl, rfl⟩
        go_wp2
        obtain ⟨e0, e1⟩ := row2 (heap_set2 (x := .int .i64 0) (y := .slice none 0 0) k1)
        refine bodyPost_ret (v := .tuple #[.agg #[.int .i64 0, .slice none 0 0], .bool false]) (by simp [results, Tryd.results60, go_sem, e0, e1]) rfl (ansNo false (Below.setCell (Below.setCell b1 (Nat.le_refl _) _) (Nat.le_refl _) _))
      · have n1 : (((q : Nat) : Int) != 0) = true := by rw [bne_iff_ne]; omega
        clear HO q1 hok hok' e FIN h1
        obtain ⟨c0, c1⟩ := row2 k1
        obtain ⟨f0, f1⟩ := frz2 k1
        go_enter Tryd.func60, Tryd.ntmps60
        go_wp2_with fail
        generalize World.alloc w _ = W0 at *
        refine (C1.out W0).mono ?_
        rintro e w' ⟨rfl, rfl⟩
        go_wp2
        obtain ⟨e0, e1⟩ := row2 (heap_set2 (x := .int .i64 0) (y := .slice none 0 0) k1)
        refine bodyPost_ret (v := .tuple #[.agg #[.int .i64 0, .slice none 0 0], .bool false]) (by simp [results, Tryd.results60, go_sem, e0, e1]) rfl (ansNo false (Below.setCell (Below.setCell b1 (Nat.le_refl _) _) (Nat.le_refl _) _))
  · have hok' : okN m s = false := by unfold okN; rw [decide_eq_false]; rintro ⟨a1, a2, _⟩; exact h1 ⟨a1, a2⟩
    have e := okN_no hok'
    rw [hok', e.1, e.2]
    rw [decide_eq_false h1] at C1
    clear hok' e FIN h1
    obtain ⟨c0, c1⟩ := row2 k1
    obtain ⟨f0, f1⟩ := frz2 k1
    go_enter Tryd.func60, Tryd.ntmps60
    go_wp2_with fail
    generalize World.alloc w _ = W0 at *
    refine (C1.out W0).mono ?_
    rintro e w' ⟨rfl, rfl⟩
    go_wp2
    obtain ⟨e0, e1⟩ := row2 (heap_set2 (x := .int .i64 0) (y := .slice none 0 0) k1)
    refine bodyPost_ret (v := .tuple #[.agg #[.int .i64 0, .slice none 0 0], .bool false]) (by simp [results, Tryd.results60, go_sem, e0, e1]) rfl (ansNo false (Below.setCell (Below.setCell b1 (Nat.le_refl _) _) (Nat.le_refl _) _))
theorem stClone (s : ByteArray) (w : World) (h : s.size ≤ 1000) : Calls Tryd.prog 124 #[.string s] w fun e w' => e = .returned (.string s) ∧ Below w.heap.size w w' := by
  have C := Lib.hid (Tryd.stringslite_Clone s w (by omega))
  go_enter Tryd.func124, Tryd.ntmps124
  go_wp2_with fail
  refine C.out.mono ?_
  rintro e w' ⟨rfl, hb⟩
  go_wp2
  go_ret
  exact ⟨rfl, hb⟩
set_option maxHeartbeats 8000000 in
theorem implNew (m : Int) (s : ByteArray) (w : World) (hs : s.size ≤ maxLen) : Calls Tryd.prog 59 #[.int .i64 m, .string s] w (Ans (nwM m s) (nwL m s) (okN m s) w) := by
  have C3 := Lib.hid (fun W => Bit.isDigest s W hs)
  unfold maxLen at hs
  have C1 := Lib.hid (fun W => isCount m W)
  have b1 := al1 w (.cells #[.int .i64 0, .slice none 0 0] 53)
  have k1 := nw1 w (.cells #[.int .i64 0, .slice none 0 0] 53)
  have z1 : (w.alloc (.cells #[.int .i64 0, .slice none 0 0] 53)).heap.size = w.heap.size + 1 := World.size_alloc _ _
  by_cases h1 : okM m = true
  · obtain ⟨k, rfl, hk⟩ := okM_yes h1
    rw [h1] at C1
    have C2 := Lib.hid (fun W => partCount k W hk)
    have HO : okN (k : Int) s = (decide (pc k ≤ 1) && decide (s.size = 32)) := by
      unfold okN
      have := okN_one hk
      rw [Int.toNat_natCast]
      by_cases q1 : pc k ≤ 1
      · have q := this.1 q1
        by_cases q2 : s.size = 32 <;> simp [q1, q2, q.2]
        omega
      · have q : ¬ (k ≤ 524288 ∧ (k &&& (k - 1)) = 0) := fun h => q1 (this.2 h)
        rw [decide_eq_false q1, Bool.false_and, decide_eq_false]
        rintro ⟨a1, a2, a3, a4⟩
        exact q ⟨by omega, a3⟩
    have hpk : pc k ≤ 21 := pc_le21 k hk
    generalize pc k = p at *
    by_cases q1 : p ≤ 1
    · by_cases q2 : s.size = 32
      · have hok : okN (k : Int) s = true := by rw [HO, decide_eq_true q1, decide_eq_true q2]; rfl
        rw [hok]
        rw [decide_eq_true q2] at C3
        by_cases hz : k = 0
        · have e := okN_zero (s := s)
          have n3 : ((k : Int) == 0) = true := by rw [hz]; rfl
          rw [show nwM (k : Int) s = 0 from by rw [hz]; exact e.1, show nwL (k : Int) s = [] from by rw [hz]; exact e.2]
          clear HO q2 hok e h1 hz
          obtain ⟨c0, c1⟩ := row2 k1
          obtain ⟨f0, f1⟩ := frz2 k1
          go_enter Tryd.func59, Tryd.ntmps59
          go_wp2_with fail
          generalize World.alloc w _ = W0 at *
          refine (C1.out W0).mono ?_
          rintro e w' ⟨rfl, rfl⟩
          go_wp2_with fail
          refine (C2.out W0).mono ?_
          rintro e w' ⟨rfl, rfl⟩
          go_wp2_with fail
          refine (C3.out W0).mono ?_
          rintro e w' ⟨rfl, rfl⟩
          go_wp2
          obtain ⟨e0, e1⟩ := row2 (heap_set2 (x := .int .i64 0) (y := .slice none 0 0) k1)
          refine bodyPost_ret (v := .tuple #[.agg #[.int .i64 0, .slice none 0 0], .bool true]) (by simp [results, Tryd.results59, go_sem, e0, e1]) rfl (ansNo true (Below.setCell (Below.setCell b1 (Nat.le_refl _) _) (Nat.le_refl _) _))
        · have e := okN_pos hok (by omega)
          rw [e.1, e.2]
          have n3 : ((k : Int) == 0) = false := by rw [beq_eq_false_iff_ne]; omega
          have CC := Lib.hid (fun W => stClone s W (by omega))
          clear HO q2 hok e h1
          unfold Ans edV
          obtain ⟨c0, c1⟩ := row2 k1
          obtain ⟨f0, f1⟩ := frz2 k1
          go_enter Tryd.func59, Tryd.ntmps59
          go_wp2_with fail
          generalize World.alloc w _ = W0 at *
          refine (C1.out W0).mono ?_
          rintro e w' ⟨rfl, rfl⟩
          go_wp2_with fail
          refine (C2.out W0).mono ?_
          rintro e w' ⟨rfl, rfl⟩
          go_wp2_with fail
          refine (C3.out W0).mono ?_
          rintro e w' ⟨rfl, rfl⟩
          go_wp2_with fail
          refine (CC.out _).mono ?_
          rintro e w2 ⟨rfl, hb⟩
          have b2 := then_ (n := 0) b1 hb
          have k2 := bx k1 hb
          have s2 := hb.size
          clear hb c0 c1 f0 f1 b1 k1 CC C1 C2 C3
          obtain ⟨c0, c1⟩ := row2 k2
          obtain ⟨f0, f1⟩ := frz2 k2
          have l2 := bx_lt k2
          go_wp2
          have r := bx (heap_set2 (x := .int .i64 (k : Int)) (y := .slice (some ⟨w2.heap.size, 0, none⟩) 1 1) k2) (al1 _ (.cells #[.string s] 9))
          have o := litS ((w2.setCell ⟨w.heap.size, 0, none⟩ (.int .i64 (k : Int))).setCell ⟨w.heap.size, 1, none⟩ (.slice (some ⟨w2.heap.size, 0, none⟩) 1 1)) s
          have z2 : ((w2.setCell ⟨w.heap.size, 0, none⟩ (.int .i64 (k : Int))).setCell ⟨w.heap.size, 1, none⟩ (.slice (some ⟨w2.heap.size, 0, none⟩) 1 1)).heap.size = w2.heap.size := by simp [World.setCell]
          rw [z2] at o
          have bF : Below w.heap.size w (((w2.setCell ⟨w.heap.size, 0, none⟩ (.int .i64 (k : Int))).setCell ⟨w.heap.size, 1, none⟩ (.slice (some ⟨w2.heap.size, 0, none⟩) 1 1)).alloc (.cells #[.string s] 9)) := Below.alloc (Below.setCell (Below.setCell b2 (Nat.le_refl _) _) (Nat.le_refl _) _) (by omega) _
          obtain ⟨e0, e1⟩ := row2 r
          refine bodyPost_ret (v := .tuple #[.agg #[.int .i64 (k : Int), .slice (some ⟨w2.heap.size, 0, none⟩) 1 1], .bool true]) (by simp [results, Tryd.results59, go_sem, e0, e1]) rfl ⟨some ⟨w2.heap.size, 0, none⟩, 1, rfl, own_base o (by omega), bF⟩
      · have hok : okN (k : Int) s = false := by rw [HO, decide_eq_false q2]; simp
        have e := okN_no hok
        rw [hok, e.1, e.2]
        rw [decide_eq_false q2] at C3
        clear HO q2 hok e h1
        obtain ⟨c0, c1⟩ := row2 k1
        obtain ⟨f0, f1⟩ := frz2 k1
        go_enter Tryd.func59, Tryd.ntmps59
        go_wp2_with fail
        generalize World.alloc w _ = W0 at *
        refine (C1.out W0).mono ?_
        rintro e w' ⟨rfl, rfl⟩
        go_wp2_with fail
        refine (C2.out W0).mono ?_
        rintro e w' ⟨rfl, rfl⟩
        go_wp2_with fail
        refine (C3.out W0).mono ?_
        rintro e w' ⟨rfl, rfl⟩
        go_wp2
        obtain ⟨e0, e1⟩ := row2 (heap_set2 (x := .int .i64 0) (y := .slice none 0 0) k1)
        refine bodyPost_ret (v := .tuple #[.agg #[.int .i64 0, .slice none 0 0], .bool false]) (by simp [results, Tryd.results59, go_sem, e0, e1]) rfl (ansNo false (Below.setCell (Below.setCell b1 (Nat.le_refl _) _) (Nat.le_refl _) _))
    · have hok : okN (k : Int) s = false := by rw [HO, decide_eq_false q1]; rfl
      have e := okN_no hok
      rw [hok, e.1, e.2]
      have q3 : 1 < p := by omega
      clear HO q1 hok e h1
      obtain ⟨c0, c1⟩ := row2 k1
      obtain ⟨f0, f1⟩ := frz2 k1
      go_enter Tryd.func59, Tryd.ntmps59
      go_wp2_with fail
      generalize World.alloc w _ = W0 at *
      refine (C1.out W0).mono ?_
      rintro e w' ⟨rfl, rfl⟩
      go_wp2_with fail
      refine (C2.out W0).mono ?_
      rintro e w' ⟨rfl, rfl⟩
      go_wp2
      obtain ⟨e0, e1⟩ := row2 (heap_set2 (x := .int .i64 0) (y := .slice none 0 0) k1)
      refine bodyPost_ret (v := .tuple #[.agg #[.int .i64 0, .slice none 0 0], .bool false]) (by simp [results, Tryd.results59, go_sem, e0, e1]) rfl (ansNo false (Below.setCell (Below.setCell b1 (Nat.le_refl _) _) (Nat.le_refl _) _))
  · have hok : okN m s = false := by unfold okN; rw [decide_eq_false]; rintro ⟨a1, a2, _⟩; exact h1 (decide_eq_true ⟨a1, by omega⟩)
    have e := okN_no hok
    rw [hok, e.1, e.2]
    rw [Bool.eq_false_iff.2 h1] at C1
    clear hok e h1
    obtain ⟨c0, c1⟩ := row2 k1
    obtain ⟨f0, f1⟩ := frz2 k1
    go_enter Tryd.func59, Tryd.ntmps59
    go_wp2_with fail
    generalize World.alloc w _ = W0 at *
    refine (C1.out W0).mono ?_
    rintro e w' ⟨rfl, rfl⟩
    go_wp2
    obtain ⟨e0, e1⟩ := row2 (heap_set2 (x := .int .i64 0) (y := .slice none 0 0) k1)
    refine bodyPost_ret (v := .tuple #[.agg #[.int .i64 0, .slice none 0 0], .bool false]) (by simp [results, Tryd.results59, go_sem, e0, e1]) rfl (ansNo false (Below.setCell (Below.setCell b1 (Nat.le_refl _) _) (Nat.le_refl _) _))
end Go.Proofs.YtmnihigackilkaaDoor.Edw
