/-
  The greatest part that ends where the older tree ends, by the program.
-/
import Derived.Test.YtiiklednbhklhaaDoorT8r
namespace Go.Proofs.YtiiklednbhklhaaDoor.T8g
open Go.ChangeShapes Go.WideShapes Go.ChangeAt Go.RowKit
open Go.Proofs.YtiiklednbhklhaaDoor.Mem Go.Proofs.YtiiklednbhklhaaDoor.Ints Go.Proofs.YtiiklednbhklhaaDoor.Strs Go.Proofs.YtiiklednbhklhaaDoor.ShaComp Go.Proofs.YtiiklednbhklhaaDoor.Digest Go.Proofs.YtiiklednbhklhaaDoor.Mkl Go.Proofs.YtiiklednbhklhaaDoor.Sib Go.Proofs.YtiiklednbhklhaaDoor.Spl Go.Proofs.YtiiklednbhklhaaDoor.Slq Go.Proofs.YtiiklednbhklhaaDoor.Rec Go.Proofs.YtiiklednbhklhaaDoor.T8 Go.Proofs.YtiiklednbhklhaaDoor.T8s Go.Proofs.YtiiklednbhklhaaDoor.T8i Go.Proofs.YtiiklednbhklhaaDoor.T8r
set_option linter.unusedVariables false
set_option maxRecDepth 100000

/-- The length of the part in a box. -/
def lenAt (b : Nat) (W : World) : Nat := (intOf ((W.cell? ⟨b, 1, none⟩).getD (.int .i64 0)) - intOf ((W.cell? ⟨b, 0, none⟩).getD (.int .i64 0))).toNat
theorem lenAt_of {b : Nat} {W : World} {f t : Nat} (h : W.heap[b]? = some (.cells #[.int .i64 (f : Int), .int .i64 (t : Int)] 68)) : lenAt b W = t - f := by
  obtain ⟨h0, h1⟩ := row2 h
  unfold lenAt; rw [h0, h1]; simp [intOf]
theorem heap_set2o {v : World} {a b : Nat} {o : Obj} {x y : Value} (h : v.heap[b]? = some o) (hne : b ≠ a) : ((v.setCell ⟨a, 0, none⟩ x).setCell ⟨a, 1, none⟩ y).heap[b]? = some o := by
  rw [heap_setCell_other _ _ _ _ hne, heap_setCell_other _ _ _ _ hne, h]
set_option maxHeartbeats 4000000 in
theorem lastSpan (first many : Nat) (w : World) (h1 : 1 ≤ first) (h2 : first ≤ many) (h20 : many ≤ 20) : Calls Tryd.prog 76 #[.int .i64 (first : Int), .int .i64 (many : Int)] w fun e w' => e = .returned (sp (last 0 many first).1 (last 0 many first).2) ∧ Below w.heap.size w w' := by
  have CW := Lib.hid (fun W => wholeSpan many W (by omega))
  have CH := Lib.hid (fun f t W (h : 2 ≤ t - f) (h' : t ≤ 20) => halves f t W h h')
  obtain ⟨B, hB⟩ : ∃ B, last 0 many first = B := ⟨_, rfl⟩
  have HB := Lib.hid hB
  rw [hB]
  clear hB
  unfold sp at *
  rw [show ((0 : Nat) : Int) = 0 from rfl] at CW
  have B0 := al1 w (.cells #[.int .i64 0, .int .i64 0] 68)
  have k0 := nw1 w (.cells #[.int .i64 0, .int .i64 0] 68)
  go_enter Tryd.func76, Tryd.ntmps76
  go_wp2_with fail
  refine (CW.out _).mono ?_
  rintro e w1 ⟨rfl, b1⟩
  have k1 := bx k0 b1
  have B1 := then_ (n := 0) B0 b1
  clear B0 k0 b1 CW
  have k2 := nw1 w1 (.cells #[.int .i64 0, .int .i64 (many : Int)] 68)
  have B2 := then_ (n := 0) B1 (al1 w1 (.cells #[.int .i64 0, .int .i64 (many : Int)] 68))
  have k1' := bx k1 (al1 w1 (.cells #[.int .i64 0, .int .i64 (many : Int)] 68))
  have hlt : w.heap.size < w1.heap.size := bx_lt k1
  go_wp2_with fail
  generalize World.alloc w1 _ = W2 at *
  obtain ⟨g, hg⟩ : ∃ g, g = w1.heap.size := ⟨_, rfl⟩
  have eg : w1.heap.size = g := hg.symm
  rw [eg] at k2 hlt ⊢
  clear k1 B1 hg eg
  go_loopw [6] (fun _ wr => ∃ f t : Nat, f < first ∧ first ≤ t ∧ t ≤ 20 ∧ Hid (last f t first = B) ∧ wr.heap[g]? = some (.cells #[.int .i64 (f : Int), .int .i64 (t : Int)] 68) ∧ wr.heap[w.heap.size]? = some (.cells #[.int .i64 0, .int .i64 0] 68) ∧ Below w.heap.size w wr) (fun _ wr => lenAt g wr)
  case atStart => exact ⟨0, many, by omega, h2, h20, HB, k2, k1', B2⟩
  case round =>
    obtain ⟨f, t, hf, ht, h20', HL, hg, hr, hb⟩ := hrel
    clear k2 k1' B2 HB
    have EM := lenAt_of hg
    obtain ⟨c0, c1⟩ := row2 hg
    by_cases he : t = first
    · subst he
      obtain rfl : (f, t) = B := (last_here f t).symm.trans HL.out
      have t1 : ((t : Int) != (t : Int)) = false := by simp
      obtain ⟨c2, c3⟩ := row2 hr
      obtain ⟨f2, f3⟩ := frz2 hr
      have hz : w.heap.size < wr.heap.size := bx_lt hr
      clear HL EM
      go_wp2
      refine bodyPost_ret (v := .agg #[.int .i64 (f : Int), .int .i64 (t : Int)]) (by simp [results, Tryd.results76, go_sem, c2, c3]) rfl ⟨rfl, ?_⟩
      repeat (first | exact hb | refine Below.drew ?_ | refine Below.setCell ?_ (by first | (simp; done) | (simp; omega)) _)
    · have h2' : 2 ≤ t - f := by omega
      obtain ⟨s1, s2, s3⟩ := split_lt h2'
      have t1 : ((t : Int) != (first : Int)) = true := by rw [bne_iff_ne]; omega
      have EL := last_two hf (show first < t by omega)
      have CH1 := Lib.hid (fun W => CH.out f t W h2' h20')
      obtain ⟨m, hm⟩ : ∃ m, f + split (t - f) = m := ⟨_, rfl⟩
      rw [hm] at CH1 EL
      have q0 : f < m := by omega
      have q1 : m < t := by omega
      have HEL := Lib.hid EL
      clear EL hm s1 s2 s3 CH
      go_wp2_with fail
      refine (CH1.out _).mono ?_
      rintro e w3 ⟨rfl, b3⟩
      have hg3 := bx hg b3
      have hr3 := bx hr b3
      have B3 := then_ (n := 0) hb b3
      have hgl : g < w3.heap.size := Nat.lt_of_lt_of_le (bx_lt hg) b3.size
      have hws : w.heap.size ≤ w3.heap.size := B3.size
      have hlt' : w.heap.size ≤ g := by omega
      obtain ⟨k6, k7⟩ := nw2 w3 (.cells #[.int .i64 (f : Int), .int .i64 (m : Int)] 68) (.cells #[.int .i64 (m : Int), .int .i64 (t : Int)] 68)
      have hg4 := bx hg3 (al2 w3 (.cells #[.int .i64 (f : Int), .int .i64 (m : Int)] 68) (.cells #[.int .i64 (m : Int), .int .i64 (t : Int)] 68))
      clear CH1 hg hr hb c0 c1
      obtain ⟨c0, c1⟩ := row2 hg4
      obtain ⟨f0, f1⟩ := frz2 hg4
      obtain ⟨c4, c5⟩ := row2 k6
      obtain ⟨c6, c7⟩ := row2 k7
      by_cases hc : first ≤ m
      · have t2 : decide ((first : Int) ≤ (m : Int)) = true := by simp; omega
        have G1 := bx (heap_setCell_same w3 g 0 _ _ (.int .i64 (f : Int)) hg3) (al2 _ (.cells #[.int .i64 (f : Int), .int .i64 (m : Int)] 68) (.cells #[.int .i64 (m : Int), .int .i64 (t : Int)] 68))
        have G1' : (((w3.setCell ⟨g, 0, none⟩ (.int .i64 (f : Int))).alloc (.cells #[.int .i64 (f : Int), .int .i64 (m : Int)] 68)).alloc (.cells #[.int .i64 (m : Int), .int .i64 (t : Int)] 68)).heap[g]? = some (.cells #[.int .i64 (f : Int), .int .i64 (t : Int)] 68) := by rw [G1]; rfl
        obtain ⟨-, f2⟩ := frz2 G1'
        obtain ⟨-, c8⟩ := row2 G1'
        have G2 := bx (heap_set2 (x := .int .i64 (f : Int)) (y := .int .i64 (m : Int)) hg3) (al2 _ (.cells #[.int .i64 (f : Int), .int .i64 (m : Int)] 68) (.cells #[.int .i64 (m : Int), .int .i64 (t : Int)] 68))
        have R2 := bx (heap_set2o (a := g) (x := .int .i64 (f : Int)) (y := .int .i64 (m : Int)) hr3 (by omega)) (al2 _ (.cells #[.int .i64 (f : Int), .int .i64 (m : Int)] 68) (.cells #[.int .i64 (m : Int), .int .i64 (t : Int)] 68))
        have BB := (((B3.setCell (p := ⟨g, 0, none⟩) hlt' (.int .i64 (f : Int))).setCell (p := ⟨g, 1, none⟩) hlt' (.int .i64 (m : Int))).alloc (by simp; omega) (.cells #[.int .i64 (f : Int), .int .i64 (m : Int)] 68)).alloc (by simp; omega) (.cells #[.int .i64 (m : Int), .int .i64 (t : Int)] 68)
        have EM2 := lenAt_of G2
        clear G1 G1'
        go_wp2_with fail
        refine ⟨⟨f, m, by omega, by omega, by omega, ?_, G2, R2, ?_⟩, ?_⟩
        · have := HEL.out
          rw [if_pos hc] at this
          exact Lib.hid (this.symm.trans HL.out)
        · exact BB
        · rw [EM2, EM]; omega
      · have t2 : decide ((first : Int) ≤ (m : Int)) = false := by simp; omega
        have G1 := bx (heap_setCell_same w3 g 0 _ _ (.int .i64 (m : Int)) hg3) (al2 _ (.cells #[.int .i64 (f : Int), .int .i64 (m : Int)] 68) (.cells #[.int .i64 (m : Int), .int .i64 (t : Int)] 68))
        have G1' : (((w3.setCell ⟨g, 0, none⟩ (.int .i64 (m : Int))).alloc (.cells #[.int .i64 (f : Int), .int .i64 (m : Int)] 68)).alloc (.cells #[.int .i64 (m : Int), .int .i64 (t : Int)] 68)).heap[g]? = some (.cells #[.int .i64 (m : Int), .int .i64 (t : Int)] 68) := by rw [G1]; rfl
        obtain ⟨-, f2⟩ := frz2 G1'
        obtain ⟨-, c8⟩ := row2 G1'
        have G2 := bx (heap_set2 (x := .int .i64 (m : Int)) (y := .int .i64 (t : Int)) hg3) (al2 _ (.cells #[.int .i64 (f : Int), .int .i64 (m : Int)] 68) (.cells #[.int .i64 (m : Int), .int .i64 (t : Int)] 68))
        have R2 := bx (heap_set2o (a := g) (x := .int .i64 (m : Int)) (y := .int .i64 (t : Int)) hr3 (by omega)) (al2 _ (.cells #[.int .i64 (f : Int), .int .i64 (m : Int)] 68) (.cells #[.int .i64 (m : Int), .int .i64 (t : Int)] 68))
        have BB := (((B3.setCell (p := ⟨g, 0, none⟩) hlt' (.int .i64 (m : Int))).setCell (p := ⟨g, 1, none⟩) hlt' (.int .i64 (t : Int))).alloc (by simp; omega) (.cells #[.int .i64 (f : Int), .int .i64 (m : Int)] 68)).alloc (by simp; omega) (.cells #[.int .i64 (m : Int), .int .i64 (t : Int)] 68)
        have EM2 := lenAt_of G2
        clear G1 G1'
        go_wp2_with fail
        refine ⟨⟨m, t, by omega, by omega, by omega, ?_, G2, R2, ?_⟩, ?_⟩
        · have := HEL.out
          rw [if_neg hc] at this
          exact Lib.hid (this.symm.trans HL.out)
        · exact BB
        · rw [EM2, EM]; omega
end Go.Proofs.YtiiklednbhklhaaDoor.T8g
