/-
  A leaf appended to a frontier, and the frontier of a list: one answer of both sides.
-/
import Derived.Test.YtmnihigackilkaaDoorEdt
import Derived.Test.YtmnihigackilkaaDoorEdm
namespace Go.Proofs.YtmnihigackilkaaDoor.Edu
open Go.ChangeShapes Go.WideShapes Go.ChangeAt Go.RowKit
open Go.Proofs.YtmnihigackilkaaDoor.Mem Go.Proofs.YtmnihigackilkaaDoor.Ints Go.Proofs.YtmnihigackilkaaDoor.Strs Go.Proofs.YtmnihigackilkaaDoor.ShaComp Go.Proofs.YtmnihigackilkaaDoor.Digest Go.Proofs.YtmnihigackilkaaDoor.DigestI Go.Proofs.YtmnihigackilkaaDoor.Mkl Go.Proofs.YtmnihigackilkaaDoor.Slq Go.Proofs.YtmnihigackilkaaDoor.Rec Go.Proofs.YtmnihigackilkaaDoor.T8 Go.Proofs.YtmnihigackilkaaDoor.T8s Go.Proofs.YtmnihigackilkaaDoor.T8i Go.Proofs.YtmnihigackilkaaDoor.Arr Go.Proofs.YtmnihigackilkaaDoor.Edg Go.Proofs.YtmnihigackilkaaDoor.Pop Go.Proofs.YtmnihigackilkaaDoor.Bit Go.Proofs.YtmnihigackilkaaDoor.Pts Go.Proofs.YtmnihigackilkaaDoor.Edq Go.Proofs.YtmnihigackilkaaDoor.Edn Go.Proofs.YtmnihigackilkaaDoor.Edw Go.Proofs.YtmnihigackilkaaDoor.Hl Go.Proofs.YtmnihigackilkaaDoor.Fld Go.Proofs.YtmnihigackilkaaDoor.Fld2 Go.Proofs.YtmnihigackilkaaDoor.Fld3 Go.Proofs.YtmnihigackilkaaDoor.Edp Go.Proofs.YtmnihigackilkaaDoor.Edr Go.Proofs.YtmnihigackilkaaDoor.Eds Go.Proofs.YtmnihigackilkaaDoor.Edt
set_option linter.unusedVariables false
set_option linter.unusedSimpArgs false
set_option maxRecDepth 100000

def okP (m : Int) (l : List ByteArray) (x : ByteArray) : Bool := okE m l && decide (m ≠ 1000000) && decide (x.size ≤ 100)
theorem okP_yes {m : Int} {l : List ByteArray} {x : ByteArray} (h : okP m l x = true) : okE m l = true ∧ m ≠ 1000000 ∧ x.size ≤ 100 := by
  unfold okP at h
  rw [Bool.and_eq_true, Bool.and_eq_true, decide_eq_true_eq, decide_eq_true_eq] at h
  exact ⟨h.1.1, h.1.2, h.2⟩
theorem okP_no {m : Int} {l : List ByteArray} {x : ByteArray} (h : okP m l x = false) : ¬ (okE m l = true ∧ m ≠ 1000000 ∧ x.size ≤ 100) := by
  rintro ⟨h1, h2, h3⟩
  unfold okP at h
  rw [h1, decide_eq_true h2, decide_eq_true h3] at h
  cases h
set_option maxHeartbeats 8000000 in
theorem specPut (m : Int) (A : Option Addr) (n c : Nat) (l : List ByteArray) (x : ByteArray) (B : Nat) (w : World) (hn : n ≤ 1048576) (hln : l.length = n) (hs : ∀ s ∈ l, s.size ≤ maxLen) (hx : x.size ≤ maxLen) (hnil : A = none → n = 0 ∧ c = 0) (hB : B ≤ w.heap.size) (hr : Rd w B 1 A n (svs l)) :
    Calls Tryd.prog 56 #[edV m A n c, .string x] w (Ans (if okP m l x then m + 1 else 0) (if okP m l x then ptL m.toNat l x else []) (okP m l x) w) := by
  have C1 := Lib.hid (fun W (h : Below w.heap.size w W) => specGood m A n c l B W hn hs (Nat.le_trans hB h.size) (hr.below h hB))
  have b0 := al2 w (.cells #[.int .i64 m, .slice A n c] 53) (.cells #[.int .i64 0, .slice none 0 0] 53)
  obtain ⟨ka, kr⟩ := nw2 w (.cells #[.int .i64 m, .slice A n c] 53) (.cells #[.int .i64 0, .slice none 0 0] 53)
  have hx' := hx
  unfold maxLen at hx'
  cases hok : okP m l x
  · rw [if_neg (by simp), if_neg (by simp)]
    have hno := okP_no hok
    unfold edV at *
    by_cases h1 : okE m l = true
    · rw [h1] at C1
      by_cases h3 : x.size ≤ 100
      · have h2 : m = 1000000 := by
          apply Classical.byContradiction
          intro h; exact hno ⟨h1, h, h3⟩
        subst h2
        clear hr hno hs hok
        go_enter Tryd.func56, Tryd.ntmps56
        go_wp2_with fail
        generalize World.alloc (World.alloc w _) _ = W0 at *
        refine (C1.out W0 b0).mono ?_
        rintro e' w1 ⟨rfl, b9⟩
        have b1 := then_ (n := 0) b0 b9
        have ka := bx ka b9
        have kr := bx kr b9
        clear b9 b0
        obtain ⟨p0, p1⟩ := row2 ka
        obtain ⟨c0, c1⟩ := row2 kr
        obtain ⟨f0, f1⟩ := frz2 kr
        go_wp2
        obtain ⟨e0, e1⟩ := row2 (heap_set2 (x := .int .i64 0) (y := .slice none 0 0) kr)
        refine bodyPost_ret (v := .tuple #[.agg #[.int .i64 0, .slice none 0 0], .bool false]) (by simp [results, Tryd.results56, go_sem, e0, e1]) rfl (ansNo false (Below.setCell (Below.setCell b1 (Nat.le_succ _) _) (Nat.le_succ _) _))
      · clear hr hno hs hok
        go_enter Tryd.func56, Tryd.ntmps56
        go_wp2_with fail
        generalize World.alloc (World.alloc w _) _ = W0 at *
        refine (C1.out W0 b0).mono ?_
        rintro e' w1 ⟨rfl, b9⟩
        have b1 := then_ (n := 0) b0 b9
        have ka := bx ka b9
        have kr := bx kr b9
        clear b9 b0
        obtain ⟨p0, p1⟩ := row2 ka
        obtain ⟨c0, c1⟩ := row2 kr
        obtain ⟨f0, f1⟩ := frz2 kr
        go_wp2
        obtain ⟨e0, e1⟩ := row2 (heap_set2 (x := .int .i64 0) (y := .slice none 0 0) kr)
        refine bodyPost_ret (v := .tuple #[.agg #[.int .i64 0, .slice none 0 0], .bool false]) (by simp [results, Tryd.results56, go_sem, e0, e1]) rfl (ansNo false (Below.setCell (Below.setCell b1 (Nat.le_succ _) _) (Nat.le_succ _) _))
    · rw [Bool.eq_false_iff.2 h1] at C1
      clear hr hno hs hok
      go_enter Tryd.func56, Tryd.ntmps56
      go_wp2_with fail
      generalize World.alloc (World.alloc w _) _ = W0 at *
      refine (C1.out W0 b0).mono ?_
      rintro e' w1 ⟨rfl, b9⟩
      have b1 := then_ (n := 0) b0 b9
      have ka := bx ka b9
      have kr := bx kr b9
      clear b9 b0
      obtain ⟨p0, p1⟩ := row2 ka
      obtain ⟨c0, c1⟩ := row2 kr
      obtain ⟨f0, f1⟩ := frz2 kr
      go_wp2
      obtain ⟨e0, e1⟩ := row2 (heap_set2 (x := .int .i64 0) (y := .slice none 0 0) kr)
      refine bodyPost_ret (v := .tuple #[.agg #[.int .i64 0, .slice none 0 0], .bool false]) (by simp [results, Tryd.results56, go_sem, e0, e1]) rfl (ansNo false (Below.setCell (Below.setCell b1 (Nat.le_succ _) _) (Nat.le_succ _) _))
  · rw [if_pos rfl, if_pos rfl]
    obtain ⟨h1, h2, h3⟩ := okP_yes hok
    rw [h1] at C1
    obtain ⟨k, rfl, hk, h32, hl⟩ := okE_yes h1
    have hpk : n ≤ 21 := by rw [← hln, hl]; exact pc_le21 k hk
    have CP := Lib.hid (fun W (h : Below w.heap.size w W) => l9Put k A n c l x B W (by omega) (by omega) hln h32 (by omega) hnil (Nat.le_trans hB h.size) (hr.below h hB))
    rw [Int.toNat_natCast]
    have n1 : ((k : Int) == 1000000) = false := by rw [beq_eq_false_iff_ne]; omega
    have hrl : (ptL k l x).length ≤ 21 := by rw [ptL_len k l x hl]; exact pc_le21 _ (by omega)
    rw [show ((k : Int) + 1) = ((k + 1 : Nat) : Int) from by omega]
    generalize ptL k l x = res at *
    generalize k + 1 = k1 at *
    unfold Ans edV at *
    clear hr hs hok h1 hl h32 hnil hln
    go_enter Tryd.func56, Tryd.ntmps56
    go_wp2_with fail
    generalize World.alloc (World.alloc w _) _ = W0 at *
    refine (C1.out W0 b0).mono ?_
    rintro e' w1 ⟨rfl, b9⟩
    have b1 := then_ (n := 0) b0 b9
    have ka := bx ka b9
    have kr := bx kr b9
    clear b9 b0
    obtain ⟨p0, p1⟩ := row2 ka
    obtain ⟨c0, c1⟩ := row2 kr
    obtain ⟨f0, f1⟩ := frz2 kr
    clear c0 c1 f0 f1
    go_wp2_with fail
    refine (CP.out w1 b1).mono ?_
    rintro e' w2 ⟨A2, c2, rfl, o2, b9⟩
    have b2 := then_ (n := 0) b1 b9
    have kr2 := bx kr b9
    have s1 := b1.size
    have O2 := Lib.hid (own_base o2 (show w.heap.size + 1 + 1 ≤ w1.heap.size from by have := bx_lt kr; omega))
    clear b9 o2 b1 CP kr p0 p1 ka
    obtain ⟨c0, c1⟩ := row2 kr2
    obtain ⟨f0, f1⟩ := frz2 kr2
    go_wp2
    obtain ⟨e0, e1⟩ := row2 (heap_set2 (x := .int .i64 (k1 : Int)) (y := .slice A2 res.length c2) kr2)
    refine bodyPost_ret (v := .tuple #[.agg #[.int .i64 (k1 : Int), .slice A2 res.length c2], .bool true]) (by simp [results, Tryd.results56, go_sem, e0, e1]) rfl ⟨A2, c2, rfl, ?_, ?_⟩
    · exact own_base (ownsRow_setCell_below (ownsRow_setCell_below O2.out (by dsimp only; omega) _) (by dsimp only; omega) _) (show w.heap.size ≤ w.heap.size + 1 + 1 by omega)
    · exact Below.setCell (Below.setCell b2 (Nat.le_succ _) _) (Nat.le_succ _) _
theorem implPut (m : Int) (A : Option Addr) (n c : Nat) (l : List ByteArray) (x : ByteArray) (B : Nat) (w : World) (hn : n ≤ 1048576) (hln : l.length = n) (hs : ∀ s ∈ l, s.size ≤ maxLen) (hx : x.size ≤ maxLen) (hB : B ≤ w.heap.size) (hr : Rd w B 1 A n (svs l)) (hT : Tbl w) :
    Calls Tryd.prog 55 #[edV m A n c, .string x] w (Ans (if okP m l x then m + 1 else 0) (if okP m l x then ptL m.toNat l x else []) (okP m l x) w) := by
  cases hok : okP m l x
  · exact implPutNo m A n c l x B w hn hs hx (okP_no hok) hB hr
  · rw [if_pos rfl, if_pos rfl]
    obtain ⟨h1, h2, h3⟩ := okP_yes hok
    obtain ⟨k, rfl, hk, h32, hl⟩ := okE_yes h1
    rw [show ((k : Int) + 1) = ((k + 1 : Nat) : Int) from by omega, Int.toNat_natCast]
    subst hln
    exact implPutYes k A c l x B w (by omega) hl h32 h3 hB hr hT
end Go.Proofs.YtmnihigackilkaaDoor.Edu
