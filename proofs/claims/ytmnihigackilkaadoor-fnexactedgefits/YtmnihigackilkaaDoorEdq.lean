/-
  Frontiers in memory: the laws' own helpers that size, copy, compare and mark them; a law's argument of that type.
-/
import Derived.Test.YtmnihigackilkaaDoorSlq
import Derived.Test.YtmnihigackilkaaDoorRec
namespace Go.Proofs.YtmnihigackilkaaDoor.Edq
open Go.ChangeShapes Go.WideShapes Go.ChangeAt Go.RowKit
open Go.Proofs.YtmnihigackilkaaDoor.Mem Go.Proofs.YtmnihigackilkaaDoor.Ints Go.Proofs.YtmnihigackilkaaDoor.Strs Go.Proofs.YtmnihigackilkaaDoor.Slq Go.Proofs.YtmnihigackilkaaDoor.Rec
set_option linter.unusedVariables false
set_option maxRecDepth 100000

def edV (m : Int) (A : Option Addr) (n c : Nat) : Value := .agg #[.int .i64 m, .slice A n c]
theorem own_at {w w' : World} {base e size n c : Nat} {A : Option Addr} {xs : List Value} (h : w.ownsRow base e size (.slice A n c) n xs) (hk : ∀ g, A = some ⟨g, 0, none⟩ → w'.heap[g]? = w.heap[g]?) : w'.ownsRow base e size (.slice A n c) n xs := by
  refine ⟨h.1, ?_⟩
  rcases h.2 with h0 | ⟨g, cap, cur, h1, h2, h3, h4⟩
  · exact .inl h0
  · have hA : A = some ⟨g, 0, none⟩ := by injection h1
    exact .inr ⟨g, cap, cur, h1, h2, (hk g hA).trans h3, h4⟩
theorem szEd (A : Option Addr) (n c : Nat) (m : Int) (l : List ByteArray) (B : Nat) (left : Nat) (w : World) (hn : n ≤ maxLen) (hl : left ≤ 1048576) (hs : ∀ s ∈ l, s.size ≤ maxLen) (hB : B ≤ w.heap.size) (hx : Rd w B 1 A n (svs l)) :
    Calls Tryd.prog 61 #[edV m A n c, .int .i64 left] w fun e w' => ∃ z : Int, e = .returned (.int .i64 z) ∧ Below w.heap.size w w' ∧ -1 ≤ z ∧ z ≤ left ∧ (0 ≤ z → n ≤ left ∧ ∀ k (h : k < l.length), l[k].size ≤ left) := by
  have C := Lib.hid (fun W (h : Below w.heap.size w W) => szStrS A n c l B left W hn hl hs (hx.below h hB))
  unfold edV
  unfold Sz at C
  clear hx hs hn
  go_enter Tryd.func61, Tryd.ntmps61
  go_wp2_with fail
  have b0 := al1 w (.cells #[.int .i64 m, .slice A n c] 73)
  generalize World.alloc w _ = W0 at *
  refine (C.out W0 b0).mono ?_
  rintro e w1 ⟨z, rfl, rfl, h1, h2, h3⟩
  have H3 := Lib.hid h3
  clear h3 C
  by_cases hz : z < 0
  · go_wp2
    go_ret
    exact ⟨-1, rfl, b0, by omega, by omega, fun h => absurd h (by omega)⟩
  · go_wp2
    go_ret
    exact ⟨z, rfl, b0, by omega, by omega, H3.out⟩
set_option maxHeartbeats 2000000 in
theorem toEd (A : Option Addr) (n c : Nat) (m : Int) (l : List ByteArray) (w : World) (hn : n ≤ 1048576) (hx : Rd w w.heap.size 1 A n (svs l)) :
    Calls Tryd.prog 62 #[edV m A n c] w fun e w' => ∃ g, e = .returned (edV m (some ⟨g, 0, none⟩) n n) ∧ w'.ownsRow w.heap.size 9 1 (.slice (some ⟨g, 0, none⟩) n n) n (svs l) ∧ Below w.heap.size w w' := by
  unfold edV
  have b3 := al3 w (.cells #[.int .i64 m, .slice A n c] 73) (.cells #[.int .i64 0, .slice none 0 0] 53) (.cells #[.int .i64 m, .slice none 0 0] 53)
  obtain ⟨k0, k1, k2⟩ := nw3 w (.cells #[.int .i64 m, .slice A n c] 73) (.cells #[.int .i64 0, .slice none 0 0] 53) (.cells #[.int .i64 m, .slice none 0 0] 53)
  have C := toStrS A n c l _ hn ((hx.below b3 (Nat.le_refl _)).mono b3.size)
  have hsz : (((w.alloc (.cells #[.int .i64 m, .slice A n c] 73)).alloc (.cells #[.int .i64 0, .slice none 0 0] 53)).alloc (.cells #[.int .i64 m, .slice none 0 0] 53)).heap.size = w.heap.size + 1 + 1 + 1 := by simp
  rw [hsz] at C
  have HC := Lib.hid C
  have HK1 := Lib.hid k1
  have HK2 := Lib.hid k2
  have HB := Lib.hid b3
  clear hx C k0 k1 k2 b3
  go_enter Tryd.func62, Tryd.ntmps62
  go_wp2_with fail
  generalize World.alloc (World.alloc (World.alloc w _) _) _ = W3 at *
  refine HC.out.mono ?_
  rintro e w1 ⟨rfl, hown, hb⟩
  rw [← hsz] at hb
  have hs := hb.size
  have K1 := bx HK1.out hb
  have K2 := bx HK2.out hb
  have B1 := then_ (n := 0) HB.out hb
  have HO := Lib.hid hown
  obtain ⟨c0, c1⟩ := row2 K1
  obtain ⟨d0, d1⟩ := row2 K2
  obtain ⟨f0, f1⟩ := frz2 K1
  obtain ⟨g0, g1⟩ := frz2 K2
  have HB1 := Lib.hid B1
  clear hown hb B1 HC HK1 HK2 HB K1 K2
  go_wp2
  refine bodyPost_ret (v := .agg #[.int .i64 m, .slice (some ⟨w.heap.size + 1 + 1 + 1, 0, none⟩) n n]) (by simp [results, Tryd.results62, go_sem, c0, c1]) rfl ⟨w.heap.size + 1 + 1 + 1, rfl, ?_, ?_⟩
  · exact own_base (ownsRow_setCell_below (ownsRow_setCell_below (ownsRow_setCell_below HO.out (by dsimp only; omega) _) (by dsimp only; omega) _) (by dsimp only; omega) _) (show w.heap.size ≤ w.heap.size + 1 + 1 + 1 by omega)
  · exact Below.setCell (Below.setCell (Below.setCell HB1.out (by dsimp only; omega) _) (by dsimp only; omega) _) (by dsimp only; omega) _
theorem eqEd (A D : Option Addr) (n c d : Nat) (m : Int) (l : List ByteArray) (B B' : Nat) (w : World) (hn : n ≤ 1048576) (hx : Rd w B 1 A n (svs l)) (hy : Rd w B' 1 D n (svs l)) (hB : B ≤ w.heap.size) (hB' : B' ≤ w.heap.size) :
    Calls Tryd.prog 63 #[edV m A n c, edV m D n d] w fun e w' => e = .returned (.bool true) ∧ Below w.heap.size w w' := by
  have C := Lib.hid (fun W (h : Below w.heap.size w W) => eqSame A D n c d l B B' W hn (hx.below h hB) (hy.below h hB'))
  unfold edV
  clear hx hy
  have hbe : (m != m) = false := by simp
  go_enter Tryd.func63, Tryd.ntmps63
  go_wp2_with fail
  have b0 := al2 w (.cells #[.int .i64 m, .slice A n c] 53) (.cells #[.int .i64 m, .slice D n d] 53)
  generalize World.alloc (World.alloc w _) _ = W0 at *
  refine (C.out W0 b0).mono ?_
  rintro e w1 ⟨rfl, q, rfl⟩
  go_wp2
  go_ret
  exact ⟨rfl, below_drewN b0 _⟩
theorem markEd (A : Option Addr) (n c : Nat) (m : Int) (l : List ByteArray) (k base : Nat) (w : World) (hk : 1 ≤ k ∧ k ≤ 1000000) (hn : n ≤ 1000000) (hB : base ≤ w.heap.size) (ho : w.ownsRow base 9 1 (.slice A n c) n (svs l)) :
    Calls Tryd.prog 64 #[edV m A n c, .int .i64 k] w fun e w' => e = .returned (.int .i64 ((k + n : Nat) : Int)) ∧ w'.ownsRow base 9 1 (.slice A n c) n (svs (mts k n)) ∧ Below base w w' := by
  have b0 := al1 w (.cells #[.int .i64 m, .slice A n c] 53)
  have C := Lib.hid (markS A n c l k base (w.alloc (.cells #[.int .i64 m, .slice A n c] 53)) hk hn (by simp; omega) (own_belowS ho b0 (Nat.le_refl _)))
  have B0 := Lib.hid (b0.mono hB)
  unfold edV
  clear ho b0
  go_enter Tryd.func64, Tryd.ntmps64
  go_wp2_with fail
  refine C.out.mono ?_
  rintro e w1 ⟨rfl, h1, h2⟩
  have H1 := Lib.hid h1
  have H2 := Lib.hid (B0.out.trans h2)
  clear h1 h2 B0 C
  go_wp2
  go_ret
  exact ⟨rfl, H1.out, H2.out⟩
theorem heldEd (A : Option Addr) (n c k B : Nat) (m : Int) (w : World) (hk : 1 ≤ k ∧ k ≤ 1000000) (hn : n ≤ 1000000) (hB : B ≤ w.heap.size) (hx : Rd w B 1 A n (svs (mts k n))) :
    Calls Tryd.prog 65 #[edV m A n c, .int .i64 k] w fun e w' => e = .returned (.int .i64 ((k + n : Nat) : Int)) ∧ Below w.heap.size w w' := by
  have b0 := al1 w (.cells #[.int .i64 m, .slice A n c] 53)
  have C := Lib.hid (heldS A n c k B (w.alloc (.cells #[.int .i64 m, .slice A n c] 53)) hk hn (by simp; omega) (hx.below b0 hB))
  have B0 := Lib.hid b0
  have hge : decide (((k + n : Nat) : Int) < 0) = false := by simp; omega
  unfold edV
  clear hx b0
  go_enter Tryd.func65, Tryd.ntmps65
  go_wp2_with fail
  refine C.out.mono ?_
  rintro e w1 ⟨rfl, h2⟩
  have H2 := Lib.hid (then_ (n := 0) B0.out h2)
  clear h2 B0 C
  go_wp2
  go_ret
  exact ⟨rfl, H2.out⟩
end Go.Proofs.YtmnihigackilkaaDoor.Edq
