/-
  The law on EdgeRoot: for every frontier both answer alike, and the argument is left as it was.
-/
import Derived.Test.YtmnihigackilkaaDoorEds
import Derived.Test.YtmnihigackilkaaDoorLaidK
namespace Go.Proofs.YtmnihigackilkaaDoor.LawEdgeRoot
open Go.ChangeShapes Go.WideShapes Go.ChangeAt Go.RowKit
open Go.Proofs.YtmnihigackilkaaDoor.Mem Go.Proofs.YtmnihigackilkaaDoor.Ints Go.Proofs.YtmnihigackilkaaDoor.Strs Go.Proofs.YtmnihigackilkaaDoor.Slq Go.Proofs.YtmnihigackilkaaDoor.Rec Go.Proofs.YtmnihigackilkaaDoor.Edq Go.Proofs.YtmnihigackilkaaDoor.Edn Go.Proofs.YtmnihigackilkaaDoor.T8 Go.Proofs.YtmnihigackilkaaDoor.Eds
set_option linter.unusedVariables false
set_option maxRecDepth 100000

set_option maxHeartbeats 8000000 in
theorem walk (m : Int) (A : Option Addr) (n c : Nat) (l : List ByteArray) (w0 : (Lit.int .i64 m).wf = true) (hn : n ≤ maxLen) (hs : ∀ s ∈ l, s.size ≤ maxLen) (w : World) (hT : Tbl w) (hx : Rd w w.heap.size 1 A n (svs l)) :
    Calls Tryd.prog 8 #[edV m A n c] w fun e w' => e = .returned (.bool true) ∧ Below w.heap.size w w' := by
  have CZ := Lib.hid (fun W (h : Below w.heap.size w W) => szEd A n c m l w.heap.size 1048576 W hn (by omega) hs (by have := h.size; omega) (hx.below h (Nat.le_refl _)))
  have CT := Lib.hid (fun W (h : Below w.heap.size w W) (hn' : n ≤ 1048576) => toEd A n c m l W hn' ((hx.below h (Nat.le_refl _)).mono h.size))
  have CQ := Lib.hid (fun g g' W (h : W.ownsRow (0 : Nat) 9 1 (.slice (some ⟨g, 0, none⟩) n n) n (svs l)) (h' : W.ownsRow (0 : Nat) 9 1 (.slice (some ⟨g', 0, none⟩) n n) n (svs l)) (hn' : n ≤ 1048576) => eqEd (some ⟨g, 0, none⟩) (some ⟨g', 0, none⟩) n n n m l W.heap.size W.heap.size W hn' (Rd.own h) (Rd.own h') (Nat.le_refl _) (Nat.le_refl _))
  have hln := rd_len hx
  have HS := Lib.hid hs
  have HT := Lib.hid (fun W (h : Below w.heap.size w W) => hT.below h)
  have BW := Below.refl w.heap.size w
  unfold edV at CZ
  clear hs hx w0 hT
  unfold edV
  go_enter Tryd.func8, Tryd.ntmps8
  go_wp2_with fail
  have k9 := nw1 w (.cells #[.int .i64 m, .slice A n c] 73)
  have b9 := al1 w (.cells #[.int .i64 m, .slice A n c] 73)
  have BW := then_ (n := 0) BW b9
  have K0 := Lib.hid k9
  clear k9 b9
  have zV1 : (World.alloc w (.cells #[.int .i64 m, .slice A n c] 73)).heap.size = w.heap.size + 1 := World.size_alloc _ _
  have lV1 := bx_lt K0.out
  generalize hV : World.alloc w (.cells #[.int .i64 m, .slice A n c] 73) = V1 at *
  clear hV
  refine (CZ.out V1 BW).mono ?_
  rintro e V2 ⟨z, rfl, b9, z0, z1, z2⟩
  have K0 := Lib.hid (bx K0.out b9)
  have BW := then_ (n := 0) BW b9
  have Z2 := Lib.hid z2
  clear b9 z2 CZ
  by_cases hz : z < 0
  · go_wp2
    go_ret
    exact ⟨rfl, BW⟩
  have hz2 : 0 ≤ z := by omega
  have hn2 : n ≤ 1048576 := (Z2.out hz2).1
  obtain ⟨u, ok, -, -, -, S0, I0⟩ := rootBoth9 m l n hn2 hln HS.out
  have CS := Lib.hid (fun g W (h : W.ownsRow (0 : Nat) 9 1 (.slice (some ⟨g, 0, none⟩) n n) n (svs l)) => S0 (some ⟨g, 0, none⟩) n W.heap.size W (Nat.le_refl _) (Rd.own h))
  have CI := Lib.hid (fun g W (h : W.ownsRow (0 : Nat) 9 1 (.slice (some ⟨g, 0, none⟩) n n) n (svs l)) (hb : Below w.heap.size w W) => I0 (some ⟨g, 0, none⟩) n W.heap.size W (Nat.le_refl _) (Rd.own h) (HT.out W hb))
  have hbb : (ok != ok) = false := by simp
  have hus : (u.toList == u.toList) = true := by simp
  unfold edV at *
  clear Z2 hz z0 S0 I0 HS HT hln
  obtain ⟨pK00, pK01⟩ := row2 K0.out; have qK0 := bx_lt K0.out
  go_wp2_with fail
  clear pK00 pK01 qK0
  refine (CT.out V2 BW hn2).mono ?_
  rintro e V3 ⟨g1, rfl, o9, b9⟩
  have K0 := Lib.hid (bx K0.out b9)
  have BW := then_ (n := 0) BW b9
  have sV3 := b9.size
  have rO1 : Hid (∀ g, (some ⟨g1, 0, none⟩ : Option Addr) = some ⟨g, 0, none⟩ → V2.heap.size ≤ g ∧ g < V3.heap.size) := Lib.hid (fun g hg => o9.lt g (by rw [hg]; rfl))
  have O1 := Lib.hid (own_base o9 (Nat.zero_le _))
  clear o9
  clear b9
  obtain ⟨pK00, pK01⟩ := row2 K0.out; have qK0 := bx_lt K0.out
  go_wp2_with fail
  clear pK00 pK01 qK0
  refine (CS.out g1 V3 O1.out).mono ?_
  rintro e V4 ⟨rfl, b9⟩
  have K0 := Lib.hid (bx K0.out b9)
  have O1 := Lib.hid (own_belowS O1.out b9 (Nat.le_refl _))
  have BW := then_ (n := 0) BW b9
  have sV4 := b9.size
  clear b9
  clear O1
  obtain ⟨pK00, pK01⟩ := row2 K0.out; have qK0 := bx_lt K0.out
  go_wp2_with fail
  clear pK00 pK01 qK0
  refine (CT.out V4 BW hn2).mono ?_
  rintro e V5 ⟨g2, rfl, o9, b9⟩
  have K0 := Lib.hid (bx K0.out b9)
  have BW := then_ (n := 0) BW b9
  have sV5 := b9.size
  have rO2 : Hid (∀ g, (some ⟨g2, 0, none⟩ : Option Addr) = some ⟨g, 0, none⟩ → V4.heap.size ≤ g ∧ g < V5.heap.size) := Lib.hid (fun g hg => o9.lt g (by rw [hg]; rfl))
  have O2 := Lib.hid (own_base o9 (Nat.zero_le _))
  clear o9
  clear b9
  obtain ⟨pK00, pK01⟩ := row2 K0.out; have qK0 := bx_lt K0.out
  go_wp2_with fail
  clear pK00 pK01 qK0
  have k9 := nw1 V5 (.cells #[.int .i64 m, .slice (some ⟨g2, 0, none⟩) n n] 53)
  have b9 := al1 V5 (.cells #[.int .i64 m, .slice (some ⟨g2, 0, none⟩) n n] 53)
  have K0 := Lib.hid (bx K0.out b9)
  have O2 := Lib.hid (own_belowS O2.out b9 (Nat.le_refl _))
  have BW := then_ (n := 0) BW b9
  have K2 := Lib.hid k9
  clear k9 b9
  have zV6 : (World.alloc V5 (.cells #[.int .i64 m, .slice (some ⟨g2, 0, none⟩) n n] 53)).heap.size = V5.heap.size + 1 := World.size_alloc _ _
  have lV6 := bx_lt K2.out
  generalize hV : World.alloc V5 (.cells #[.int .i64 m, .slice (some ⟨g2, 0, none⟩) n n] 53) = V6 at *
  clear hV
  refine (CI.out g2 V6 O2.out BW).mono ?_
  rintro e V7 ⟨rfl, b9⟩
  have K0 := Lib.hid (bx K0.out b9)
  have K2 := Lib.hid (bx K2.out b9)
  have O2 := Lib.hid (own_belowS O2.out b9 (Nat.le_refl _))
  have BW := then_ (n := 0) BW b9
  have sV7 := b9.size
  clear b9
  have BD : Hid (Below w.heap.size w V7.drew) := Lib.hid BW.drew
  have K0D : Hid (V7.drew.heap[_]? = some _) := Lib.hid K0.out; obtain ⟨pK00, pK01⟩ := row2 K0.out
  have K2D : Hid (V7.drew.heap[_]? = some _) := Lib.hid K2.out; obtain ⟨pK20, pK21⟩ := row2 K2.out
  have O2D := Lib.hid (own_belowS O2.out (Below.refl V7.heap.size V7).drew (Nat.le_refl _))
  go_wp2_with fail
  go_region_held3 (fun w' => w'.cell? ⟨w.heap.size, 0, none⟩ = some (.int .i64 m) ∧ w'.cell? ⟨w.heap.size, 1, none⟩ = some (.slice A n c) ∧ w'.cell? ⟨V5.heap.size, 0, none⟩ = some (.int .i64 m) ∧ w'.cell? ⟨V5.heap.size, 1, none⟩ = some (.slice (some ⟨g2, 0, none⟩) n n))
    (first | (go_keep; done) | (refine ⟨?_, ?_, ?_, ?_⟩ <;> with_reducible assumption))
    (first
      | (go_at_call 62; (with_reducible refine (CT.out _ BD.out hn2).mono ?_); rintro e' V8 ⟨g3, rfl, o8, b8⟩; obtain ⟨d6, d7⟩ := row2 (bx K0D.out b8); obtain ⟨d8, d9⟩ := row2 (bx K2D.out b8); have O2E := Lib.hid (own_belowS O2D.out b8 (Nat.le_refl _)); have O3 := Lib.hid (own_base o8 (Nat.zero_le _)); clear o8)
      | (go_at_call 63; (with_reducible refine (CQ.out _ _ _ O2E.out O3.out hn2).mono ?_); rintro e' V9 ⟨rfl, b9⟩; obtain ⟨d0, d1⟩ := row2 (bx (bx K0D.out b8) b9); obtain ⟨d2, d3⟩ := row2 (bx (bx K2D.out b8) b9)))
  have K0 := Lib.hid (bx (bx K0D.out b8) b9)
  have K2 := Lib.hid (bx (bx K2D.out b8) b9)
  have O2 := Lib.hid (own_belowS (own_belowS O2D.out b8 (Nat.le_refl _)) b9 (Nat.le_refl _))
  have BW := then_ (n := 0) (then_ (n := 0) BD.out b8) b9
  have sV8 : V7.heap.size ≤ V8.heap.size := b8.size
  have sV9 : V8.heap.size ≤ V9.heap.size := b9.size
  clear K0D K2D O2D pK00 pK01 pK20 pK21 BD b8 b9 d0 d1 d2 d3 d6 d7 d8 d9 O2E O3
  go_wp2
  go_ret
  exact ⟨rfl, BW⟩
end Go.Proofs.YtmnihigackilkaaDoor.LawEdgeRoot
