/-
  The law on EdgeFits: for every frontier and list both answer alike, and the arguments are left as they were.
-/
import Derived.Test.YtmnihigackilkaaDoorEdfX
import Derived.Test.YtmnihigackilkaaDoorLaidK
namespace Go.Proofs.YtmnihigackilkaaDoor.LawEdgeFits
open Go.ChangeShapes Go.WideShapes Go.ChangeAt Go.RowKit
open Go.Proofs.YtmnihigackilkaaDoor.Mem Go.Proofs.YtmnihigackilkaaDoor.Ints Go.Proofs.YtmnihigackilkaaDoor.Strs Go.Proofs.YtmnihigackilkaaDoor.Slq Go.Proofs.YtmnihigackilkaaDoor.Rec Go.Proofs.YtmnihigackilkaaDoor.Edq Go.Proofs.YtmnihigackilkaaDoor.Edn Go.Proofs.YtmnihigackilkaaDoor.T8 Go.Proofs.YtmnihigackilkaaDoor.T8i Go.Proofs.YtmnihigackilkaaDoor.Edo Go.Proofs.YtmnihigackilkaaDoor.Edf
set_option linter.unusedVariables false
set_option maxRecDepth 100000

set_option maxHeartbeats 8000000 in
theorem walk (m : Int) (A : Option Addr) (n c : Nat) (l : List ByteArray) (D : Option Addr) (k d : Nat) (xs : List ByteArray) (w0 : (Lit.int .i64 m).wf = true) (hn : n ≤ maxLen) (hs : ∀ s ∈ l, s.size ≤ maxLen) (hk : k ≤ maxLen) (hxs : ∀ s ∈ xs, s.size ≤ maxLen) (w : World) (hT : Tbl w) (hx : Rd w w.heap.size 1 A n (svs l)) (hy : Rd w w.heap.size 1 D k (svs xs)) :
    Calls Tryd.prog 10 #[edV m A n c, .slice D k d] w fun e w' => e = .returned (.bool true) ∧ Below w.heap.size w w' := by
  have CZ := Lib.hid (fun W (h : Below w.heap.size w W) => szEd A n c m l w.heap.size 1048576 W hn (by omega) hs (by have := h.size; omega) (hx.below h (Nat.le_refl _)))
  have CT := Lib.hid (fun W (h : Below w.heap.size w W) (hn' : n ≤ 1048576) => toEd A n c m l W hn' ((hx.below h (Nat.le_refl _)).mono h.size))
  have CQ := Lib.hid (fun g g' W (h : W.ownsRow (0 : Nat) 9 1 (.slice (some ⟨g, 0, none⟩) n n) n (svs l)) (h' : W.ownsRow (0 : Nat) 9 1 (.slice (some ⟨g', 0, none⟩) n n) n (svs l)) (hn' : n ≤ 1048576) => eqEd (some ⟨g, 0, none⟩) (some ⟨g', 0, none⟩) n n n m l W.heap.size W.heap.size W hn' (Rd.own h) (Rd.own h') (Nat.le_refl _) (Nat.le_refl _))
  have CZX := Lib.hid (fun (z : Nat) (hz : z ≤ 1048576) W (h : Below w.heap.size w W) => (show Calls Tryd.prog 66 #[.slice D k d, .int .i64 (z : Int)] W (Sz z k xs W) from szStrS D k d xs w.heap.size z W hk hz hxs (hy.below h (Nat.le_refl _))))
  have CTX := Lib.hid (fun W (h : Below w.heap.size w W) (hn' : k ≤ 1048576) => (toStrS D k d xs W hn' ((hy.below h (Nat.le_refl _)).mono h.size)).mono (fun e w' q => (show ∃ g, e = .returned (.slice (some ⟨g, 0, none⟩) k k) ∧ w'.ownsRow W.heap.size 9 1 (.slice (some ⟨g, 0, none⟩) k k) k (svs xs) ∧ Below W.heap.size W w' from ⟨_, q.1, q.2.1, q.2.2⟩)))
  have CQX := Lib.hid (fun g g' W (h : W.ownsRow (0 : Nat) 9 1 (.slice (some ⟨g, 0, none⟩) k k) k (svs xs)) (h' : W.ownsRow (0 : Nat) 9 1 (.slice (some ⟨g', 0, none⟩) k k) k (svs xs)) (hn' : k ≤ 1048576) => (eqSame (some ⟨g, 0, none⟩) (some ⟨g', 0, none⟩) k k k xs W.heap.size W.heap.size W hn' (Rd.own h) (Rd.own h')).mono (fun e w' q => (show e = .returned (.bool true) ∧ Below W.heap.size W w' from ⟨q.1, by obtain ⟨-, k, rfl⟩ := q; exact Rec.below_drewN (Below.refl _ _) k⟩)))
  have hln := rd_len hx
  have hlk := rd_len hy
  have HS := Lib.hid hs
  have HSX := Lib.hid hxs
  have HT := Lib.hid (fun W (h : Below w.heap.size w W) => hT.below h)
  have BW := Below.refl w.heap.size w
  unfold edV at CZ
  clear hs hx w0 hT hy hxs
  unfold edV
  go_enter Tryd.func10, Tryd.ntmps10
  go_wp2_with fail
  have k9 := nw1 w (.cells #[.int .i64 m, .slice A n c] 73)
  have b9 := al1 w (.cells #[.int .i64 m, .slice A n c] 73)
  have BW := then_ (n := 0) BW b9
  have K0 := Lib.hid k9
  clear k9 b9
  have zV1 : (World.alloc w (.cells #[.int .i64 m, .slice A n c] 73)).heap.size = w.heap.size + 1 := World.size_alloc _ _
  have lV1 := bx_lt K0.out
  generalize hV : World.alloc w (.cells #[.int .i64 m, .slice A n c] 73) = V1 at *
  clear hV
  refine (CZ.out V1 BW).mono ?_
  rintro e V2 ⟨z, rfl, b9, z0, z1, z2⟩
  have K0 := Lib.hid (bx K0.out b9)
  have BW := then_ (n := 0) BW b9
  have sV2 := b9.size
  have Z2 := Lib.hid z2
  clear b9 z2 CZ
  by_cases hz : z < 0
  · go_wp2
    go_ret
    exact ⟨rfl, BW⟩
  have hz2 : 0 ≤ z := by omega
  have hn2 : n ≤ 1048576 := (Z2.out hz2).1
  obtain ⟨zn, rfl⟩ : ∃ zn : Nat, z = (zn : Int) := ⟨z.toNat, by omega⟩
  have hzn : zn ≤ 1048576 := by omega
  obtain ⟨pK00, pK01⟩ := row2 K0.out; have qK0 := bx_lt K0.out
  go_wp2_with fail
  clear pK00 pK01 qK0
  refine (CZX.out zn hzn V2 BW).mono ?_
  rintro e w' ⟨y, rfl, rfl, y0, y1, y2⟩
  have Y2 := Lib.hid y2
  clear y2 CZX
  by_cases hyn : y < 0
  · obtain ⟨pK00, pK01⟩ := row2 K0.out
    go_wp2
    go_ret
    exact ⟨rfl, BW⟩
  have hk2 : k ≤ 1048576 := Nat.le_trans (Y2.out (by omega)).1 hzn
  have CS := Lib.hid (fun g g' W (h : W.ownsRow (0 : Nat) 9 1 (.slice (some ⟨g, 0, none⟩) n n) n (svs l)) (h' : W.ownsRow (0 : Nat) 9 1 (.slice (some ⟨g', 0, none⟩) k k) k (svs xs)) => specFits m (some ⟨g, 0, none⟩) n n l (some ⟨g', 0, none⟩) k k xs W.heap.size W hn2 HS.out hk2 HSX.out hlk hln (Nat.le_refl _) (Rd.own h) (Rd.own h'))
  have CI := Lib.hid (fun g g' W (h : W.ownsRow (0 : Nat) 9 1 (.slice (some ⟨g, 0, none⟩) n n) n (svs l)) (h' : W.ownsRow (0 : Nat) 9 1 (.slice (some ⟨g', 0, none⟩) k k) k (svs xs)) (hb : Below w.heap.size w W) => implFits m (some ⟨g, 0, none⟩) n n l (some ⟨g', 0, none⟩) k k xs W.heap.size W hn2 HS.out hk2 HSX.out hlk hln (Nat.le_refl _) (Rd.own h) (Rd.own h') (HT.out W hb))
  generalize fits m l xs = u at *
  generalize (okE m l && okL xs) = ok at *
  have huu : (u != u) = false := by simp
  have hbb : (ok != ok) = false := by simp
  unfold edV at *
  clear Z2 Y2 hz z0 HS HSX HT hln hlk
  obtain ⟨pK00, pK01⟩ := row2 K0.out; have qK0 := bx_lt K0.out
  go_wp2_with fail
  clear pK00 pK01 qK0
  refine (CT.out V2 BW hn2).mono ?_
  rintro e V3 ⟨g1, rfl, o9, b9⟩
  have K0 := Lib.hid (bx K0.out b9)
  have BW := then_ (n := 0) BW b9
  have sV3 := b9.size
  have rO1 : Hid (∀ g, (some ⟨g1, 0, none⟩ : Option Addr) = some ⟨g, 0, none⟩ → V2.heap.size ≤ g ∧ g < V3.heap.size) := Lib.hid (fun g hg => o9.lt g (by rw [hg]; rfl))
  have O1 := Lib.hid (own_base o9 (Nat.zero_le _))
  clear o9
  clear b9
  obtain ⟨pK00, pK01⟩ := row2 K0.out; have qK0 := bx_lt K0.out
  go_wp2_with fail
  clear pK00 pK01 qK0
  refine (CTX.out V3 BW hk2).mono ?_
  rintro e V4 ⟨g4, rfl, o9, b9⟩
  have K0 := Lib.hid (bx K0.out b9)
  have O1 := Lib.hid (own_belowS O1.out b9 (Nat.le_refl _))
  have BW := then_ (n := 0) BW b9
  have sV4 := b9.size
  have rO4 : Hid (∀ g, (some ⟨g4, 0, none⟩ : Option Addr) = some ⟨g, 0, none⟩ → V3.heap.size ≤ g ∧ g < V4.heap.size) := Lib.hid (fun g hg => o9.lt g (by rw [hg]; rfl))
  have O4 := Lib.hid (own_base o9 (Nat.zero_le _))
  clear o9
  clear b9
  obtain ⟨pK00, pK01⟩ := row2 K0.out; have qK0 := bx_lt K0.out
  go_wp2_with fail
  clear pK00 pK01 qK0
  refine (CS.out g1 g4 V4 O1.out O4.out).mono ?_
  rintro e V5 ⟨rfl, b9⟩
  have K0 := Lib.hid (bx K0.out b9)
  have O1 := Lib.hid (own_belowS O1.out b9 (Nat.le_refl _))
  have O4 := Lib.hid (own_belowS O4.out b9 (Nat.le_refl _))
  have BW := then_ (n := 0) BW b9
  have sV5 := b9.size
  clear b9
  clear O1 O4
  obtain ⟨pK00, pK01⟩ := row2 K0.out; have qK0 := bx_lt K0.out
  go_wp2_with fail
  clear pK00 pK01 qK0
  refine (CT.out V5 BW hn2).mono ?_
  rintro e V6 ⟨g2, rfl, o9, b9⟩
  have K0 := Lib.hid (bx K0.out b9)
  have BW := then_ (n := 0) BW b9
  have sV6 := b9.size
  have rO2 : Hid (∀ g, (some ⟨g2, 0, none⟩ : Option Addr) = some ⟨g, 0, none⟩ → V5.heap.size ≤ g ∧ g < V6.heap.size) := Lib.hid (fun g hg => o9.lt g (by rw [hg]; rfl))
  have O2 := Lib.hid (own_base o9 (Nat.zero_le _))
  clear o9
  clear b9
  obtain ⟨pK00, pK01⟩ := row2 K0.out; have qK0 := bx_lt K0.out
  go_wp2_with fail
  clear pK00 pK01 qK0
  have k9 := nw1 V6 (.cells #[.int .i64 m, .slice (some ⟨g2, 0, none⟩) n n] 53)
  have b9 := al1 V6 (.cells #[.int .i64 m, .slice (some ⟨g2, 0, none⟩) n n] 53)
  have K0 := Lib.hid (bx K0.out b9)
  have O2 := Lib.hid (own_belowS O2.out b9 (Nat.le_refl _))
  have BW := then_ (n := 0) BW b9
  have K2 := Lib.hid k9
  clear k9 b9
  have zV7 : (World.alloc V6 (.cells #[.int .i64 m, .slice (some ⟨g2, 0, none⟩) n n] 53)).heap.size = V6.heap.size + 1 := World.size_alloc _ _
  have lV7 := bx_lt K2.out
  generalize hV : World.alloc V6 (.cells #[.int .i64 m, .slice (some ⟨g2, 0, none⟩) n n] 53) = V7 at *
  clear hV
  refine (CTX.out V7 BW hk2).mono ?_
  rintro e V8 ⟨g5, rfl, o9, b9⟩
  have K0 := Lib.hid (bx K0.out b9)
  have K2 := Lib.hid (bx K2.out b9)
  have O2 := Lib.hid (own_belowS O2.out b9 (Nat.le_refl _))
  have BW := then_ (n := 0) BW b9
  have sV8 := b9.size
  have rO5 : Hid (∀ g, (some ⟨g5, 0, none⟩ : Option Addr) = some ⟨g, 0, none⟩ → V7.heap.size ≤ g ∧ g < V8.heap.size) := Lib.hid (fun g hg => o9.lt g (by rw [hg]; rfl))
  have O5 := Lib.hid (own_base o9 (Nat.zero_le _))
  clear o9
  clear b9
  obtain ⟨pK00, pK01⟩ := row2 K0.out; have qK0 := bx_lt K0.out; obtain ⟨pK20, pK21⟩ := row2 K2.out; have qK2 := bx_lt K2.out
  go_wp2_with fail
  clear pK00 pK01 qK0 pK20 pK21 qK2
  refine (CI.out g2 g5 V8 O2.out O5.out BW).mono ?_
  rintro e V9 ⟨rfl, b9⟩
  have K0 := Lib.hid (bx K0.out b9)
  have K2 := Lib.hid (bx K2.out b9)
  have O2 := Lib.hid (own_belowS O2.out b9 (Nat.le_refl _))
  have O5 := Lib.hid (own_belowS O5.out b9 (Nat.le_refl _))
  have BW := then_ (n := 0) BW b9
  have sV9 := b9.size
  clear b9
  have BD : Hid (Below w.heap.size w V9.drew) := Lib.hid BW.drew
  have K0D : Hid (V9.drew.heap[_]? = some _) := Lib.hid K0.out; obtain ⟨pK00, pK01⟩ := row2 K0.out
  have K2D : Hid (V9.drew.heap[_]? = some _) := Lib.hid K2.out; obtain ⟨pK20, pK21⟩ := row2 K2.out
  have O2D := Lib.hid (own_belowS O2.out (Below.refl V9.heap.size V9).drew (Nat.le_refl _))
  have O5D := Lib.hid (own_belowS O5.out (Below.refl V9.heap.size V9).drew (Nat.le_refl _))
  go_wp2_with fail
  go_region_held3 (fun w' => w'.cell? ⟨w.heap.size, 0, none⟩ = some (.int .i64 m) ∧ w'.cell? ⟨w.heap.size, 1, none⟩ = some (.slice A n c) ∧ w'.cell? ⟨V6.heap.size, 0, none⟩ = some (.int .i64 m) ∧ w'.cell? ⟨V6.heap.size, 1, none⟩ = some (.slice (some ⟨g2, 0, none⟩) n n))
    (first | (go_keep; done) | (refine ⟨?_, ?_, ?_, ?_⟩ <;> with_reducible assumption))
    (first
      | (go_at_call 62; (with_reducible refine (CT.out _ BD.out hn2).mono ?_); rintro e' V10 ⟨g3, rfl, o8, b8⟩; obtain ⟨d6, d7⟩ := row2 (bx K0D.out b8); obtain ⟨d8, d9⟩ := row2 (bx K2D.out b8); have O2E := Lib.hid (own_belowS O2D.out b8 (Nat.le_refl _)); have O3 := Lib.hid (own_base o8 (Nat.zero_le _)); clear o8)
      | (go_at_call 63; (with_reducible refine (CQ.out _ _ _ O2E.out O3.out hn2).mono ?_); rintro e' V11 ⟨rfl, b9⟩; obtain ⟨d0, d1⟩ := row2 (bx (bx K0D.out b8) b9); obtain ⟨d2, d3⟩ := row2 (bx (bx K2D.out b8) b9)))
  have K0 := Lib.hid (bx (bx K0D.out b8) b9)
  have K2 := Lib.hid (bx (bx K2D.out b8) b9)
  have O2 := Lib.hid (own_belowS (own_belowS O2D.out b8 (Nat.le_refl _)) b9 (Nat.le_refl _))
  have O5 := Lib.hid (own_belowS (own_belowS O5D.out b8 (Nat.le_refl _)) b9 (Nat.le_refl _))
  have BW := then_ (n := 0) (then_ (n := 0) BD.out b8) b9
  have sV10 : V9.heap.size ≤ V10.heap.size := b8.size
  have sV11 : V10.heap.size ≤ V11.heap.size := b9.size
  clear K0D K2D O2D O5D pK00 pK01 pK20 pK21 BD b8 b9 d0 d1 d2 d3 d6 d7 d8 d9 O2E O3
  obtain ⟨pK00, pK01⟩ := row2 K0.out; have qK0 := bx_lt K0.out; obtain ⟨pK20, pK21⟩ := row2 K2.out; have qK2 := bx_lt K2.out
  go_wp2_with fail
  clear pK00 pK01 qK0 pK20 pK21 qK2
  refine (CTX.out V11 BW hk2).mono ?_
  rintro e V12 ⟨g6, rfl, o9, b9⟩
  have K0 := Lib.hid (bx K0.out b9)
  have K2 := Lib.hid (bx K2.out b9)
  have O2 := Lib.hid (own_belowS O2.out b9 (Nat.le_refl _))
  have O5 := Lib.hid (own_belowS O5.out b9 (Nat.le_refl _))
  have BW := then_ (n := 0) BW b9
  have sV12 := b9.size
  have rO6 : Hid (∀ g, (some ⟨g6, 0, none⟩ : Option Addr) = some ⟨g, 0, none⟩ → V11.heap.size ≤ g ∧ g < V12.heap.size) := Lib.hid (fun g hg => o9.lt g (by rw [hg]; rfl))
  have O6 := Lib.hid (own_base o9 (Nat.zero_le _))
  clear o9
  clear b9
  obtain ⟨pK00, pK01⟩ := row2 K0.out; have qK0 := bx_lt K0.out; obtain ⟨pK20, pK21⟩ := row2 K2.out; have qK2 := bx_lt K2.out
  go_wp2_with fail
  clear pK00 pK01 qK0 pK20 pK21 qK2
  refine (CQX.out g5 g6 V12 O5.out O6.out hk2).mono ?_
  rintro e V13 ⟨rfl, b9⟩
  have K0 := Lib.hid (bx K0.out b9)
  have K2 := Lib.hid (bx K2.out b9)
  have O2 := Lib.hid (own_belowS O2.out b9 (Nat.le_refl _))
  have O5 := Lib.hid (own_belowS O5.out b9 (Nat.le_refl _))
  have O6 := Lib.hid (own_belowS O6.out b9 (Nat.le_refl _))
  have BW := then_ (n := 0) BW b9
  have sV13 := b9.size
  clear b9
  go_wp2
  go_ret
  exact ⟨rfl, BW⟩
end Go.Proofs.YtmnihigackilkaaDoor.LawEdgeFits
