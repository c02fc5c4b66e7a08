/-
  The law on EdgeOf: for every list of leaves both answer alike, the argument is left as it was, and the answer's memory is its own.
-/
import Derived.Test.YtmnihigackilkaaDoorEdo
import Derived.Test.YtmnihigackilkaaDoorLaidK
namespace Go.Proofs.YtmnihigackilkaaDoor.LawEdgeOf
open Go.ChangeShapes Go.WideShapes Go.ChangeAt Go.RowKit
open Go.Proofs.YtmnihigackilkaaDoor.Mem Go.Proofs.YtmnihigackilkaaDoor.Ints Go.Proofs.YtmnihigackilkaaDoor.Strs Go.Proofs.YtmnihigackilkaaDoor.Slq Go.Proofs.YtmnihigackilkaaDoor.Rec Go.Proofs.YtmnihigackilkaaDoor.Edq Go.Proofs.YtmnihigackilkaaDoor.Edn Go.Proofs.YtmnihigackilkaaDoor.Edw Go.Proofs.YtmnihigackilkaaDoor.T8 Go.Proofs.YtmnihigackilkaaDoor.T8i Go.Proofs.YtmnihigackilkaaDoor.Edm Go.Proofs.YtmnihigackilkaaDoor.Edo
set_option linter.unusedVariables false
set_option maxRecDepth 100000

theorem of_len (l : List ByteArray) : (if okL l then edL l else []).length ≤ 21 := by
  cases h : okL l
  · simp
  · rw [if_pos rfl, edL_len]
    exact Pts.pc_le21 _ (by have := (okL_yes h).2; omega)
set_option maxHeartbeats 8000000 in
theorem walk (A : Option Addr) (n c : Nat) (l : List ByteArray) (hn : n ≤ maxLen) (hs : ∀ s ∈ l, s.size ≤ maxLen) (w : World) (hT : Tbl w) (hx : Rd w w.heap.size 1 A n (svs l)) :
    Calls Tryd.prog 9 #[.slice A n c] w fun e w' => e = .returned (.bool true) ∧ Below w.heap.size w w' := by
  have CZ1 : Calls Tryd.prog 66 #[.slice A n c, .int .i64 1048576] w (Sz 1048576 n l w) := szStrS A n c l w.heap.size 1048576 w hn (Nat.le_refl _) hs hx
  have CZ := Lib.hid CZ1
  have CT := Lib.hid (fun W (h : Below w.heap.size w W) (hn' : n ≤ 1048576) => (toStrS A n c l W hn' ((hx.below h (Nat.le_refl _)).mono h.size)).mono (fun e w' q => (show ∃ g, e = .returned (.slice (some ⟨g, 0, none⟩) n n) ∧ w'.ownsRow W.heap.size 9 1 (.slice (some ⟨g, 0, none⟩) n n) n (svs l) ∧ Below W.heap.size W w' from ⟨_, q.1, q.2.1, q.2.2⟩)))
  have CQ := Lib.hid (fun g g' W (h : W.ownsRow (0 : Nat) 9 1 (.slice (some ⟨g, 0, none⟩) n n) n (svs l)) (h' : W.ownsRow (0 : Nat) 9 1 (.slice (some ⟨g', 0, none⟩) n n) n (svs l)) (hn' : n ≤ 1048576) => (eqSame (some ⟨g, 0, none⟩) (some ⟨g', 0, none⟩) n n n l W.heap.size W.heap.size W hn' (Rd.own h) (Rd.own h')).mono (fun e w' q => (show e = .returned (.bool true) ∧ Below W.heap.size W w' from ⟨q.1, by obtain ⟨-, k, rfl⟩ := q; exact Rec.below_drewN (Below.refl _ _) k⟩)))
  have hln := rd_len hx
  have HS := Lib.hid hs
  have HT := Lib.hid (fun W (h : Below w.heap.size w W) => hT.below h)
  have BW := Below.refl w.heap.size w
  clear hs hx hT CZ1
  go_enter Tryd.func9, Tryd.ntmps9
  go_wp2_with fail
  refine CZ.out.mono ?_
  rintro e w' ⟨z, rfl, rfl, z0, z1, z2⟩
  have Z2 := Lib.hid z2
  clear z2 CZ
  by_cases hz : z < 0
  · go_wp2
    go_ret
    exact ⟨rfl, BW⟩
  have hn2 : n ≤ 1048576 := (Z2.out (by omega)).1
  have CS := Lib.hid (fun g W (h : W.ownsRow (0 : Nat) 9 1 (.slice (some ⟨g, 0, none⟩) n n) n (svs l)) => specOf (some ⟨g, 0, none⟩) n n l W.heap.size W hn2 HS.out hln (Nat.le_refl _) (Rd.own h))
  have CI := Lib.hid (fun g W (h : W.ownsRow (0 : Nat) 9 1 (.slice (some ⟨g, 0, none⟩) n n) n (svs l)) (hb : Below w.heap.size w W) => implOf (some ⟨g, 0, none⟩) n n l W.heap.size W hn2 HS.out hln (Nat.le_refl _) (Rd.own h) (HT.out W hb))
  have hlen := of_len l
  generalize (if okL l then (n : Int) else 0) = kk at *
  generalize (if okL l then edL l else []) = ls at *
  generalize okL l = ok at *
  have hbb : (ok != ok) = false := by simp
  have CQR := Lib.hid (fun (A D : Option Addr) (c d : Nat) W (h : W.ownsRow (0 : Nat) 9 1 (.slice A ls.length c) ls.length (svs ls)) (h' : W.ownsRow (0 : Nat) 9 1 (.slice D ls.length d) ls.length (svs ls)) => eqEd A D ls.length c d kk ls W.heap.size W.heap.size W (by omega) (Rd.own h) (Rd.own h') (Nat.le_refl _) (Nat.le_refl _))
  have CM := Lib.hid (fun (A : Option Addr) (c : Nat) W (h : W.ownsRow (0 : Nat) 9 1 (.slice A ls.length c) ls.length (svs ls)) (hlo : ∀ g, A = some ⟨g, 0, none⟩ → w.heap.size ≤ g) (hW : w.heap.size ≤ W.heap.size) => (markEdA A ls.length c kk ls 1 w.heap.size W (by omega) (by omega) hW (own_up h hlo)).mono (fun e w' q => (show _ ∧ w'.ownsRow (0 : Nat) 9 1 (.slice A ls.length c) ls.length (svs (mts 1 ls.length)) ∧ _ from ⟨q.1, own_base q.2.1 (Nat.zero_le _), q.2.2⟩)))
  have CH := Lib.hid (fun (A : Option Addr) (c : Nat) W (h : W.ownsRow (0 : Nat) 9 1 (.slice A ls.length c) ls.length (svs (mts 1 ls.length))) => heldEd A ls.length c 1 W.heap.size kk W (by omega) (by omega) (Nat.le_refl _) (Rd.own h))
  have CMX := Lib.hid (fun (g : Nat) W (h : W.ownsRow (0 : Nat) 9 1 (.slice (some ⟨g, 0, none⟩) n n) n (svs l)) (hlo : ∀ g', (some ⟨g, 0, none⟩ : Option Addr) = some ⟨g', 0, none⟩ → w.heap.size ≤ g') (hW : w.heap.size ≤ W.heap.size) => (markSA (some ⟨g, 0, none⟩) n n l 1 w.heap.size W (by omega) (by omega) hW (own_up h hlo)).mono (fun e w' q => (show _ ∧ w'.ownsRow (0 : Nat) 9 1 (.slice (some ⟨g, 0, none⟩) n n) n (svs (mts 1 n)) ∧ _ from ⟨q.1, own_base q.2.1 (Nat.zero_le _), q.2.2⟩)))
  unfold Ans edV at *
  obtain ⟨kn, hkn⟩ : ∃ kn, 1 + n = kn := ⟨_, rfl⟩
  rw [hkn] at CMX
  have hkn1 : (0 : Int) ≤ (kn : Int) := by omega
  obtain ⟨kp, hkp⟩ : ∃ kp, 1 + ls.length = kp := ⟨_, rfl⟩
  rw [hkp] at CM CH
  have hkp1 : (0 : Int) ≤ (kp : Int) := by omega
  generalize svs (mts 1 ls.length) = ys at *
  generalize svs ls = xs at *
  generalize ls.length = nn at *
  clear Z2 HS HT hln hkn hkp
  go_wp2_with fail
  refine (CT.out w BW hn2).mono ?_
  rintro e V1 ⟨g1, rfl, o9, b9⟩
  have BW := then_ (n := 0) BW b9
  have sV1 := b9.size
  have rO1 : Hid (∀ g, (some ⟨g1, 0, none⟩ : Option Addr) = some ⟨g, 0, none⟩ → w.heap.size ≤ g ∧ g < V1.heap.size) := Lib.hid (fun g hg => o9.lt g (by rw [hg]; rfl))
  have O1 := Lib.hid (own_base o9 (Nat.zero_le _))
  clear o9
  clear b9
  go_wp2_with fail
  refine (CS.out g1 V1 O1.out).mono ?_
  rintro e V2 ⟨A5, c5, rfl, o9, b9⟩
  have O1 := Lib.hid (own_belowS O1.out b9 (Nat.le_refl _))
  have BW := then_ (n := 0) BW b9
  have sV2 := b9.size
  have rO5 : Hid (∀ g, A5 = some ⟨g, 0, none⟩ → V1.heap.size ≤ g ∧ g < V2.heap.size) := Lib.hid (fun g hg => o9.lt g (by rw [hg]; rfl))
  have O5 := Lib.hid (own_base o9 (Nat.zero_le _))
  clear o9
  clear b9
  clear O1
  go_wp2_with fail
  have k9 := nw1 V2 (.cells #[.int .i64 kk, .slice A5 nn c5] 53)
  have b9 := al1 V2 (.cells #[.int .i64 kk, .slice A5 nn c5] 53)
  have O5 := Lib.hid (own_belowS O5.out b9 (Nat.le_refl _))
  have BW := then_ (n := 0) BW b9
  have K5 := Lib.hid k9
  clear k9 b9
  have zV3 : (World.alloc V2 (.cells #[.int .i64 kk, .slice A5 nn c5] 53)).heap.size = V2.heap.size + 1 := World.size_alloc _ _
  have lV3 := bx_lt K5.out
  generalize hV : World.alloc V2 (.cells #[.int .i64 kk, .slice A5 nn c5] 53) = V3 at *
  clear hV
  refine (CT.out V3 BW hn2).mono ?_
  rintro e V4 ⟨g2, rfl, o9, b9⟩
  have K5 := Lib.hid (bx K5.out b9)
  have O5 := Lib.hid (own_belowS O5.out b9 (Nat.le_refl _))
  have BW := then_ (n := 0) BW b9
  have sV4 := b9.size
  have rO2 : Hid (∀ g, (some ⟨g2, 0, none⟩ : Option Addr) = some ⟨g, 0, none⟩ → V3.heap.size ≤ g ∧ g < V4.heap.size) := Lib.hid (fun g hg => o9.lt g (by rw [hg]; rfl))
  have O2 := Lib.hid (own_base o9 (Nat.zero_le _))
  clear o9
  clear b9
  obtain ⟨pK50, pK51⟩ := row2 K5.out; have qK5 := bx_lt K5.out
  go_wp2_with fail
  clear pK50 pK51 qK5
  refine (CI.out g2 V4 O2.out BW).mono ?_
  rintro e V5 ⟨A6, c6, rfl, o9, b9⟩
  have K5 := Lib.hid (bx K5.out b9)
  have O5 := Lib.hid (own_belowS O5.out b9 (Nat.le_refl _))
  have O2 := Lib.hid (own_belowS O2.out b9 (Nat.le_refl _))
  have BW := then_ (n := 0) BW b9
  have sV5 := b9.size
  have rO6 : Hid (∀ g, A6 = some ⟨g, 0, none⟩ → V4.heap.size ≤ g ∧ g < V5.heap.size) := Lib.hid (fun g hg => o9.lt g (by rw [hg]; rfl))
  have O6 := Lib.hid (own_base o9 (Nat.zero_le _))
  clear o9
  clear b9
  obtain ⟨pK50, pK51⟩ := row2 K5.out; have qK5 := bx_lt K5.out
  go_wp2_with fail
  clear pK50 pK51 qK5
  have k9 := nw1 V5 (.cells #[.int .i64 kk, .slice A6 nn c6] 53)
  have b9 := al1 V5 (.cells #[.int .i64 kk, .slice A6 nn c6] 53)
  have K5 := Lib.hid (bx K5.out b9)
  have O5 := Lib.hid (own_belowS O5.out b9 (Nat.le_refl _))
  have O2 := Lib.hid (own_belowS O2.out b9 (Nat.le_refl _))
  have O6 := Lib.hid (own_belowS O6.out b9 (Nat.le_refl _))
  have BW := then_ (n := 0) BW b9
  have K6 := Lib.hid k9
  clear k9 b9
  have zV6 : (World.alloc V5 (.cells #[.int .i64 kk, .slice A6 nn c6] 53)).heap.size = V5.heap.size + 1 := World.size_alloc _ _
  have lV6 := bx_lt K6.out
  generalize hV : World.alloc V5 (.cells #[.int .i64 kk, .slice A6 nn c6] 53) = V6 at *
  clear hV
  refine (CQR.out A6 A5 c6 c5 V6 O6.out O5.out).mono ?_
  rintro e V7 ⟨rfl, b9⟩
  have K5 := Lib.hid (bx K5.out b9)
  have K6 := Lib.hid (bx K6.out b9)
  have O5 := Lib.hid (own_belowS O5.out b9 (Nat.le_refl _))
  have O2 := Lib.hid (own_belowS O2.out b9 (Nat.le_refl _))
  have O6 := Lib.hid (own_belowS O6.out b9 (Nat.le_refl _))
  have BW := then_ (n := 0) BW b9
  have sV7 := b9.size
  clear b9
  obtain ⟨pK50, pK51⟩ := row2 K5.out; have qK5 := bx_lt K5.out; obtain ⟨pK60, pK61⟩ := row2 K6.out; have qK6 := bx_lt K6.out
  go_wp2_with fail
  clear pK50 pK51 qK5 pK60 pK61 qK6
  refine (CT.out V7 BW hn2).mono ?_
  rintro e V8 ⟨g3, rfl, o9, b9⟩
  have K5 := Lib.hid (bx K5.out b9)
  have K6 := Lib.hid (bx K6.out b9)
  have O5 := Lib.hid (own_belowS O5.out b9 (Nat.le_refl _))
  have O2 := Lib.hid (own_belowS O2.out b9 (Nat.le_refl _))
  have O6 := Lib.hid (own_belowS O6.out b9 (Nat.le_refl _))
  have BW := then_ (n := 0) BW b9
  have sV8 := b9.size
  have rO3 : Hid (∀ g, (some ⟨g3, 0, none⟩ : Option Addr) = some ⟨g, 0, none⟩ → V7.heap.size ≤ g ∧ g < V8.heap.size) := Lib.hid (fun g hg => o9.lt g (by rw [hg]; rfl))
  have O3 := Lib.hid (own_base o9 (Nat.zero_le _))
  clear o9
  clear b9
  obtain ⟨pK50, pK51⟩ := row2 K5.out; have qK5 := bx_lt K5.out; obtain ⟨pK60, pK61⟩ := row2 K6.out; have qK6 := bx_lt K6.out
  go_wp2_with fail
  clear pK50 pK51 qK5 pK60 pK61 qK6
  refine (CQ.out g2 g3 V8 O2.out O3.out hn2).mono ?_
  rintro e V9 ⟨rfl, b9⟩
  have K5 := Lib.hid (bx K5.out b9)
  have K6 := Lib.hid (bx K6.out b9)
  have O5 := Lib.hid (own_belowS O5.out b9 (Nat.le_refl _))
  have O2 := Lib.hid (own_belowS O2.out b9 (Nat.le_refl _))
  have O6 := Lib.hid (own_belowS O6.out b9 (Nat.le_refl _))
  have O3 := Lib.hid (own_belowS O3.out b9 (Nat.le_refl _))
  have BW := then_ (n := 0) BW b9
  have sV9 := b9.size
  clear b9
  clear O3
  obtain ⟨pK50, pK51⟩ := row2 K5.out; have qK5 := bx_lt K5.out; obtain ⟨pK60, pK61⟩ := row2 K6.out; have qK6 := bx_lt K6.out
  go_wp2_with fail
  clear pK50 pK51 qK5 pK60 pK61 qK6
  refine (CMX.out g2 V9 O2.out (fun g hg => by have := rO2.out g hg; omega) (by omega)).mono ?_
  rintro e V10 ⟨rfl, o9, y9, b9⟩
  have K5 := Lib.hid (y9.row K5.out (fun g hg => by have := rO2.out g hg; omega))
  have K6 := Lib.hid (y9.row K6.out (fun g hg => by have := rO2.out g hg; omega))
  have O5 := Lib.hid (own_at O5.out (fun g hg => y9 g (fun g' hg' => by have := rO2.out g' hg'; have := rO5.out g hg; omega) (by have := rO5.out g hg; omega)))
  have O6 := Lib.hid (own_at O6.out (fun g hg => y9 g (fun g' hg' => by have := rO2.out g' hg'; have := rO6.out g hg; omega) (by have := rO6.out g hg; omega)))
  have BW := BW.trans (b9.mono (Nat.le_refl _))
  have sV10 := b9.size
  have O2 := Lib.hid o9
  clear o9 y9 b9
  obtain ⟨pK50, pK51⟩ := row2 K5.out; have qK5 := bx_lt K5.out; obtain ⟨pK60, pK61⟩ := row2 K6.out; have qK6 := bx_lt K6.out
  go_wp2_with fail
  clear pK50 pK51 qK5 pK60 pK61 qK6
  refine (CQR.out A6 A5 c6 c5 V10 O6.out O5.out).mono ?_
  rintro e V11 ⟨rfl, b9⟩
  have K5 := Lib.hid (bx K5.out b9)
  have K6 := Lib.hid (bx K6.out b9)
  have O5 := Lib.hid (own_belowS O5.out b9 (Nat.le_refl _))
  have O2 := Lib.hid (own_belowS O2.out b9 (Nat.le_refl _))
  have O6 := Lib.hid (own_belowS O6.out b9 (Nat.le_refl _))
  have BW := then_ (n := 0) BW b9
  have sV11 := b9.size
  clear b9
  obtain ⟨pK50, pK51⟩ := row2 K5.out; have qK5 := bx_lt K5.out; obtain ⟨pK60, pK61⟩ := row2 K6.out; have qK6 := bx_lt K6.out
  go_wp2_with fail
  clear pK50 pK51 qK5 pK60 pK61 qK6
  refine (CM.out A6 c6 V11 O6.out (fun g hg => by have := rO6.out g hg; omega) (by omega)).mono ?_
  rintro e V12 ⟨rfl, o9, y9, b9⟩
  have K5 := Lib.hid (y9.row K5.out (fun g hg => by have := rO6.out g hg; omega))
  have K6 := Lib.hid (y9.row K6.out (fun g hg => by have := rO6.out g hg; omega))
  have O5 := Lib.hid (own_at O5.out (fun g hg => y9 g (fun g' hg' => by have := rO6.out g' hg'; have := rO5.out g hg; omega) (by have := rO5.out g hg; omega)))
  have O2 := Lib.hid (own_at O2.out (fun g hg => y9 g (fun g' hg' => by have := rO6.out g' hg'; have := rO2.out g hg; omega) (by have := rO2.out g hg; omega)))
  have BW := BW.trans (b9.mono (Nat.le_refl _))
  have sV12 := b9.size
  have O6 := Lib.hid o9
  clear o9 y9 b9
  obtain ⟨pK50, pK51⟩ := row2 K5.out; have qK5 := bx_lt K5.out; obtain ⟨pK60, pK61⟩ := row2 K6.out; have qK6 := bx_lt K6.out
  go_wp2_with fail
  clear pK50 pK51 qK5 pK60 pK61 qK6
  refine (CH.out A6 c6 V12 O6.out).mono ?_
  rintro e V13 ⟨rfl, b9⟩
  have K5 := Lib.hid (bx K5.out b9)
  have K6 := Lib.hid (bx K6.out b9)
  have O5 := Lib.hid (own_belowS O5.out b9 (Nat.le_refl _))
  have O2 := Lib.hid (own_belowS O2.out b9 (Nat.le_refl _))
  have O6 := Lib.hid (own_belowS O6.out b9 (Nat.le_refl _))
  have BW := then_ (n := 0) BW b9
  have sV13 := b9.size
  clear b9
  obtain ⟨pK50, pK51⟩ := row2 K5.out; have qK5 := bx_lt K5.out; obtain ⟨pK60, pK61⟩ := row2 K6.out; have qK6 := bx_lt K6.out
  go_wp2_with fail
  clear pK50 pK51 qK5 pK60 pK61 qK6
  refine (CT.out V13 BW hn2).mono ?_
  rintro e V14 ⟨g7, rfl, o9, b9⟩
  have K5 := Lib.hid (bx K5.out b9)
  have K6 := Lib.hid (bx K6.out b9)
  have O5 := Lib.hid (own_belowS O5.out b9 (Nat.le_refl _))
  have O2 := Lib.hid (own_belowS O2.out b9 (Nat.le_refl _))
  have O6 := Lib.hid (own_belowS O6.out b9 (Nat.le_refl _))
  have BW := then_ (n := 0) BW b9
  have sV14 := b9.size
  have rO7 : Hid (∀ g, (some ⟨g7, 0, none⟩ : Option Addr) = some ⟨g, 0, none⟩ → V13.heap.size ≤ g ∧ g < V14.heap.size) := Lib.hid (fun g hg => o9.lt g (by rw [hg]; rfl))
  have O7 := Lib.hid (own_base o9 (Nat.zero_le _))
  clear o9
  clear b9
  obtain ⟨pK50, pK51⟩ := row2 K5.out; have qK5 := bx_lt K5.out; obtain ⟨pK60, pK61⟩ := row2 K6.out; have qK6 := bx_lt K6.out
  go_wp2_with fail
  clear pK50 pK51 qK5 pK60 pK61 qK6
  refine (CI.out g7 V14 O7.out BW).mono ?_
  rintro e V15 ⟨A8, c8, rfl, o9, b9⟩
  have K5 := Lib.hid (bx K5.out b9)
  have K6 := Lib.hid (bx K6.out b9)
  have O5 := Lib.hid (own_belowS O5.out b9 (Nat.le_refl _))
  have O2 := Lib.hid (own_belowS O2.out b9 (Nat.le_refl _))
  have O6 := Lib.hid (own_belowS O6.out b9 (Nat.le_refl _))
  have O7 := Lib.hid (own_belowS O7.out b9 (Nat.le_refl _))
  have BW := then_ (n := 0) BW b9
  have sV15 := b9.size
  have rO8 : Hid (∀ g, A8 = some ⟨g, 0, none⟩ → V14.heap.size ≤ g ∧ g < V15.heap.size) := Lib.hid (fun g hg => o9.lt g (by rw [hg]; rfl))
  have O8 := Lib.hid (own_base o9 (Nat.zero_le _))
  clear o9
  clear b9
  clear O7
  obtain ⟨pK50, pK51⟩ := row2 K5.out; have qK5 := bx_lt K5.out; obtain ⟨pK60, pK61⟩ := row2 K6.out; have qK6 := bx_lt K6.out
  go_wp2_with fail
  clear pK50 pK51 qK5 pK60 pK61 qK6
  have k9 := nw1 V15 (.cells #[.int .i64 kk, .slice A8 nn c8] 53)
  have b9 := al1 V15 (.cells #[.int .i64 kk, .slice A8 nn c8] 53)
  have K5 := Lib.hid (bx K5.out b9)
  have K6 := Lib.hid (bx K6.out b9)
  have O5 := Lib.hid (own_belowS O5.out b9 (Nat.le_refl _))
  have O2 := Lib.hid (own_belowS O2.out b9 (Nat.le_refl _))
  have O6 := Lib.hid (own_belowS O6.out b9 (Nat.le_refl _))
  have O8 := Lib.hid (own_belowS O8.out b9 (Nat.le_refl _))
  have BW := then_ (n := 0) BW b9
  have K8 := Lib.hid k9
  clear k9 b9
  have zV16 : (World.alloc V15 (.cells #[.int .i64 kk, .slice A8 nn c8] 53)).heap.size = V15.heap.size + 1 := World.size_alloc _ _
  have lV16 := bx_lt K8.out
  generalize hV : World.alloc V15 (.cells #[.int .i64 kk, .slice A8 nn c8] 53) = V16 at *
  clear hV
  refine (CQR.out A8 A5 c8 c5 V16 O8.out O5.out).mono ?_
  rintro e V17 ⟨rfl, b9⟩
  have K5 := Lib.hid (bx K5.out b9)
  have K6 := Lib.hid (bx K6.out b9)
  have K8 := Lib.hid (bx K8.out b9)
  have O5 := Lib.hid (own_belowS O5.out b9 (Nat.le_refl _))
  have O2 := Lib.hid (own_belowS O2.out b9 (Nat.le_refl _))
  have O6 := Lib.hid (own_belowS O6.out b9 (Nat.le_refl _))
  have O8 := Lib.hid (own_belowS O8.out b9 (Nat.le_refl _))
  have BW := then_ (n := 0) BW b9
  have sV17 := b9.size
  clear b9
  obtain ⟨pK50, pK51⟩ := row2 K5.out; have qK5 := bx_lt K5.out; obtain ⟨pK60, pK61⟩ := row2 K6.out; have qK6 := bx_lt K6.out; obtain ⟨pK80, pK81⟩ := row2 K8.out; have qK8 := bx_lt K8.out
  go_wp2_with fail
  clear pK50 pK51 qK5 pK60 pK61 qK6 pK80 pK81 qK8
  refine (CH.out A6 c6 V17 O6.out).mono ?_
  rintro e V18 ⟨rfl, b9⟩
  have K5 := Lib.hid (bx K5.out b9)
  have K6 := Lib.hid (bx K6.out b9)
  have K8 := Lib.hid (bx K8.out b9)
  have O5 := Lib.hid (own_belowS O5.out b9 (Nat.le_refl _))
  have O2 := Lib.hid (own_belowS O2.out b9 (Nat.le_refl _))
  have O6 := Lib.hid (own_belowS O6.out b9 (Nat.le_refl _))
  have O8 := Lib.hid (own_belowS O8.out b9 (Nat.le_refl _))
  have BW := then_ (n := 0) BW b9
  have sV18 := b9.size
  clear b9
  go_wp2
  go_ret
  exact ⟨rfl, BW⟩
end Go.Proofs.YtmnihigackilkaaDoor.LawEdgeOf
