/-
  The law on PutEdge: for every frontier and leaf both answer alike, the argument is left as it was, and the answer's memory is its own.
-/
import Derived.Test.YtmnihigackilkaaDoorEdu
import Derived.Test.YtmnihigackilkaaDoorLaidK
namespace Go.Proofs.YtmnihigackilkaaDoor.LawPutEdge
open Go.ChangeShapes Go.WideShapes Go.ChangeAt Go.RowKit
open Go.Proofs.YtmnihigackilkaaDoor.Mem Go.Proofs.YtmnihigackilkaaDoor.Ints Go.Proofs.YtmnihigackilkaaDoor.Strs Go.Proofs.YtmnihigackilkaaDoor.Slq Go.Proofs.YtmnihigackilkaaDoor.Rec Go.Proofs.YtmnihigackilkaaDoor.Edq Go.Proofs.YtmnihigackilkaaDoor.Edn Go.Proofs.YtmnihigackilkaaDoor.Edw Go.Proofs.YtmnihigackilkaaDoor.T8 Go.Proofs.YtmnihigackilkaaDoor.Edm Go.Proofs.YtmnihigackilkaaDoor.Edp Go.Proofs.YtmnihigackilkaaDoor.Edu
set_option linter.unusedVariables false
set_option maxRecDepth 100000

theorem put_len (m : Int) (l : List ByteArray) (x : ByteArray) : (if okP m l x then ptL m.toNat l x else []).length ≤ 21 := by
  cases h : okP m l x
  · simp
  · rw [if_pos rfl]
    obtain ⟨h1, h2, h3⟩ := okP_yes h
    obtain ⟨k, rfl, hk, h32, hl⟩ := okE_yes h1
    rw [Int.toNat_natCast, ptL_len k l x hl]
    exact Pts.pc_le21 _ (by omega)
set_option maxHeartbeats 8000000 in
theorem walk (m : Int) (A : Option Addr) (n c : Nat) (l : List ByteArray) (x : ByteArray) (w0 : (Lit.int .i64 m).wf = true) (hn : n ≤ maxLen) (hs : ∀ s ∈ l, s.size ≤ maxLen) (hx0 : x.size ≤ maxLen) (w : World) (hT : Tbl w) (hx : Rd w w.heap.size 1 A n (svs l)) :
    Calls Tryd.prog 7 #[edV m A n c, .string x] w fun e w' => e = .returned (.bool true) ∧ Below w.heap.size w w' := by
  by_cases hxs : 1048576 < x.size
  · unfold maxLen at hx0
    unfold edV
    clear hx hs hT
    go_enter Tryd.func7, Tryd.ntmps7
    go_wp2
    go_ret
    exact ⟨rfl, al1 w _⟩
  have CZ := Lib.hid (fun W (h : Below w.heap.size w W) => szEd A n c m l w.heap.size 1048576 W hn (by omega) hs (by have := h.size; omega) (hx.below h (Nat.le_refl _)))
  have CT := Lib.hid (fun W (h : Below w.heap.size w W) (hn' : n ≤ 1048576) => toEd A n c m l W hn' ((hx.below h (Nat.le_refl _)).mono h.size))
  have CQ := Lib.hid (fun g g' W (h : W.ownsRow (0 : Nat) 9 1 (.slice (some ⟨g, 0, none⟩) n n) n (svs l)) (h' : W.ownsRow (0 : Nat) 9 1 (.slice (some ⟨g', 0, none⟩) n n) n (svs l)) (hn' : n ≤ 1048576) => eqEd (some ⟨g, 0, none⟩) (some ⟨g', 0, none⟩) n n n m l W.heap.size W.heap.size W hn' (Rd.own h) (Rd.own h') (Nat.le_refl _) (Nat.le_refl _))
  have hln := rd_len hx
  have HS := Lib.hid hs
  have HT := Lib.hid (fun W (h : Below w.heap.size w W) => hT.below h)
  have BW := Below.refl w.heap.size w
  have hxs' : x.size ≤ 1048576 := by omega
  unfold edV at CZ
  clear hs hx w0 hT hxs
  unfold edV
  go_enter Tryd.func7, Tryd.ntmps7
  go_wp2_with fail
  have k9 := nw1 w (.cells #[.int .i64 m, .slice A n c] 73)
  have b9 := al1 w (.cells #[.int .i64 m, .slice A n c] 73)
  have BW := then_ (n := 0) BW b9
  have K0 := Lib.hid k9
  clear k9 b9
  have zV1 : (World.alloc w (.cells #[.int .i64 m, .slice A n c] 73)).heap.size = w.heap.size + 1 := World.size_alloc _ _
  have lV1 := bx_lt K0.out
  generalize hV : World.alloc w (.cells #[.int .i64 m, .slice A n c] 73) = V1 at *
  clear hV
  refine (CZ.out V1 BW).mono ?_
  rintro e V2 ⟨z, rfl, b9, z0, z1, z2⟩
  have K0 := Lib.hid (bx K0.out b9)
  have BW := then_ (n := 0) BW b9
  have sV2 := b9.size
  have Z2 := Lib.hid z2
  clear b9 z2 CZ
  by_cases hz : z < 0
  · go_wp2
    go_ret
    exact ⟨rfl, BW⟩
  have hz2 : 0 ≤ z := by omega
  have hn2 : n ≤ 1048576 := (Z2.out hz2).1
  have hsum : Hid (n ≤ 1000000 ∨ 1000000 < n) := Lib.hid (by omega)
  have CS := Lib.hid (fun g W (h : W.ownsRow (0 : Nat) 9 1 (.slice (some ⟨g, 0, none⟩) n n) n (svs l)) => specPut m (some ⟨g, 0, none⟩) n n l x W.heap.size W hn2 hln HS.out hx0 (fun h => by cases h) (Nat.le_refl _) (Rd.own h))
  have CI := Lib.hid (fun g W (h : W.ownsRow (0 : Nat) 9 1 (.slice (some ⟨g, 0, none⟩) n n) n (svs l)) (hb : Below w.heap.size w W) => implPut m (some ⟨g, 0, none⟩) n n l x W.heap.size W hn2 hln HS.out hx0 (Nat.le_refl _) (Rd.own h) (HT.out W hb))
  have hlen := put_len m l x
  generalize (if okP m l x then m + 1 else 0) = kk at *
  generalize (if okP m l x then ptL m.toNat l x else []) = ls at *
  generalize okP m l x = ok at *
  have hbb : (ok != ok) = false := by simp
  have CQR := Lib.hid (fun (A D : Option Addr) (c d : Nat) W (h : W.ownsRow (0 : Nat) 9 1 (.slice A ls.length c) ls.length (svs ls)) (h' : W.ownsRow (0 : Nat) 9 1 (.slice D ls.length d) ls.length (svs ls)) => eqEd A D ls.length c d kk ls W.heap.size W.heap.size W (by omega) (Rd.own h) (Rd.own h') (Nat.le_refl _) (Nat.le_refl _))
  have CM := Lib.hid (fun (A : Option Addr) (c : Nat) W (h : W.ownsRow (0 : Nat) 9 1 (.slice A ls.length c) ls.length (svs ls)) (hlo : ∀ g, A = some ⟨g, 0, none⟩ → w.heap.size ≤ g) (hW : w.heap.size ≤ W.heap.size) => (markEdA A ls.length c kk ls 1 w.heap.size W (by omega) (by omega) hW (own_up h hlo)).mono (fun e w' q => (show _ ∧ w'.ownsRow (0 : Nat) 9 1 (.slice A ls.length c) ls.length (svs (mts 1 ls.length)) ∧ _ from ⟨q.1, own_base q.2.1 (Nat.zero_le _), q.2.2⟩)))
  have CH := Lib.hid (fun (A : Option Addr) (c : Nat) W (h : W.ownsRow (0 : Nat) 9 1 (.slice A ls.length c) ls.length (svs (mts 1 ls.length))) => heldEd A ls.length c 1 W.heap.size kk W (by omega) (by omega) (Nat.le_refl _) (Rd.own h))
  have CMX := Lib.hid (fun (g : Nat) W (h : W.ownsRow (0 : Nat) 9 1 (.slice (some ⟨g, 0, none⟩) n n) n (svs l)) (hlo : ∀ g', (some ⟨g, 0, none⟩ : Option Addr) = some ⟨g', 0, none⟩ → w.heap.size ≤ g') (hW : w.heap.size ≤ W.heap.size) => (markEdA (some ⟨g, 0, none⟩) n n m l 1 w.heap.size W (by omega) (by omega) hW (own_up h hlo)).mono (fun e w' q => (show _ ∧ w'.ownsRow (0 : Nat) 9 1 (.slice (some ⟨g, 0, none⟩) n n) n (svs (mts 1 n)) ∧ _ from ⟨q.1, own_base q.2.1 (Nat.zero_le _), q.2.2⟩)))
  unfold Ans edV at *
  obtain ⟨kn, hkn⟩ : ∃ kn, 1 + n = kn := ⟨_, rfl⟩
  rw [hkn] at CMX
  have hkn1 : (0 : Int) ≤ (kn : Int) := by omega
  obtain ⟨kp, hkp⟩ : ∃ kp, 1 + ls.length = kp := ⟨_, rfl⟩
  rw [hkp] at CM CH
  have hkp1 : (0 : Int) ≤ (kp : Int) := by omega
  generalize svs (mts 1 ls.length) = ys at *
  generalize svs ls = xs at *
  generalize ls.length = nn at *
  clear Z2 hz z0 HS HT hln hkn hkp hsum
  obtain ⟨pK00, pK01⟩ := row2 K0.out; have qK0 := bx_lt K0.out
  go_wp2_with fail
  clear pK00 pK01 qK0
  refine (CT.out V2 BW hn2).mono ?_
  rintro e V3 ⟨g1, rfl, o9, b9⟩
  have K0 := Lib.hid (bx K0.out b9)
  have BW := then_ (n := 0) BW b9
  have sV3 := b9.size
  have rO1 : Hid (∀ g, (some ⟨g1, 0, none⟩ : Option Addr) = some ⟨g, 0, none⟩ → V2.heap.size ≤ g ∧ g < V3.heap.size) := Lib.hid (fun g hg => o9.lt g (by rw [hg]; rfl))
  have O1 := Lib.hid (own_base o9 (Nat.zero_le _))
  clear o9
  clear b9
  obtain ⟨pK00, pK01⟩ := row2 K0.out; have qK0 := bx_lt K0.out
  go_wp2_with fail
  clear pK00 pK01 qK0
  refine (CS.out g1 V3 O1.out).mono ?_
  rintro e V4 ⟨A5, c5, rfl, o9, b9⟩
  have K0 := Lib.hid (bx K0.out b9)
  have O1 := Lib.hid (own_belowS O1.out b9 (Nat.le_refl _))
  have BW := then_ (n := 0) BW b9
  have sV4 := b9.size
  have rO5 : Hid (∀ g, A5 = some ⟨g, 0, none⟩ → V3.heap.size ≤ g ∧ g < V4.heap.size) := Lib.hid (fun g hg => o9.lt g (by rw [hg]; rfl))
  have O5 := Lib.hid (own_base o9 (Nat.zero_le _))
  clear o9
  clear b9
  clear O1
  obtain ⟨pK00, pK01⟩ := row2 K0.out; have qK0 := bx_lt K0.out
  go_wp2_with fail
  clear pK00 pK01 qK0
  have k9 := nw1 V4 (.cells #[.int .i64 kk, .slice A5 nn c5] 53)
  have b9 := al1 V4 (.cells #[.int .i64 kk, .slice A5 nn c5] 53)
  have K0 := Lib.hid (bx K0.out b9)
  have O5 := Lib.hid (own_belowS O5.out b9 (Nat.le_refl _))
  have BW := then_ (n := 0) BW b9
  have K5 := Lib.hid k9
  clear k9 b9
  have zV5 : (World.alloc V4 (.cells #[.int .i64 kk, .slice A5 nn c5] 53)).heap.size = V4.heap.size + 1 := World.size_alloc _ _
  have lV5 := bx_lt K5.out
  generalize hV : World.alloc V4 (.cells #[.int .i64 kk, .slice A5 nn c5] 53) = V5 at *
  clear hV
  refine (CT.out V5 BW hn2).mono ?_
  rintro e V6 ⟨g2, rfl, o9, b9⟩
  have K0 := Lib.hid (bx K0.out b9)
  have K5 := Lib.hid (bx K5.out b9)
  have O5 := Lib.hid (own_belowS O5.out b9 (Nat.le_refl _))
  have BW := then_ (n := 0) BW b9
  have sV6 := b9.size
  have rO2 : Hid (∀ g, (some ⟨g2, 0, none⟩ : Option Addr) = some ⟨g, 0, none⟩ → V5.heap.size ≤ g ∧ g < V6.heap.size) := Lib.hid (fun g hg => o9.lt g (by rw [hg]; rfl))
  have O2 := Lib.hid (own_base o9 (Nat.zero_le _))
  clear o9
  clear b9
  obtain ⟨pK00, pK01⟩ := row2 K0.out; have qK0 := bx_lt K0.out; obtain ⟨pK50, pK51⟩ := row2 K5.out; have qK5 := bx_lt K5.out
  go_wp2_with fail
  clear pK00 pK01 qK0 pK50 pK51 qK5
  have k9 := nw1 V6 (.cells #[.int .i64 m, .slice (some ⟨g2, 0, none⟩) n n] 53)
  have b9 := al1 V6 (.cells #[.int .i64 m, .slice (some ⟨g2, 0, none⟩) n n] 53)
  have K0 := Lib.hid (bx K0.out b9)
  have K5 := Lib.hid (bx K5.out b9)
  have O5 := Lib.hid (own_belowS O5.out b9 (Nat.le_refl _))
  have O2 := Lib.hid (own_belowS O2.out b9 (Nat.le_refl _))
  have BW := then_ (n := 0) BW b9
  have K2 := Lib.hid k9
  clear k9 b9
  have zV7 : (World.alloc V6 (.cells #[.int .i64 m, .slice (some ⟨g2, 0, none⟩) n n] 53)).heap.size = V6.heap.size + 1 := World.size_alloc _ _
  have lV7 := bx_lt K2.out
  generalize hV : World.alloc V6 (.cells #[.int .i64 m, .slice (some ⟨g2, 0, none⟩) n n] 53) = V7 at *
  clear hV
  refine (CI.out g2 V7 O2.out BW).mono ?_
  rintro e V8 ⟨A6, c6, rfl, o9, b9⟩
  have K0 := Lib.hid (bx K0.out b9)
  have K5 := Lib.hid (bx K5.out b9)
  have K2 := Lib.hid (bx K2.out b9)
  have O5 := Lib.hid (own_belowS O5.out b9 (Nat.le_refl _))
  have O2 := Lib.hid (own_belowS O2.out b9 (Nat.le_refl _))
  have BW := then_ (n := 0) BW b9
  have sV8 := b9.size
  have rO6 : Hid (∀ g, A6 = some ⟨g, 0, none⟩ → V7.heap.size ≤ g ∧ g < V8.heap.size) := Lib.hid (fun g hg => o9.lt g (by rw [hg]; rfl))
  have O6 := Lib.hid (own_base o9 (Nat.zero_le _))
  clear o9
  clear b9
  obtain ⟨pK00, pK01⟩ := row2 K0.out; have qK0 := bx_lt K0.out; obtain ⟨pK50, pK51⟩ := row2 K5.out; have qK5 := bx_lt K5.out; obtain ⟨pK20, pK21⟩ := row2 K2.out; have qK2 := bx_lt K2.out
  go_wp2_with fail
  clear pK00 pK01 qK0 pK50 pK51 qK5 pK20 pK21 qK2
  have k9 := nw1 V8 (.cells #[.int .i64 kk, .slice A6 nn c6] 53)
  have b9 := al1 V8 (.cells #[.int .i64 kk, .slice A6 nn c6] 53)
  have K0 := Lib.hid (bx K0.out b9)
  have K5 := Lib.hid (bx K5.out b9)
  have K2 := Lib.hid (bx K2.out b9)
  have O5 := Lib.hid (own_belowS O5.out b9 (Nat.le_refl _))
  have O2 := Lib.hid (own_belowS O2.out b9 (Nat.le_refl _))
  have O6 := Lib.hid (own_belowS O6.out b9 (Nat.le_refl _))
  have BW := then_ (n := 0) BW b9
  have K6 := Lib.hid k9
  clear k9 b9
  have zV9 : (World.alloc V8 (.cells #[.int .i64 kk, .slice A6 nn c6] 53)).heap.size = V8.heap.size + 1 := World.size_alloc _ _
  have lV9 := bx_lt K6.out
  generalize hV : World.alloc V8 (.cells #[.int .i64 kk, .slice A6 nn c6] 53) = V9 at *
  clear hV
  refine (CQR.out A6 A5 c6 c5 V9 O6.out O5.out).mono ?_
  rintro e V10 ⟨rfl, b9⟩
  have K0 := Lib.hid (bx K0.out b9)
  have K5 := Lib.hid (bx K5.out b9)
  have K2 := Lib.hid (bx K2.out b9)
  have K6 := Lib.hid (bx K6.out b9)
  have O5 := Lib.hid (own_belowS O5.out b9 (Nat.le_refl _))
  have O2 := Lib.hid (own_belowS O2.out b9 (Nat.le_refl _))
  have O6 := Lib.hid (own_belowS O6.out b9 (Nat.le_refl _))
  have BW := then_ (n := 0) BW b9
  have sV10 := b9.size
  clear b9
  have BD : Hid (Below w.heap.size w V10.drew) := Lib.hid BW.drew
  have K0D : Hid (V10.drew.heap[_]? = some _) := Lib.hid K0.out; obtain ⟨pK00, pK01⟩ := row2 K0.out
  have K5D : Hid (V10.drew.heap[_]? = some _) := Lib.hid K5.out; obtain ⟨pK50, pK51⟩ := row2 K5.out
  have K2D : Hid (V10.drew.heap[_]? = some _) := Lib.hid K2.out; obtain ⟨pK20, pK21⟩ := row2 K2.out
  have K6D : Hid (V10.drew.heap[_]? = some _) := Lib.hid K6.out; obtain ⟨pK60, pK61⟩ := row2 K6.out
  have O5D := Lib.hid (own_belowS O5.out (Below.refl V10.heap.size V10).drew (Nat.le_refl _))
  have O2D := Lib.hid (own_belowS O2.out (Below.refl V10.heap.size V10).drew (Nat.le_refl _))
  have O6D := Lib.hid (own_belowS O6.out (Below.refl V10.heap.size V10).drew (Nat.le_refl _))
  go_wp2_with fail
  go_region_held3 (fun w' => w'.cell? ⟨w.heap.size, 0, none⟩ = some (.int .i64 m) ∧ w'.cell? ⟨w.heap.size, 1, none⟩ = some (.slice A n c) ∧ w'.cell? ⟨V6.heap.size, 0, none⟩ = some (.int .i64 m) ∧ w'.cell? ⟨V6.heap.size, 1, none⟩ = some (.slice (some ⟨g2, 0, none⟩) n n))
    (first | (go_keep; done) | (refine ⟨?_, ?_, ?_, ?_⟩ <;> with_reducible assumption))
    (first
      | (go_at_call 62; (with_reducible refine (CT.out _ BD.out hn2).mono ?_); rintro e' V11 ⟨g3, rfl, o8, b8⟩; obtain ⟨d6, d7⟩ := row2 (bx K0D.out b8); obtain ⟨d8, d9⟩ := row2 (bx K2D.out b8); have O2E := Lib.hid (own_belowS O2D.out b8 (Nat.le_refl _)); have O3 := Lib.hid (own_base o8 (Nat.zero_le _)); clear o8)
      | (go_at_call 63; (with_reducible refine (CQ.out _ _ _ O2E.out O3.out hn2).mono ?_); rintro e' V12 ⟨rfl, b9⟩; obtain ⟨d0, d1⟩ := row2 (bx (bx K0D.out b8) b9); obtain ⟨d2, d3⟩ := row2 (bx (bx K2D.out b8) b9)))
  have K0 := Lib.hid (bx (bx K0D.out b8) b9)
  have K5 := Lib.hid (bx (bx K5D.out b8) b9)
  have K2 := Lib.hid (bx (bx K2D.out b8) b9)
  have K6 := Lib.hid (bx (bx K6D.out b8) b9)
  have O5 := Lib.hid (own_belowS (own_belowS O5D.out b8 (Nat.le_refl _)) b9 (Nat.le_refl _))
  have O2 := Lib.hid (own_belowS (own_belowS O2D.out b8 (Nat.le_refl _)) b9 (Nat.le_refl _))
  have O6 := Lib.hid (own_belowS (own_belowS O6D.out b8 (Nat.le_refl _)) b9 (Nat.le_refl _))
  have BW := then_ (n := 0) (then_ (n := 0) BD.out b8) b9
  have sV11 : V10.heap.size ≤ V11.heap.size := b8.size
  have sV12 : V11.heap.size ≤ V12.heap.size := b9.size
  clear K0D K5D K2D K6D O5D O2D O6D pK00 pK01 pK50 pK51 pK20 pK21 pK60 pK61 BD b8 b9 d0 d1 d2 d3 d6 d7 d8 d9 O2E O3
  obtain ⟨pK00, pK01⟩ := row2 K0.out; have qK0 := bx_lt K0.out; obtain ⟨pK50, pK51⟩ := row2 K5.out; have qK5 := bx_lt K5.out; obtain ⟨pK20, pK21⟩ := row2 K2.out; have qK2 := bx_lt K2.out; obtain ⟨pK60, pK61⟩ := row2 K6.out; have qK6 := bx_lt K6.out
  go_wp2_with fail
  clear pK00 pK01 qK0 pK50 pK51 qK5 pK20 pK21 qK2 pK60 pK61 qK6
  refine (CMX.out g2 V12 O2.out (fun g hg => by have := rO2.out g hg; omega) (by omega)).mono ?_
  rintro e V13 ⟨rfl, o9, y9, b9⟩
  have K0 := Lib.hid (y9.row K0.out (fun g hg => by have := rO2.out g hg; omega))
  have K5 := Lib.hid (y9.row K5.out (fun g hg => by have := rO2.out g hg; omega))
  have K2 := Lib.hid (y9.row K2.out (fun g hg => by have := rO2.out g hg; omega))
  have K6 := Lib.hid (y9.row K6.out (fun g hg => by have := rO2.out g hg; omega))
  have O5 := Lib.hid (own_at O5.out (fun g hg => y9 g (fun g' hg' => by have := rO2.out g' hg'; have := rO5.out g hg; omega) (by have := rO5.out g hg; omega)))
  have O6 := Lib.hid (own_at O6.out (fun g hg => y9 g (fun g' hg' => by have := rO2.out g' hg'; have := rO6.out g hg; omega) (by have := rO6.out g hg; omega)))
  have BW := BW.trans (b9.mono (Nat.le_refl _))
  have sV13 := b9.size
  have O2 := Lib.hid o9
  clear o9 y9 b9
  obtain ⟨pK00, pK01⟩ := row2 K0.out; have qK0 := bx_lt K0.out; obtain ⟨pK50, pK51⟩ := row2 K5.out; have qK5 := bx_lt K5.out; obtain ⟨pK20, pK21⟩ := row2 K2.out; have qK2 := bx_lt K2.out; obtain ⟨pK60, pK61⟩ := row2 K6.out; have qK6 := bx_lt K6.out
  go_wp2_with fail
  clear pK00 pK01 qK0 pK50 pK51 qK5 pK20 pK21 qK2 pK60 pK61 qK6
  refine (CQR.out A6 A5 c6 c5 V13 O6.out O5.out).mono ?_
  rintro e V14 ⟨rfl, b9⟩
  have K0 := Lib.hid (bx K0.out b9)
  have K5 := Lib.hid (bx K5.out b9)
  have K2 := Lib.hid (bx K2.out b9)
  have K6 := Lib.hid (bx K6.out b9)
  have O5 := Lib.hid (own_belowS O5.out b9 (Nat.le_refl _))
  have O2 := Lib.hid (own_belowS O2.out b9 (Nat.le_refl _))
  have O6 := Lib.hid (own_belowS O6.out b9 (Nat.le_refl _))
  have BW := then_ (n := 0) BW b9
  have sV14 := b9.size
  clear b9
  obtain ⟨pK00, pK01⟩ := row2 K0.out; have qK0 := bx_lt K0.out; obtain ⟨pK50, pK51⟩ := row2 K5.out; have qK5 := bx_lt K5.out; obtain ⟨pK20, pK21⟩ := row2 K2.out; have qK2 := bx_lt K2.out; obtain ⟨pK60, pK61⟩ := row2 K6.out; have qK6 := bx_lt K6.out
  go_wp2_with fail
  clear pK00 pK01 qK0 pK50 pK51 qK5 pK20 pK21 qK2 pK60 pK61 qK6
  refine (CM.out A6 c6 V14 O6.out (fun g hg => by have := rO6.out g hg; omega) (by omega)).mono ?_
  rintro e V15 ⟨rfl, o9, y9, b9⟩
  have K0 := Lib.hid (y9.row K0.out (fun g hg => by have := rO6.out g hg; omega))
  have K5 := Lib.hid (y9.row K5.out (fun g hg => by have := rO6.out g hg; omega))
  have K2 := Lib.hid (y9.row K2.out (fun g hg => by have := rO6.out g hg; omega))
  have K6 := Lib.hid (y9.row K6.out (fun g hg => by have := rO6.out g hg; omega))
  have O5 := Lib.hid (own_at O5.out (fun g hg => y9 g (fun g' hg' => by have := rO6.out g' hg'; have := rO5.out g hg; omega) (by have := rO5.out g hg; omega)))
  have O2 := Lib.hid (own_at O2.out (fun g hg => y9 g (fun g' hg' => by have := rO6.out g' hg'; have := rO2.out g hg; omega) (by have := rO2.out g hg; omega)))
  have BW := BW.trans (b9.mono (Nat.le_refl _))
  have sV15 := b9.size
  have O6 := Lib.hid o9
  clear o9 y9 b9
  obtain ⟨pK00, pK01⟩ := row2 K0.out; have qK0 := bx_lt K0.out; obtain ⟨pK50, pK51⟩ := row2 K5.out; have qK5 := bx_lt K5.out; obtain ⟨pK20, pK21⟩ := row2 K2.out; have qK2 := bx_lt K2.out; obtain ⟨pK60, pK61⟩ := row2 K6.out; have qK6 := bx_lt K6.out
  go_wp2_with fail
  clear pK00 pK01 qK0 pK50 pK51 qK5 pK20 pK21 qK2 pK60 pK61 qK6
  refine (CH.out A6 c6 V15 O6.out).mono ?_
  rintro e V16 ⟨rfl, b9⟩
  have K0 := Lib.hid (bx K0.out b9)
  have K5 := Lib.hid (bx K5.out b9)
  have K2 := Lib.hid (bx K2.out b9)
  have K6 := Lib.hid (bx K6.out b9)
  have O5 := Lib.hid (own_belowS O5.out b9 (Nat.le_refl _))
  have O2 := Lib.hid (own_belowS O2.out b9 (Nat.le_refl _))
  have O6 := Lib.hid (own_belowS O6.out b9 (Nat.le_refl _))
  have BW := then_ (n := 0) BW b9
  have sV16 := b9.size
  clear b9
  obtain ⟨pK00, pK01⟩ := row2 K0.out; have qK0 := bx_lt K0.out; obtain ⟨pK50, pK51⟩ := row2 K5.out; have qK5 := bx_lt K5.out; obtain ⟨pK20, pK21⟩ := row2 K2.out; have qK2 := bx_lt K2.out; obtain ⟨pK60, pK61⟩ := row2 K6.out; have qK6 := bx_lt K6.out
  go_wp2_with fail
  clear pK00 pK01 qK0 pK50 pK51 qK5 pK20 pK21 qK2 pK60 pK61 qK6
  refine (CT.out V16 BW hn2).mono ?_
  rintro e V17 ⟨g7, rfl, o9, b9⟩
  have K0 := Lib.hid (bx K0.out b9)
  have K5 := Lib.hid (bx K5.out b9)
  have K2 := Lib.hid (bx K2.out b9)
  have K6 := Lib.hid (bx K6.out b9)
  have O5 := Lib.hid (own_belowS O5.out b9 (Nat.le_refl _))
  have O2 := Lib.hid (own_belowS O2.out b9 (Nat.le_refl _))
  have O6 := Lib.hid (own_belowS O6.out b9 (Nat.le_refl _))
  have BW := then_ (n := 0) BW b9
  have sV17 := b9.size
  have rO7 : Hid (∀ g, (some ⟨g7, 0, none⟩ : Option Addr) = some ⟨g, 0, none⟩ → V16.heap.size ≤ g ∧ g < V17.heap.size) := Lib.hid (fun g hg => o9.lt g (by rw [hg]; rfl))
  have O7 := Lib.hid (own_base o9 (Nat.zero_le _))
  clear o9
  clear b9
  obtain ⟨pK00, pK01⟩ := row2 K0.out; have qK0 := bx_lt K0.out; obtain ⟨pK50, pK51⟩ := row2 K5.out; have qK5 := bx_lt K5.out; obtain ⟨pK20, pK21⟩ := row2 K2.out; have qK2 := bx_lt K2.out; obtain ⟨pK60, pK61⟩ := row2 K6.out; have qK6 := bx_lt K6.out
  go_wp2_with fail
  clear pK00 pK01 qK0 pK50 pK51 qK5 pK20 pK21 qK2 pK60 pK61 qK6
  refine (CI.out g7 V17 O7.out BW).mono ?_
  rintro e V18 ⟨A8, c8, rfl, o9, b9⟩
  have K0 := Lib.hid (bx K0.out b9)
  have K5 := Lib.hid (bx K5.out b9)
  have K2 := Lib.hid (bx K2.out b9)
  have K6 := Lib.hid (bx K6.out b9)
  have O5 := Lib.hid (own_belowS O5.out b9 (Nat.le_refl _))
  have O2 := Lib.hid (own_belowS O2.out b9 (Nat.le_refl _))
  have O6 := Lib.hid (own_belowS O6.out b9 (Nat.le_refl _))
  have O7 := Lib.hid (own_belowS O7.out b9 (Nat.le_refl _))
  have BW := then_ (n := 0) BW b9
  have sV18 := b9.size
  have rO8 : Hid (∀ g, A8 = some ⟨g, 0, none⟩ → V17.heap.size ≤ g ∧ g < V18.heap.size) := Lib.hid (fun g hg => o9.lt g (by rw [hg]; rfl))
  have O8 := Lib.hid (own_base o9 (Nat.zero_le _))
  clear o9
  clear b9
  clear O7
  obtain ⟨pK00, pK01⟩ := row2 K0.out; have qK0 := bx_lt K0.out; obtain ⟨pK50, pK51⟩ := row2 K5.out; have qK5 := bx_lt K5.out; obtain ⟨pK20, pK21⟩ := row2 K2.out; have qK2 := bx_lt K2.out; obtain ⟨pK60, pK61⟩ := row2 K6.out; have qK6 := bx_lt K6.out
  go_wp2_with fail
  clear pK00 pK01 qK0 pK50 pK51 qK5 pK20 pK21 qK2 pK60 pK61 qK6
  have k9 := nw1 V18 (.cells #[.int .i64 kk, .slice A8 nn c8] 53)
  have b9 := al1 V18 (.cells #[.int .i64 kk, .slice A8 nn c8] 53)
  have K0 := Lib.hid (bx K0.out b9)
  have K5 := Lib.hid (bx K5.out b9)
  have K2 := Lib.hid (bx K2.out b9)
  have K6 := Lib.hid (bx K6.out b9)
  have O5 := Lib.hid (own_belowS O5.out b9 (Nat.le_refl _))
  have O2 := Lib.hid (own_belowS O2.out b9 (Nat.le_refl _))
  have O6 := Lib.hid (own_belowS O6.out b9 (Nat.le_refl _))
  have O8 := Lib.hid (own_belowS O8.out b9 (Nat.le_refl _))
  have BW := then_ (n := 0) BW b9
  have K8 := Lib.hid k9
  clear k9 b9
  have zV19 : (World.alloc V18 (.cells #[.int .i64 kk, .slice A8 nn c8] 53)).heap.size = V18.heap.size + 1 := World.size_alloc _ _
  have lV19 := bx_lt K8.out
  generalize hV : World.alloc V18 (.cells #[.int .i64 kk, .slice A8 nn c8] 53) = V19 at *
  clear hV
  refine (CQR.out A8 A5 c8 c5 V19 O8.out O5.out).mono ?_
  rintro e V20 ⟨rfl, b9⟩
  have K0 := Lib.hid (bx K0.out b9)
  have K5 := Lib.hid (bx K5.out b9)
  have K2 := Lib.hid (bx K2.out b9)
  have K6 := Lib.hid (bx K6.out b9)
  have K8 := Lib.hid (bx K8.out b9)
  have O5 := Lib.hid (own_belowS O5.out b9 (Nat.le_refl _))
  have O2 := Lib.hid (own_belowS O2.out b9 (Nat.le_refl _))
  have O6 := Lib.hid (own_belowS O6.out b9 (Nat.le_refl _))
  have O8 := Lib.hid (own_belowS O8.out b9 (Nat.le_refl _))
  have BW := then_ (n := 0) BW b9
  have sV20 := b9.size
  clear b9
  obtain ⟨pK00, pK01⟩ := row2 K0.out; have qK0 := bx_lt K0.out; obtain ⟨pK50, pK51⟩ := row2 K5.out; have qK5 := bx_lt K5.out; obtain ⟨pK20, pK21⟩ := row2 K2.out; have qK2 := bx_lt K2.out; obtain ⟨pK60, pK61⟩ := row2 K6.out; have qK6 := bx_lt K6.out; obtain ⟨pK80, pK81⟩ := row2 K8.out; have qK8 := bx_lt K8.out
  go_wp2_with fail
  clear pK00 pK01 qK0 pK50 pK51 qK5 pK20 pK21 qK2 pK60 pK61 qK6 pK80 pK81 qK8
  refine (CH.out A6 c6 V20 O6.out).mono ?_
  rintro e V21 ⟨rfl, b9⟩
  have K0 := Lib.hid (bx K0.out b9)
  have K5 := Lib.hid (bx K5.out b9)
  have K2 := Lib.hid (bx K2.out b9)
  have K6 := Lib.hid (bx K6.out b9)
  have K8 := Lib.hid (bx K8.out b9)
  have O5 := Lib.hid (own_belowS O5.out b9 (Nat.le_refl _))
  have O2 := Lib.hid (own_belowS O2.out b9 (Nat.le_refl _))
  have O6 := Lib.hid (own_belowS O6.out b9 (Nat.le_refl _))
  have O8 := Lib.hid (own_belowS O8.out b9 (Nat.le_refl _))
  have BW := then_ (n := 0) BW b9
  have sV21 := b9.size
  clear b9
  go_wp2
  go_ret
  exact ⟨rfl, BW⟩
end Go.Proofs.YtmnihigackilkaaDoor.LawPutEdge
