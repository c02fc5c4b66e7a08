/-
  The law on NewEdge: for every number and string both answer alike, and the answer's memory is its own.
-/
import Derived.Test.YtmnihigackilkaaEdw
import Derived.Test.YtmnihigackilkaaEdm
namespace Go.Proofs.Ytmnihigackilkaa.LawNewEdge
open Go.ChangeShapes Go.WideShapes Go.ChangeAt Go.RowKit
open Go.Proofs.Ytmnihigackilkaa.Mem Go.Proofs.Ytmnihigackilkaa.Ints Go.Proofs.Ytmnihigackilkaa.Strs Go.Proofs.Ytmnihigackilkaa.Slq Go.Proofs.Ytmnihigackilkaa.Rec Go.Proofs.Ytmnihigackilkaa.Edq Go.Proofs.Ytmnihigackilkaa.Edn Go.Proofs.Ytmnihigackilkaa.Edw Go.Proofs.Ytmnihigackilkaa.Edm
set_option linter.unusedVariables false
set_option maxRecDepth 100000

set_option maxHeartbeats 8000000 in
theorem walk (m : Int) (s : ByteArray) (w0 : (Lit.int .i64 m).wf = true) (hs : s.size ≤ maxLen) (w : World) :
    Calls Try.prog 3 #[.int .i64 m, .string s] w fun e w' => e = .returned (.bool true) ∧ Below w.heap.size w w' := by
  by_cases hsz : s.size ≤ 1048576
  · have CS := Lib.hid (fun W => specNew m s W hs)
    have CI := Lib.hid (fun W => implNew m s W hs)
    have hn : (nwL m s).length ≤ 1 := by unfold nwL; split <;> simp
    unfold Ans at CS CI
    generalize nwL m s = l at *
    generalize nwM m s = k at *
    generalize okN m s = ok at *
    have CQ := Lib.hid (fun (A D : Option Addr) (c d : Nat) W (h : W.ownsRow (0 : Nat) 9 1 (.slice A l.length c) l.length (svs l)) (h' : W.ownsRow (0 : Nat) 9 1 (.slice D l.length d) l.length (svs l)) => eqEd A D l.length c d k l W.heap.size W.heap.size W (by omega) (Rd.own h) (Rd.own h') (Nat.le_refl _) (Nat.le_refl _))
    have CM := Lib.hid (fun (A : Option Addr) (c : Nat) W (h : W.ownsRow (0 : Nat) 9 1 (.slice A l.length c) l.length (svs l)) (hlo : ∀ g, A = some ⟨g, 0, none⟩ → w.heap.size ≤ g) (hW : w.heap.size ≤ W.heap.size) => (markEdA A l.length c k l 1 w.heap.size W (by omega) (by omega) hW (own_up h hlo)).mono (fun e w' q => (show _ ∧ w'.ownsRow (0 : Nat) 9 1 (.slice A l.length c) l.length (svs (mts 1 l.length)) ∧ _ from ⟨q.1, own_base q.2.1 (Nat.zero_le _), q.2.2⟩)))
    have CH := Lib.hid (fun (A : Option Addr) (c : Nat) W (h : W.ownsRow (0 : Nat) 9 1 (.slice A l.length c) l.length (svs (mts 1 l.length))) => heldEd A l.length c 1 W.heap.size k W (by omega) (by omega) (Nat.le_refl _) (Rd.own h))
    have hbb : (ok != ok) = false := by simp
    generalize svs l = xs at *
    generalize svs (mts 1 l.length) = ys at *
    generalize l.length = n at *
    unfold edV at *
    have BW := Below.refl w.heap.size w
    clear hs w0
    go_enter Try.func3, Try.ntmps3
    go_wp2_with fail
    refine (CS.out w).mono ?_
    rintro e V1 ⟨A1, c1, rfl, o9, b9⟩
    have BW := then_ (n := 0) BW b9
    have sV1 := b9.size
    have rO1 : Hid (∀ g, A1 = some ⟨g, 0, none⟩ → w.heap.size ≤ g ∧ g < V1.heap.size) := Lib.hid (fun g hg => o9.lt g (by rw [hg]; rfl))
    have O1 := Lib.hid (own_base o9 (Nat.zero_le _))
    clear o9
    clear b9
    go_wp2_with fail
    have k9 := nw1 V1 (.cells #[.int .i64 k, .slice A1 n c1] 24)
    have b9 := al1 V1 (.cells #[.int .i64 k, .slice A1 n c1] 24)
    have O1 := Lib.hid (own_belowS O1.out b9 (Nat.le_refl _))
    have BW := then_ (n := 0) BW b9
    have K1 := Lib.hid k9
    clear k9 b9
    have zV2 : (World.alloc V1 (.cells #[.int .i64 k, .slice A1 n c1] 24)).heap.size = V1.heap.size + 1 := World.size_alloc _ _
    have lV2 := bx_lt K1.out
    generalize hV : World.alloc V1 (.cells #[.int .i64 k, .slice A1 n c1] 24) = V2 at *
    clear hV
    refine (CI.out V2).mono ?_
    rintro e V3 ⟨A2, c2, rfl, o9, b9⟩
    have K1 := Lib.hid (bx K1.out b9)
    have O1 := Lib.hid (own_belowS O1.out b9 (Nat.le_refl _))
    have BW := then_ (n := 0) BW b9
    have sV3 := b9.size
    have rO2 : Hid (∀ g, A2 = some ⟨g, 0, none⟩ → V2.heap.size ≤ g ∧ g < V3.heap.size) := Lib.hid (fun g hg => o9.lt g (by rw [hg]; rfl))
    have O2 := Lib.hid (own_base o9 (Nat.zero_le _))
    clear o9
    clear b9
    obtain ⟨pK10, pK11⟩ := row2 K1.out; have qK1 := bx_lt K1.out
    go_wp2_with fail
    clear pK10 pK11 qK1
    have k9 := nw1 V3 (.cells #[.int .i64 k, .slice A2 n c2] 24)
    have b9 := al1 V3 (.cells #[.int .i64 k, .slice A2 n c2] 24)
    have K1 := Lib.hid (bx K1.out b9)
    have O1 := Lib.hid (own_belowS O1.out b9 (Nat.le_refl _))
    have O2 := Lib.hid (own_belowS O2.out b9 (Nat.le_refl _))
    have BW := then_ (n := 0) BW b9
    have K2 := Lib.hid k9
    clear k9 b9
    have zV4 : (World.alloc V3 (.cells #[.int .i64 k, .slice A2 n c2] 24)).heap.size = V3.heap.size + 1 := World.size_alloc _ _
    have lV4 := bx_lt K2.out
    generalize hV : World.alloc V3 (.cells #[.int .i64 k, .slice A2 n c2] 24) = V4 at *
    clear hV
    refine (CQ.out A2 A1 c2 c1 V4 O2.out O1.out).mono ?_
    rintro e V5 ⟨rfl, b9⟩
    have K1 := Lib.hid (bx K1.out b9)
    have K2 := Lib.hid (bx K2.out b9)
    have O1 := Lib.hid (own_belowS O1.out b9 (Nat.le_refl _))
    have O2 := Lib.hid (own_belowS O2.out b9 (Nat.le_refl _))
    have BW := then_ (n := 0) BW b9
    have sV5 := b9.size
    clear b9
    obtain ⟨pK10, pK11⟩ := row2 K1.out; have qK1 := bx_lt K1.out; obtain ⟨pK20, pK21⟩ := row2 K2.out; have qK2 := bx_lt K2.out
    go_wp2_with fail
    clear pK10 pK11 qK1 pK20 pK21 qK2
    refine (CM.out A2 c2 V5 O2.out (fun g hg => by have := rO2.out g hg; omega) (by omega)).mono ?_
    rintro e V6 ⟨rfl, o9, y9, b9⟩
    have K1 := Lib.hid (y9.row K1.out (fun g hg => by have := rO2.out g hg; omega))
    have K2 := Lib.hid (y9.row K2.out (fun g hg => by have := rO2.out g hg; omega))
    have O1 := Lib.hid (own_at O1.out (fun g hg => y9 g (fun g' hg' => by have := rO2.out g' hg'; have := rO1.out g hg; omega) (by have := rO1.out g hg; omega)))
    have BW := BW.trans (b9.mono (Nat.le_refl _))
    have sV6 := b9.size
    have O2 := Lib.hid o9
    clear o9 y9 b9
    obtain ⟨pK10, pK11⟩ := row2 K1.out; have qK1 := bx_lt K1.out; obtain ⟨pK20, pK21⟩ := row2 K2.out; have qK2 := bx_lt K2.out
    go_wp2_with fail
    clear pK10 pK11 qK1 pK20 pK21 qK2
    refine (CH.out A2 c2 V6 O2.out).mono ?_
    rintro e V7 ⟨rfl, b9⟩
    have K1 := Lib.hid (bx K1.out b9)
    have K2 := Lib.hid (bx K2.out b9)
    have O1 := Lib.hid (own_belowS O1.out b9 (Nat.le_refl _))
    have O2 := Lib.hid (own_belowS O2.out b9 (Nat.le_refl _))
    have BW := then_ (n := 0) BW b9
    have sV7 := b9.size
    clear b9
    obtain ⟨pK10, pK11⟩ := row2 K1.out; have qK1 := bx_lt K1.out; obtain ⟨pK20, pK21⟩ := row2 K2.out; have qK2 := bx_lt K2.out
    go_wp2_with fail
    clear pK10 pK11 qK1 pK20 pK21 qK2
    refine (CI.out V7).mono ?_
    rintro e V8 ⟨A3, c3, rfl, o9, b9⟩
    have K1 := Lib.hid (bx K1.out b9)
    have K2 := Lib.hid (bx K2.out b9)
    have O1 := Lib.hid (own_belowS O1.out b9 (Nat.le_refl _))
    have O2 := Lib.hid (own_belowS O2.out b9 (Nat.le_refl _))
    have BW := then_ (n := 0) BW b9
    have sV8 := b9.size
    have rO3 : Hid (∀ g, A3 = some ⟨g, 0, none⟩ → V7.heap.size ≤ g ∧ g < V8.heap.size) := Lib.hid (fun g hg => o9.lt g (by rw [hg]; rfl))
    have O3 := Lib.hid (own_base o9 (Nat.zero_le _))
    clear o9
    clear b9
    obtain ⟨pK10, pK11⟩ := row2 K1.out; have qK1 := bx_lt K1.out; obtain ⟨pK20, pK21⟩ := row2 K2.out; have qK2 := bx_lt K2.out
    go_wp2_with fail
    clear pK10 pK11 qK1 pK20 pK21 qK2
    have k9 := nw1 V8 (.cells #[.int .i64 k, .slice A3 n c3] 24)
    have b9 := al1 V8 (.cells #[.int .i64 k, .slice A3 n c3] 24)
    have K1 := Lib.hid (bx K1.out b9)
    have K2 := Lib.hid (bx K2.out b9)
    have O1 := Lib.hid (own_belowS O1.out b9 (Nat.le_refl _))
    have O2 := Lib.hid (own_belowS O2.out b9 (Nat.le_refl _))
    have O3 := Lib.hid (own_belowS O3.out b9 (Nat.le_refl _))
    have BW := then_ (n := 0) BW b9
    have K3 := Lib.hid k9
    clear k9 b9
    have zV9 : (World.alloc V8 (.cells #[.int .i64 k, .slice A3 n c3] 24)).heap.size = V8.heap.size + 1 := World.size_alloc _ _
    have lV9 := bx_lt K3.out
    generalize hV : World.alloc V8 (.cells #[.int .i64 k, .slice A3 n c3] 24) = V9 at *
    clear hV
    refine (CQ.out A3 A1 c3 c1 V9 O3.out O1.out).mono ?_
    rintro e V10 ⟨rfl, b9⟩
    have K1 := Lib.hid (bx K1.out b9)
    have K2 := Lib.hid (bx K2.out b9)
    have K3 := Lib.hid (bx K3.out b9)
    have O1 := Lib.hid (own_belowS O1.out b9 (Nat.le_refl _))
    have O2 := Lib.hid (own_belowS O2.out b9 (Nat.le_refl _))
    have O3 := Lib.hid (own_belowS O3.out b9 (Nat.le_refl _))
    have BW := then_ (n := 0) BW b9
    have sV10 := b9.size
    clear b9
    obtain ⟨pK10, pK11⟩ := row2 K1.out; have qK1 := bx_lt K1.out; obtain ⟨pK20, pK21⟩ := row2 K2.out; have qK2 := bx_lt K2.out; obtain ⟨pK30, pK31⟩ := row2 K3.out; have qK3 := bx_lt K3.out
    go_wp2_with fail
    clear pK10 pK11 qK1 pK20 pK21 qK2 pK30 pK31 qK3
    refine (CH.out A2 c2 V10 O2.out).mono ?_
    rintro e V11 ⟨rfl, b9⟩
    have K1 := Lib.hid (bx K1.out b9)
    have K2 := Lib.hid (bx K2.out b9)
    have K3 := Lib.hid (bx K3.out b9)
    have O1 := Lib.hid (own_belowS O1.out b9 (Nat.le_refl _))
    have O2 := Lib.hid (own_belowS O2.out b9 (Nat.le_refl _))
    have O3 := Lib.hid (own_belowS O3.out b9 (Nat.le_refl _))
    have BW := then_ (n := 0) BW b9
    have sV11 := b9.size
    clear b9
    go_wp2
    go_ret
    exact ⟨rfl, BW⟩
  · clear hs w0
    go_enter Try.func3, Try.ntmps3
    go_wp2
    go_ret
    exact ⟨rfl, Below.refl _ _⟩
end Go.Proofs.Ytmnihigackilkaa.LawNewEdge
