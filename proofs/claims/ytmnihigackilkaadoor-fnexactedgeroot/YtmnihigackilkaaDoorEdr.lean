/-
  The root that a frontier tells: by the program.
-/
import Derived.Test.YtmnihigackilkaaDoorEdp
namespace Go.Proofs.YtmnihigackilkaaDoor.Edr
open Go.ChangeShapes Go.WideShapes Go.ChangeAt Go.RowKit
open Go.Proofs.YtmnihigackilkaaDoor.Mem Go.Proofs.YtmnihigackilkaaDoor.Ints Go.Proofs.YtmnihigackilkaaDoor.Strs Go.Proofs.YtmnihigackilkaaDoor.ShaComp Go.Proofs.YtmnihigackilkaaDoor.Digest Go.Proofs.YtmnihigackilkaaDoor.DigestI Go.Proofs.YtmnihigackilkaaDoor.Mkl Go.Proofs.YtmnihigackilkaaDoor.Slq Go.Proofs.YtmnihigackilkaaDoor.Rec Go.Proofs.YtmnihigackilkaaDoor.T8 Go.Proofs.YtmnihigackilkaaDoor.T8s Go.Proofs.YtmnihigackilkaaDoor.T8i Go.Proofs.YtmnihigackilkaaDoor.ShaSched Go.Proofs.YtmnihigackilkaaDoor.Arr Go.Proofs.YtmnihigackilkaaDoor.Edg Go.Proofs.YtmnihigackilkaaDoor.Pop Go.Proofs.YtmnihigackilkaaDoor.Bit Go.Proofs.YtmnihigackilkaaDoor.Pts Go.Proofs.YtmnihigackilkaaDoor.Edq Go.Proofs.YtmnihigackilkaaDoor.Edn Go.Proofs.YtmnihigackilkaaDoor.Edw Go.Proofs.YtmnihigackilkaaDoor.Hl Go.Proofs.YtmnihigackilkaaDoor.Fld Go.Proofs.YtmnihigackilkaaDoor.Fld2 Go.Proofs.YtmnihigackilkaaDoor.Fld3 Go.Proofs.YtmnihigackilkaaDoor.Edp
set_option linter.unusedVariables false
set_option linter.unusedSimpArgs false
set_option maxRecDepth 100000

theorem rt_nil : bs (dig (tl ⟨#[]⟩)) = rtL [] := rfl
set_option maxHeartbeats 8000000 in
theorem implRootYes (k : Nat) (A : Option Addr) (c : Nat) (l : List ByteArray) (B : Nat) (w : World) (hk : k ≤ 1000000) (hl : l.length = pc k) (h32 : ∀ s ∈ l, s.size = 32) (hB : B ≤ w.heap.size) (hr : Rd w B 1 A l.length (svs l)) (hT : Tbl w) :
    Calls Tryd.prog 43 #[edV k A l.length c] w fun e w' => e = .returned (.tuple #[.string (rtL l), .bool true]) ∧ Below w.heap.size w w' := by
  have hpk : l.length ≤ 21 := by rw [hl]; exact pc_le21 k (by omega)
  have hok : okE (k : Int) l = true := okE_of k l (by omega) h32 hl
  have C1 := Lib.hid (fun W (h : Below w.heap.size w W) => implGood (k : Int) A l.length c l B W (by omega) (fun s hs => by rw [h32 s hs]; unfold maxLen; omega) (Nat.le_trans hB h.size) (hr.below h hB))
  rw [hok] at C1
  have b0 := al1 w (.cells #[.int .i64 (k : Int), .slice A l.length c] 53)
  have ka := nw1 w (.cells #[.int .i64 (k : Int), .slice A l.length c] 53)
  by_cases h0 : k = 0
  · have hl0 : l = [] := List.eq_nil_of_length_eq_zero (by rw [hl, h0, pc_zero])
    have C2 := Lib.hid (fun W (h : Below w.heap.size w W) => T8.treeDigest ⟨#[]⟩ W (by decide) (hT.below h))
    rw [rt_nil, ← hl0] at C2
    have n1 : ((k : Int) == 0) = true := by rw [h0]; rfl
    generalize rtL l = r at *
    generalize l.length = n at *
    unfold edV at *
    clear hr hT hl hl0 h32 h0
    go_enter Tryd.func43, Tryd.ntmps43
    go_wp2_with fail
    generalize World.alloc w _ = W0 at *
    refine (C1.out W0 b0).mono ?_
    rintro e' w1 ⟨rfl, b9⟩
    have b1 := then_ (n := 0) b0 b9
    have ka := bx ka b9
    clear b9 b0
    obtain ⟨p0, p1⟩ := row2 ka
    go_wp2_with fail
    refine (C2.out w1 b1).mono ?_
    rintro e' w2 ⟨rfl, b9⟩
    have b2 := then_ (n := 0) b1 b9
    go_wp2
    go_ret2
    exact ⟨rfl, b2⟩
  · have C3 := Lib.hid (fun W (h : Below w.heap.size w W) => partsOf (k : Int) A l.length c l B W (by omega) h32 (Nat.le_trans hB h.size) (hr.below h hB))
    have hl1 : 1 ≤ l.length := by rw [hl]; exact pc_ge (by omega)
    have HTB := Lib.hid hT
    have H32 := Lib.hid h32
    have HQ : Hid (∀ q : List ByteArray, q.map tl = fold dig 1 (l.map tl) → q = [rtL l]) := Lib.hid (fun q hq => by
      rw [← map_bs_tl q, hq, fold_one dig _ (by intro h; rw [List.map_eq_nil_iff] at h; rw [h] at hl1; simp at hl1)]; rfl)
    have hr32 := rtL_32 l h32
    have CT := Lib.hid (fun W => text (rtL l) W hr32)
    have n1 : ((k : Int) == 0) = false := by rw [beq_eq_false_iff_ne]; omega
    obtain ⟨n, hn⟩ : ∃ n, l.length = n := ⟨_, rfl⟩
    have HN := Lib.hid hn
    rw [hn] at C1 C3 b0 ka hpk ⊢
    have hlen : (dgL (rtL l)).length = 32 := by rw [dgL_len, hr32]
    rw [dgV_L] at CT
    have HX : Hid (fl [rtL l] = dgL (rtL l)) := Lib.hid (fl_one _)
    generalize rtL l = r at *
    generalize dgL r = cx at *
    unfold edV at *
    clear hr hT hl h32 h0 hn hl1
    go_enter Tryd.func43, Tryd.ntmps43
    go_wp2_with fail
    generalize World.alloc w _ = W0 at *
    refine (C1.out W0 b0).mono ?_
    rintro e' w1 ⟨rfl, b9⟩
    have b1 := then_ (n := 0) b0 b9
    have ka := bx ka b9
    clear b9 b0
    obtain ⟨p0, p1⟩ := row2 ka
    go_wp2_with fail
    refine (C3.out w1 b1).mono ?_
    rintro e' w2 ⟨A2, c2, rfl, o2, b9⟩
    have b2 := then_ (n := 0) b1 b9
    have s1 := b1.size
    have s2 := b9.size
    have C4 := Lib.hid (folded l A2 n c2 1 w1.heap.size w2 H32.out (by omega) (by omega) HN.out (by omega) s2 o2 (fun W h => HTB.out.below (b2.trans (h.mono s1))))
    clear b9 b1 ka p0 p1 o2 C1 C3
    go_wp2_with fail
    refine C4.out.mono ?_
    rintro e' w3 ⟨q, A3, c3, rfl, hq, hq32, o3, b9⟩
    have b3 := b2.trans (b9.mono s1)
    obtain rfl := HQ.out q hq
    rw [HX.out] at o3
    obtain ⟨g, rfl, hg⟩ := own_some o3 (by simp)
    have hr : w3.rangeAt g 0 cx := own_rangeAt (l1 := []) (l2 := []) (by rw [List.nil_append, List.append_nil]; exact o3) rfl
    have e1 : (([r] : List ByteArray).length : Nat) = 1 := rfl
    rw [e1]
    clear b9 b2 hq hq32 o3 C4 HQ HX
    go_wp2_with (with_reducible refine wpList_load_mid rfl 125 (.tmp 14) rfl g 0 rfl cx _ hr undD rfl (by rw [hlen]; exact infoD1) ?_)
    refine (CT.out w3).mono ?_
    rintro e' w4 ⟨rfl, b9⟩
    have b4 := then_ (n := 0) b3 b9
    go_wp2
    go_ret2
    exact ⟨rfl, b4⟩
theorem implRootNo (m : Int) (A : Option Addr) (n c : Nat) (l : List ByteArray) (B : Nat) (w : World) (hn : n ≤ 1048576) (hs : ∀ s ∈ l, s.size ≤ maxLen) (hno : okE m l = false) (hB : B ≤ w.heap.size) (hr : Rd w B 1 A n (svs l)) :
    Calls Tryd.prog 43 #[edV m A n c] w fun e w' => e = .returned (.tuple #[.string ⟨#[]⟩, .bool false]) ∧ Below w.heap.size w w' := by
  have C1 := Lib.hid (fun W (h : Below w.heap.size w W) => implGood m A n c l B W hn hs (Nat.le_trans hB h.size) (hr.below h hB))
  rw [hno] at C1
  have b0 := al1 w (.cells #[.int .i64 m, .slice A n c] 53)
  unfold edV at *
  clear hr hs hno
  go_enter Tryd.func43, Tryd.ntmps43
  go_wp2_with fail
  generalize World.alloc w _ = W0 at *
  refine (C1.out W0 b0).mono ?_
  rintro e' w1 ⟨rfl, b9⟩
  have b1 := then_ (n := 0) b0 b9
  go_wp2
  go_ret2
  exact ⟨rfl, b1⟩
end Go.Proofs.YtmnihigackilkaaDoor.Edr
