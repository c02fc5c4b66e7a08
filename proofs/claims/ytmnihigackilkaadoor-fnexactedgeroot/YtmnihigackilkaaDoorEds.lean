/-
  A leaf appended to a frontier, and the root that a frontier tells: by the reference.
-/
import Derived.Test.YtmnihigackilkaaDoorEdr
namespace Go.Proofs.YtmnihigackilkaaDoor.Eds
open Go.ChangeShapes Go.WideShapes Go.ChangeAt Go.RowKit
open Go.Proofs.YtmnihigackilkaaDoor.Mem Go.Proofs.YtmnihigackilkaaDoor.Ints Go.Proofs.YtmnihigackilkaaDoor.Strs Go.Proofs.YtmnihigackilkaaDoor.ShaComp Go.Proofs.YtmnihigackilkaaDoor.Digest Go.Proofs.YtmnihigackilkaaDoor.DigestI Go.Proofs.YtmnihigackilkaaDoor.Mkl Go.Proofs.YtmnihigackilkaaDoor.Slq Go.Proofs.YtmnihigackilkaaDoor.Rec Go.Proofs.YtmnihigackilkaaDoor.T8 Go.Proofs.YtmnihigackilkaaDoor.T8s Go.Proofs.YtmnihigackilkaaDoor.T8i Go.Proofs.YtmnihigackilkaaDoor.ShaSched Go.Proofs.YtmnihigackilkaaDoor.Arr Go.Proofs.YtmnihigackilkaaDoor.Edg Go.Proofs.YtmnihigackilkaaDoor.Pop Go.Proofs.YtmnihigackilkaaDoor.Bit Go.Proofs.YtmnihigackilkaaDoor.Pts Go.Proofs.YtmnihigackilkaaDoor.Edq Go.Proofs.YtmnihigackilkaaDoor.Edn Go.Proofs.YtmnihigackilkaaDoor.Edw Go.Proofs.YtmnihigackilkaaDoor.Hl Go.Proofs.YtmnihigackilkaaDoor.Fld Go.Proofs.YtmnihigackilkaaDoor.Fld2 Go.Proofs.YtmnihigackilkaaDoor.Fld3 Go.Proofs.YtmnihigackilkaaDoor.Edp Go.Proofs.YtmnihigackilkaaDoor.Edr
set_option linter.unusedVariables false
set_option linter.unusedSimpArgs false
set_option maxRecDepth 100000

theorem rt_cons (a : ByteArray) (l : List ByteArray) (h : l ≠ []) : bs (pairD dig (tl a) (tl (rtL l))) = rtL (a :: l) := by
  unfold rtL
  rw [tl_bs, List.map_cons, rootE_cons dig _ _ (by intro q; exact h (List.map_eq_nil_iff.1 q))]
set_option maxHeartbeats 8000000 in
theorem l9Root (k : Int) (A : Option Addr) (n c : Nat) (l : List ByteArray) (B : Nat) (w : World) (hn : n ≤ 1000) (hln : l.length = n) (h32 : ∀ s ∈ l, s.size = 32) (hB : B ≤ w.heap.size) (hr : Rd w B 1 A n (svs l)) :
    Calls Tryd.prog 117 #[edV k A n c] w fun e w' => e = .returned (.string (rtL l)) ∧ Below w.heap.size w w' := by
  have b0 := al1 w (.cells #[.int .i64 k, .slice A n c] 53)
  have ka := nw1 w (.cells #[.int .i64 k, .slice A n c] 53)
  unfold edV
  by_cases hl : l = []
  · have C := Lib.hid (fun W => l1Digest ⟨#[]⟩ W (by decide))
    rw [show (⟨(dig (⟨#[]⟩ : ByteArray).data.toList).toArray⟩ : ByteArray) = rtL [] from rfl, ← hl] at C
    have n1 : ((n : Int) == 0) = true := by rw [← hln, hl]; rfl
    generalize rtL l = r at *
    clear hl h32 hr hln
    go_enter Tryd.func117, Tryd.ntmps117
    go_wp2_with fail
    refine (C.out _).mono ?_
    rintro e' w1 ⟨rfl, b9⟩
    have b1 := then_ (n := 0) b0 b9
    go_wp2
    go_ret
    exact ⟨rfl, b1⟩
  · obtain ⟨p, hp⟩ : ∃ p, n = p + 1 := ⟨n - 1, by have := List.length_pos_iff.2 hl; omega⟩
    have HX := Lib.hid hr
    have HS := Lib.hid h32
    have n1 : ((n : Int) == 0) = false := by rw [beq_eq_false_iff_ne]; omega
    obtain ⟨b, off, hlp, hA, hbB, hc⟩ := rd_str (HX.out.below b0 hB) (show p < n by omega)
    have HL : Hid (rtL (l.drop p) = l[p]) := Lib.hid (by rw [List.drop_eq_getElem_cons hlp, List.drop_eq_nil_of_le (by omega)]; unfold rtL; exact bs_tl _)
    have HLN := Lib.hid hln
    have e1 : (n : Int) - 1 = (p : Int) := by omega
    have i0 : (0 : Int) ≤ (p : Int) := by omega
    have i1 : (p : Int) < (n : Int) := by omega
    have e2 : (n : Int) - 2 = (p : Int) - 1 := by omega
    subst hA
    generalize hd : l[p] = d at *
    have hpn : p < n := by omega
    clear hl h32 hr hd hlp hln hp
    go_enter Tryd.func117, Tryd.ntmps117
    go_wp2_with fail
    generalize World.alloc w _ = W0 at *
    clear hc
    go_loopw [4, 5] (fun dv iv wr => ∃ (j : Nat) (z : Int) (r : ByteArray), j ≤ p ∧ z + 1 = (j : Int) ∧ iv = .int .i64 z ∧ dv = .string r ∧ Hid (r = rtL (l.drop j)) ∧ Below W0.heap.size W0 wr) (fun _ iv _ => (intOf iv + 1).toNat)
    case atStart => exact ⟨p, (p : Int) - 1, d, by omega, by omega, rfl, rfl, Lib.hid HL.out.symm, Below.refl _ _⟩
    case round =>
      obtain ⟨j, z, r, hj, hz, rfl, rfl, HR, hb⟩ := hrel
      by_cases h0 : j = 0
      · subst h0
        obtain rfl : z = -1 := by omega
        have hR := HR.out
        rw [List.drop_zero] at hR
        subst hR
        have bF := b0.trans (hb.mono b0.size)
        clear HR
        go_wp2
        go_ret
        exact ⟨rfl, bF⟩
      · obtain ⟨jj, rfl⟩ : ∃ jj, j = jj + 1 := ⟨j - 1, by omega⟩
        obtain rfl : z = (jj : Int) := by omega
        obtain ⟨b2, off2, hl2, hA2, hbB2, hc2⟩ := rd_str (HX.out.below (b0.trans (hb.mono b0.size)) hB) (show jj < n by omega)
        simp only [Option.some.injEq, Addr.mk.injEq, and_true] at hA2
        obtain ⟨rfl, rfl⟩ := hA2
        have C := Lib.hid (fun W => T8.l8Pair l[jj] r W (by rw [HS.out _ (List.getElem_mem hl2)]; omega) (by rw [HR.out, rtL_32 _ (fun s hs => HS.out s (List.mem_of_mem_drop hs))]; omega))
        have HR2 : Hid (bs (pairD dig (tl l[jj]) (tl r)) = rtL (l.drop jj)) := Lib.hid (by
          rw [HR.out, List.drop_eq_getElem_cons hl2]
          exact rt_cons _ _ (by intro h; have := congrArg List.length h; rw [List.length_drop, List.length_nil, HLN.out] at this; omega))
        generalize bs (pairD dig (tl l[jj]) (tl r)) = r2 at *
        generalize l[jj] = y at *
        obtain ⟨p0, p1⟩ := row2 (bx ka hb)
        have j0 : (0 : Int) ≤ (jj : Int) := by omega
        have j1 : (jj : Int) < (n : Int) := by omega
        clear HL HR
        go_wp2_with fail
        refine (C.out wr).mono ?_
        rintro e' w2 ⟨rfl, b9⟩
        have hb2 := then_ (n := 0) hb b9
        clear b9 C p0 p1 hc2
        go_wp2
        go_roundw
        case rel => exact ⟨jj, (jj : Int) - 1, r2, by omega, by omega, by go_num, rfl, HR2, hb2⟩
        case measure => simp [intOf]
/-- The root, one answer of both sides. -/
theorem rootBoth9 (m : Int) (l : List ByteArray) (n : Nat) (hn : n ≤ 1048576) (hln : l.length = n) (hs : ∀ s ∈ l, s.size ≤ maxLen) : ∃ (u : ByteArray) (b : Bool), b = okE m l ∧ (b = true → u = rtL l) ∧ (b = false → u = ⟨#[]⟩) ∧
    (∀ A c B w, B ≤ w.heap.size → Rd w B 1 A n (svs l) → Calls Tryd.prog 50 #[edV m A n c] w fun e w' => e = .returned (.tuple #[.string u, .bool b]) ∧ Below w.heap.size w w') ∧
    (∀ A c B w, B ≤ w.heap.size → Rd w B 1 A n (svs l) → Tbl w → Calls Tryd.prog 43 #[edV m A n c] w fun e w' => e = .returned (.tuple #[.string u, .bool b]) ∧ Below w.heap.size w w') := by
  have hspec : ∀ (u : ByteArray) (A : Option Addr) (c B : Nat) (w : World), B ≤ w.heap.size → Rd w B 1 A n (svs l) → (okE m l = true → ∀ W, Below w.heap.size w W → Calls Tryd.prog 117 #[edV m A n c] W fun e w' => e = .returned (.string u) ∧ Below W.heap.size W w') → (okE m l = false → u = ⟨#[]⟩) →
      Calls Tryd.prog 50 #[edV m A n c] w fun e w' => e = .returned (.tuple #[.string u, .bool (okE m l)]) ∧ Below w.heap.size w w' := by
    intro u A c B w hB hx h1 h2
    have b0 := al1 w (.cells #[.int .i64 m, .slice A n c] 53)
    have ka := nw1 w (.cells #[.int .i64 m, .slice A n c] 53)
    have C1 := Lib.hid (fun W (h : Below w.heap.size w W) => specGood m A n c l B W hn hs (Nat.le_trans hB h.size) (hx.below h hB))
    unfold edV at *
    cases hok : okE m l
    · rw [hok] at C1
      obtain rfl := h2 hok
      clear h1 h2 hx hs hok
      go_enter Tryd.func50, Tryd.ntmps50
      go_wp2_with fail
      generalize World.alloc w _ = W0 at *
      refine (C1.out W0 b0).mono ?_
      rintro e' w1 ⟨rfl, b9⟩
      have b1 := then_ (n := 0) b0 b9
      go_wp2
      go_ret2
      exact ⟨rfl, b1⟩
    · rw [hok] at C1
      have C2 := Lib.hid (h1 hok)
      clear h1 h2 hx hs hok
      go_enter Tryd.func50, Tryd.ntmps50
      go_wp2_with fail
      generalize World.alloc w _ = W0 at *
      refine (C1.out W0 b0).mono ?_
      rintro e' w1 ⟨rfl, b9⟩
      have b1 := then_ (n := 0) b0 b9
      obtain ⟨p0, p1⟩ := row2 (bx ka b9)
      go_wp2_with fail
      refine (C2.out w1 b1).mono ?_
      rintro e' w2 ⟨rfl, b9⟩
      have b2 := then_ (n := 0) b1 b9
      go_wp2
      go_ret2
      exact ⟨rfl, b2⟩
  cases hok : okE m l
  · refine ⟨⟨#[]⟩, false, rfl, fun h => (by cases h), fun _ => rfl, fun A c B w hB hx => ?_, fun A c B w hB hx _ => implRootNo m A n c l B w hn hs hok hB hx⟩
    have := hspec ⟨#[]⟩ A c B w hB hx (fun h => by rw [hok] at h; cases h) (fun _ => rfl)
    rwa [hok] at this
  · obtain ⟨k, rfl, hk, h32, hl⟩ := okE_yes hok
    have hpk : n ≤ 21 := by rw [← hln, hl]; exact pc_le21 k hk
    refine ⟨rtL l, true, rfl, fun _ => rfl, fun h => (by cases h), fun A c B w hB hx => ?_, fun A c B w hB hx hT => ?_⟩
    · have := hspec (rtL l) A c B w hB hx (fun _ W h => l9Root (k : Int) A n c l B W (by omega) hln h32 (Nat.le_trans hB h.size) (hx.below h hB)) (fun h => by rw [hok] at h; cases h)
      rwa [hok] at this
    · subst hln
      exact implRootYes k A c l B w hk hl h32 hB hx hT
end Go.Proofs.YtmnihigackilkaaDoor.Eds
