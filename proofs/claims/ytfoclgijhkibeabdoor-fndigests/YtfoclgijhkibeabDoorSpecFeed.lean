/-
  A state fed with a text that fits, by the specification: its contract; and both sides' answer, whatever the state and the text.
-/
import Derived.Test.YtfoclgijhkibeabDoorFeedNo
namespace Go.Proofs.YtfoclgijhkibeabDoor.SpecFeed
open Go.ChangeShapes Go.WideShapes Go.ChangeAt Go.RowKit
open Go.Proofs.YtfoclgijhkibeabDoor.Mem Go.Proofs.YtfoclgijhkibeabDoor.Ints Go.Proofs.YtfoclgijhkibeabDoor.State Go.Proofs.YtfoclgijhkibeabDoor.ShaComp Go.Proofs.YtfoclgijhkibeabDoor.ShaSched Go.Proofs.YtfoclgijhkibeabDoor.ShaRound Go.Proofs.YtfoclgijhkibeabDoor.Absorb Go.Proofs.YtfoclgijhkibeabDoor.End Go.Proofs.YtfoclgijhkibeabDoor.GoodState Go.Proofs.YtfoclgijhkibeabDoor.Feed Go.Proofs.YtfoclgijhkibeabDoor.Feed2 Go.Proofs.YtfoclgijhkibeabDoor.ImplFeed
set_option linter.unusedVariables false
set_option maxRecDepth 100000
set_option maxHeartbeats 4000000 in
theorem specFeed (A : Option Addr) (c : Nat) (s t : ByteArray) (L : Nat) (v : V8) (w : World) (hv : ∀ z ∈ v.list, 0 ≤ z ∧ z ≤ 4294967295) (ht : t.size ≤ 600) (h1 : L + t.size ≤ 1000000) (hs : s.size = L % 64) (hg : goodS v.list s L = true) (hx : Rd w w.heap.size 1 A 8 (ints v.list)) :
    Calls Tryd.prog 39 #[stV A 8 c s L, .string t] w fun e w' => ∃ g c', e = .returned (.tuple #[stV (some ⟨g, 0, none⟩) 8 c' ((s ++ t).extract (64 * ((s.size + t.size) / 64)) (s.size + t.size)) ((L + t.size : Nat) : Int), .bool true]) ∧ w'.ownsRow w.heap.size 3 1 (.slice (some ⟨g, 0, none⟩) 8 c') 8 (ints (blk v (s.data.toList ++ t.data.toList) ((s.size + t.size) / 64)).list) ∧ Below w.heap.size w w' := by
  have HG := Lib.hid (fun W (h : Below w.heap.size w W) => specGood A 8 c s L v.list W (by omega) (by unfold maxLen; omega) ((hx.below h (Nat.le_refl _)).mono h.size))
  rw [hg] at HG
  have HX := Lib.hid hx
  have HC0 := Lib.hid (fun W u (h : Wd W u v) => l1Feed u v (s ++ t) W hv (by rw [ByteArray.size_append]; omega) h)
  have e1 : (s ++ t).data.toList = s.data.toList ++ t.data.toList := by rw [ByteArray.data_append, Array.toList_append]
  have e2 : (s ++ t).size = s.size + t.size := ByteArray.size_append
  rw [e1, e2] at HC0
  have HBW := Lib.hid (blk_words (v := v) (s.data.toList ++ t.data.toList) hv ((s.size + t.size) / 64))
  have HV := Lib.hid hv
  clear hx hg e1 e2 hv
  generalize hnb : (s.size + t.size) / 64 = nb at *
  have HNB := Lib.hid hnb
  clear hnb
  generalize hrst : (s ++ t).extract (64 * nb) (s.size + t.size) = rest at *
  have HRS := Lib.hid hrst
  clear hrst
  generalize hrr : blk v (s.data.toList ++ t.data.toList) nb = R at *
  have HRR := Lib.hid hrr
  clear hrr
  unfold stV at *
  go_enter Tryd.func39, Tryd.ntmps39
  go_wp2_with fail
  obtain ⟨x0, y0, z0⟩ := boxed w #[.slice A 8 c, .string s, .int .i64 L] 60
  generalize World.alloc w _ = W00 at *
  obtain ⟨xx0, yy0, zz0⟩ := boxed W00 #[.slice none 0 0, .string ⟨#[]⟩, .int .i64 0] 60
  generalize World.alloc W00 _ = W0 at *
  rw [z0] at xx0 zz0
  have y00 : Below w.heap.size w W0 := y0.trans (yy0.mono (by omega))
  have x00 := (yy0.block w.heap.size (by omega)).trans x0
  clear x0 y0 yy0
  refine (HG.out W0 y00).mono ?_
  rintro e' w1 ⟨rfl, hb1⟩
  have hs1 := hb1.size
  have x1 := (hb1.block w.heap.size (by omega)).trans x00
  have q1 := (hb1.block (w.heap.size + 1) (by omega)).trans xx0
  have B1 : Below w.heap.size w w1 := y00.trans (hb1.mono (by omega))
  clear HG y00 x00 xx0 hb1
  obtain ⟨p0, p1, p2⟩ := row3 x1
  have HQ1 := Lib.hid q1
  have HX1 := Lib.hid x1
  clear q1 x1
  have hlt1 : w.heap.size < w1.heap.size := by omega
  have hltr : w.heap.size + 1 < w1.heap.size := by omega
  have D1 : Below w1.heap.size w1 w1.drew := (Below.refl _ w1).drew
  have CB := Lib.hid (fun W (h : Below w1.heap.size w1 W) => (l1Back A c v W HV.out ((HX.out.below (B1.trans (h.mono (by omega))) (Nat.le_refl _)).mono (by have := h.size; omega))).mono (fun e w' (q : ∃ u, e = .returned u ∧ Wd w' u v ∧ Below W.heap.size W w') => (show ∃ u, e = .returned u ∧ Wd w' u v ∧ Below W.heap.size W w' ∧ Below w1.heap.size w1 w' from by obtain ⟨u, a1, a2, a3⟩ := q; exact ⟨u, a1, a2, a3, h.trans (a3.mono h.size)⟩)))
  have CF := Lib.hid (fun W u (h : Below w1.heap.size w1 W) (hW : Wd W u v) => (HC0.out W u hW).mono (fun e w' (q : ∃ u', e = .returned (.tuple #[u', .string rest]) ∧ Wd w' u' R ∧ Below W.heap.size W w') => (show ∃ u', e = .returned (.tuple #[u', .string rest]) ∧ Wd w' u' R ∧ Below w1.heap.size w1 w' from by obtain ⟨u', a1, a2, a3⟩ := q; exact ⟨u', a1, a2, h.trans (a3.mono h.size)⟩)))
  have hss : s.size ≤ 64 := by omega
  have hadd : ∀ W, (Op.stringOp .add s t).run Tryd.prog W = .ok (.string (s ++ t)) W := fun W => run_string_add W s t (by omega) (by omega)
  have hL0 : 0 ≤ (L : Int) := by omega
  clear HC0 HX
  go_wp2_with fail
  go_region_held3 (fun w' => w'.cell? ⟨w.heap.size, 0, none⟩ = some (.slice A 8 c) ∧ w'.cell? ⟨w.heap.size, 1, none⟩ = some (.string s) ∧ w'.cell? ⟨w.heap.size, 2, none⟩ = some (.int .i64 L))
    (first | (go_keep; done) | (refine ⟨?_, ?_, ?_⟩ <;> (rw [bf.cell (by exact hlt1)]; assumption)) | (refine ⟨?_, ?_, ?_⟩ <;> (rw [bb.cell (by exact hlt1)]; assumption)) | (refine ⟨?_, ?_, ?_⟩ <;> (rw [D1.cell (by exact hlt1)]; assumption)))
    (first
      | (go_at_call 97; refine (CB.out _ (by exact D1)).mono ?_; rintro e wb ⟨ub, rfl, hWb, bb2, bb⟩)
      | (go_at_call 96; refine (CF.out _ ub (by exact bb) (by exact hWb)).mono ?_; rintro e wf ⟨uf, rfl, hWf, bf⟩))
  all_goals
    have hBf : Below w.heap.size w wf := B1.trans (bf.mono (by omega))
    have hzf := bf.size
    obtain ⟨Af, cf, rfl, hRf⟩ := hWf
    have CW := Lib.hid (fun W (h : Below wf.heap.size wf W) => (Words.l1Words Af 8 cf R.list W.heap.size W (by omega) (Nat.le_refl _) HBW.out ((hRf.below h (Nat.le_refl _)).mono h.size)))
    have HQf := Lib.hid ((bf.block (w.heap.size + 1) hltr).trans HQ1.out)
    obtain ⟨pp0, pp1, pp2⟩ := row3 ((bf.block w.heap.size hlt1).trans HX1.out)
    have Df : Below wf.heap.size wf wf.drew := (Below.refl _ wf).drew
    have hltw : w.heap.size < wf.heap.size := by omega
    have hltq : w.heap.size + 1 < wf.heap.size := by omega
    have nq : w.heap.size ≠ w.heap.size + 1 := by omega
    have nq' : w.heap.size + 1 ≠ w.heap.size := by omega
    clear bb bb2 bf hWb CB CF hadd p0 p1 p2 HQ1 HX1 hRf
    go_wp2_with fail
    go_region_held3 (fun w' => w'.cell? ⟨w.heap.size, 2, none⟩ = some (.int .i64 L)) (first | (go_keep; done) | assumption | exact cq | (simp [*, go_sem]; done))
      ((go_at_call 98; refine (CW.out _ (by exact Df)).mono ?_; rintro e wl ⟨vl, rfl, hol, bl⟩; obtain ⟨g, c', rfl, hgg⟩ := Words.own_slice hol (by omega); have hl : Below wf.heap.size wf wl := Df.trans bl; have cq : wl.cell? ⟨w.heap.size, 2, none⟩ = some (.int .i64 L) := (hl.cell (p := ⟨w.heap.size, 2, none⟩) hltw).trans pp2; have hq := (hl.block (w.heap.size + 1) hltq).trans HQf.out; obtain ⟨k0, k1, k2⟩ := row3 hq; have f0 := frozen_of_row wl _ 0 _ _ hq; have f1 := frozen_of_row wl _ 1 _ _ hq; have f2 := frozen_of_row wl _ 2 _ _ hq; have HOL := Lib.hid hol; have hBl : Below w.heap.size w wl := hBf.trans (hl.mono (by omega)); clear hq bl hol))
    all_goals
      have ng : g ≠ w.heap.size + 1 := by have : wf.heap.size ≤ g := hgg; omega
      clear HQf pp0 pp1 pp2 CW hBf
      go_wp2
      refine bodyPost_ret (v := .tuple #[.agg #[.slice (some ⟨g, 0, none⟩) 8 c', .string rest, .int .i64 ((L : Int) + (t.size : Int))], .bool true]) (by simp [results, Tryd.results39, go_sem, k0, k1, k2]; rw [IntKind.wrap_i64]; omega) rfl ⟨g, c', ?_, ?_, ?_⟩
      · first | rfl | (rw [HNB.out, HRS.out]; rfl)
      · first | rw [HNB.out, HRR.out] | skip
        refine own_base (Mark.own_heap HOL.out ?_) (by have := hgg; simp; omega)
        exact (Mix.heap_put _ (w.heap.size + 1) g 2 _ ng).trans ((Mix.heap_put _ (w.heap.size + 1) g 1 _ ng).trans (Mix.heap_put _ (w.heap.size + 1) g 0 _ ng))
      · exact ((hBl.setCell (p := ⟨w.heap.size + 1, 0, none⟩) (by dsimp only; omega) _).setCell (p := ⟨w.heap.size + 1, 1, none⟩) (by dsimp only; omega) _).setCell (p := ⟨w.heap.size + 1, 2, none⟩) (by dsimp only; omega) _
end Go.Proofs.YtfoclgijhkibeabDoor.SpecFeed
