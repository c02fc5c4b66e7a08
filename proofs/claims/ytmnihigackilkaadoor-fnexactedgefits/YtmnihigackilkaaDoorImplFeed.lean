/-
  A state fed with a text, by the program, where the state is good and the text fits: its contract.
-/
import Derived.Test.YtmnihigackilkaaDoorSpecEnd
import Derived.Test.YtmnihigackilkaaDoorShelf
namespace Go.Proofs.YtmnihigackilkaaDoor.ImplFeed
open Go.ChangeShapes Go.WideShapes Go.ChangeAt Go.RowKit
open Go.Proofs.YtmnihigackilkaaDoor.Mem Go.Proofs.YtmnihigackilkaaDoor.Ints Go.Proofs.YtmnihigackilkaaDoor.State Go.Proofs.YtmnihigackilkaaDoor.ShaComp Go.Proofs.YtmnihigackilkaaDoor.ShaSched Go.Proofs.YtmnihigackilkaaDoor.ShaRound Go.Proofs.YtmnihigackilkaaDoor.Absorb Go.Proofs.YtmnihigackilkaaDoor.End Go.Proofs.YtmnihigackilkaaDoor.GoodState
set_option linter.unusedVariables false
set_option maxRecDepth 100000
theorem clone (s : ByteArray) (w : World) (hlim : s.size ≤ 100000) :
    Calls Tryd.prog 124 #[.string s] w fun e w' => e = .returned (.string s) ∧ Below w.heap.size w w' := by
  go_enter Tryd.func124, Tryd.ntmps124
  go_wp2_with fail
  refine (Tryd.stringslite_Clone s _ (by omega)).mono ?_
  rintro e w' ⟨rfl, hb⟩
  go_wp2
  go_ret
  exact ⟨rfl, hb⟩
theorem int_take (v : V8) : ∀ k, k < 8 → ints (v.list.take (k + 1)) = ints (v.list.take k) ++ [.int .i64 (v.list.getD k 0)]
  | 0, _ => rfl | 1, _ => rfl | 2, _ => rfl | 3, _ => rfl | 4, _ => rfl | 5, _ => rfl | 6, _ => rfl | 7, _ => rfl
set_option maxHeartbeats 4000000 in
theorem implFeed (A : Option Addr) (c : Nat) (s t : ByteArray) (L : Nat) (v : V8) (w : World) (hv : ∀ z ∈ v.list, 0 ≤ z ∧ z ≤ 4294967295) (ht : t.size ≤ 600) (h1 : L + t.size ≤ 1000000) (hs : s.size = L % 64) (hg : goodS v.list s L = true) (hx : Rd w w.heap.size 1 A 8 (ints v.list)) (hk : w.rangeAt 1 0 (u32s consts)) :
    Calls Tryd.prog 92 #[stV A 8 c s L, .string t] w fun e w' => ∃ g c', e = .returned (.tuple #[stV (some ⟨g, 0, none⟩) 8 c' ((s ++ t).extract (64 * ((s.size + t.size) / 64)) (s.size + t.size)) ((L + t.size : Nat) : Int), .bool true]) ∧ w'.ownsRow w.heap.size 3 1 (.slice (some ⟨g, 0, none⟩) 8 c') 8 (ints (blk v (s.data.toList ++ t.data.toList) ((s.size + t.size) / 64)).list) ∧ Below w.heap.size w w' := by
  have hlt : 1 < w.heap.size := World.block_lt_of_cell? w ⟨1, 0, none⟩ (hk 0 (.int .u32 0x428a2f98) rfl)
  obtain ⟨i0, hi, hz0, hz1, hz2⟩ := info_parts infoI
  have HG := Lib.hid (fun W (h : Below w.heap.size w W) => implGood A 8 c s L v.list W (by omega) (by unfold maxLen; omega) ((hx.below h (Nat.le_refl _)).mono h.size))
  have HCH := Lib.hid (fun W (h : Below w.heap.size w W) => chainOf A c s L v W hv ((hx.below h (Nat.le_refl _)).mono h.size))
  have HAB := Lib.hid (fun x t W (hx : ∀ z ∈ V8.list x, 0 ≤ z ∧ z ≤ 4294967295) (ht : t.size ≤ 2000000) (h : Below w.heap.size w W) => absorbed x t W hx ht (rangeAt_heap (h.block 1 hlt) hk))
  rw [hg] at HG
  clear hx hk hg
  unfold stV at *
  go_enter Tryd.func92, Tryd.ntmps92
  go_wp2_with fail
  obtain ⟨x0, y0, z0⟩ := boxed w #[.slice A 8 c, .string s, .int .i64 L] 107
  generalize World.alloc w _ = W00 at *
  obtain ⟨xx0, yy0, zz0⟩ := boxed W00 #[.slice none 0 0, .string ⟨#[]⟩, .int .i64 0] 107
  generalize World.alloc W00 _ = W0 at *
  rw [z0] at xx0 zz0
  have y00 : Below w.heap.size w W0 := y0.trans (yy0.mono (by omega))
  have x00 := (yy0.block w.heap.size (by omega)).trans x0
  clear x0 y0 yy0
  refine (HG.out W0 y00).mono ?_
  rintro e' w1 ⟨rfl, hb1⟩
  have hs1 := hb1.size
  have x1 := (hb1.block w.heap.size (by omega)).trans x00
  have q1 := (hb1.block (w.heap.size + 1) (by omega)).trans xx0
  have B1 : Below w.heap.size w w1 := y00.trans (hb1.mono (by omega))
  clear HG y00 x00 xx0 hb1
  obtain ⟨p0, p1, p2⟩ := row3 x1
  have HQ1 := Lib.hid q1
  have HX1 := Lib.hid x1
  clear q1 x1
  have hlt1 : w.heap.size < w1.heap.size := by omega
  have hltr : w.heap.size + 1 < w1.heap.size := by omega
  have C1 := Lib.hid (fun W (h : Below w1.heap.size w1 W) => (HCH.out W (B1.trans (h.mono (by omega)))).mono (fun e w' ⟨he, hb⟩ => (⟨he, h.trans (hb.mono h.size), hb⟩ : e = Ending.returned v.val ∧ Below w1.heap.size w1 w' ∧ Below W.heap.size W w')))
  have hsz : (s ++ t).size = s.size + t.size := ByteArray.size_append
  have hda : (s ++ t).data.toList = s.data.toList ++ t.data.toList := by rw [ByteArray.data_append, Array.toList_append]
  have A1 := Lib.hid (fun W (h : Below w1.heap.size w1 W) => (HAB.out v (s ++ t) W hv (by omega) (B1.trans (h.mono (by omega)))).mono (fun e w' ⟨he, hb⟩ => (⟨he, h.trans (hb.mono h.size), hb⟩ : e = Ending.returned _ ∧ Below w1.heap.size w1 w' ∧ Below W.heap.size W w')))
  rw [hda, hsz] at A1
  clear HCH HAB hda
  have n1 : w.heap.size ≠ w1.heap.size := by omega
  have m1 : w1.heap.size ≠ w.heap.size := by omega
  have D1 : Below w1.heap.size w1 w1.drew := (Below.refl _ _).drew
  have hss : s.size ≤ 64 := by omega
  generalize hnb : (s.size + t.size) / 64 = nb at *
  have HNB := Lib.hid hnb
  have hrs : ((s ++ t).extract (64 * nb) (s.size + t.size)).size ≤ 1000 := by rw [ByteArray.size_extract]; omega
  clear hnb
  generalize hrst : (s ++ t).extract (64 * nb) (s.size + t.size) = rest at *
  have HRS := Lib.hid hrst
  clear hrst hsz
  have hvo := blk_words (s.data.toList ++ t.data.toList) hv nb
  generalize hrr : blk v (s.data.toList ++ t.data.toList) nb = r at *
  have HRR := Lib.hid hrr
  clear hrr hv
  obtain ⟨r0, r1, r2, r3, r4, r5, r6, r7⟩ := r
  obtain ⟨v0, v1, v2, v3, v4, v5, v6, v7⟩ := v
  unfold V8.val agg8 at *
  dsimp only at C1 A1
  have hadd : ∀ W, (Op.stringOp .add s t).run Tryd.prog W = .ok (.string (s ++ t)) W := fun W => run_string_add W s t (by omega) (by omega)
  have hL0 : 0 ≤ (L : Int) := by omega
  go_wp2_with fail
  go_region_held3 (fun w' => w'.cell? ⟨w.heap.size, 0, none⟩ = some (.slice A 8 c) ∧ w'.cell? ⟨w.heap.size, 1, none⟩ = some (.string s) ∧ w'.cell? ⟨w.heap.size, 2, none⟩ = some (.int .i64 L))
    (first | (go_keep; done) | (refine ⟨?_, ?_, ?_⟩ <;> (rw [ba.cell (by exact hlt1)]; assumption)) | (refine ⟨?_, ?_, ?_⟩ <;> (rw [bp.cell (by exact hlt1)]; assumption)) | (refine ⟨?_, ?_, ?_⟩ <;> (rw [bc.cell (by exact hlt1)]; assumption)) | (refine ⟨?_, ?_, ?_⟩ <;> (rw [D1.cell (by exact hlt1)]; assumption)) | (refine ⟨?_, ?_, ?_⟩ <;> (rw [(ba.alloc ba.size _).cell (by exact hlt1)]; assumption)) | (refine ⟨?_, ?_, ?_⟩ <;> (rw [(bp.alloc bp.size _).cell (by exact hlt1)]; assumption)) | (refine ⟨?_, ?_, ?_⟩ <;> (rw [(bc.alloc bc.size _).cell (by exact hlt1)]; assumption)) | (refine ⟨?_, ?_, ?_⟩ <;> (rw [(D1.alloc (Nat.le_refl _) _).cell (by exact hlt1)]; assumption)) | (refine ⟨?_, ?_, ?_⟩ <;> (rw [(below8 ba bp.size _ _ _ _ _ _ _ _).cell (by exact hlt1)]; assumption)) | (refine ⟨?_, ?_, ?_⟩ <;> (rw [(below8 ba bc.size _ _ _ _ _ _ _ _).cell (by exact hlt1)]; assumption)) | (refine ⟨?_, ?_, ?_⟩ <;> (rw [(below8 ba D1.size _ _ _ _ _ _ _ _).cell (by exact hlt1)]; assumption)))
    (first
      | (go_at_call 135; refine (C1.out _ (by first | exact bp | exact bc | exact D1 | exact bp.alloc bp.size _ | exact bc.alloc bc.size _ | exact D1.alloc (Nat.le_refl _) _)).mono ?_; rintro e wc ⟨rfl, bc, bc2⟩; have nwc : w.heap.size ≠ wc.heap.size := Nat.ne_of_lt (Nat.lt_of_lt_of_le hlt1 bc.size); have mwc : wc.heap.size ≠ w.heap.size := Ne.symm nwc; try (first | (have xa := (bc2.block wp.heap.size (by simp)).trans (heap_alloc_new wp _)) | (have xa : wc.heap[w1.heap.size]? = some _ := (bc2.block w1.heap.size (by simp)).trans (heap_alloc_new w1.drew _)) | (have xa := (bc2.block _ (Array.getElem?_eq_some_iff.1 xa).1).trans xa)))
      | (go_at_call 134; refine (A1.out _ (by first | exact bp | exact bc | exact D1 | exact bp.alloc bp.size _ | exact bc.alloc bc.size _ | exact D1.alloc (Nat.le_refl _) _)).mono ?_; rintro e wa ⟨rfl, ba, ba2⟩; have nwa : w.heap.size ≠ wa.heap.size := Nat.ne_of_lt (Nat.lt_of_lt_of_le hlt1 ba.size); have mwa : wa.heap.size ≠ w.heap.size := Ne.symm nwa; first | ((first | (have xa := (ba2.block wp.heap.size (by simp)).trans (heap_alloc_new wp _)) | (have xa := (ba2.block wc.heap.size (by simp)).trans (heap_alloc_new wc _)) | (have xa := (ba2.block _ (Array.getElem?_eq_some_iff.1 xa).1).trans xa)); obtain ⟨a0, a1, a2, a3, a4, a5, a6, a7⟩ := row8 xa; obtain ⟨f0, f1, f2, f3, f4, f5, f6, f7⟩ := frz8 xa) | (have hw : Below wp.heap.size wp wa := ba2) | (have hw : Below wc.heap.size wc wa := ba2)))
  all_goals
    first
      | (obtain ⟨xr, _, br'⟩ := set8 (g := wp.heap.size) xa (.int .u32 r0) (.int .u32 r1) (.int .u32 r2) (.int .u32 r3) (.int .u32 r4) (.int .u32 r5) (.int .u32 r6) (.int .u32 r7); have br := br' w1.heap.size w1 bp.size ba; generalize World.setCell _ ⟨wp.heap.size, 7, none⟩ _ = Wd at *; generalize wp.heap.size = gB at *)
      | (obtain ⟨xr, _, br'⟩ := set8 (g := wc.heap.size) xa (.int .u32 r0) (.int .u32 r1) (.int .u32 r2) (.int .u32 r3) (.int .u32 r4) (.int .u32 r5) (.int .u32 r6) (.int .u32 r7); have br := br' w1.heap.size w1 bc.size ba; generalize World.setCell _ ⟨wc.heap.size, 7, none⟩ _ = Wd at *; generalize wc.heap.size = gB at *)
      | (obtain ⟨xr, _, br'⟩ := set8 (g := w1.heap.size) xa (.int .u32 r0) (.int .u32 r1) (.int .u32 r2) (.int .u32 r3) (.int .u32 r4) (.int .u32 r5) (.int .u32 r6) (.int .u32 r7); have br := br' w1.heap.size w1 (Nat.le_refl _) ba; generalize World.setCell _ ⟨w1.heap.size, 7, none⟩ _ = Wd at *; generalize w1.heap.size = gB at *)
      | (have xr := heap_alloc_new wa (.cells #[.int .u32 r0, .int .u32 r1, .int .u32 r2, .int .u32 r3, .int .u32 r4, .int .u32 r5, .int .u32 r6, .int .u32 r7] 151); have br := ba.alloc ba.size (.cells #[.int .u32 r0, .int .u32 r1, .int .u32 r2, .int .u32 r3, .int .u32 r4, .int .u32 r5, .int .u32 r6, .int .u32 r7] 151); generalize World.alloc wa _ = Wd at *; generalize wa.heap.size = gB at *)
  all_goals
    have hB := B1.trans (br.mono (Nat.le_of_lt hlt1))
    have HQ2 := Lib.hid ((br.block (w.heap.size + 1) hltr).trans HQ1.out)
    have HX2 := Lib.hid ((br.block w.heap.size hlt1).trans HX1.out)
    clear br
    have lgB := (Array.getElem?_eq_some_iff.1 xr).1
    have lgD : w.heap.size + 1 < Wd.heap.size := (Array.getElem?_eq_some_iff.1 HQ2.out).1
    go_wp2_with (at_make; refine wpList_make_own _ rfl _ _ 60 rfl Wd.heap.size 3 i0 _ 1 Tryd.underlying60 hi hz0 hz1 .i64 .i64 _ 8 rfl rfl (by omega) (by rw [hz2]; omega) (by unfold maxLen; omega) (by omega) ?_; intro w2 hown2 hgrow2; have hb2 : Below Wd.heap.size Wd w2 := (Below.refl _ _).grown hgrow2 (Nat.le_refl _) (fun k hk => by cases hk); obtain ⟨t0, t1, t2, t3, t4, t5, t6, t7⟩ := row8 ((hgrow2.block gB lgB (by simp)).trans xr); clear hgrow2)
  all_goals
    clear t0 t1 t2 t3 t4 t5 t6 t7 xr lgB hadd C1 A1
    have HV8 := Lib.hid (fun k hk => v8_at ⟨r0, r1, r2, r3, r4, r5, r6, r7⟩ k hk)
    have HM := Lib.hid (fun k hk => hvo _ (getD_mem ⟨r0, r1, r2, r3, r4, r5, r6, r7⟩ k hk))
    have HT := Lib.hid (int_take ⟨r0, r1, r2, r3, r4, r5, r6, r7⟩)
    go_loopw [8, 40] (fun v i wr => ∃ k : Nat, k ≤ 8 ∧ i = .int .i64 k ∧ wr.ownsRow Wd.heap.size 3 1 v k (ints ((V8.list ⟨r0, r1, r2, r3, r4, r5, r6, r7⟩).take k)) ∧ Below Wd.heap.size Wd wr) (fun _ i _ => 8 - (intOf i).toNat)
    case atStart => exact ⟨0, by omega, rfl, hown2, hb2⟩
    case round =>
      clear hown2 hb2
      obtain ⟨k, hk, rfl, hown, hb⟩ := hrel
      by_cases hlt8 : k < 8
      · have HO := Lib.hid hown
        clear hown
        have hidx := Words.idx_arr wr 151 149 8 _ k _ Tryd.underlying151 Tryd.underlying149 infoW hlt8 (HV8.out k hlt8)
        change Sem.run _ (Instr.index _ (.agg #[.int .u32 r0, .int .u32 r1, .int .u32 r2, .int .u32 r3, .int .u32 r4, .int .u32 r5, .int .u32 r6, .int .u32 r7]) _) _ = _ at hidx
        have q0 := (HM.out k hlt8).1
        have q1 := (HM.out k hlt8).2
        have HT' := Lib.hid (HT.out k hlt8)
        generalize (V8.list ⟨r0, r1, r2, r3, r4, r5, r6, r7⟩).getD k 0 = z at *
        have hsz := hb.size
        go_wp2_with (at_builtin; refine wpList_append_lies _ rfl _ _ _ rfl Wd.heap.size 3 i0 _ 1 8 Tryd.underlying60 hi hz0 hz1 hz2 rfl (by omega) _ k _ rfl (HO.out.alloc _) ⟨wr.heap.size, 0, none⟩ 1 1 _ rfl rfl (World.news_of_block (heap_alloc_new wr _)) (by simp [Value.oneCell']) (by omega) (by unfold maxLen; omega) (by omega) (by simp; omega) (wr.heap.size + 1) (by simp) ?_; intro g1 cap1 w9 hown1 hgrow hat hlt1'; have hb9 : Below Wd.heap.size Wd w9 := (hb.alloc hsz _).grown hgrow (by simp; omega) (fun g hg => ownBlock_ge HO.out g hg); have HR := Lib.hid (own_congr hown1 rfl HT'.out.symm); clear hown1 hgrow hat hlt1' hidx)
        go_roundw
        case rel => exact ⟨k + 1, by omega, by go_num, HR.out, hb9⟩
        case measure => simp [intOf]; omega
      · obtain rfl : k = 8 := by omega
        rw [show ((8 : Nat) : Int) = 8 from rfl]
        rw [show (V8.list ⟨r0, r1, r2, r3, r4, r5, r6, r7⟩).take 8 = V8.list ⟨r0, r1, r2, r3, r4, r5, r6, r7⟩ from rfl] at hown
        obtain ⟨g, c', rfl, hgg⟩ := Words.own_slice hown (by omega)
        have HO := Lib.hid hown
        clear hown
        have hBr : Below w.heap.size w wr := hB.trans (hb.mono (by omega))
        have HQ3 := Lib.hid ((hb.block (w.heap.size + 1) lgD).trans HQ2.out)
        obtain ⟨pp0, pp1, pp2⟩ := row3 ((hb.block w.heap.size (by omega)).trans HX2.out)
        have CL := Lib.hid (fun W => clone rest W (by omega))
        have hltw : w.heap.size < wr.heap.size := by have := hb.size; omega
        have hltq : w.heap.size + 1 < wr.heap.size := by have := hb.size; omega
        clear HQ1 HX1 HQ2 HX2 hB p0 p1 p2
        have nq : w.heap.size ≠ w.heap.size + 1 := by omega
        have nq' : w.heap.size + 1 ≠ w.heap.size := by omega
        go_wp2_with fail
        go_region_held3 (fun w' => w'.cell? ⟨w.heap.size, 2, none⟩ = some (.int .i64 L)) (first | (go_keep; done) | assumption | exact cq | (simp [*, go_sem]; done))
          ((go_at_call 124; refine (CL.out _).mono ?_; rintro e wl ⟨rfl, bl⟩; have hl : Below wr.heap.size wr wl := (Below.refl _ wr).drew.trans bl; have cq : wl.cell? ⟨w.heap.size, 2, none⟩ = some (.int .i64 L) := (hl.cell (p := ⟨w.heap.size, 2, none⟩) hltw).trans pp2; have hq := (hl.block (w.heap.size + 1) hltq).trans HQ3.out; obtain ⟨k0, k1, k2⟩ := row3 hq; have f0 := frozen_of_row wl _ 0 _ _ hq; have f1 := frozen_of_row wl _ 1 _ _ hq; have f2 := frozen_of_row wl _ 2 _ _ hq; have HOL := Lib.hid (Mark.own_below HO.out hl (Nat.le_refl _)); have hBl : Below w.heap.size w wl := hBr.trans (hl.mono (by omega)); clear hq bl))
        all_goals
          have ng : g ≠ w.heap.size + 1 := by omega
          clear HO HQ3 pp0 pp1 pp2 CL hBr
          go_wp2
          refine bodyPost_ret (v := .tuple #[.agg #[.slice (some ⟨g, 0, none⟩) 8 c', .string rest, .int .i64 ((L : Int) + (t.size : Int))], .bool true]) (by simp [results, Tryd.results92, go_sem, k0, k1, k2]; rw [IntKind.wrap_i64]; omega) rfl ⟨g, c', ?_, ?_, ?_⟩
          · rw [HNB.out, HRS.out]; rfl
          · rw [HNB.out, HRR.out]
            refine own_base (Mark.own_heap HOL.out ?_) (by omega)
            exact (Mix.heap_put _ (w.heap.size + 1) g 2 _ ng).trans ((Mix.heap_put _ (w.heap.size + 1) g 1 _ ng).trans (Mix.heap_put _ (w.heap.size + 1) g 0 _ ng))
          · exact ((hBl.setCell (p := ⟨w.heap.size + 1, 0, none⟩) (by dsimp only; omega) _).setCell (p := ⟨w.heap.size + 1, 1, none⟩) (by dsimp only; omega) _).setCell (p := ⟨w.heap.size + 1, 2, none⟩) (by dsimp only; omega) _
set_option maxHeartbeats 2000000 in
theorem implFeedLong (A : Option Addr) (c : Nat) (s t : ByteArray) (L : Int) (zs : List Int) (w : World) (ht : 600 < t.size) (hm : t.size ≤ maxLen) (hss : s.size ≤ maxLen) (hg : goodS zs s L = true) (hx : Rd w w.heap.size 1 A 8 (ints zs)) :
    Calls Tryd.prog 92 #[stV A 8 c s L, .string t] w fun e w' => e = .returned (.tuple #[.agg #[.slice none 0 0, .string ⟨#[]⟩, .int .i64 0], .bool false]) ∧ Below w.heap.size w w' := by
  have HG := Lib.hid (fun W (h : Below w.heap.size w W) => implGood A 8 c s L zs W (by omega) hss ((hx.below h (Nat.le_refl _)).mono h.size))
  rw [hg] at HG
  clear hx hg hss
  unfold maxLen at hm
  unfold stV at *
  go_enter Tryd.func92, Tryd.ntmps92
  go_wp2_with fail
  obtain ⟨x0, y0, z0⟩ := boxed w #[.slice A 8 c, .string s, .int .i64 L] 107
  generalize World.alloc w _ = W00 at *
  obtain ⟨xx0, yy0, zz0⟩ := boxed W00 #[.slice none 0 0, .string ⟨#[]⟩, .int .i64 0] 107
  generalize World.alloc W00 _ = W0 at *
  rw [z0] at xx0 zz0
  have y00 : Below w.heap.size w W0 := y0.trans (yy0.mono (by omega))
  clear x0 y0 yy0
  refine (HG.out W0 y00).mono ?_
  rintro e' w1 ⟨rfl, hb1⟩
  have hs1 := hb1.size
  have q1 := (hb1.block (w.heap.size + 1) (by omega)).trans xx0
  have B1 : Below w.heap.size w w1 := y00.trans (hb1.mono (by omega))
  obtain ⟨k0, k1, k2⟩ := row3 q1
  have f0 := frozen_of_row w1 _ 0 _ _ q1
  have f1 := frozen_of_row w1 _ 1 _ _ q1
  have f2 := frozen_of_row w1 _ 2 _ _ q1
  clear HG y00 xx0 hb1 q1
  go_wp2
  refine bodyPost_ret (v := .tuple #[.agg #[.slice none 0 0, .string ⟨#[]⟩, .int .i64 0], .bool false]) (by simp [results, Tryd.results92, go_sem, k0, k1, k2]) rfl ⟨rfl, ?_⟩
  exact ((B1.setCell (p := ⟨w.heap.size + 1, 0, none⟩) (by dsimp only; omega) _).setCell (p := ⟨w.heap.size + 1, 1, none⟩) (by dsimp only; omega) _).setCell (p := ⟨w.heap.size + 1, 2, none⟩) (by dsimp only; omega) _
end Go.Proofs.YtmnihigackilkaaDoor.ImplFeed
