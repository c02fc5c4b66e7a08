/-
  The end of a state, by the program: its contract.
-/
import Derived.Test.YtmnihigackilkaaDoorAbsorb
namespace Go.Proofs.YtmnihigackilkaaDoor.End
open Go.ChangeShapes Go.WideShapes Go.ChangeAt Go.RowKit
open Go.Proofs.YtmnihigackilkaaDoor.Mem Go.Proofs.YtmnihigackilkaaDoor.Ints Go.Proofs.YtmnihigackilkaaDoor.State Go.Proofs.YtmnihigackilkaaDoor.ShaComp Go.Proofs.YtmnihigackilkaaDoor.ShaSched Go.Proofs.YtmnihigackilkaaDoor.ShaRound Go.Proofs.YtmnihigackilkaaDoor.Absorb Go.Proofs.YtmnihigackilkaaDoor.GoodState
set_option linter.unusedVariables false
set_option maxRecDepth 100000
theorem row3 {w : World} {b t : Nat} {x y z : Value} (h : w.heap[b]? = some (.cells #[x, y, z] t (0, 0))) : w.cell? ⟨b, 0, none⟩ = some x ∧ w.cell? ⟨b, 1, none⟩ = some y ∧ w.cell? ⟨b, 2, none⟩ = some z :=
  ⟨cell_of_row w _ 0 _ _ _ h, cell_of_row w _ 1 _ _ _ h, cell_of_row w _ 2 _ _ _ h⟩
theorem below8 {B g : Nat} {a w : World} (hb : Below B a w) (hB : B ≤ g) (y0 y1 y2 y3 y4 y5 y6 y7 : Value) : Below B a ((((((((w.setCell ⟨g, 0, none⟩ y0).setCell ⟨g, 1, none⟩ y1).setCell ⟨g, 2, none⟩ y2).setCell ⟨g, 3, none⟩ y3).setCell ⟨g, 4, none⟩ y4).setCell ⟨g, 5, none⟩ y5).setCell ⟨g, 6, none⟩ y6).setCell ⟨g, 7, none⟩ y7) :=
  ((((((((hb.setCell hB _).setCell hB _).setCell hB _).setCell hB _).setCell hB _).setCell hB _).setCell hB _).setCell hB _)
def wb (z : Int) : List UInt8 := [UInt8.ofNat (z.toNat / 16777216), UInt8.ofNat (z.toNat / 65536), UInt8.ofNat (z.toNat / 256), UInt8.ofNat z.toNat]
def outL (zs : List Int) : List UInt8 := zs.flatMap wb
theorem outL_len (zs : List Int) : (outL zs).length = 4 * zs.length := by
  induction zs with
  | nil => rfl
  | cons z r ih => simp [outL, wb] at ih ⊢; omega
theorem byte_wb (z : Int) (d : Int) (h0 : 0 ≤ z) (hd : 0 < d) : ((UInt8.ofNat (z.toNat / d.toNat)).toNat : Int) = (z / d) % 256 := by
  obtain ⟨m, rfl⟩ := Int.eq_ofNat_of_zero_le h0
  obtain ⟨e, rfl⟩ := Int.eq_ofNat_of_zero_le (Int.le_of_lt hd)
  simp
theorem wb_map (z : Int) (h0 : 0 ≤ z) (h1 : z ≤ 4294967295) : (#[.int .u8 (z / 16777216), .int .u8 (z / 65536 % 256), .int .u8 (z / 256 % 256), .int .u8 (z % 256)] : Array Value).toList = (wb z).map byteV := by
  obtain ⟨m, rfl⟩ := Int.eq_ofNat_of_zero_le h0
  simp only [wb, byteV, List.map_cons, List.map_nil, Int.toNat_natCast, UInt8.toNat_ofNat']
  simp
  omega
theorem good_v8 {zs : List Int} {s : ByteArray} {L : Int} (h : goodS zs s L = true) : ∃ v : V8, zs = v.list ∧ (∀ z ∈ v.list, 0 ≤ z ∧ z ≤ 4294967295) ∧ 0 ≤ L ∧ L ≤ 1000000 ∧ (s.size : Int) = L % 64 := by
  obtain ⟨h1, h2, h3, h4, h5⟩ := of_decide_eq_true h
  match zs, h1, h2 with
  | [a, b, c, d, e, f, g, i], _, h2 =>
    refine ⟨⟨a, b, c, d, e, f, g, i⟩, rfl, ?_, h3, h4, h5⟩
    intro z hz
    have := List.all_eq_true.1 h2 z hz
    simpa [inB] using this
theorem outL_take (v : V8) : ∀ k, k < 8 → outL (v.list.take (k + 1)) = outL (v.list.take k) ++ wb (v.list.getD k 0)
  | 0, _ => rfl | 1, _ => rfl | 2, _ => rfl | 3, _ => rfl | 4, _ => rfl | 5, _ => rfl | 6, _ => rfl | 7, _ => rfl
set_option maxHeartbeats 4000000 in
theorem implEnd (A : Option Addr) (c : Nat) (s : ByteArray) (L : Nat) (v : V8) (w : World) (hv : ∀ z ∈ v.list, 0 ≤ z ∧ z ≤ 4294967295) (h1 : L ≤ 1000000) (hs : s.size = L % 64) (hg : goodS v.list s L = true) (hx : Rd w w.heap.size 1 A 8 (ints v.list)) (hk : w.rangeAt 1 0 (u32s consts)) :
    Calls Tryd.prog 94 #[stV A 8 c s L] w fun e w' => e = .returned (.tuple #[.string ⟨(outL (blk v (s.data.toList ++ Pad.tailL L) ((s.size + (Pad.tailL L).length) / 64)).list).toArray⟩, .bool true]) ∧ Below w.heap.size w w' := by
  have hlt : 1 < w.heap.size := World.block_lt_of_cell? w ⟨1, 0, none⟩ (hk 0 (.int .u32 0x428a2f98) rfl)
  obtain ⟨i0, hi, hz0, hz1, hz2⟩ := info_parts Pad.infoB
  have HG := Lib.hid (fun W (h : Below w.heap.size w W) => implGood A 8 c s L v.list W (by omega) (by unfold maxLen; omega) ((hx.below h (Nat.le_refl _)).mono h.size))
  have HCH := Lib.hid (fun W (h : Below w.heap.size w W) => chainOf A c s L v W hv ((hx.below h (Nat.le_refl _)).mono h.size))
  have HAB := Lib.hid (fun x t W (hx : ∀ z ∈ V8.list x, 0 ≤ z ∧ z ≤ 4294967295) (ht : t.size ≤ 2000000) (h : Below w.heap.size w W) => absorbed x t W hx ht (rangeAt_heap (h.block 1 hlt) hk))
  rw [hg] at HG
  clear hx hk
  unfold stV at *
  go_enter Tryd.func94, Tryd.ntmps94
  go_wp2_with fail
  obtain ⟨x0, y0, z0⟩ := boxed w #[.slice A 8 c, .string s, .int .i64 L] 107
  generalize World.alloc w _ = W0 at *
  refine (HG.out W0 y0).mono ?_
  rintro e' w1 ⟨rfl, hb1⟩
  have hs1 := hb1.size
  have x1 := (hb1.block w.heap.size (by omega)).trans x0
  have B1 : Below w.heap.size w w1 := y0.trans (hb1.mono (by omega))
  clear HG y0 x0 hb1
  obtain ⟨p0, p1, p2⟩ := row3 x1
  have hlt1 : w.heap.size < w1.heap.size := by omega
  have C1 := Lib.hid (fun W (h : Below w1.heap.size w1 W) => (HCH.out W (B1.trans (h.mono (by omega)))).mono (fun e w' ⟨he, hb⟩ => (⟨he, h.trans (hb.mono h.size), hb⟩ : e = Ending.returned v.val ∧ Below w1.heap.size w1 w' ∧ Below W.heap.size W w')))
  have P1 := Lib.hid (fun W (h : Below w1.heap.size w1 W) => (Pad.paddingOf L W h1).mono (fun e w' ⟨he, hb⟩ => (⟨he, h.trans (hb.mono h.size), hb⟩ : e = Ending.returned (.string ⟨(Pad.tailL L).toArray⟩) ∧ Below w1.heap.size w1 w' ∧ Below W.heap.size W w')))
  have hsz : (s ++ ⟨(Pad.tailL L).toArray⟩ : ByteArray).size = s.size + (Pad.tailL L).length := by rw [ByteArray.size_append, mk_size (Pad.tailL L)]
  have htl := Pad.tailL_len L
  have hzl := Pad.zeros_lt L
  have hda : (s ++ ⟨(Pad.tailL L).toArray⟩ : ByteArray).data.toList = s.data.toList ++ Pad.tailL L := by simp
  have A1 := Lib.hid (fun W (h : Below w1.heap.size w1 W) => (HAB.out v (s ++ ⟨(Pad.tailL L).toArray⟩) W hv (by omega) (B1.trans (h.mono (by omega)))).mono (fun e w' ⟨he, hb⟩ => (⟨he, h.trans (hb.mono h.size), hb⟩ : e = Ending.returned _ ∧ Below w1.heap.size w1 w' ∧ Below W.heap.size W w')))
  rw [hda, hsz] at A1
  clear HCH HAB hda
  have n1 : w.heap.size ≠ w1.heap.size := by omega
  have m1 : w1.heap.size ≠ w.heap.size := by omega
  have D1 : Below w1.heap.size w1 w1.drew := (Below.refl _ _).drew
  have hsz2 : s.size + (Pad.tailL L).length ≤ 200 := by omega
  clear hsz htl hzl
  generalize hnb : (s.size + (Pad.tailL L).length) / 64 = nb at *
  have HNB := Lib.hid hnb
  clear hnb
  generalize ByteArray.extract _ (64 * nb) _ = rest at *
  have hvo := blk_words (s.data.toList ++ Pad.tailL L) hv nb
  generalize hrr : blk v (s.data.toList ++ Pad.tailL L) nb = r at *
  have HRR := Lib.hid hrr
  clear hrr
  have hts : (ByteArray.mk (Pad.tailL L).toArray).size ≤ 200 := by rw [mk_size (Pad.tailL L)]; omega
  have hss : s.size ≤ 200 := by omega
  have hcat : (s ++ ByteArray.mk (Pad.tailL L).toArray).size ≤ 400 := by rw [ByteArray.size_append]; omega
  generalize ByteArray.mk (Pad.tailL L).toArray = tl at *
  obtain ⟨r0, r1, r2, r3, r4, r5, r6, r7⟩ := r
  obtain ⟨v0, v1, v2, v3, v4, v5, v6, v7⟩ := v
  unfold V8.val agg8 at *
  dsimp only at C1 A1
  have hadd : ∀ W, (Op.stringOp .add s tl).run Tryd.prog W = .ok (.string (s ++ tl)) W := fun W => run_string_add W s tl (by omega) (by omega)
  go_wp2_with fail
  go_region_held3 (fun w' => w'.cell? ⟨w.heap.size, 0, none⟩ = some (.slice A 8 c) ∧ w'.cell? ⟨w.heap.size, 1, none⟩ = some (.string s) ∧ w'.cell? ⟨w.heap.size, 2, none⟩ = some (.int .i64 L))
    (first | (go_keep; done) | (refine ⟨?_, ?_, ?_⟩ <;> (rw [ba.cell (by exact hlt1)]; assumption)) | (refine ⟨?_, ?_, ?_⟩ <;> (rw [bp.cell (by exact hlt1)]; assumption)) | (refine ⟨?_, ?_, ?_⟩ <;> (rw [bc.cell (by exact hlt1)]; assumption)) | (refine ⟨?_, ?_, ?_⟩ <;> (rw [D1.cell (by exact hlt1)]; assumption)) | (refine ⟨?_, ?_, ?_⟩ <;> (rw [(ba.alloc ba.size _).cell (by exact hlt1)]; assumption)) | (refine ⟨?_, ?_, ?_⟩ <;> (rw [(bp.alloc bp.size _).cell (by exact hlt1)]; assumption)) | (refine ⟨?_, ?_, ?_⟩ <;> (rw [(bc.alloc bc.size _).cell (by exact hlt1)]; assumption)) | (refine ⟨?_, ?_, ?_⟩ <;> (rw [(D1.alloc (Nat.le_refl _) _).cell (by exact hlt1)]; assumption)) | (refine ⟨?_, ?_, ?_⟩ <;> (rw [(below8 ba bp.size _ _ _ _ _ _ _ _).cell (by exact hlt1)]; assumption)) | (refine ⟨?_, ?_, ?_⟩ <;> (rw [(below8 ba bc.size _ _ _ _ _ _ _ _).cell (by exact hlt1)]; assumption)) | (refine ⟨?_, ?_, ?_⟩ <;> (rw [(below8 ba D1.size _ _ _ _ _ _ _ _).cell (by exact hlt1)]; assumption)))
    (first
      | (go_at_call 135; refine (C1.out _ (by first | exact bp | exact bc | exact D1 | exact bp.alloc bp.size _ | exact bc.alloc bc.size _ | exact D1.alloc (Nat.le_refl _) _)).mono ?_; rintro e wc ⟨rfl, bc, bc2⟩; have nwc : w.heap.size ≠ wc.heap.size := Nat.ne_of_lt (Nat.lt_of_lt_of_le hlt1 bc.size); have mwc : wc.heap.size ≠ w.heap.size := Ne.symm nwc; try (first | (have xa := (bc2.block wp.heap.size (by simp)).trans (heap_alloc_new wp _)) | (have xa : wc.heap[w1.heap.size]? = some _ := (bc2.block w1.heap.size (by simp)).trans (heap_alloc_new w1.drew _)) | (have xa := (bc2.block _ (Array.getElem?_eq_some_iff.1 xa).1).trans xa)))
      | (go_at_call 136; refine (P1.out _ (by first | exact bp | exact bc | exact D1 | exact bp.alloc bp.size _ | exact bc.alloc bc.size _ | exact D1.alloc (Nat.le_refl _) _)).mono ?_; rintro e wp ⟨rfl, bp, bp2⟩; have nwp : w.heap.size ≠ wp.heap.size := Nat.ne_of_lt (Nat.lt_of_lt_of_le hlt1 bp.size); have mwp : wp.heap.size ≠ w.heap.size := Ne.symm nwp; try (first | (have xa := (bp2.block wc.heap.size (by simp)).trans (heap_alloc_new wc _)) | (have xa : wp.heap[w1.heap.size]? = some _ := (bp2.block w1.heap.size (by simp)).trans (heap_alloc_new w1.drew _)) | (have xa := (bp2.block _ (Array.getElem?_eq_some_iff.1 xa).1).trans xa)))
      | (go_at_call 134; refine (A1.out _ (by first | exact bp | exact bc | exact D1 | exact bp.alloc bp.size _ | exact bc.alloc bc.size _ | exact D1.alloc (Nat.le_refl _) _)).mono ?_; rintro e wa ⟨rfl, ba, ba2⟩; have nwa : w.heap.size ≠ wa.heap.size := Nat.ne_of_lt (Nat.lt_of_lt_of_le hlt1 ba.size); have mwa : wa.heap.size ≠ w.heap.size := Ne.symm nwa; first | ((first | (have xa := (ba2.block wp.heap.size (by simp)).trans (heap_alloc_new wp _)) | (have xa := (ba2.block wc.heap.size (by simp)).trans (heap_alloc_new wc _)) | (have xa := (ba2.block _ (Array.getElem?_eq_some_iff.1 xa).1).trans xa)); obtain ⟨a0, a1, a2, a3, a4, a5, a6, a7⟩ := row8 xa; obtain ⟨f0, f1, f2, f3, f4, f5, f6, f7⟩ := frz8 xa) | (have hw : Below wp.heap.size wp wa := ba2) | (have hw : Below wc.heap.size wc wa := ba2)))
  all_goals
    first
      | (obtain ⟨xr, _, br'⟩ := set8 (g := wp.heap.size) xa (.int .u32 r0) (.int .u32 r1) (.int .u32 r2) (.int .u32 r3) (.int .u32 r4) (.int .u32 r5) (.int .u32 r6) (.int .u32 r7); have br := br' w1.heap.size w1 bp.size ba; generalize World.setCell _ ⟨wp.heap.size, 7, none⟩ _ = Wd at *; generalize wp.heap.size = gB at *)
      | (obtain ⟨xr, _, br'⟩ := set8 (g := wc.heap.size) xa (.int .u32 r0) (.int .u32 r1) (.int .u32 r2) (.int .u32 r3) (.int .u32 r4) (.int .u32 r5) (.int .u32 r6) (.int .u32 r7); have br := br' w1.heap.size w1 bc.size ba; generalize World.setCell _ ⟨wc.heap.size, 7, none⟩ _ = Wd at *; generalize wc.heap.size = gB at *)
      | (obtain ⟨xr, _, br'⟩ := set8 (g := w1.heap.size) xa (.int .u32 r0) (.int .u32 r1) (.int .u32 r2) (.int .u32 r3) (.int .u32 r4) (.int .u32 r5) (.int .u32 r6) (.int .u32 r7); have br := br' w1.heap.size w1 (Nat.le_refl _) ba; generalize World.setCell _ ⟨w1.heap.size, 7, none⟩ _ = Wd at *; generalize w1.heap.size = gB at *)
      | (have xr := heap_alloc_new wa (.cells #[.int .u32 r0, .int .u32 r1, .int .u32 r2, .int .u32 r3, .int .u32 r4, .int .u32 r5, .int .u32 r6, .int .u32 r7] 151); have br := ba.alloc ba.size (.cells #[.int .u32 r0, .int .u32 r1, .int .u32 r2, .int .u32 r3, .int .u32 r4, .int .u32 r5, .int .u32 r6, .int .u32 r7] 151); generalize World.alloc wa _ = Wd at *; generalize wa.heap.size = gB at *)
  all_goals
    have hB := B1.trans (br.mono (Nat.le_of_lt hlt1))
    clear br
    have lgB := (Array.getElem?_eq_some_iff.1 xr).1
    go_wp2_with (at_make; refine wpList_make_own _ rfl _ _ 22 rfl w.heap.size 5 i0 _ 1 Tryd.underlying22 hi hz0 hz1 .i64 .i64 _ 32 rfl rfl (by omega) (by rw [hz2]; omega) (by unfold maxLen; omega) (by have := hB.size; omega) ?_; intro w2 hown2 hgrow2; have ss := hB.size; have hb2 : Below w.heap.size w w2 := hB.grown hgrow2 hB.size (fun k hk => by cases hk); obtain ⟨t0, t1, t2, t3, t4, t5, t6, t7⟩ := row8 ((hgrow2.block gB lgB (by simp)).trans xr); clear hgrow2)
  all_goals
    clear t0 t1 t2 t3 t4 t5 t6 t7 xr lgB hB
    have HV8 := Lib.hid (fun k hk => v8_at ⟨r0, r1, r2, r3, r4, r5, r6, r7⟩ k hk)
    have HM := Lib.hid (fun k hk => hvo _ (getD_mem ⟨r0, r1, r2, r3, r4, r5, r6, r7⟩ k hk))
    have HT := Lib.hid (outL_take ⟨r0, r1, r2, r3, r4, r5, r6, r7⟩)
    go_loopw [6, 26] (fun v i wr => ∃ k : Nat, k ≤ 8 ∧ i = .int .i64 k ∧ wr.ownsRow w.heap.size 5 1 v (4 * k) ((outL ((V8.list ⟨r0, r1, r2, r3, r4, r5, r6, r7⟩).take k)).map byteV) ∧ Below w.heap.size w wr) (fun _ i _ => 8 - (intOf i).toNat)
    case atStart => exact ⟨0, by omega, rfl, hown2, hb2⟩
    case round =>
      clear hown2 hb2
      obtain ⟨k, hk, rfl, hown, hb⟩ := hrel
      by_cases hlt8 : k < 8
      · have HO := Lib.hid hown
        clear hown
        have hidx := Words.idx_arr wr 151 149 8 _ k _ Tryd.underlying151 Tryd.underlying149 infoW hlt8 (HV8.out k hlt8)
        change Sem.run _ (Instr.index _ (.agg #[.int .u32 r0, .int .u32 r1, .int .u32 r2, .int .u32 r3, .int .u32 r4, .int .u32 r5, .int .u32 r6, .int .u32 r7]) _) _ = _ at hidx
        have q0 := (HM.out k hlt8).1
        have q1 := (HM.out k hlt8).2
        have HT' := Lib.hid (HT.out k hlt8)
        generalize (V8.list ⟨r0, r1, r2, r3, r4, r5, r6, r7⟩).getD k 0 = z at *
        have hsz := hb.size
        go_wp2_with (at_builtin; refine wpList_append_lies _ rfl _ _ _ rfl w.heap.size 5 i0 _ 1 1 Tryd.underlying22 hi hz0 hz1 hz2 rfl (by omega) _ (4 * k) _ rfl (HO.out.alloc _) ⟨wr.heap.size, 0, none⟩ 4 4 _ rfl rfl (World.news_of_block (heap_alloc_new wr _)) (by simp [Value.oneCell']) (by omega) (by unfold maxLen; omega) (by omega) (by simp; omega) (wr.heap.size + 1) (by simp) ?_; intro g1 cap1 w9 hown1 hgrow hat hlt1)
        have R := app_step (new := wb z) (hb.alloc hsz _) HO.out hown1 (wb_map z q0 q1) hgrow
        rw [← HT'.out] at R
        have HR := Lib.hid R
        clear R hown1 hgrow hat hlt1 hidx
        go_wp2
        go_roundw
        case rel => exact ⟨k + 1, by omega, by go_num, own_congr HR.out.1 (by omega) rfl, HR.out.2⟩
        case measure => simp [intOf]; omega
      · obtain rfl : k = 8 := by omega
        rw [show ((8 : Nat) : Int) = 8 from rfl]
        have hconv := run_own_string (P := Tryd.prog) wr 22 9 5 _ _ _ _ Tryd.underlying22 Tryd.underlying5 Tryd.underlying9 hown
        rw [show (V8.list ⟨r0, r1, r2, r3, r4, r5, r6, r7⟩).take 8 = V8.list ⟨r0, r1, r2, r3, r4, r5, r6, r7⟩ from rfl] at hconv
        clear hown
        go_wp2
        go_ret2
        exact ⟨by rw [HNB.out, HRR.out]; rfl, hb⟩
end Go.Proofs.YtmnihigackilkaaDoor.End
