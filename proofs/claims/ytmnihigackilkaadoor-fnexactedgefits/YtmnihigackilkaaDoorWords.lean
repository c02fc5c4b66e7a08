/-
  Rows of words as rows of numbers: the specification's l1Words, and the first state on both sides.
-/
import Derived.Test.YtmnihigackilkaaDoorMark
import Derived.Deep.AppendLies
namespace Go.Proofs.YtmnihigackilkaaDoor.Words
open Go.ChangeShapes Go.WideShapes Go.ChangeAt Go.RowKit
open Go.Proofs.YtmnihigackilkaaDoor.Mem Go.Proofs.YtmnihigackilkaaDoor.Ints Go.Proofs.YtmnihigackilkaaDoor.State Go.Proofs.YtmnihigackilkaaDoor.Mark
set_option linter.unusedVariables false
set_option maxRecDepth 100000

theorem Rd.u32 {w : World} {B n k : Nat} {A : Option Addr} {zs : List Int} (h : Rd w B 1 A n (u32s zs)) (hk : k < n) : ∃ b off, ∃ hl : k < zs.length, A = some ⟨b, off, none⟩ ∧ b < B ∧ w.cell? ⟨b, off + k, none⟩ = some (.int .u32 zs[k]) := by
  obtain ⟨b, off, u, hA, hb, hx, hc⟩ := h.at1 hk
  have hl : k < zs.length := by have := h.1; simp [u32s] at this; omega
  refine ⟨b, off, hl, hA, hb, ?_⟩
  rw [hc]
  simp [u32s, hl] at hx
  rw [← hx]
def firsts : List Int := [1779033703, 3144134277, 1013904242, 2773480762, 1359893119, 2600822924, 528734635, 1541459225]
def isWord (z : Int) : Prop := 0 ≤ z ∧ z ≤ 4294967295
instance (z : Int) : Decidable (isWord z) := by unfold isWord; infer_instance
theorem lit_rd32 (W : World) (cs : Array Value) (t : Nat) (zs : List Int) (h : cs.toList = u32s zs) : Rd (W.alloc (.cells cs t)) (W.heap.size + 1) 1 (some ⟨W.heap.size, 0, none⟩) zs.length (u32s zs) := by
  refine ⟨by simp [u32s], fun _ => ⟨W.heap.size, 0, rfl, by omega, fun j u hu => ?_⟩⟩
  rw [Nat.zero_add, cell_of_row _ W.heap.size j cs t (0, 0) (heap_alloc_new W _), ← hu, ← h]
  simp
theorem infoW : (Tryd.prog.info? 149).map (fun i => (i.zero, i.size, i.bytes)) = some (some (.int .u32 0), 1, 4) := by kernel_rfl
/-- 'a[k]' of an array by value, its elements words. -/
theorem idx_arr {P : Program} (w : World) (t e n : Nat) (cs : Array Value) (k : Nat) (v : Value) (h : P.underlying t = some (.array n e)) (he : P.underlying e = some (.int .u32)) (hs : (P.info? e).map (fun i => (i.zero, i.size, i.bytes)) = some (some (.int .u32 0), 1, 4)) (hk : k < n) (hv : cs[k]? = some v) :
    (Instr.index t (.agg cs) (.int .i64 (k : Int))).run P w = .ok v w := by
  obtain ⟨i0, hi, hz0, hz1, hz2⟩ := info_parts hs
  have hn : (0 : Int) ≤ (k : Int) ∧ (k : Int) < (n : Int) := by omega
  simp [Instr.index, run_underlying h, asIntOf, hn, go_sem, sizeOf, typeInfo, hi, hz1, part, isAgg, run_underlying he, hv]
  intro hh
  omega
theorem firsts_at : ∀ k, k < 8 → (#[.int .u32 1779033703, .int .u32 3144134277, .int .u32 1013904242, .int .u32 2773480762, .int .u32 1359893119, .int .u32 2600822924, .int .u32 528734635, .int .u32 1541459225] : Array Value)[k]? = some (.int .u32 (firsts.getD k 0))
  | 0, _ => rfl | 1, _ => rfl | 2, _ => rfl | 3, _ => rfl | 4, _ => rfl | 5, _ => rfl | 6, _ => rfl | 7, _ => rfl
theorem firsts_take : ∀ k, k < 8 → ints (firsts.take (k + 1)) = ints (firsts.take k) ++ [.int .i64 (firsts.getD k 0)]
  | 0, _ => rfl | 1, _ => rfl | 2, _ => rfl | 3, _ => rfl | 4, _ => rfl | 5, _ => rfl | 6, _ => rfl | 7, _ => rfl
theorem firsts_word : ∀ z ∈ firsts, isWord z := by unfold isWord firsts; decide
theorem firsts_getD : ∀ k, k < 8 → isWord (firsts.getD k 0)
  | 0, _ => by decide | 1, _ => by decide | 2, _ => by decide | 3, _ => by decide | 4, _ => by decide | 5, _ => by decide | 6, _ => by decide | 7, _ => by decide
/-- An own row of some length is a slice of one block. -/
theorem own_slice {w : World} {base e size n : Nat} {v : Value} {xs : List Value} (h : w.ownsRow base e size v n xs) (hn : 0 < n) : ∃ g c, v = .slice (some ⟨g, 0, none⟩) n c ∧ base ≤ g := by
  rcases h.2 with ⟨_, h0⟩ | ⟨g, cap, cur, h1, h2, _⟩
  · omega
  · exact ⟨g, cap, h1, h2⟩
set_option maxHeartbeats 1000000 in
theorem implNew (w : World) (hr : w.rangeAt 0 0 (u32s firsts)) :
    Calls Tryd.prog 93 #[] w fun e w' => ∃ g c, e = .returned (stV (some ⟨g, 0, none⟩) 8 c ByteArray.empty 0) ∧ w'.ownsRow w.heap.size 3 1 (.slice (some ⟨g, 0, none⟩) 8 c) 8 (ints firsts) ∧ Below w.heap.size w w' := by
  obtain ⟨i0, hi, hz0, hz1, hz2⟩ := info_parts infoI
  have a0 : w.cell? ⟨0, 0, none⟩ = some (.int .u32 1779033703) := hr 0 _ rfl
  have a1 : w.cell? ⟨0, 1, none⟩ = some (.int .u32 3144134277) := hr 1 _ rfl
  have a2 : w.cell? ⟨0, 2, none⟩ = some (.int .u32 1013904242) := hr 2 _ rfl
  have a3 : w.cell? ⟨0, 3, none⟩ = some (.int .u32 2773480762) := hr 3 _ rfl
  have a4 : w.cell? ⟨0, 4, none⟩ = some (.int .u32 1359893119) := hr 4 _ rfl
  have a5 : w.cell? ⟨0, 5, none⟩ = some (.int .u32 2600822924) := hr 5 _ rfl
  have a6 : w.cell? ⟨0, 6, none⟩ = some (.int .u32 528734635) := hr 6 _ rfl
  have a7 : w.cell? ⟨0, 7, none⟩ = some (.int .u32 1541459225) := hr 7 _ rfl
  have h0 : 0 < w.heap.size := World.block_lt_of_cell? w _ a0
  go_enter Tryd.func93, Tryd.ntmps93
  go_wp2_with (at_make; refine wpList_make_own _ rfl _ _ 60 rfl (w.heap.size + 1) 3 i0 _ 1 Tryd.underlying60 hi hz0 hz1 .i64 .i64 _ 8 rfl rfl (by omega) (by rw [hz2]; omega) (by unfold maxLen; omega) (by simp) ?_; intro w2 hown2 hgrow2; have hb2 : Below w.heap.size w w2 := ((Below.refl _ w).alloc (Nat.le_refl _) _).grown hgrow2 (by simp) (fun k hk => by cases hk); have b0 := (hb2.cell (p := ⟨0, 0, none⟩) h0).trans a0; have b1 := (hb2.cell (p := ⟨0, 1, none⟩) h0).trans a1; have b2 := (hb2.cell (p := ⟨0, 2, none⟩) h0).trans a2; have b3 := (hb2.cell (p := ⟨0, 3, none⟩) h0).trans a3; have b4 := (hb2.cell (p := ⟨0, 4, none⟩) h0).trans a4; have b5 := (hb2.cell (p := ⟨0, 5, none⟩) h0).trans a5; have b6 := (hb2.cell (p := ⟨0, 6, none⟩) h0).trans a6; have b7 := (hb2.cell (p := ⟨0, 7, none⟩) h0).trans a7; have hz2' := (hgrow2.block w.heap.size (by simp) (by simp)).trans (heap_alloc_new w _); clear hgrow2 a0 a1 a2 a3 a4 a5 a6 a7)
  clear b0 b1 b2 b3 b4 b5 b6 b7 hr
  rw [World.size_alloc] at hown2
  go_loopw [1, 6] (fun v i wr => ∃ k : Nat, k ≤ 8 ∧ i = .int .i64 k ∧ wr.ownsRow (w.heap.size + 1) 3 1 v k (ints (firsts.take k)) ∧ Below (w.heap.size + 1) w2 wr)
    (fun _ i _ => 8 - (intOf i).toNat)
  case atStart => exact ⟨0, by omega, rfl, hown2, Below.refl _ _⟩
  case round =>
    obtain ⟨k, hk, rfl, hown, hb⟩ := hrel
    clear hown2
    have hsz := hb.size
    have hs2 : w.heap.size < w2.heap.size := (Array.getElem?_eq_some_iff.1 hz2').1
    by_cases hlt : k < 8
    · have HO := Lib.hid hown
      clear hown
      have hidx := idx_arr wr 150 149 8 _ k _ Tryd.underlying150 Tryd.underlying149 infoW hlt (firsts_at k hlt)
      have HE := Lib.hid (firsts_take k hlt)
      have q0 := (firsts_getD k hlt).1
      have q1 := (firsts_getD k hlt).2
      generalize firsts.getD k 0 = z at *
      go_wp2_with (at_builtin; refine wpList_append_lies _ rfl _ _ _ rfl (w.heap.size + 1) 3 i0 _ 1 8 Tryd.underlying60 hi hz0 hz1 hz2 rfl (by omega) _ k _ rfl (HO.out.alloc _) ⟨wr.heap.size, 0, none⟩ 1 1 _ rfl rfl (World.news_of_block (heap_alloc_new wr _)) (by simp [Value.oneCell']) (by omega) (by unfold maxLen; omega) (by omega) (by simp; omega) (wr.heap.size + 1) (by simp) ?_; intro g1 cap1 w1 hown1 hgrow hat hlt1)
      have hb1 : Below (w.heap.size + 1) w2 w1 := (hb.alloc (by omega) _).grown hgrow (by simp; omega) (fun g hg => ownBlock_ge HO.out g hg)
      have HR := Lib.hid (own_congr hown1 rfl HE.out.symm)
      clear hown1 hgrow hat hlt1 hidx
      go_wp2
      go_roundw
      case rel => exact ⟨k + 1, by omega, by go_num, HR.out, hb1⟩
      case measure => simp [intOf]; omega
    · obtain rfl : k = 8 := by omega
      rw [show ((8 : Nat) : Int) = 8 from rfl]
      rw [show firsts.take 8 = firsts from rfl] at hown
      obtain ⟨g, c, rfl, hg⟩ := own_slice hown (by omega)
      have HO := Lib.hid hown
      clear hown
      have hbl := (hb.block w.heap.size (by omega)).trans hz2'
      have c0 : wr.cell? ⟨w.heap.size, 0, none⟩ = some (.slice none 0 0) := cell_of_row wr _ 0 _ _ _ hbl
      have c1 : wr.cell? ⟨w.heap.size, 1, none⟩ = some (.string ⟨#[]⟩) := cell_of_row wr _ 1 _ _ _ hbl
      have c2 : wr.cell? ⟨w.heap.size, 2, none⟩ = some (.int .i64 0) := cell_of_row wr _ 2 _ _ _ hbl
      have f0 : wr.frozen? ⟨w.heap.size, 0, none⟩ = false := frozen_of_row wr _ 0 _ _ hbl
      have f1 : wr.frozen? ⟨w.heap.size, 1, none⟩ = false := frozen_of_row wr _ 1 _ _ hbl
      have f2 : wr.frozen? ⟨w.heap.size, 2, none⟩ = false := frozen_of_row wr _ 2 _ _ hbl
      have hB : Below w.heap.size w wr := hb2.trans (hb.mono (by omega))
      clear hb hbl hz2' hb2
      go_wp2
      refine bodyPost_ret (v := .agg #[.slice (some ⟨g, 0, none⟩) 8 c, .string ⟨#[]⟩, .int .i64 0]) (by simp [results, Tryd.results93, go_sem, c0, c1, c2]) rfl ⟨g, c, rfl, own_base (own_heap HO.out ?_) (by omega), ((hB.setCell (Nat.le_refl _) _).setCell (Nat.le_refl _) _).setCell (Nat.le_refl _) _⟩
      rw [Below.heap_setCell _ _ _ _ (by dsimp only; omega), Below.heap_setCell _ _ _ _ (by dsimp only; omega), Below.heap_setCell _ _ _ _ (by dsimp only; omega)]
end Go.Proofs.YtmnihigackilkaaDoor.Words
