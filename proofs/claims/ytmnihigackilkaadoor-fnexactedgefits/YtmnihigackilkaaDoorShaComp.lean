/-
  The compression of a block, by the program: its contract.
-/
import Derived.Test.YtmnihigackilkaaDoorShaSched
import Derived.Deep.Cut
namespace Go.Proofs.YtmnihigackilkaaDoor.ShaComp
open Go.ChangeShapes Go.WideShapes Go.ChangeAt Go.RowKit
open Go.Proofs.YtmnihigackilkaaDoor.Mem Go.Proofs.YtmnihigackilkaaDoor.Ints Go.Proofs.YtmnihigackilkaaDoor.ShaRound Go.Proofs.YtmnihigackilkaaDoor.ShaSched
set_option linter.unusedVariables false
set_option maxRecDepth 100000

theorem rangeAt_heap {w w' : World} {b : Nat} {vs : List Value} (h : w'.heap[b]? = w.heap[b]?) (hr : w.rangeAt b 0 vs) : w'.rangeAt b 0 vs := fun j v hv => by
  have := hr j v hv
  simp only [World.cell?] at this ⊢
  rw [h]; exact this

structure V8 where
  a : Int
  b : Int
  c : Int
  d : Int
  e : Int
  f : Int
  g : Int
  h : Int
def V8.list (v : V8) : List Int := [v.a, v.b, v.c, v.d, v.e, v.f, v.g, v.h]
def V8.val (v : V8) : Value := agg8 v.a v.b v.c v.d v.e v.f v.g v.h
def V8.ok (v : V8) : Prop := (0 ≤ v.a ∧ v.a ≤ 4294967295) ∧ (0 ≤ v.e ∧ v.e ≤ 4294967295)
def rnd (v : V8) (s : Int) : V8 := ⟨newA v.a v.b v.c v.e v.f v.g v.h s, v.a, v.b, v.c, newE v.d v.e v.f v.g v.h s, v.e, v.f, v.g⟩
def consts : List Int := [0x428a2f98, 0x71374491, 0xb5c0fbcf, 0xe9b5dba5, 0x3956c25b, 0x59f111f1, 0x923f82a4, 0xab1c5ed5, 0xd807aa98, 0x12835b01, 0x243185be, 0x550c7dc3, 0x72be5d74, 0x80deb1fe, 0x9bdc06a7, 0xc19bf174, 0xe49b69c1, 0xefbe4786, 0x0fc19dc6, 0x240ca1cc, 0x2de92c6f, 0x4a7484aa, 0x5cb0a9dc, 0x76f988da, 0x983e5152, 0xa831c66d, 0xb00327c8, 0xbf597fc7, 0xc6e00bf3, 0xd5a79147, 0x06ca6351, 0x14292967, 0x27b70a85, 0x2e1b2138, 0x4d2c6dfc, 0x53380d13, 0x650a7354, 0x766a0abb, 0x81c2c92e, 0x92722c85, 0xa2bfe8a1, 0xa81a664b, 0xc24b8b70, 0xc76c51a3, 0xd192e819, 0xd6990624, 0xf40e3585, 0x106aa070, 0x19a4c116, 0x1e376c08, 0x2748774c, 0x34b0bcb5, 0x391c0cb3, 0x4ed8aa4a, 0x5b9cca4f, 0x682e6ff3, 0x748f82ee, 0x78a5636f, 0x84c87814, 0x8cc70208, 0x90befffa, 0xa4506ceb, 0xbef9a3f7, 0xc67178f2]
def rounds (c : V8) (W : List Int) : Nat → V8
  | 0 => c
  | t + 1 => rnd (rounds c W t) ((consts.getD t 0 + W.getD t 0) % 4294967296)
theorem infoW : (Tryd.prog.info? 149).map (fun i => (i.zero, i.size, i.bytes)) = some (some (.int .u32 0), 1, 4) := by kernel_rfl
theorem rounds_ok (c : V8) (W : List Int) (hc : c.ok) (t : Nat) : (rounds c W t).ok := by
  cases t with
  | zero => exact hc
  | succ t => unfold rounds rnd V8.ok newA newE; dsimp only; omega
def addL (x y : List Int) : List Int := List.zipWith (fun a b => (a + b) % 4294967296) x y
def comp (c : V8) (l : List UInt8) : List Int := addL c.list (rounds c (schedL l 64) 64).list

/-- 'a[k]' of an array by value, its elements words. -/
theorem run_index_arr {P : Program} (w : World) (t e n : Nat) (cs : Array Value) (k : Nat) (v : Value) (h : P.underlying t = some (.array n e)) (he : P.underlying e = some (.int .u32)) (hs : (P.info? e).map (fun i => (i.zero, i.size, i.bytes)) = some (some (.int .u32 0), 1, 4)) (hk : k < n) (hv : cs[k]? = some v) :
    (Instr.index t (.agg cs) (.int .i64 (k : Int))).run P w = .ok v w := by
  obtain ⟨i0, hi, hz0, hz1, hz2⟩ := info_parts hs
  have hn : (0 : Int) ≤ (k : Int) ∧ (k : Int) < (n : Int) := by omega
  simp [Instr.index, run_underlying h, asIntOf, hn, go_sem, sizeOf, typeInfo, hi, hz1, part, isAgg, run_underlying he, hv]
  intro hh
  omega
/-- A new block's cells are there, and may be written. -/
theorem there_new (w1 : World) (lit : Array Value) (t n : Nat) (hl : lit.size = n) : (w1.alloc (.cells lit t)).there w1.heap.size 0 n := fun j hj => by
  have hnew := heap_alloc_new w1 (.cells lit t)
  rw [Nat.zero_add]
  exact ⟨by rw [cell_of_row _ _ j _ _ _ hnew, Array.getElem?_eq_getElem (by omega)]; rfl, frozen_of_row _ _ j _ _ hnew⟩
/-- What a store of a whole new array leaves. -/
theorem stored_new (w1 : World) (lit : Array Value) (t : Nat) (cs : List Value) (hl : lit.size = cs.length) (h0 : 0 < cs.length) :
    ((w1.alloc (.cells lit t)).setCells w1.heap.size 0 cs).rangeAt w1.heap.size 0 cs ∧ Below w1.heap.size w1 ((w1.alloc (.cells lit t)).setCells w1.heap.size 0 cs) ∧ w1.heap.size < ((w1.alloc (.cells lit t)).setCells w1.heap.size 0 cs).heap.size := by
  have hr := World.rangeAt_setCells_same (w1.alloc (.cells lit t)) w1.heap.size 0 cs (there_new w1 lit t _ hl)
  exact ⟨hr, below_setCells (Nat.le_refl _) cs 0 _ ((Below.refl _ w1).alloc (Nat.le_refl _) _), World.block_lt_of_cell? _ _ (hr 0 cs[0] (List.getElem?_eq_getElem h0))⟩

/-- Eight cells of an array of eight, one after another. -/
theorem set8 {w : World} {g t : Nat} {x0 x1 x2 x3 x4 x5 x6 x7 : Value} (h : w.heap[g]? = some (.cells #[x0, x1, x2, x3, x4, x5, x6, x7] t (0, 0))) (y0 y1 y2 y3 y4 y5 y6 y7 : Value) :
    ((((((((w.setCell ⟨g, 0, none⟩ y0).setCell ⟨g, 1, none⟩ y1).setCell ⟨g, 2, none⟩ y2).setCell ⟨g, 3, none⟩ y3).setCell ⟨g, 4, none⟩ y4).setCell ⟨g, 5, none⟩ y5).setCell ⟨g, 6, none⟩ y6).setCell ⟨g, 7, none⟩ y7).heap[g]? = some (.cells #[y0, y1, y2, y3, y4, y5, y6, y7] t (0, 0))
    ∧ (∀ b, b ≠ g → ((((((((w.setCell ⟨g, 0, none⟩ y0).setCell ⟨g, 1, none⟩ y1).setCell ⟨g, 2, none⟩ y2).setCell ⟨g, 3, none⟩ y3).setCell ⟨g, 4, none⟩ y4).setCell ⟨g, 5, none⟩ y5).setCell ⟨g, 6, none⟩ y6).setCell ⟨g, 7, none⟩ y7).heap[b]? = w.heap[b]?)
    ∧ (∀ (B : Nat) (a : World), B ≤ g → Below B a w → Below B a ((((((((w.setCell ⟨g, 0, none⟩ y0).setCell ⟨g, 1, none⟩ y1).setCell ⟨g, 2, none⟩ y2).setCell ⟨g, 3, none⟩ y3).setCell ⟨g, 4, none⟩ y4).setCell ⟨g, 5, none⟩ y5).setCell ⟨g, 6, none⟩ y6).setCell ⟨g, 7, none⟩ y7)) := by
  refine ⟨?_, ?_, ?_⟩
  · rw [blk_set (blk_set (blk_set (blk_set (blk_set (blk_set (blk_set (blk_set h _ _) _ _) _ _) _ _) _ _) _ _) _ _) _ _]
    simp
  · intro b hb
    rw [Below.heap_setCell _ _ _ _ hb, Below.heap_setCell _ _ _ _ hb, Below.heap_setCell _ _ _ _ hb, Below.heap_setCell _ _ _ _ hb, Below.heap_setCell _ _ _ _ hb, Below.heap_setCell _ _ _ _ hb, Below.heap_setCell _ _ _ _ hb, Below.heap_setCell _ _ _ _ hb]
  · intro B a hB hb
    exact ((((((((hb.setCell hB _).setCell hB _).setCell hB _).setCell hB _).setCell hB _).setCell hB _).setCell hB _).setCell hB _)


/-- The chain with its first k words added. -/
def half (c v : V8) (k : Nat) : List Int := (addL c.list v.list).take k ++ c.list.drop k
theorem half_at (c v : V8) : ∀ k, k < 8 → (u32s (half c v k)).toArray[k]? = some (.int .u32 (c.list.getD k 0))
  | 0, _ => rfl | 1, _ => rfl | 2, _ => rfl | 3, _ => rfl | 4, _ => rfl | 5, _ => rfl | 6, _ => rfl | 7, _ => rfl
theorem half_set (c v : V8) : ∀ k, k < 8 → (u32s (half c v k)).toArray.setIfInBounds k (.int .u32 ((c.list.getD k 0 + v.list.getD k 0) % 4294967296)) = (u32s (half c v (k + 1))).toArray
  | 0, _ => rfl | 1, _ => rfl | 2, _ => rfl | 3, _ => rfl | 4, _ => rfl | 5, _ => rfl | 6, _ => rfl | 7, _ => rfl
theorem v8_at (v : V8) : ∀ k, k < 8 → (u32s v.list).toArray[k]? = some (.int .u32 (v.list.getD k 0))
  | 0, _ => rfl | 1, _ => rfl | 2, _ => rfl | 3, _ => rfl | 4, _ => rfl | 5, _ => rfl | 6, _ => rfl | 7, _ => rfl
theorem half_all (c v : V8) : half c v 8 = addL c.list v.list := rfl

set_option maxRecDepth 100000 in
set_option maxHeartbeats 1000000 in
theorem compressed (c : V8) (l : List UInt8) (w : World) (hl : l.length = 64) (hc : c.ok) (hk : w.rangeAt 1 0 (u32s consts)) :
    Calls Tryd.prog 150 #[c.val, blockV l] w fun e' w' => e' = .returned (.agg (u32s (comp c l)).toArray) ∧ Below w.heap.size w w' := by
  have hlt : 1 < w.heap.size := World.block_lt_of_cell? w ⟨1, 0, none⟩ (hk 0 (.int .u32 0x428a2f98) rfl)
  obtain ⟨c0, c1, c2, c3, c4, c5, c6, c7⟩ := c
  have HSch := Lib.hid (scheduleOf l)
  unfold V8.val agg8
  unfold blockV at *
  dsimp only
  have hbl : (l.map byteV).length = 64 := by simp [hl]
  have hi75 : (Tryd.prog.info? 168).map (·.size) = some 64 := by kernel_rfl
  have hi81 : (Tryd.prog.info? 173).map (·.size) = some 64 := by kernel_rfl
  have hB0 : Below w.heap.size w (((w.alloc (.cells #[.int .u32 c0, .int .u32 c1, .int .u32 c2, .int .u32 c3, .int .u32 c4, .int .u32 c5, .int .u32 c6, .int .u32 c7] 151)).alloc (.cells (l.map byteV).toArray 168)).alloc (.cells #[.int .u32 0, .int .u32 0, .int .u32 0, .int .u32 0, .int .u32 0, .int .u32 0, .int .u32 0, .int .u32 0] 151)) := (((Below.refl _ w).alloc (Nat.le_refl _) _).alloc (by simp) _).alloc (by simp; omega) _
  have hr1 : (((w.alloc (.cells #[.int .u32 c0, .int .u32 c1, .int .u32 c2, .int .u32 c3, .int .u32 c4, .int .u32 c5, .int .u32 c6, .int .u32 c7] 151)).alloc (.cells (l.map byteV).toArray 168)).alloc (.cells #[.int .u32 0, .int .u32 0, .int .u32 0, .int .u32 0, .int .u32 0, .int .u32 0, .int .u32 0, .int .u32 0] 151)).rangeAt (w.heap.size + 1) 0 (l.map byteV) := by
    refine World.rangeAt_alloc (fun j v hv => ?_) _
    have := heap_alloc_new (w.alloc (.cells #[.int .u32 c0, .int .u32 c1, .int .u32 c2, .int .u32 c3, .int .u32 c4, .int .u32 c5, .int .u32 c6, .int .u32 c7] 151)) (.cells (l.map byteV).toArray 168)
    rw [World.size_alloc] at this
    rw [Nat.zero_add, cell_of_row _ _ j _ _ _ this, List.getElem?_toArray, hv]
  go_enter Tryd.func150, Tryd.ntmps150
  go_wp2_with (with_reducible refine wpList_load_mid rfl 168 (.tmp 3) rfl (w.heap.size + 1) 0 rfl (l.map byteV) _ hr1 Tryd.underlying168 rfl (by rw [hbl]; exact hi75) ?_)
  with_reducible refine (HSch.out _ hl).mono ?_
  rintro e' w1 ⟨rfl, hb1⟩
  have hz0 : (((w.alloc (.cells #[.int .u32 c0, .int .u32 c1, .int .u32 c2, .int .u32 c3, .int .u32 c4, .int .u32 c5, .int .u32 c6, .int .u32 c7] 151)).alloc (.cells (l.map byteV).toArray 168)).alloc (.cells #[.int .u32 0, .int .u32 0, .int .u32 0, .int .u32 0, .int .u32 0, .int .u32 0, .int .u32 0, .int .u32 0] 151)).heap.size = w.heap.size + 1 + 1 + 1 := by simp
  have hA0 : w1.heap[w.heap.size]? = some (.cells #[.int .u32 c0, .int .u32 c1, .int .u32 c2, .int .u32 c3, .int .u32 c4, .int .u32 c5, .int .u32 c6, .int .u32 c7] 151 (0, 0)) := by
    rw [hb1.block _ (by omega), Below.heap_alloc _ _ _ (by simp; omega), Below.heap_alloc _ _ _ (by simp)]; exact heap_alloc_new w _
  have hR0 : w1.heap[w.heap.size + 1 + 1]? = some (.cells #[.int .u32 0, .int .u32 0, .int .u32 0, .int .u32 0, .int .u32 0, .int .u32 0, .int .u32 0, .int .u32 0] 151 (0, 0)) := by
    rw [hb1.block _ (by omega)]
    have := heap_alloc_new ((w.alloc (.cells #[.int .u32 c0, .int .u32 c1, .int .u32 c2, .int .u32 c3, .int .u32 c4, .int .u32 c5, .int .u32 c6, .int .u32 c7] 151)).alloc (.cells (l.map byteV).toArray 168)) (.cells #[.int .u32 0, .int .u32 0, .int .u32 0, .int .u32 0, .int .u32 0, .int .u32 0, .int .u32 0, .int .u32 0] 151)
    rw [World.size_alloc, World.size_alloc] at this
    exact this
  have hK1 : w1.rangeAt 1 0 (u32s consts) := rangeAt_heap ((hb1.block 1 (by omega)).trans (hB0.block 1 hlt)) hk
  have hz1 : w.heap.size + 1 + 1 + 1 ≤ w1.heap.size := by have := hb1.size; omega
  have hB1 : Below w.heap.size w w1 := hB0.trans (hb1.mono (by omega))
  clear hB0 hr1 hb1 hz0 hk
  generalize hS : schedL l 64 = S at *
  have hSl : (u32s S).length = 64 := by rw [← hS]; simp [u32s, schedL_len]
  have HS := Lib.hid hS
  clear hS
  have hone : ∀ v ∈ u32s S, v.oneCell' = true := by
    intro v hv; obtain ⟨z, _, rfl⟩ := List.mem_map.1 hv; rfl
  have hSz : (u32s S).toArray.size = 64 := by rw [List.size_toArray]; exact hSl
  go_upto_region 2 with (refine wpList_store_mid rfl 173 (.tmp 5) (.tmp 12) rfl w1.heap.size 0 (u32s S).toArray rfl rfl (by rw [hSz]; exact there_new w1 _ _ _ rfl) (by rw [hSz]; exact hi81) (all_oneCell_toArray hone) ?_)
  have hsn := fun lit (h : lit.size = (u32s S).length) => stored_new w1 lit 173 (u32s S) h (by omega)
  generalize hW2 : World.setCells (World.alloc w1 (.cells _ _)) w1.heap.size 0 _ = W2
  obtain ⟨hrS, hbS, hzS⟩ : W2.rangeAt w1.heap.size 0 (u32s S) ∧ Below w1.heap.size w1 W2 ∧ w1.heap.size < W2.heap.size := by
    rw [← hW2]; exact hsn _ (by rw [hSl]; rfl)
  clear hW2 hsn
  have hA2 := (hbS.block _ (by omega)).trans hA0
  have hR2 := (hbS.block _ (by omega)).trans hR0
  have hK2 := rangeAt_heap (hbS.block 1 (by omega)) hK1
  have hB2 : Below w.heap.size w W2 := hB1.trans (hbS.mono (by omega))
  have a0 : W2.cell? ⟨w.heap.size, 0, none⟩ = some (.int .u32 c0) := cell_of_row W2 _ 0 _ _ _ hA2
  have a1 : W2.cell? ⟨w.heap.size, 1, none⟩ = some (.int .u32 c1) := cell_of_row W2 _ 1 _ _ _ hA2
  have a2 : W2.cell? ⟨w.heap.size, 2, none⟩ = some (.int .u32 c2) := cell_of_row W2 _ 2 _ _ _ hA2
  have a3 : W2.cell? ⟨w.heap.size, 3, none⟩ = some (.int .u32 c3) := cell_of_row W2 _ 3 _ _ _ hA2
  have a4 : W2.cell? ⟨w.heap.size, 4, none⟩ = some (.int .u32 c4) := cell_of_row W2 _ 4 _ _ _ hA2
  have a5 : W2.cell? ⟨w.heap.size, 5, none⟩ = some (.int .u32 c5) := cell_of_row W2 _ 5 _ _ _ hA2
  have a6 : W2.cell? ⟨w.heap.size, 6, none⟩ = some (.int .u32 c6) := cell_of_row W2 _ 6 _ _ _ hA2
  have a7 : W2.cell? ⟨w.heap.size, 7, none⟩ = some (.int .u32 c7) := cell_of_row W2 _ 7 _ _ _ hA2
  have HA2 := Lib.hid hA2
  have HR2 := Lib.hid hR2
  have HK2 := Lib.hid hK2
  have HrS := Lib.hid hrS
  clear hA2 hR2 hK2 hrS hA0 hR0 hK1 hB1 hone
  go_upto_region 3 with (fail)
  generalize hW3 : World.alloc W2 (.cells _ _) = W3
  have hV3 : W3.heap[W2.heap.size]? = some (.cells #[.int .u32 c0, .int .u32 c1, .int .u32 c2, .int .u32 c3, .int .u32 c4, .int .u32 c5, .int .u32 c6, .int .u32 c7] 151 (0, 0)) := by rw [← hW3]; exact heap_alloc_new W2 _
  have hb3 : Below W2.heap.size W2 W3 := by rw [← hW3]; exact (Below.refl _ W2).alloc (Nat.le_refl _) _
  clear hW3 a0 a1 a2 a3 a4 a5 a6 a7
  have hA3 := (hb3.block _ (by omega)).trans HA2.out
  have hR3 := (hb3.block _ (by omega)).trans HR2.out
  have hK3 := rangeAt_heap (hb3.block 1 (by omega)) HK2.out
  have hrS3 : W3.rangeAt w1.heap.size 0 (u32s S) := fun j v hv => (hb3.cell (p := ⟨w1.heap.size, 0 + j, none⟩) (by dsimp only; omega)).trans (HrS.out j v hv)
  have hB3 : Below w.heap.size w W3 := hB2.trans (hb3.mono (by omega))
  have hrK : W3.rangeAt 1 0 (u32s consts) := hK3
  have hKl : (u32s consts).length = 64 := rfl
  have g1 : w.heap.size + 1 + 1 < w1.heap.size := by omega
  have g2 : w1.heap.size < W2.heap.size := hzS
  clear hb3 HA2 HR2 HK2 HrS hB2 hz1 hbS hzS hK3
  generalize w1.heap.size = gS at *
  generalize W2.heap.size = gV at *
  have HA3 := Lib.hid hA3
  have HR3 := Lib.hid hR3
  have HV3 := Lib.hid hV3
  have HrS3 := Lib.hid hrS3
  clear hA3 hR3 hV3 hrS3
  generalize hcs : u32s consts = kc at *
  have HCS := Lib.hid hcs
  clear hcs
  go_wp2_with (with_reducible refine wpList_load_mid rfl 173 (.global 1) rfl 1 0 rfl kc _ hrK Tryd.underlying173 rfl (by rw [hKl]; exact hi81) ?_)
  go_loopw [15] (fun i wr => ∃ k : Nat, k ≤ 64 ∧ i = .int .i64 k ∧ wr.heap[gV]? = some (.cells (u32s (rounds ⟨c0, c1, c2, c3, c4, c5, c6, c7⟩ S k).list).toArray 151 (0, 0)) ∧ wr.rangeAt gS 0 (u32s S) ∧ wr.heap[w.heap.size]? = some (.cells #[.int .u32 c0, .int .u32 c1, .int .u32 c2, .int .u32 c3, .int .u32 c4, .int .u32 c5, .int .u32 c6, .int .u32 c7] 151 (0, 0)) ∧ wr.heap[w.heap.size + 1 + 1]? = W3.heap[w.heap.size + 1 + 1]? ∧ Below w.heap.size w wr) (fun i _ => 64 - (intOf i).toNat)
  case atStart => exact ⟨0, by omega, rfl, HV3.out, HrS3.out, HA3.out, rfl, hB3⟩
  case round =>
    clear HV3 HrS3 HA3 hB3 hrK
    obtain ⟨k, hk, rfl, hv, hrs, ha, hr, hb⟩ := hrel
    by_cases hlt64 : k < 64
    · have hok := rounds_ok ⟨c0, c1, c2, c3, c4, c5, c6, c7⟩ S hc k
      have HN : Hid (rounds ⟨c0, c1, c2, c3, c4, c5, c6, c7⟩ S (k + 1) = rnd (rounds ⟨c0, c1, c2, c3, c4, c5, c6, c7⟩ S k) ((consts.getD k 0 + S.getD k 0) % 4294967296)) := Lib.hid rfl
      generalize rounds ⟨c0, c1, c2, c3, c4, c5, c6, c7⟩ S k = v at *
      obtain ⟨v0, v1, v2, v3, v4, v5, v6, v7⟩ := v
      have hSk : wr.cell? ⟨gS, k, none⟩ = some (.int .u32 (S.getD k 0)) := by
        have h := hrs k (.int .u32 (S.getD k 0)) (by simp [u32s] at hSl ⊢; simp [hSl, hlt64])
        simpa using h
      have hkk : kc[k]? = some (.int .u32 (consts.getD k 0)) := by
        rw [← HCS.out]
        have : k < consts.length := hlt64
        simp [u32s, this]
      have hidx := run_index_arr wr 173 149 64 kc.toArray k _ Tryd.underlying173 Tryd.underlying149 infoW hlt64 (by rw [List.getElem?_toArray]; exact hkk)
      have i0 : (0 : Int) ≤ (k : Int) := by omega
      have i1 : (k : Int) < 64 := by omega
      have a0 : wr.cell? ⟨gV, 0, none⟩ = some (.int .u32 v0) := cell_of_row wr _ 0 _ _ _ hv
      have f0 : wr.frozen? ⟨gV, 0, none⟩ = false := frozen_of_row wr _ 0 _ _ hv
      have a1 : wr.cell? ⟨gV, 1, none⟩ = some (.int .u32 v1) := cell_of_row wr _ 1 _ _ _ hv
      have f1 : wr.frozen? ⟨gV, 1, none⟩ = false := frozen_of_row wr _ 1 _ _ hv
      have a2 : wr.cell? ⟨gV, 2, none⟩ = some (.int .u32 v2) := cell_of_row wr _ 2 _ _ _ hv
      have f2 : wr.frozen? ⟨gV, 2, none⟩ = false := frozen_of_row wr _ 2 _ _ hv
      have a3 : wr.cell? ⟨gV, 3, none⟩ = some (.int .u32 v3) := cell_of_row wr _ 3 _ _ _ hv
      have f3 : wr.frozen? ⟨gV, 3, none⟩ = false := frozen_of_row wr _ 3 _ _ hv
      have a4 : wr.cell? ⟨gV, 4, none⟩ = some (.int .u32 v4) := cell_of_row wr _ 4 _ _ _ hv
      have f4 : wr.frozen? ⟨gV, 4, none⟩ = false := frozen_of_row wr _ 4 _ _ hv
      have a5 : wr.cell? ⟨gV, 5, none⟩ = some (.int .u32 v5) := cell_of_row wr _ 5 _ _ _ hv
      have f5 : wr.frozen? ⟨gV, 5, none⟩ = false := frozen_of_row wr _ 5 _ _ hv
      have a6 : wr.cell? ⟨gV, 6, none⟩ = some (.int .u32 v6) := cell_of_row wr _ 6 _ _ _ hv
      have f6 : wr.frozen? ⟨gV, 6, none⟩ = false := frozen_of_row wr _ 6 _ _ hv
      have a7 : wr.cell? ⟨gV, 7, none⟩ = some (.int .u32 v7) := cell_of_row wr _ 7 _ _ _ hv
      have f7 : wr.frozen? ⟨gV, 7, none⟩ = false := frozen_of_row wr _ 7 _ _ hv
      have HV := Lib.hid hv
      have HRS := Lib.hid hrs
      have HA := Lib.hid ha
      have HR := Lib.hid hr
      clear hv hrs ha hr hkk
      generalize consts.getD k 0 = kk at *
      generalize S.getD k 0 = sk at *
      have hgV : gV < wr.heap.size := World.block_lt_of_cell? wr _ a0
      have hgS : gS < wr.heap.size := World.block_lt_of_cell? wr _ hSk
      have hok0 := hok.1.1
      have hok1 := hok.1.2
      have hok2 := hok.2.1
      have hok3 := hok.2.2
      dsimp only at hok0 hok1 hok2 hok3
      clear hok
      have HNR := Lib.hid (fun W => nextRound v0 v1 v2 v3 v4 v5 v6 v7 ((kk + sk) % 4294967296) W hok0 hok1 hok2 hok3)
      unfold agg8 at HNR
      go_wp2_with fail
      clear hidx
      have hsum : IntKind.u32.wrap (kk + sk) = (kk + sk) % 4294967296 := IntKind.wrap_u32 _
      go_still_tail 6, (by kernel_rfl)
      change wpList _ _ _ _ _ wr.drew
      go_wp2_with fail
      refine (HNR.out _).mono ?_
      rintro e' w5 ⟨rfl, hb5⟩
      have a0' : w5.cell? ⟨gV, 0, none⟩ = some (.int .u32 v0) := (hb5.cell (p := ⟨gV, 0, none⟩) (by simp; omega)).trans a0
      have f0' : w5.frozen? ⟨gV, 0, none⟩ = false := (hb5.frozen (p := ⟨gV, 0, none⟩) (by simp; omega)).trans f0
      have a1' : w5.cell? ⟨gV, 1, none⟩ = some (.int .u32 v1) := (hb5.cell (p := ⟨gV, 1, none⟩) (by simp; omega)).trans a1
      have f1' : w5.frozen? ⟨gV, 1, none⟩ = false := (hb5.frozen (p := ⟨gV, 1, none⟩) (by simp; omega)).trans f1
      have a2' : w5.cell? ⟨gV, 2, none⟩ = some (.int .u32 v2) := (hb5.cell (p := ⟨gV, 2, none⟩) (by simp; omega)).trans a2
      have f2' : w5.frozen? ⟨gV, 2, none⟩ = false := (hb5.frozen (p := ⟨gV, 2, none⟩) (by simp; omega)).trans f2
      have a3' : w5.cell? ⟨gV, 3, none⟩ = some (.int .u32 v3) := (hb5.cell (p := ⟨gV, 3, none⟩) (by simp; omega)).trans a3
      have f3' : w5.frozen? ⟨gV, 3, none⟩ = false := (hb5.frozen (p := ⟨gV, 3, none⟩) (by simp; omega)).trans f3
      have a4' : w5.cell? ⟨gV, 4, none⟩ = some (.int .u32 v4) := (hb5.cell (p := ⟨gV, 4, none⟩) (by simp; omega)).trans a4
      have f4' : w5.frozen? ⟨gV, 4, none⟩ = false := (hb5.frozen (p := ⟨gV, 4, none⟩) (by simp; omega)).trans f4
      have a5' : w5.cell? ⟨gV, 5, none⟩ = some (.int .u32 v5) := (hb5.cell (p := ⟨gV, 5, none⟩) (by simp; omega)).trans a5
      have f5' : w5.frozen? ⟨gV, 5, none⟩ = false := (hb5.frozen (p := ⟨gV, 5, none⟩) (by simp; omega)).trans f5
      have a6' : w5.cell? ⟨gV, 6, none⟩ = some (.int .u32 v6) := (hb5.cell (p := ⟨gV, 6, none⟩) (by simp; omega)).trans a6
      have f6' : w5.frozen? ⟨gV, 6, none⟩ = false := (hb5.frozen (p := ⟨gV, 6, none⟩) (by simp; omega)).trans f6
      have a7' : w5.cell? ⟨gV, 7, none⟩ = some (.int .u32 v7) := (hb5.cell (p := ⟨gV, 7, none⟩) (by simp; omega)).trans a7
      have f7' : w5.frozen? ⟨gV, 7, none⟩ = false := (hb5.frozen (p := ⟨gV, 7, none⟩) (by simp; omega)).trans f7
      clear a0 f0 a1 f1 a2 f2 a3 f3 a4 f4 a5 f5 a6 f6 a7 f7
      have hV5 := (hb5.block gV (by simp; omega)).trans HV.out
      have hA5 := (hb5.block w.heap.size (by simp; omega)).trans HA.out
      have hR5 := (hb5.block (w.heap.size + 1 + 1) (by simp; omega)).trans HR.out
      have HV5 := Lib.hid hV5
      have HA5 := Lib.hid hA5
      have HR5 := Lib.hid hR5
      clear hV5 hA5 hR5
      have hB5 : Below w.heap.size w w5 := (hb.drew).trans (hb5.mono (by have := hb.size; simp; omega))
      have hrS5 : w5.rangeAt gS 0 (u32s S) := rangeAt_heap (hb5.block gS (by simp; omega)) HRS.out
      have HrS5 := Lib.hid hrS5
      clear hrS5
      go_wp2
      go_roundw
      case rel =>
        obtain ⟨hn, hot, hbe⟩ := set8 (x0 := .int .u32 v0) (x1 := .int .u32 v1) (x2 := .int .u32 v2) (x3 := .int .u32 v3) (x4 := .int .u32 v4) (x5 := .int .u32 v5) (x6 := .int .u32 v6) (x7 := .int .u32 v7) HV5.out (.int .u32 (newA v0 v1 v2 v4 v5 v6 v7 ((kk + sk) % 4294967296))) (.int .u32 v0) (.int .u32 v1) (.int .u32 v2) (.int .u32 (newE v3 v4 v5 v6 v7 ((kk + sk) % 4294967296))) (.int .u32 v4) (.int .u32 v5) (.int .u32 v6)
        refine ⟨k + 1, by omega, by simp, ?_, rangeAt_heap (hot gS (by omega)) HrS5.out, (hot _ (by omega)).trans HA5.out, (hot _ (by omega)).trans HR5.out, hbe _ _ (by omega) hB5⟩
        rw [hn, HN.out]; rfl
      case measure => simp [intOf]; omega
    · obtain rfl : k = 64 := by omega
      rw [show ((64 : Nat) : Int) = 64 from rfl]
      have hA : wr.heap[w.heap.size]? = some (.cells (u32s (half ⟨c0, c1, c2, c3, c4, c5, c6, c7⟩ (rounds ⟨c0, c1, c2, c3, c4, c5, c6, c7⟩ S 64) 0)).toArray 151 (0, 0)) := ha
      have HA := Lib.hid hA
      have hfin : comp ⟨c0, c1, c2, c3, c4, c5, c6, c7⟩ l = half ⟨c0, c1, c2, c3, c4, c5, c6, c7⟩ (rounds ⟨c0, c1, c2, c3, c4, c5, c6, c7⟩ S 64) 8 := by rw [half_all]; unfold comp; rw [HS.out]
      have HF := Lib.hid hfin
      have HR := Lib.hid (hr.trans HR3.out)
      clear hA ha hrs hfin hr HR3 hk
      generalize rounds ⟨c0, c1, c2, c3, c4, c5, c6, c7⟩ S 64 = v at *
      obtain ⟨v0, v1, v2, v3, v4, v5, v6, v7⟩ := v
      have a0 : wr.cell? ⟨gV, 0, none⟩ = some (.int .u32 v0) := cell_of_row wr _ 0 _ _ _ hv
      have a1 : wr.cell? ⟨gV, 1, none⟩ = some (.int .u32 v1) := cell_of_row wr _ 1 _ _ _ hv
      have a2 : wr.cell? ⟨gV, 2, none⟩ = some (.int .u32 v2) := cell_of_row wr _ 2 _ _ _ hv
      have a3 : wr.cell? ⟨gV, 3, none⟩ = some (.int .u32 v3) := cell_of_row wr _ 3 _ _ _ hv
      have a4 : wr.cell? ⟨gV, 4, none⟩ = some (.int .u32 v4) := cell_of_row wr _ 4 _ _ _ hv
      have a5 : wr.cell? ⟨gV, 5, none⟩ = some (.int .u32 v5) := cell_of_row wr _ 5 _ _ _ hv
      have a6 : wr.cell? ⟨gV, 6, none⟩ = some (.int .u32 v6) := cell_of_row wr _ 6 _ _ _ hv
      have a7 : wr.cell? ⟨gV, 7, none⟩ = some (.int .u32 v7) := cell_of_row wr _ 7 _ _ _ hv
      clear hv
      go_wp2
      have HV8 := fun k hk => v8_at ⟨v0, v1, v2, v3, v4, v5, v6, v7⟩ k hk
      simp only [u32s, V8.list, List.map] at HV8
      clear a0 a1 a2 a3 a4 a5 a6 a7
      go_loopw [28] (fun i w' => ∃ k : Nat, k ≤ 8 ∧ i = .int .i64 k ∧ w'.heap[w.heap.size]? = some (.cells (u32s (half ⟨c0, c1, c2, c3, c4, c5, c6, c7⟩ ⟨v0, v1, v2, v3, v4, v5, v6, v7⟩ k)).toArray 151 (0, 0)) ∧ w'.heap[w.heap.size + 1 + 1]? = some (.cells #[.int .u32 0, .int .u32 0, .int .u32 0, .int .u32 0, .int .u32 0, .int .u32 0, .int .u32 0, .int .u32 0] 151 (0, 0)) ∧ Below w.heap.size w w') (fun i _ => 8 - (intOf i).toNat)
      case atStart => exact ⟨0, by omega, rfl, HA.out, HR.out, hb⟩
      case round =>
        clear HA HR hb
        obtain ⟨k, hk, rfl, ha, hr, hb⟩ := hrel
        by_cases hlt8 : k < 8
        · have hidx := run_index_arr wr 151 149 8 _ k _ Tryd.underlying151 Tryd.underlying149 infoW hlt8 (HV8 k hlt8)
          have ca : wr.cell? ⟨w.heap.size, k, none⟩ = some _ := (cell_of_row wr _ k _ _ _ ha).trans (half_at _ _ k hlt8)
          have fa : wr.frozen? ⟨w.heap.size, k, none⟩ = false := frozen_of_row wr _ k _ _ ha
          have hs := blk_set ha k (Value.int .u32 (((V8.list ⟨c0, c1, c2, c3, c4, c5, c6, c7⟩).getD k 0 + (V8.list ⟨v0, v1, v2, v3, v4, v5, v6, v7⟩).getD k 0) % 4294967296))
          rw [half_set _ _ k hlt8] at hs
          have HS2 := Lib.hid hs
          have HR2 := Lib.hid hr
          clear hs ha hr HV8
          change Sem.run _ _ _ = Result.ok (Value.int .u32 ((V8.list ⟨v0, v1, v2, v3, v4, v5, v6, v7⟩).getD k 0)) wr at hidx
          generalize (V8.list ⟨v0, v1, v2, v3, v4, v5, v6, v7⟩).getD k 0 = vk at *
          generalize (V8.list ⟨c0, c1, c2, c3, c4, c5, c6, c7⟩).getD k 0 = ck at *
          have i0 : (0 : Int) ≤ (k : Int) := by omega
          have i1 : (k : Int) < 8 := by omega
          have hsum : IntKind.u32.wrap (ck + vk) = (ck + vk) % 4294967296 := IntKind.wrap_u32 _
          go_wp2_with fail
          clear hidx
          go_roundw
          case rel => exact ⟨k + 1, by omega, by simp, HS2.out, (Below.heap_setCell _ _ _ _ (by dsimp only; omega)).trans HR2.out, hb.setCell (by dsimp only; omega) _⟩
          case measure => simp [intOf]; omega
        · obtain rfl : k = 8 := by omega
          rw [show ((8 : Nat) : Int) = 8 from rfl]
          generalize hx0 : (c0 + v0) % 4294967296 = x0 at *
          generalize hx1 : (c1 + v1) % 4294967296 = x1 at *
          generalize hx2 : (c2 + v2) % 4294967296 = x2 at *
          generalize hx3 : (c3 + v3) % 4294967296 = x3 at *
          generalize hx4 : (c4 + v4) % 4294967296 = x4 at *
          generalize hx5 : (c5 + v5) % 4294967296 = x5 at *
          generalize hx6 : (c6 + v6) % 4294967296 = x6 at *
          generalize hx7 : (c7 + v7) % 4294967296 = x7 at *
          have hh : half ⟨c0, c1, c2, c3, c4, c5, c6, c7⟩ ⟨v0, v1, v2, v3, v4, v5, v6, v7⟩ 8 = [x0, x1, x2, x3, x4, x5, x6, x7] := by
            rw [← hx0, ← hx1, ← hx2, ← hx3, ← hx4, ← hx5, ← hx6, ← hx7]; rfl
          rw [hh] at ha HF
          clear hh hx0 hx1 hx2 hx3 hx4 hx5 hx6 hx7 HV8
          have a0 : wr.cell? ⟨w.heap.size, 0, none⟩ = some (.int .u32 x0) := cell_of_row wr _ 0 _ _ _ ha
          have a1 : wr.cell? ⟨w.heap.size, 1, none⟩ = some (.int .u32 x1) := cell_of_row wr _ 1 _ _ _ ha
          have a2 : wr.cell? ⟨w.heap.size, 2, none⟩ = some (.int .u32 x2) := cell_of_row wr _ 2 _ _ _ ha
          have a3 : wr.cell? ⟨w.heap.size, 3, none⟩ = some (.int .u32 x3) := cell_of_row wr _ 3 _ _ _ ha
          have a4 : wr.cell? ⟨w.heap.size, 4, none⟩ = some (.int .u32 x4) := cell_of_row wr _ 4 _ _ _ ha
          have a5 : wr.cell? ⟨w.heap.size, 5, none⟩ = some (.int .u32 x5) := cell_of_row wr _ 5 _ _ _ ha
          have a6 : wr.cell? ⟨w.heap.size, 6, none⟩ = some (.int .u32 x6) := cell_of_row wr _ 6 _ _ _ ha
          have a7 : wr.cell? ⟨w.heap.size, 7, none⟩ = some (.int .u32 x7) := cell_of_row wr _ 7 _ _ _ ha
          have r0 : wr.cell? ⟨w.heap.size + 1 + 1, 0, none⟩ = some (.int .u32 0) := cell_of_row wr _ 0 _ _ _ hr
          have r1 : wr.cell? ⟨w.heap.size + 1 + 1, 1, none⟩ = some (.int .u32 0) := cell_of_row wr _ 1 _ _ _ hr
          have r2 : wr.cell? ⟨w.heap.size + 1 + 1, 2, none⟩ = some (.int .u32 0) := cell_of_row wr _ 2 _ _ _ hr
          have r3 : wr.cell? ⟨w.heap.size + 1 + 1, 3, none⟩ = some (.int .u32 0) := cell_of_row wr _ 3 _ _ _ hr
          have r4 : wr.cell? ⟨w.heap.size + 1 + 1, 4, none⟩ = some (.int .u32 0) := cell_of_row wr _ 4 _ _ _ hr
          have r5 : wr.cell? ⟨w.heap.size + 1 + 1, 5, none⟩ = some (.int .u32 0) := cell_of_row wr _ 5 _ _ _ hr
          have r6 : wr.cell? ⟨w.heap.size + 1 + 1, 6, none⟩ = some (.int .u32 0) := cell_of_row wr _ 6 _ _ _ hr
          have r7 : wr.cell? ⟨w.heap.size + 1 + 1, 7, none⟩ = some (.int .u32 0) := cell_of_row wr _ 7 _ _ _ hr
          have f0 : wr.frozen? ⟨w.heap.size + 1 + 1, 0, none⟩ = false := frozen_of_row wr _ 0 _ _ hr
          have f1 : wr.frozen? ⟨w.heap.size + 1 + 1, 1, none⟩ = false := frozen_of_row wr _ 1 _ _ hr
          have f2 : wr.frozen? ⟨w.heap.size + 1 + 1, 2, none⟩ = false := frozen_of_row wr _ 2 _ _ hr
          have f3 : wr.frozen? ⟨w.heap.size + 1 + 1, 3, none⟩ = false := frozen_of_row wr _ 3 _ _ hr
          have f4 : wr.frozen? ⟨w.heap.size + 1 + 1, 4, none⟩ = false := frozen_of_row wr _ 4 _ _ hr
          have f5 : wr.frozen? ⟨w.heap.size + 1 + 1, 5, none⟩ = false := frozen_of_row wr _ 5 _ _ hr
          have f6 : wr.frozen? ⟨w.heap.size + 1 + 1, 6, none⟩ = false := frozen_of_row wr _ 6 _ _ hr
          have f7 : wr.frozen? ⟨w.heap.size + 1 + 1, 7, none⟩ = false := frozen_of_row wr _ 7 _ _ hr
          have HR2 := Lib.hid hr
          clear ha hr
          go_wp2
          obtain ⟨hn, hot, hbe⟩ := set8 HR2.out (.int .u32 x0) (.int .u32 x1) (.int .u32 x2) (.int .u32 x3) (.int .u32 x4) (.int .u32 x5) (.int .u32 x6) (.int .u32 x7)
          have hB := hbe _ _ (by omega) hb
          clear hot hbe r0 r1 r2 r3 r4 r5 r6 r7 f0 f1 f2 f3 f4 f5 f6 f7 a0 a1 a2 a3 a4 a5 a6 a7
          generalize World.setCell _ ⟨w.heap.size + 1 + 1, 7, none⟩ (.int .u32 x7) = W9 at *
          have hr9 : W9.rangeAt (w.heap.size + 1 + 1) 0 (u32s [x0, x1, x2, x3, x4, x5, x6, x7]) := fun j v hv => by
            rw [Nat.zero_add, cell_of_row W9 _ j _ _ _ hn]; show (u32s [x0, x1, x2, x3, x4, x5, x6, x7]).toArray[j]? = _; rw [List.getElem?_toArray]; exact hv
          have hlv := run_loadVar_mid (P := Tryd.prog) W9 (w.heap.size + 1 + 1) 0 151 _ _ hr9 Tryd.underlying151 rfl (by kernel_rfl)
          refine bodyPost_ret (v := .agg (u32s [x0, x1, x2, x3, x4, x5, x6, x7]).toArray) ?_ rfl ⟨by rw [HF.out], hB⟩
          refine results_cell Tryd.results150 _ _ _ (w.heap.size + 1 + 1) 0 _ ?_ hlv
          rfl
end Go.Proofs.YtmnihigackilkaaDoor.ShaComp
