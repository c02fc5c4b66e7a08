/-
  The chain of a state, and the blocks of a text absorbed, by the program.
-/
import Derived.Test.YtmnihigackilkaaDoorShaComp
import Derived.Test.YtmnihigackilkaaDoorWords
import Derived.Test.YtmnihigackilkaaDoorPad
import Derived.Test.YtmnihigackilkaaDoorGoodState
import Derived.Lib.LazyBuf
import Derived.Lib.SlBuf
import Derived.Deep.Cut
namespace Go.Proofs.YtmnihigackilkaaDoor.Absorb
open Go.ChangeShapes Go.WideShapes Go.ChangeAt Go.RowKit
open Go.Proofs.YtmnihigackilkaaDoor.Mem Go.Proofs.YtmnihigackilkaaDoor.Ints Go.Proofs.YtmnihigackilkaaDoor.State Go.Proofs.YtmnihigackilkaaDoor.ShaComp Go.Proofs.YtmnihigackilkaaDoor.ShaSched Go.Proofs.YtmnihigackilkaaDoor.ShaRound
set_option linter.unusedVariables false
set_option maxRecDepth 100000
/-- A boxed value. -/
theorem boxed (w : World) (cs : Array Value) (t : Nat) : (w.alloc (.cells cs t)).heap[w.heap.size]? = some (.cells cs t (0, 0)) ∧ Below w.heap.size w (w.alloc (.cells cs t)) ∧ (w.alloc (.cells cs t)).heap.size = w.heap.size + 1 :=
  ⟨heap_alloc_new w _, (Below.refl _ w).alloc (Nat.le_refl _) _, by simp⟩
theorem row8 {w : World} {b t : Nat} {x0 x1 x2 x3 x4 x5 x6 x7 : Value} (h : w.heap[b]? = some (.cells #[x0, x1, x2, x3, x4, x5, x6, x7] t (0, 0))) : w.cell? ⟨b, 0, none⟩ = some x0 ∧ w.cell? ⟨b, 1, none⟩ = some x1 ∧ w.cell? ⟨b, 2, none⟩ = some x2 ∧ w.cell? ⟨b, 3, none⟩ = some x3 ∧ w.cell? ⟨b, 4, none⟩ = some x4 ∧ w.cell? ⟨b, 5, none⟩ = some x5 ∧ w.cell? ⟨b, 6, none⟩ = some x6 ∧ w.cell? ⟨b, 7, none⟩ = some x7 :=
  ⟨cell_of_row w _ 0 _ _ _ h, cell_of_row w _ 1 _ _ _ h, cell_of_row w _ 2 _ _ _ h, cell_of_row w _ 3 _ _ _ h, cell_of_row w _ 4 _ _ _ h, cell_of_row w _ 5 _ _ _ h, cell_of_row w _ 6 _ _ _ h, cell_of_row w _ 7 _ _ _ h⟩
theorem frz8 {w : World} {b t : Nat} {cs : Array Value} (h : w.heap[b]? = some (.cells cs t (0, 0))) : w.frozen? ⟨b, 0, none⟩ = false ∧ w.frozen? ⟨b, 1, none⟩ = false ∧ w.frozen? ⟨b, 2, none⟩ = false ∧ w.frozen? ⟨b, 3, none⟩ = false ∧ w.frozen? ⟨b, 4, none⟩ = false ∧ w.frozen? ⟨b, 5, none⟩ = false ∧ w.frozen? ⟨b, 6, none⟩ = false ∧ w.frozen? ⟨b, 7, none⟩ = false :=
  ⟨frozen_of_row w _ 0 _ _ h, frozen_of_row w _ 1 _ _ h, frozen_of_row w _ 2 _ _ h, frozen_of_row w _ 3 _ _ h, frozen_of_row w _ 4 _ _ h, frozen_of_row w _ 5 _ _ h, frozen_of_row w _ 6 _ _ h, frozen_of_row w _ 7 _ _ h⟩
def partL (v : V8) (k : Nat) : List Int := v.list.take k ++ List.replicate (8 - k) 0
theorem partL_at (v : V8) : ∀ k, k < 8 → (u32s (partL v k)).toArray[k]? = some (.int .u32 0)
  | 0, _ => rfl | 1, _ => rfl | 2, _ => rfl | 3, _ => rfl | 4, _ => rfl | 5, _ => rfl | 6, _ => rfl | 7, _ => rfl
theorem partL_set (v : V8) : ∀ k, k < 8 → (u32s (partL v k)).toArray.setIfInBounds k (.int .u32 (v.list.getD k 0)) = (u32s (partL v (k + 1))).toArray
  | 0, _ => rfl | 1, _ => rfl | 2, _ => rfl | 3, _ => rfl | 4, _ => rfl | 5, _ => rfl | 6, _ => rfl | 7, _ => rfl
theorem getD_mem (v : V8) : ∀ k, k < 8 → v.list.getD k 0 ∈ v.list
  | 0, _ => by simp [V8.list] | 1, _ => by simp [V8.list] | 2, _ => by simp [V8.list] | 3, _ => by simp [V8.list] | 4, _ => by simp [V8.list] | 5, _ => by simp [V8.list] | 6, _ => by simp [V8.list] | 7, _ => by simp [V8.list]
set_option maxHeartbeats 1000000 in
theorem chainOf (A : Option Addr) (c : Nat) (s : ByteArray) (L : Int) (v : V8) (w : World) (hz : ∀ z ∈ v.list, 0 ≤ z ∧ z ≤ 4294967295) (hx : Rd w w.heap.size 1 A 8 (ints v.list)) :
    Calls Tryd.prog 135 #[stV A 8 c s L] w fun e w' => e = .returned v.val ∧ Below w.heap.size w w' := by
  have HX := Lib.hid hx
  clear hx
  unfold stV
  go_enter Tryd.func135, Tryd.ntmps135
  go_wp2
  obtain ⟨x0, y0, z0⟩ := boxed w #[.slice A 8 c, .string s, .int .i64 L] 107
  generalize World.alloc w _ = W0 at *
  obtain ⟨x1, y1, z1⟩ := boxed W0 #[.int .u32 0, .int .u32 0, .int .u32 0, .int .u32 0, .int .u32 0, .int .u32 0, .int .u32 0, .int .u32 0] 151
  generalize World.alloc W0 _ = W1 at *
  obtain ⟨hC0, y2, z2⟩ := boxed W1 #[.int .u32 0, .int .u32 0, .int .u32 0, .int .u32 0, .int .u32 0, .int .u32 0, .int .u32 0, .int .u32 0] 151
  generalize World.alloc W1 _ = w0 at *
  rw [z0] at x1 z1
  rw [z1] at hC0 z2
  have hR0 := (y2.block (w.heap.size + 1) (by omega)).trans x1
  have hB0 : Below w.heap.size w w0 := y0.trans ((y1.trans (y2.mono (by omega))).mono (by omega))
  clear x0 x1 y0 y1 y2
  go_loopw [9] (fun i wr => ∃ k : Nat, k ≤ 8 ∧ i = .int .i64 k ∧ wr.heap[w.heap.size + 1 + 1]? = some (.cells (u32s (partL v k)).toArray 151 (0, 0)) ∧ wr.heap[w.heap.size + 1]? = some (.cells #[.int .u32 0, .int .u32 0, .int .u32 0, .int .u32 0, .int .u32 0, .int .u32 0, .int .u32 0, .int .u32 0] 151 (0, 0)) ∧ Below w.heap.size w wr) (fun i _ => 8 - (intOf i).toNat)
  case atStart => exact ⟨0, by omega, rfl, hC0, hR0, hB0⟩
  case round =>
    clear hC0 hR0 hB0
    obtain ⟨k, hk, rfl, hc, hr, hb⟩ := hrel
    by_cases hlt : k < 8
    · obtain ⟨b, off, hl, rfl, hbB, hcell⟩ := (HX.out.below hb (Nat.le_refl _)).int hlt
      have hzk := hz _ (getD_mem v k hlt)
      have hge : v.list[k] = v.list.getD k 0 := by simp [hl]
      rw [hge] at hcell
      have q0 := hzk.1
      have q1 := hzk.2
      have ca : wr.cell? ⟨w.heap.size + 1 + 1, k, none⟩ = some _ := (cell_of_row wr _ k _ _ _ hc).trans (partL_at v k hlt)
      have fa : wr.frozen? ⟨w.heap.size + 1 + 1, k, none⟩ = false := frozen_of_row wr _ k _ _ hc
      have hs := blk_set hc k (Value.int .u32 (v.list.getD k 0))
      rw [partL_set v k hlt] at hs
      have HS := Lib.hid hs
      have HR := Lib.hid hr
      clear hs hc hr hzk hge HX
      generalize v.list.getD k 0 = z at *
      have i0 : (0 : Int) ≤ (k : Int) := by omega
      have i1 : (k : Int) < 8 := by omega
      have hwr : IntKind.u32.wrap z = z := by rw [IntKind.wrap_u32]; omega
      go_wp2
      go_roundw
      case rel => exact ⟨k + 1, by omega, by go_num, HS.out, (Below.heap_setCell _ _ _ _ (by dsimp only; omega)).trans HR.out, hb.setCell (by dsimp only; omega) _⟩
      case measure => simp [intOf]; omega
    · obtain rfl : k = 8 := by omega
      rw [show ((8 : Nat) : Int) = 8 from rfl]
      obtain ⟨v0, v1, v2, v3, v4, v5, v6, v7⟩ := v
      rw [show partL ⟨v0, v1, v2, v3, v4, v5, v6, v7⟩ 8 = [v0, v1, v2, v3, v4, v5, v6, v7] from rfl] at hc
      obtain ⟨a0, a1, a2, a3, a4, a5, a6, a7⟩ := row8 (x0 := .int .u32 v0) (x1 := .int .u32 v1) (x2 := .int .u32 v2) (x3 := .int .u32 v3) (x4 := .int .u32 v4) (x5 := .int .u32 v5) (x6 := .int .u32 v6) (x7 := .int .u32 v7) hc
      obtain ⟨r0, r1, r2, r3, r4, r5, r6, r7⟩ := row8 hr
      obtain ⟨f0, f1, f2, f3, f4, f5, f6, f7⟩ := frz8 hr
      have HR2 := Lib.hid hr
      clear hc hr HX hz
      go_wp2
      obtain ⟨hn, hot, hbe⟩ := set8 HR2.out (.int .u32 v0) (.int .u32 v1) (.int .u32 v2) (.int .u32 v3) (.int .u32 v4) (.int .u32 v5) (.int .u32 v6) (.int .u32 v7)
      have hB := hbe _ _ (by omega) hb
      clear hot hbe r0 r1 r2 r3 r4 r5 r6 r7 f0 f1 f2 f3 f4 f5 f6 f7 a0 a1 a2 a3 a4 a5 a6 a7
      generalize World.setCell _ ⟨w.heap.size + 1, 7, none⟩ (.int .u32 v7) = W9 at *
      have hr9 : W9.rangeAt (w.heap.size + 1) 0 (u32s [v0, v1, v2, v3, v4, v5, v6, v7]) := fun j v hv => by
        rw [Nat.zero_add, cell_of_row W9 _ j _ _ _ hn]; show (u32s [v0, v1, v2, v3, v4, v5, v6, v7]).toArray[j]? = _; rw [List.getElem?_toArray]; exact hv
      have hlv := run_loadVar_mid (P := Tryd.prog) W9 (w.heap.size + 1) 0 151 _ _ hr9 Tryd.underlying151 rfl (by kernel_rfl)
      refine bodyPost_ret (v := .agg (u32s [v0, v1, v2, v3, v4, v5, v6, v7]).toArray) ?_ rfl ⟨rfl, hB⟩
      refine results_cell Tryd.results135 _ _ _ (w.heap.size + 1) 0 _ ?_ hlv
      rfl
/-- 'copy(dst, s)', s a string no shorter than dst. -/
theorem run_copy_long {P : Program} (w : World) (dT sT ty elem : TypeId) (b o dLen dCap : Nat) (t : ByteArray)
    (hu : P.underlying dT = some (.slice elem)) (hz : ∀ w, (Go.sizeOf elem).run P w = .ok 1 w) (hle : dLen ≤ t.size)
    (hc : ∀ j, j < dLen → (w.cell? ⟨b, o + j, none⟩).isSome = true) (hf : ∀ j, j < dLen → w.frozen? ⟨b, o + j, none⟩ = false) :
    (Builtin.copy_ #[dT, sT] ty #[.slice (some ⟨b, o, none⟩) dLen dCap, .string t]).run P w = .ok (goInt dLen) (w.setCells b o ((t.data.toList.take dLen).map byteV)) := by
  have hmin : Nat.min t.size dLen = dLen := Nat.min_eq_right hle
  have hl : ((t.data.toList.take dLen).map byteV).length = dLen := by
    have : t.data.toList.length = t.size := by simp
    rw [List.length_map, List.length_take, this]; omega
  have hst := run_storeCells_cells (P := P) b o ((t.data.toList.take dLen).map byteV) 0 w (by rw [hl]; simpa using hc) (by rw [hl]; simpa using hf) (byteV_one _)
  simp [Builtin.copy_, run_underlying hu, Builtin.lenOf, Builtin.firstCells, hz, hmin]
  rw [List.map_take] at hst
  have he : (t.data.toList.map fun x => Value.int .u8 (x.toNat : Int)) = t.data.toList.map byteV := rfl
  rw [he, hst]
  rfl
theorem results_cell2 {fn : Func} {p q : Tmp} {ty : TypeId} (h : fn.results = #[.cell p ty, .tmp q]) (tmps : Array Value) (P : Program) (w : World) (b o : Nat) (v : Value) (hp : tmps.getD p undef = .pointer (some ⟨b, o, none⟩)) (hv : (loadVar ty ⟨b, o, none⟩).run P w = .ok v w) :
    (results fn tmps).run P w = .ok (.tuple #[v, tmps.getD q undef]) w := by
  simp only [results, h]
  simp only [Array.getD_eq_getD_getElem?] at hp
  simp [asAddr, hp, hv]
def strLen : Value → Nat
  | .string s => s.size
  | _ => 0
def addV (x y : V8) : V8 := ⟨(x.a + y.a) % 4294967296, (x.b + y.b) % 4294967296, (x.c + y.c) % 4294967296, (x.d + y.d) % 4294967296, (x.e + y.e) % 4294967296, (x.f + y.f) % 4294967296, (x.g + y.g) % 4294967296, (x.h + y.h) % 4294967296⟩
def compV (v : V8) (l : List UInt8) : V8 := addV v (rounds v (schedL l 64) 64)
theorem compV_list (v : V8) (l : List UInt8) : comp v l = (compV v l).list := rfl
theorem compV_words (v : V8) (l : List UInt8) : ∀ z ∈ (compV v l).list, 0 ≤ z ∧ z ≤ 4294967295 := by
  intro z hz
  simp only [compV, addV, V8.list, List.mem_cons, List.not_mem_nil, or_false] at hz
  rcases hz with rfl | rfl | rfl | rfl | rfl | rfl | rfl | rfl <;> omega
theorem words_ok {v : V8} (h : ∀ z ∈ v.list, 0 ≤ z ∧ z ≤ 4294967295) : v.ok := ⟨h _ (by simp [V8.list]), h _ (by simp [V8.list])⟩
/-- The chain behind k blocks of the text. -/
def blk (v : V8) (l : List UInt8) : Nat → V8
  | 0 => v
  | k + 1 => compV (blk v l k) ((l.drop (64 * k)).take 64)
theorem blk_words {v : V8} (l : List UInt8) (h : ∀ z ∈ v.list, 0 ≤ z ∧ z ≤ 4294967295) (k : Nat) : ∀ z ∈ (blk v l k).list, 0 ≤ z ∧ z ≤ 4294967295 := by
  cases k with
  | zero => exact h
  | succ k => exact compV_words _ _
set_option maxHeartbeats 1000000 in
theorem absorbed (v : V8) (s : ByteArray) (w : World) (hv : ∀ z ∈ v.list, 0 ≤ z ∧ z ≤ 4294967295) (hs : s.size ≤ 2000000) (hk : w.rangeAt 1 0 (u32s consts)) :
    Calls Tryd.prog 134 #[v.val, .string s] w fun e w' => e = .returned (.tuple #[(blk v s.data.toList (s.size / 64)).val, .string (s.extract (64 * (s.size / 64)) s.size)]) ∧ Below w.heap.size w w' := by
  have hlt : 1 < w.heap.size := World.block_lt_of_cell? w ⟨1, 0, none⟩ (hk 0 (.int .u32 0x428a2f98) rfl)
  have HC := Lib.hid (fun x l W (hl : l.length = 64) (hx : V8.ok x) (h : Below w.heap.size w W) => compressed x l W hl hx (rangeAt_heap (h.block 1 hlt) hk))
  clear hk
  have hv' := hv
  obtain ⟨v0, v1, v2, v3, v4, v5, v6, v7⟩ := v
  unfold V8.val agg8
  dsimp only
  go_enter Tryd.func134, Tryd.ntmps134
  go_wp2
  obtain ⟨x0, y0, z0⟩ := boxed w #[.int .u32 v0, .int .u32 v1, .int .u32 v2, .int .u32 v3, .int .u32 v4, .int .u32 v5, .int .u32 v6, .int .u32 v7] 151
  generalize World.alloc w _ = W0 at *
  obtain ⟨x1, y1, z1⟩ := boxed W0 #[.int .u32 0, .int .u32 0, .int .u32 0, .int .u32 0, .int .u32 0, .int .u32 0, .int .u32 0, .int .u32 0] 151
  generalize World.alloc W0 _ = W1 at *
  rw [z0] at x1 z1
  have x0' := (y1.block w.heap.size (by omega)).trans x0
  have hB1 : Below w.heap.size w W1 := y0.trans (y1.mono (by omega))
  clear x0 y0 y1
  go_loopw [1] (fun t wr => ∃ k : Nat, 64 * k ≤ s.size ∧ t = .string (s.extract (64 * k) s.size) ∧ wr.heap[w.heap.size]? = some (.cells (u32s (blk ⟨v0, v1, v2, v3, v4, v5, v6, v7⟩ s.data.toList k).list).toArray 151 (0, 0)) ∧ wr.heap[w.heap.size + 1]? = some (.cells #[.int .u32 0, .int .u32 0, .int .u32 0, .int .u32 0, .int .u32 0, .int .u32 0, .int .u32 0, .int .u32 0] 151 (0, 0)) ∧ Below w.heap.size w wr) (fun t _ => strLen t)
  case atStart => exact ⟨0, by omega, by simp, x0', x1, hB1⟩
  case round =>
    clear x0' x1 hB1
    obtain ⟨k, hk, rfl, hc, hr, hb⟩ := hrel
    by_cases hlt : 64 * k + 64 ≤ s.size
    · have hT : (s.extract (64 * k) s.size).size = s.size - 64 * k := by rw [ByteArray.size_extract]; omega
      have hT2 : (s.extract (64 * k) s.size).data.toList.take 64 = (s.data.toList.drop (64 * k)).take 64 := by
        have h1 : (s.extract (64 * k) s.size).data.toList = (s.data.toList.drop (64 * k)).take (s.size - 64 * k) := by
          rw [ByteArray.data_extract, Array.toList_extract]
        rw [h1, List.take_take, Nat.min_eq_left (by omega)]
      have hnx : (s.extract (64 * k) s.size).extract 64 (s.extract (64 * k) s.size).size = s.extract (64 * (k + 1)) s.size := by
        rw [ByteArray.extract_extract, hT]
        congr 1
        omega
      have hok := words_ok (blk_words s.data.toList hv' k)
      generalize s.extract (64 * k) s.size = T at *
      have HN : Hid (blk ⟨v0, v1, v2, v3, v4, v5, v6, v7⟩ s.data.toList (k + 1) = compV (blk ⟨v0, v1, v2, v3, v4, v5, v6, v7⟩ s.data.toList k) ((s.data.toList.drop (64 * k)).take 64)) := Lib.hid rfl
      rw [← hT2] at HN
      generalize blk ⟨v0, v1, v2, v3, v4, v5, v6, v7⟩ s.data.toList k = x at *
      obtain ⟨c0, c1, c2, c3, c4, c5, c6, c7⟩ := x
      have hl64 : (T.data.toList.take 64).length = 64 := by
        have : T.data.toList.length = T.size := by simp
        rw [List.length_take, this, hT]; omega
      have hT64 : 64 ≤ T.size := by omega
      generalize hl : T.data.toList.take 64 = l at *
      have hge : ((64 : Int) ≤ ((T.size : Nat) : Int)) := by omega
      have hTM : T.size ≤ 2000000 := by omega
      have HT := Lib.hid hT
      have HNX := Lib.hid hnx
      clear hT hnx hT2
      have hsz1 : ∀ w, (Go.sizeOf 5).run Tryd.prog w = .ok 1 w := by
        intro w; obtain ⟨i0, hi, hz0, hz1, hz2⟩ := info_parts Pad.infoB; simp [Go.sizeOf, typeInfo, go_sem, hi, hz1]
      have hi75 : (Tryd.prog.info? 168).map (·.size) = some 64 := by kernel_rfl
      have hbl : (l.map byteV).length = 64 := by simp [hl64]
      have hgr := (Array.getElem?_eq_some_iff.1 hr).1
      have HC0 := Lib.hid hc
      have HR0 := Lib.hid hr
      clear hc hr
      have hcp : ∀ lit : Array Value, lit.size = 64 → (Builtin.copy_ #[22, 9] 3 #[.slice (some ⟨wr.heap.size, 0, none⟩) 64 64, .string T]).run Tryd.prog (wr.alloc (.cells lit 168)) = .ok (goInt 64) ((wr.alloc (.cells lit 168)).setCells wr.heap.size 0 (l.map byteV)) := by
        intro lit hlit
        rw [← hl]
        exact run_copy_long _ _ _ _ 5 wr.heap.size 0 64 64 T Tryd.underlying22 hsz1 hT64 (fun j hj => (there_new wr _ _ 64 hlit j hj).1) (fun j hj => (there_new wr _ _ 64 hlit j hj).2)
      go_upto_region 4 with fail
      clear hcp
      have hsn := fun lit (h : lit.size = (l.map byteV).length) => stored_new wr lit 168 (l.map byteV) h (by omega)
      generalize hW2 : World.setCells (World.alloc wr (.cells _ _)) wr.heap.size 0 _ = W2
      obtain ⟨hrS, hbS, hzS⟩ : W2.rangeAt wr.heap.size 0 (l.map byteV) ∧ Below wr.heap.size wr W2 ∧ wr.heap.size < W2.heap.size := by
        rw [← hW2]; exact hsn _ (by rw [hbl]; rfl)
      clear hW2 hsn
      have hA2 := (hbS.block w.heap.size (by omega)).trans HC0.out
      have hR2 := (hbS.block (w.heap.size + 1) (by omega)).trans HR0.out
      have hB2 : Below w.heap.size w W2 := hb.trans (hbS.mono (by omega))
      clear HC0 HR0 hbS hb
      obtain ⟨a0, a1, a2, a3, a4, a5, a6, a7⟩ := row8 (x0 := .int .u32 c0) (x1 := .int .u32 c1) (x2 := .int .u32 c2) (x3 := .int .u32 c3) (x4 := .int .u32 c4) (x5 := .int .u32 c5) (x6 := .int .u32 c6) (x7 := .int .u32 c7) hA2
      have HA2 := Lib.hid hA2
      have HR2 := Lib.hid hR2
      clear hA2 hR2
      have HCC := Lib.hid (HC.out ⟨c0, c1, c2, c3, c4, c5, c6, c7⟩ l W2 hl64 hok hB2)
      unfold V8.val agg8 blockV at HCC
      dsimp only at HCC
      rw [compV_list] at HCC
      go_wp2_with (with_reducible refine wpList_load_mid rfl 168 (.tmp 6) rfl wr.heap.size 0 rfl (l.map byteV) _ hrS Tryd.underlying168 rfl (by rw [hbl]; exact hi75) ?_)
      refine HCC.out.mono ?_
      rintro e' w5 ⟨rfl, hb5⟩
      clear HCC a0 a1 a2 a3 a4 a5 a6 a7 hrS
      generalize compV ⟨c0, c1, c2, c3, c4, c5, c6, c7⟩ l = y at *
      obtain ⟨d0, d1, d2, d3, d4, d5, d6, d7⟩ := y
      have hA5 := (hb5.block w.heap.size (by omega)).trans HA2.out
      have hR5 := (hb5.block (w.heap.size + 1) (by omega)).trans HR2.out
      have hB5 : Below w.heap.size w w5 := hB2.trans (hb5.mono (by omega))
      clear hb5 HA2 HR2 hB2
      obtain ⟨a0, a1, a2, a3, a4, a5, a6, a7⟩ := row8 (x0 := .int .u32 c0) (x1 := .int .u32 c1) (x2 := .int .u32 c2) (x3 := .int .u32 c3) (x4 := .int .u32 c4) (x5 := .int .u32 c5) (x6 := .int .u32 c6) (x7 := .int .u32 c7) hA5
      obtain ⟨f0, f1, f2, f3, f4, f5, f6, f7⟩ := frz8 hA5
      have HA5 := Lib.hid hA5
      have HR5 := Lib.hid hR5
      clear hA5 hR5
      simp only [u32s, V8.list, List.map_cons, List.map_nil]
      go_wp2
      go_roundw
      case rel =>
        obtain ⟨hn, hot, hbe⟩ := set8 (x0 := .int .u32 c0) (x1 := .int .u32 c1) (x2 := .int .u32 c2) (x3 := .int .u32 c3) (x4 := .int .u32 c4) (x5 := .int .u32 c5) (x6 := .int .u32 c6) (x7 := .int .u32 c7) HA5.out (.int .u32 d0) (.int .u32 d1) (.int .u32 d2) (.int .u32 d3) (.int .u32 d4) (.int .u32 d5) (.int .u32 d6) (.int .u32 d7)
        refine ⟨k + 1, by omega, by rw [HNX.out], ?_, (hot _ (by omega)).trans HR5.out, hbe _ _ (Nat.le_refl _) hB5⟩
        rw [hn, HN.out]; rfl
      case measure => simp only [strLen]; rw [ByteArray.size_extract]; omega
    · have hq : s.size / 64 = k := by omega
      have hT : (s.extract (64 * k) s.size).size < 64 := by rw [ByteArray.size_extract]; omega
      have HF : Hid (Ending.returned (.tuple #[(blk ⟨v0, v1, v2, v3, v4, v5, v6, v7⟩ s.data.toList k).val, .string (s.extract (64 * k) s.size)]) = .returned (.tuple #[(blk ⟨v0, v1, v2, v3, v4, v5, v6, v7⟩ s.data.toList (s.size / 64)).val, .string (s.extract (64 * (s.size / 64)) s.size)])) := Lib.hid (by rw [hq])
      clear hq
      generalize s.extract (64 * k) s.size = T at *
      generalize blk ⟨v0, v1, v2, v3, v4, v5, v6, v7⟩ s.data.toList k = x at *
      obtain ⟨c0, c1, c2, c3, c4, c5, c6, c7⟩ := x
      obtain ⟨a0, a1, a2, a3, a4, a5, a6, a7⟩ := row8 (x0 := .int .u32 c0) (x1 := .int .u32 c1) (x2 := .int .u32 c2) (x3 := .int .u32 c3) (x4 := .int .u32 c4) (x5 := .int .u32 c5) (x6 := .int .u32 c6) (x7 := .int .u32 c7) hc
      obtain ⟨r0, r1, r2, r3, r4, r5, r6, r7⟩ := row8 hr
      obtain ⟨f0, f1, f2, f3, f4, f5, f6, f7⟩ := frz8 hr
      have HR2 := Lib.hid hr
      clear hc hr HC
      have hge : ¬ ((64 : Int) ≤ ((T.size : Nat) : Int)) := by omega
      go_wp2
      obtain ⟨hn, hot, hbe⟩ := set8 HR2.out (.int .u32 c0) (.int .u32 c1) (.int .u32 c2) (.int .u32 c3) (.int .u32 c4) (.int .u32 c5) (.int .u32 c6) (.int .u32 c7)
      have hB := hbe _ _ (by omega) hb
      clear hot hbe r0 r1 r2 r3 r4 r5 r6 r7 f0 f1 f2 f3 f4 f5 f6 f7 a0 a1 a2 a3 a4 a5 a6 a7
      generalize World.setCell _ ⟨w.heap.size + 1, 7, none⟩ (.int .u32 c7) = W9 at *
      have hr9 : W9.rangeAt (w.heap.size + 1) 0 (u32s [c0, c1, c2, c3, c4, c5, c6, c7]) := fun j v hv => by
        rw [Nat.zero_add, cell_of_row W9 _ j _ _ _ hn]; show (u32s [c0, c1, c2, c3, c4, c5, c6, c7]).toArray[j]? = _; rw [List.getElem?_toArray]; exact hv
      have hlv := run_loadVar_mid (P := Tryd.prog) W9 (w.heap.size + 1) 0 151 _ _ hr9 Tryd.underlying151 rfl (by kernel_rfl)
      refine bodyPost_ret (v := .tuple #[.agg (u32s [c0, c1, c2, c3, c4, c5, c6, c7]).toArray, .string T]) ?_ rfl ⟨HF.out, hB⟩
      refine results_cell2 Tryd.results134 _ _ _ (w.heap.size + 1) 0 _ ?_ hlv
      rfl
end Go.Proofs.YtmnihigackilkaaDoor.Absorb
