/-
  The message schedule of a block, by the program: its contract.
-/
import Derived.Test.YtmnihigackilkaaDoorShaRound
import Derived.StillTailTactics
import Derived.Deep.MidRow
namespace Go.Proofs.YtmnihigackilkaaDoor.ShaSched
open Go.ChangeShapes Go.WideShapes Go.ChangeAt Go.RowKit
open Go.Proofs.YtmnihigackilkaaDoor.Mem Go.Proofs.YtmnihigackilkaaDoor.Ints Go.Proofs.YtmnihigackilkaaDoor.ShaRound
set_option linter.unusedVariables false
set_option maxRecDepth 100000

def be4 (c0 c1 c2 c3 : UInt8) : Int := bits .or .u32 (bits .or .u32 (bits .or .u32 ((c0.toNat : Int) * 16777216 % 4294967296) ((c1.toNat : Int) * 65536 % 4294967296)) ((c2.toNat : Int) * 256 % 4294967296)) (c3.toNat : Int)
def sig0 (x : Int) : Int := bits .xor .u32 (bits .xor .u32 (Turn.rotR x 7) (Turn.rotR x 18)) (x / 8)
def sig1 (x : Int) : Int := bits .xor .u32 (bits .xor .u32 (Turn.rotR x 17) (Turn.rotR x 19)) (x / 1024)
def nextW (ws : List Int) (t : Nat) : Int := (ws.getD (t - 16) 0 + sig0 (ws.getD (t - 15) 0) + ws.getD (t - 7) 0 + sig1 (ws.getD (t - 2) 0)) % 4294967296
def schedL (l : List UInt8) : Nat → List Int
  | 0 => []
  | t + 1 => schedL l t ++ [if t < 16 then be4 (l.getD (4 * t) 0) (l.getD (4 * t + 1) 0) (l.getD (4 * t + 2) 0) (l.getD (4 * t + 3) 0) else nextW (schedL l t) t]
theorem schedL_len (l : List UInt8) (t : Nat) : (schedL l t).length = t := by
  induction t with
  | zero => rfl
  | succ t ih => simp [schedL, ih]
theorem getD_left {α : Type} (a b : List α) (i : Nat) (d : α) (h : i < a.length) : (a ++ b).getD i d = a.getD i d := by
  simp only [List.getD_eq_getElem?_getD, List.getElem?_append_left h]
theorem getD_right {α : Type} (a b : List α) (i : Nat) (d : α) (h : a.length ≤ i) : (a ++ b).getD i d = b.getD (i - a.length) d := by
  simp only [List.getD_eq_getElem?_getD, List.getElem?_append_right h]
theorem bits_u32_bd (o : BinOp) (a b : Int) : 0 ≤ bits o .u32 a b ∧ bits o .u32 a b ≤ 4294967295 := ⟨bits_lo_u32 o a b, bits_hi_u32 o a b⟩
theorem schedL_bd (l : List UInt8) (t i : Nat) : 0 ≤ (schedL l t).getD i 0 ∧ (schedL l t).getD i 0 ≤ 4294967295 := by
  induction t with
  | zero => simp [schedL]
  | succ t ih =>
    have hl := schedL_len l t
    unfold schedL
    by_cases hi : i < t
    · rw [getD_left _ _ _ _ (by omega)]; exact ih
    · by_cases he : i = t
      · subst he
        rw [getD_right _ _ _ _ (by omega), hl, Nat.sub_self]
        simp only [List.getD_cons_zero]
        split
        · exact bits_u32_bd _ _ _
        · unfold nextW; omega
      · rw [getD_right _ _ _ _ (by omega), hl]
        obtain ⟨d, hd⟩ : ∃ d, i - t = d + 1 := ⟨i - t - 1, by omega⟩
        rw [hd]; simp
/-- An array of 64 words of which the first are ws. -/
def wordsA (ws : List Int) : Array Value := (u32s ws ++ List.replicate (64 - ws.length) (Value.int .u32 0)).toArray
theorem wordsA_get (ws : List Int) (i : Nat) (h : i < ws.length) : (wordsA ws)[i]? = some (.int .u32 (ws.getD i 0)) := by
  unfold wordsA u32s
  rw [List.getElem?_toArray, List.getElem?_append_left (by simpa using h), List.getElem?_map, List.getElem?_eq_getElem h]
  simp [h]
theorem wordsA_some (ws : List Int) (i : Nat) (hl : ws.length ≤ 64) (h : i < 64) : ∃ u, (wordsA ws)[i]? = some u := by
  have : i < (wordsA ws).size := by simp [wordsA, u32s]; omega
  exact ⟨_, Array.getElem?_eq_getElem this⟩
theorem wordsA_set (ws : List Int) (x : Int) (hl : ws.length < 64) : (wordsA ws).setIfInBounds ws.length (.int .u32 x) = wordsA (ws ++ [x]) := by
  unfold wordsA u32s
  rw [List.setIfInBounds_toArray]
  congr 1
  rw [List.set_append_right _ _ (by simp), List.length_map, Nat.sub_self, show 64 - ws.length = (64 - (ws ++ [x]).length) + 1 from by simp; omega, List.replicate_succ, List.set_cons_zero, List.map_append, List.append_assoc]
  rfl
theorem wrap_byte (c : UInt8) : IntKind.u32.wrap (c.toNat : Int) = (c.toNat : Int) := by have := c.toNat_lt; rw [IntKind.wrap_u32]; omega
theorem be4_eq (c0 c1 c2 c3 : UInt8) : bits .or .u32 (bits .or .u32 (bits .or .u32 (IntKind.u32.wrap (IntKind.u32.wrap (c0.toNat : Int) * 16777216)) (IntKind.u32.wrap (IntKind.u32.wrap (c1.toNat : Int) * 65536))) (IntKind.u32.wrap (IntKind.u32.wrap (c2.toNat : Int) * 256))) (IntKind.u32.wrap (c3.toNat : Int)) = be4 c0 c1 c2 c3 := by
  rw [wrap_byte, wrap_byte, wrap_byte, wrap_byte, IntKind.wrap_u32, IntKind.wrap_u32, IntKind.wrap_u32]; rfl
theorem nest_add (a b c d : Int) : IntKind.u32.wrap (IntKind.u32.wrap (IntKind.u32.wrap (a + b) + c) + d) = (a + b + c + d) % 4294967296 := by simp only [IntKind.wrap_u32]; omega
theorem sched_lo (l : List UInt8) (k : Nat) (h : k < 16) : schedL l (k + 1) = schedL l k ++ [be4 (l[4 * k]?.getD 0) (l[4 * k + 1]?.getD 0) (l[4 * k + 2]?.getD 0) (l[4 * k + 3]?.getD 0)] := by
  conv => lhs; unfold schedL
  rw [if_pos h]; rfl
theorem sched_hi (l : List UInt8) (k : Nat) (h : 16 ≤ k) : schedL l (k + 1) = schedL l k ++ [nextW (schedL l k) k] := by
  conv => lhs; unfold schedL
  rw [if_neg (by omega)]
theorem blk_set {w : World} {p t : Nat} {cs : Array Value} (h : w.heap[p]? = some (.cells cs t (0, 0))) (i : Nat) (u : Value) : (w.setCell ⟨p, i, none⟩ u).heap[p]? = some (.cells (cs.setIfInBounds i u) t (0, 0)) := by
  simp [World.setCell, Array.getElem?_modify, h]
/-- The array behind the store of the next word. -/
theorem arr_step {w : World} {g t k : Nat} {ws : List Int} {x : Int} (h : w.heap[g]? = some (.cells (wordsA ws) t (0, 0))) (hk : ws.length = k) (hl : k < 64) : (w.setCell ⟨g, k, none⟩ (.int .u32 x)).heap[g]? = some (.cells (wordsA (ws ++ [x])) t (0, 0)) := by
  subst hk
  rw [blk_set h, wordsA_set ws x hl]
theorem below_setCells {B : Nat} {a : World} {b : Nat} (hb : B ≤ b) : ∀ (vs : List Value) (o : Nat) (w : World), Below B a w → Below B a (w.setCells b o vs)
  | [], _, _, h => h
  | v :: r, o, w, h => below_setCells hb r (o + 1) _ (h.setCell hb v)
theorem results_cell {fn : Func} {p : Tmp} {ty : TypeId} (h : fn.results = #[.cell p ty]) (tmps : Array Value) (P : Program) (w : World) (b o : Nat) (v : Value) (hp : tmps.getD p undef = .pointer (some ⟨b, o, none⟩)) (hv : (loadVar ty ⟨b, o, none⟩).run P w = .ok v w) :
    (results fn tmps).run P w = .ok v w := by
  simp only [results, h]
  simp only [Array.getD_eq_getD_getElem?] at hp
  simp [asAddr, hp, hv]
def blockV (l : List UInt8) : Value := .agg (l.map byteV).toArray
set_option maxRecDepth 100000 in
set_option maxHeartbeats 1000000 in
theorem scheduleOf (l : List UInt8) (w : World) (hl : l.length = 64) :
    Calls Tryd.prog 156 #[blockV l] w fun e' w' => e' = .returned (.agg (u32s (schedL l 64)).toArray) ∧ Below w.heap.size w w' := by
  unfold blockV
  go_enter Tryd.func156, Tryd.ntmps156
  go_wp2_with fail
  generalize hW : World.alloc (World.alloc (World.alloc w _) _) _ = W0
  have hb0 : W0.heap[w.heap.size]? = some (.cells (l.map byteV).toArray 168 (0, 0)) := by
    rw [← hW, Below.heap_alloc _ _ _ (by simp; omega), Below.heap_alloc _ _ _ (by simp)]; exact heap_alloc_new w _
  have hb1 : W0.heap[w.heap.size + 1]? = some (.cells (wordsA []) 173 (0, 0)) := by
    rw [← hW, Below.heap_alloc _ _ _ (by simp)]
    have := heap_alloc_new (w.alloc (.cells (l.map byteV).toArray 168)) (.cells (wordsA []) 173)
    rw [World.size_alloc] at this
    exact this
  have hb2 : W0.heap[w.heap.size + 1 + 1]? = some (.cells (wordsA []) 173 (0, 0)) := by
    rw [← hW]
    have := heap_alloc_new ((w.alloc (.cells (l.map byteV).toArray 168)).alloc (.cells (wordsA []) 173)) (.cells (wordsA []) 173)
    rw [World.size_alloc, World.size_alloc] at this
    exact this
  have hB : Below w.heap.size w W0 := by rw [← hW]; exact (((Below.refl _ w).alloc (Nat.le_refl _) _).alloc (by simp) _).alloc (by simp; omega) _
  clear hW
  go_loopw [10] (fun i wr => ∃ k : Nat, k ≤ 16 ∧ i = .int .i64 k ∧ wr.heap[w.heap.size + 1 + 1]? = some (.cells (wordsA (schedL l k)) 173 (0, 0)) ∧ Below (w.heap.size + 1 + 1) W0 wr) (fun i _ => 16 - (intOf i).toNat)
  case atStart => exact ⟨0, by omega, rfl, hb2, Below.refl _ _⟩
  case round =>
    obtain ⟨k, hk, rfl, hg, hb⟩ := hrel
    clear hb2
    have H0 := Lib.hid ((hb.block w.heap.size (by omega)).trans hb0)
    have HG := Lib.hid hg
    clear hg hb0
    by_cases hlt : k < 16
    · have rd : ∀ i, i < 64 → wr.cell? ⟨w.heap.size, i, none⟩ = some (.int .u8 ((l.getD i 0).toNat : Int)) := fun i hi => by
        rw [cell_of_row wr _ i _ _ _ H0.out]
        simp [byteV, hl, hi]
      have c0 := rd (4 * k) (by omega)
      have c1 := rd (4 * k + 1) (by omega)
      have c2 := rd (4 * k + 2) (by omega)
      have c3 := rd (4 * k + 3) (by omega)
      have hf : wr.frozen? ⟨w.heap.size + 1 + 1, k, none⟩ = false := frozen_of_row wr _ k _ _ HG.out
      obtain ⟨u, hu⟩ := wordsA_some (schedL l k) k (by rw [schedL_len]; omega) (by omega)
      have hcu : wr.cell? ⟨w.heap.size + 1 + 1, k, none⟩ = some u := by rw [cell_of_row wr _ k _ _ _ HG.out, hu]
      have b0 := (l.getD (4 * k) 0).toNat_lt
      have b1 := (l.getD (4 * k + 1) 0).toNat_lt
      have b2 := (l.getD (4 * k + 2) 0).toNat_lt
      have b3 := (l.getD (4 * k + 3) 0).toNat_lt
      clear rd hu
      go_wp2
      have v0 : IntKind.i64.wrap (4 * (k : Int)) = 4 * (k : Int) := by rw [IntKind.wrap_i64]; omega
      have v1 : IntKind.i64.wrap (4 * (k : Int) + 1) = 4 * (k : Int) + 1 := by rw [IntKind.wrap_i64]; omega
      have v2 : IntKind.i64.wrap (4 * (k : Int) + 2) = 4 * (k : Int) + 2 := by rw [IntKind.wrap_i64]; omega
      have v3 : IntKind.i64.wrap (4 * (k : Int) + 3) = 4 * (k : Int) + 3 := by rw [IntKind.wrap_i64]; omega
      have n0 : (4 * (k : Int)).toNat = 4 * k := by omega
      have n1 : (4 * (k : Int) + 1).toNat = 4 * k + 1 := by omega
      have n2 : (4 * (k : Int) + 2).toNat = 4 * k + 2 := by omega
      have n3 : (4 * (k : Int) + 3).toNat = 4 * k + 3 := by omega
      have p0 : 0 ≤ 4 * (k : Int) := by omega
      have p0' : 4 * (k : Int) < 64 := by omega
      have p1 : 0 ≤ 4 * (k : Int) + 1 := by omega
      have p1' : 4 * (k : Int) + 1 < 64 := by omega
      have p2 : 0 ≤ 4 * (k : Int) + 2 := by omega
      have p2' : 4 * (k : Int) + 2 < 64 := by omega
      have p3 : 0 ≤ 4 * (k : Int) + 3 := by omega
      have p3' : 4 * (k : Int) + 3 < 64 := by omega
      have pk : 0 ≤ (k : Int) := by omega
      have pk' : (k : Int) < 64 := by omega
      go_still_tail 31, (by kernel_rfl)
      rw [be4_eq]
      clear v0 v1 v2 v3 n0 n1 n2 n3 p0 p0' p1 p1' p2 p2' p3 p3' c0 c1 c2 c3 b0 b1 b2 b3
      generalize hx : be4 (l[4 * k]?.getD 0) (l[4 * k + 1]?.getD 0) (l[4 * k + 2]?.getD 0) (l[4 * k + 3]?.getD 0) = x
      have R := arr_step (x := x) HG.out (schedL_len l k) (by omega)
      rw [← hx, ← sched_lo l k hlt, hx] at R
      have HR := Lib.hid R
      clear R hx
      change wpList _ _ _ _ _ wr.drew
      go_wp2
      go_roundw
      case rel => exact ⟨k + 1, by omega, by go_num, HR.out, (hb.drew).setCell (by dsimp only; omega) _⟩
      case measure => simp [intOf]; omega
    · obtain rfl : k = 16 := by omega
      rw [show ((16 : Nat) : Int) = 16 from rfl]
      have hb1' := (hb.block (w.heap.size + 1) (by omega)).trans hb1
      have hBr : Below w.heap.size w wr := hB.trans (hb.mono (by omega))
      clear hb1 hB hb H0
      go_wp2_with fail
      go_loopw [5] (fun i wr => ∃ k : Nat, 16 ≤ k ∧ k ≤ 64 ∧ i = .int .i64 k ∧ wr.heap[w.heap.size + 1 + 1]? = some (.cells (wordsA (schedL l k)) 173 (0, 0)) ∧ wr.heap[w.heap.size + 1]? = some (.cells (wordsA []) 173 (0, 0)) ∧ Below w.heap.size w wr) (fun i _ => 64 - (intOf i).toNat)
      case atStart => exact ⟨16, by omega, by omega, rfl, HG.out, hb1', hBr⟩
      case round =>
        clear HG hb1' hBr
        obtain ⟨k, hk0, hk1, rfl, hg, hg1, hb⟩ := hrel
        have HG := Lib.hid hg
        have HG1 := Lib.hid hg1
        clear hg hg1
        by_cases hlt : k < 64
        · have rd : ∀ i, i < k → wr.cell? ⟨w.heap.size + 1 + 1, i, none⟩ = some (.int .u32 ((schedL l k).getD i 0)) := fun i hi => by
            rw [cell_of_row wr _ i _ _ _ HG.out, wordsA_get _ _ (by rw [schedL_len]; exact hi)]
          have c16 := rd (k - 16) (by omega)
          have c15 := rd (k - 15) (by omega)
          have c7 := rd (k - 7) (by omega)
          have c2 := rd (k - 2) (by omega)
          have q16 := schedL_bd l k (k - 16)
          have q15 := schedL_bd l k (k - 15)
          have q7 := schedL_bd l k (k - 7)
          have q2 := schedL_bd l k (k - 2)
          have hf : wr.frozen? ⟨w.heap.size + 1 + 1, k, none⟩ = false := frozen_of_row wr _ k _ _ HG.out
          obtain ⟨u, hu⟩ := wordsA_some (schedL l k) k (by rw [schedL_len]; omega) (by omega)
          have hcu : wr.cell? ⟨w.heap.size + 1 + 1, k, none⟩ = some u := by rw [cell_of_row wr _ k _ _ _ HG.out, hu]
          have HN : Hid (nextW (schedL l k) k = ((schedL l k).getD (k - 16) 0 + sig0 ((schedL l k).getD (k - 15) 0) + (schedL l k).getD (k - 7) 0 + sig1 ((schedL l k).getD (k - 2) 0)) % 4294967296) := Lib.hid rfl
          clear rd hu
          generalize (schedL l k).getD (k - 16) 0 = y16 at *
          generalize (schedL l k).getD (k - 15) 0 = y15 at *
          generalize (schedL l k).getD (k - 7) 0 = y7 at *
          generalize (schedL l k).getD (k - 2) 0 = y2 at *
          obtain ⟨q15a, q15b⟩ := q15
          obtain ⟨q2a, q2b⟩ := q2
          have m15 : ((k : Int) - 15).toNat = k - 15 := by omega
          have m2 : ((k : Int) - 2).toNat = k - 2 := by omega
          have m16 : ((k : Int) - 16).toNat = k - 16 := by omega
          have m7 : ((k : Int) - 7).toNat = k - 7 := by omega
          have d15 : 0 ≤ (k : Int) - 15 := by omega
          have d15' : (k : Int) - 15 < 64 := by omega
          have d2 : 0 ≤ (k : Int) - 2 := by omega
          have d2' : (k : Int) - 2 < 64 := by omega
          go_wp2_with fail
          go_quiet (fail)
          generalize hW : World.drewN _ _ = W1
          have e16 : W1.cell? ⟨w.heap.size + 1 + 1, k - 16, none⟩ = some (.int .u32 y16) := by rw [← hW]; exact c16
          have e7 : W1.cell? ⟨w.heap.size + 1 + 1, k - 7, none⟩ = some (.int .u32 y7) := by rw [← hW]; exact c7
          have eu : W1.cell? ⟨w.heap.size + 1 + 1, k, none⟩ = some u := by rw [← hW]; exact hcu
          have ef : W1.frozen? ⟨w.heap.size + 1 + 1, k, none⟩ = false := by rw [← hW]; exact hf
          have HG' := Lib.hid (show W1.heap[w.heap.size + 1 + 1]? = some (.cells (wordsA (schedL l k)) 173 (0, 0)) by rw [← hW]; exact HG.out)
          have HG1' := Lib.hid (show W1.heap[w.heap.size + 1]? = some (.cells (wordsA []) 173 (0, 0)) by rw [← hW]; exact HG1.out)
          have hb' : Below w.heap.size w W1 := by rw [← hW]; exact below_drewN hb _
          clear hW c16 c7 c15 c2 hcu hf HG HG1 hb
          go_wp2_with (go_at_call 161; with_reducible refine (Turn.turned _ _ _ (by omega) (by omega) (by omega) (by omega)).mono ?_; rintro e' w' ⟨rfl, rfl⟩)
          have v16 : IntKind.i64.wrap ((k : Int) - 16) = (k : Int) - 16 := by rw [IntKind.wrap_i64]; omega
          have v7 : IntKind.i64.wrap ((k : Int) - 7) = (k : Int) - 7 := by rw [IntKind.wrap_i64]; omega
          have d16 : 0 ≤ (k : Int) - 16 := by omega
          have d16' : (k : Int) - 16 < 64 := by omega
          have d7 : 0 ≤ (k : Int) - 7 := by omega
          have d7' : (k : Int) - 7 < 64 := by omega
          have dk : 0 ≤ (k : Int) := by omega
          have dk' : (k : Int) < 64 := by omega
          have x16 : (16 : Int) ≤ (k : Int) := by omega
          have x7 : (7 : Int) ≤ (k : Int) := by omega
          have y16' : (k : Int) < 64 + 16 := by omega
          have y7' : (k : Int) < 64 + 7 := by omega
          have z16' : (k : Int) < 80 := by omega
          have z7' : (k : Int) < 71 := by omega
          go_still_tail 15, (by kernel_rfl)
          rw [nest_add]
          have hv : (y16 + bits .xor .u32 (bits .xor .u32 (Turn.rotR y15 7) (Turn.rotR y15 18)) (y15 / 8) + y7 + bits .xor .u32 (bits .xor .u32 (Turn.rotR y2 17) (Turn.rotR y2 19)) (y2 / 1024)) % 4294967296 = nextW (schedL l k) k := by rw [HN.out]; rfl
          rw [hv]
          clear hv HN v16 v7 d16 d16' d7 d7' x16 x7 y16' y7' z16' z7' m15 m2 m16 m7 d15 d15' d2 d2' e16 e7
          generalize hx : nextW (schedL l k) k = x
          have R := arr_step (x := x) HG'.out (schedL_len l k) (by omega)
          rw [← hx, ← sched_hi l k hk0, hx] at R
          have HR := Lib.hid R
          have HR1 := Lib.hid ((Below.heap_setCell W1 ⟨w.heap.size + 1 + 1, k, none⟩ (.int .u32 x) (w.heap.size + 1) (by dsimp only; omega)).trans HG1'.out)
          clear R hx HG' HG1'
          change wpList _ _ _ _ _ W1.drew
          go_wp2
          go_roundw
          case rel => exact ⟨k + 1, by omega, by omega, by go_num, HR.out, HR1.out, (hb'.drew).setCell (by dsimp only; omega) _⟩
          case measure => simp [intOf]; omega
        · obtain rfl : k = 64 := by omega
          have hlen := schedL_len l 64
          have hr2 : wr.rangeAt (w.heap.size + 1 + 1) 0 (u32s (schedL l 64)) := fun j v hv => by
            rw [Nat.zero_add, cell_of_row wr _ j _ _ _ HG.out]
            have hj : j < (u32s (schedL l 64)).length := (List.getElem?_eq_some_iff.1 hv).1
            unfold wordsA
            rw [List.getElem?_toArray, List.getElem?_append_left hj, hv]
          have hth : wr.there (w.heap.size + 1) 0 64 := fun j hj => by
            rw [Nat.zero_add]
            obtain ⟨u, hu⟩ := wordsA_some [] j (by simp) hj
            exact ⟨by rw [cell_of_row wr _ j _ _ _ HG1.out, hu]; rfl, frozen_of_row wr _ j _ _ HG1.out⟩
          have hul : (u32s (schedL l 64)).length = 64 := by simp [u32s, hlen]
          have hone : ∀ v ∈ u32s (schedL l 64), v.oneCell' = true := by
            intro v hv; obtain ⟨z, _, rfl⟩ := List.mem_map.1 hv; rfl
          have hi81 : (Tryd.prog.info? 173).map (·.size) = some 64 := by kernel_rfl
          rw [show ((64 : Nat) : Int) = 64 from rfl]
          generalize hcs : u32s (schedL l 64) = cs at *
          have HCS := Lib.hid hcs
          clear hcs
          have hst : (storeCells ⟨w.heap.size + 1, 0, none⟩ cs 0).run Tryd.prog wr = .ok () (wr.setCells (w.heap.size + 1) 0 cs) := by
            have h := run_storeCells_cells (P := Tryd.prog) (w.heap.size + 1) 0 cs 0 wr (fun j hj => by have := (hth j (by omega)).1; simpa using this) (fun j hj => by have := (hth j (by omega)).2; simpa using this) hone
            simpa using h
          have hrs := World.rangeAt_setCells_same wr (w.heap.size + 1) 0 cs (by rw [hul]; exact hth)
          have hbs := below_setCells (b := w.heap.size + 1) (by omega) cs 0 wr hb
          have HC : Hid (cs.length = 64) := Lib.hid hul
          go_wp2_with (with_reducible refine wpList_load_mid rfl 173 (.tmp 3) rfl (w.heap.size + 1 + 1) 0 rfl cs _ hr2 Tryd.underlying173 rfl (by rw [hul]; exact hi81) ?_)
          have hlv := run_loadVar_mid (P := Tryd.prog) (wr.setCells (w.heap.size + 1) 0 cs) (w.heap.size + 1) 0 173 cs _ hrs Tryd.underlying173 rfl (by rw [HC.out]; exact hi81)
          generalize wr.setCells (w.heap.size + 1) 0 cs = W2 at *
          refine bodyPost_ret (v := .agg cs.toArray) ?_ rfl ⟨by rw [HCS.out], hbs⟩
          refine results_cell Tryd.results156 _ _ _ (w.heap.size + 1) 0 _ ?_ hlv
          rfl
end Go.Proofs.YtmnihigackilkaaDoor.ShaSched
