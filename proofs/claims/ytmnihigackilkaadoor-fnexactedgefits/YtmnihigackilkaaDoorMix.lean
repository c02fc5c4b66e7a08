/-
  The mixing of a block into words, by the specification: its contract.
-/
import Derived.Test.YtmnihigackilkaaDoorAbsorb
namespace Go.Proofs.YtmnihigackilkaaDoor.Mix
open Go.ChangeShapes Go.WideShapes Go.ChangeAt Go.RowKit
open Go.Proofs.YtmnihigackilkaaDoor.Mem Go.Proofs.YtmnihigackilkaaDoor.Ints Go.Proofs.YtmnihigackilkaaDoor.State Go.Proofs.YtmnihigackilkaaDoor.ShaComp Go.Proofs.YtmnihigackilkaaDoor.ShaSched Go.Proofs.YtmnihigackilkaaDoor.ShaRound Go.Proofs.YtmnihigackilkaaDoor.Absorb
set_option linter.unusedVariables false
set_option maxRecDepth 100000
theorem made_u32 {w : World} {B g : Nat} (h : w.ownsRow B 149 1 (.slice (some ⟨g, 0, none⟩) 64 64) 64 (madeCells (Value.int .u32 0).cells (64 * 1)).toList) : w.heap[g]? = some (.cells (wordsA []) 149 (0, 0)) := by
  rcases h.2 with ⟨h0, _⟩ | ⟨g', cap, cur, h1, h2, h3, h4, h5, h6, h7⟩
  · cases h0
  · obtain ⟨rfl, rfl⟩ : g = g' ∧ 64 = cap := by simpa using h1
    have e : (Value.int IntKind.u32 0).cells = #[.int .u32 0] := rfl
    rw [e, toList_madeCells_one] at h7
    have hc : cur = wordsA [] := by
      apply Array.toList_inj.1
      rw [List.take_of_length_le (by simp [h6])] at h7
      rw [h7]; rfl
    rw [h3, hc]
theorem idx_str {P : Program} (t : Nat) (s : ByteArray) (i : Int) (j : Nat) (h : P.underlying t = some .string) (hi : i = (j : Int)) (hj : j < s.size) (W : World) :
    (Instr.index t (.string s) (.int .i64 i)).run P W = .ok (.int .u8 (((s.data.toList[j]?).getD 0).toNat : Int)) W := by
  subst hi
  have hn : (0 : Int) ≤ (j : Int) ∧ (j : Int) < (s.size : Int) := by omega
  have hg : s.data.toList[j]?.getD 0 = s[j] := by
    have : j < s.data.toList.length := by simpa using hj
    rw [List.getElem?_eq_getElem this]; rfl
  rw [hg]
  simp [Instr.index, run_underlying h, asIntOf, hn, go_sem, hj]
theorem addV_at (x y : V8) : ∀ j, j < 8 → (addV x y).list.getD j 0 = (x.list.getD j 0 + y.list.getD j 0) % 4294967296
  | 0, _ | 1, _ | 2, _ | 3, _ | 4, _ | 5, _ | 6, _ | 7, _ => rfl
theorem u32_at (x : V8) : ∀ j, j < 8 → (u32s x.list)[j]? = some (.int .u32 (x.list.getD j 0))
  | 0, _ | 1, _ | 2, _ | 3, _ | 4, _ | 5, _ | 6, _ | 7, _ => rfl
theorem take_word (x : V8) : ∀ j, j < 8 → x.list.take (j + 1) = x.list.take j ++ [x.list.getD j 0]
  | 0, _ | 1, _ | 2, _ | 3, _ | 4, _ | 5, _ | 6, _ | 7, _ => rfl
theorem take_all8 (x : V8) : x.list.take 8 = x.list := rfl
theorem app_u32 {w wr wa w1 : World} {e : Nat} {v v' : Value} {n m : Nat} {l : List Int} {x : Int} {ys : List Value} (hb : Below w.heap.size w wa)
    (hown : wr.ownsRow w.heap.size e 1 v n (u32s l)) (h1 : w1.ownsRow w.heap.size e 1 v' m (u32s l ++ ys)) (hy : ys = [.int .u32 x]) (hg : wa.grownBy w1 v.ownBlock) :
    w1.ownsRow w.heap.size e 1 v' m (u32s (l ++ [x])) ∧ Below w.heap.size w w1 := by
  subst hy
  refine ⟨by unfold u32s at *; rw [List.map_append]; exact h1, hb.grown hg hb.size (fun g hgg => ownBlock_ge hown g hgg)⟩
theorem turnS (x b : Int) (w : World) (h0 : 0 ≤ x) (h1 : x ≤ 4294967295) (h2 : 0 ≤ b) (h3 : b ≤ 31) :
    Calls Tryd.prog 159 #[.int .u32 x, .int .u64 b] w fun e w' => e = .returned (.int .u32 (Turn.rotR x b)) ∧ w' = w :=
  (Turn.l1Turn x b w h0 h1 h2 h3).mono fun e w' ⟨he, hw⟩ => ⟨he, hw.symm⟩
theorem constsOf (w : World) : Calls Tryd.prog 160 #[] w fun e w' => e = .returned (.slice (some ⟨w.heap.size, 0, none⟩) 64 64) ∧ w'.rangeAt w.heap.size 0 (u32s consts) ∧ Below w.heap.size w w' ∧ w.heap.size < w'.heap.size := by
  go_enter Tryd.func160, Tryd.ntmps160
  go_wp2
  go_ret
  refine ⟨rfl, fun j v hv => ?_, (Below.refl _ w).alloc (Nat.le_refl _) _, by simp⟩
  rw [Nat.zero_add, cell_of_row _ w.heap.size j _ _ _ (heap_alloc_new w _)]
  have := hv
  rw [← List.getElem?_toArray] at this
  exact this
/-- The words moved on by one place, the upper j of them. -/
def sft (l : List Int) : Nat → List Int
  | 0 => l
  | j + 1 => (sft l j).set (7 - j) (l.getD (6 - j) 0)
theorem sft_len (l : List Int) : ∀ j, (sft l j).length = l.length
  | 0 => rfl
  | j + 1 => by simp [sft, sft_len l j]
theorem sft_get (v : V8) : ∀ j, j < 7 → (sft v.list j).getD (6 - j) 0 = v.list.getD (6 - j) 0
  | 0, _ | 1, _ | 2, _ | 3, _ | 4, _ | 5, _ | 6, _ => rfl
theorem sft_all (v : V8) : sft v.list 7 = [v.a, v.a, v.b, v.c, v.d, v.e, v.f, v.g] := rfl
theorem u32_set (l : List Int) (i : Nat) (x : Int) : (u32s l).set i (.int .u32 x) = u32s (l.set i x) := by unfold u32s; rw [← List.map_set]
theorem own_word {w : World} {base g cap i : Nat} {l : List Int} (h : w.ownsRow base 149 1 (.slice (some ⟨g, 0, none⟩) 8 cap) 8 (u32s l)) (hi : i < 8) : w.cell? ⟨g, i, none⟩ = some (.int .u32 (l.getD i 0)) ∧ w.frozen? ⟨g, i, none⟩ = false := by
  have hl : l.length = 8 := by have := h.1; simpa [u32s] using this
  refine ⟨?_, h.frozenAt i⟩
  rw [h.cellAt i (by omega)]
  unfold u32s
  rw [List.getElem?_map, List.getElem?_eq_getElem (by omega), List.getD_eq_getElem?_getD, List.getElem?_eq_getElem (by omega)]
  rfl
theorem own_put {w : World} {base g cap : Nat} {l : List Int} (h : w.ownsRow base 149 1 (.slice (some ⟨g, 0, none⟩) 8 cap) 8 (u32s l)) (i : Nat) (x : Int) : (w.setCell ⟨g, i, none⟩ (.int .u32 x)).ownsRow base 149 1 (.slice (some ⟨g, 0, none⟩) 8 cap) 8 (u32s (l.set i x)) := by
  rw [← u32_set]
  exact (h.stored i (.int .u32 x)).1
theorem heap_put (w : World) (g b i : Nat) (u : Value) (h : b ≠ g) : (w.setCell ⟨g, i, none⟩ u).heap[b]? = w.heap[b]? := Below.heap_setCell w ⟨g, i, none⟩ u b h
set_option maxRecDepth 100000 in
set_option maxHeartbeats 1000000 in
theorem l1Mix (v : V8) (A : Option Addr) (c : Nat) (s : ByteArray) (w : World) (hs : s.size = 64) (hv : ∀ z ∈ v.list, 0 ≤ z ∧ z ≤ 4294967295) (hx : Rd w w.heap.size 1 A 8 (u32s v.list)) :
    Calls Tryd.prog 155 #[.slice A 8 c, .string s] w fun e w' => ∃ u, e = .returned u ∧ w'.ownsRow w.heap.size 149 1 u 8 (u32s (compV v s.data.toList).list) ∧ Below w.heap.size w w' := by
  obtain ⟨i0, hi, hz0, hz1, hz2⟩ := info_parts infoW
  have HX := Lib.hid hx
  clear hx
  go_enter Tryd.func155, Tryd.ntmps155
  go_wp2_with (at_make; refine wpList_make_full _ rfl _ _ 162 rfl w.heap.size 149 i0 _ 1 Tryd.underlying162 hi hz0 hz1 .i64 .i64 _ _ 64 rfl rfl (by omega) (by omega) (by rw [hz2]; omega) (by unfold maxLen; omega) (by simp) ?_; intro w2 hown2 hgrow2)
  have hb2 : Below w.heap.size w w2 := (Below.refl _ _).grown hgrow2 (by simp) (fun k hk => by cases hk)
  have hg2 := made_u32 hown2
  clear hgrow2 hown2
  have hdl : s.data.toList.length = 64 := by simp [hs]
  go_loopw [6] (fun i wr => ∃ k : Nat, k ≤ 16 ∧ i = .int .i64 k ∧ wr.heap[w.heap.size]? = some (.cells (wordsA (schedL s.data.toList k)) 149 (0, 0)) ∧ Below w.heap.size w wr) (fun i _ => 16 - (intOf i).toNat)
  case atStart => exact ⟨0, by omega, rfl, hg2, hb2⟩
  case round =>
    obtain ⟨k, hk, rfl, hg, hb⟩ := hrel
    clear hg2 hb2
    have HG := Lib.hid hg
    clear hg
    by_cases hlt : k < 16
    · have hf : wr.frozen? ⟨w.heap.size, k, none⟩ = false := frozen_of_row wr _ k _ _ HG.out
      obtain ⟨u, hu⟩ := wordsA_some (schedL s.data.toList k) k (by rw [schedL_len]; omega) (by omega)
      have hcu : wr.cell? ⟨w.heap.size, k, none⟩ = some u := by rw [cell_of_row wr _ k _ _ _ HG.out, hu]
      clear hu
      go_wp2
      have v0 : IntKind.i64.wrap (4 * (k : Int)) = 4 * (k : Int) := by rw [IntKind.wrap_i64]; omega
      have v1 : IntKind.i64.wrap (4 * (k : Int) + 1) = 4 * (k : Int) + 1 := by rw [IntKind.wrap_i64]; omega
      have v2 : IntKind.i64.wrap (4 * (k : Int) + 2) = 4 * (k : Int) + 2 := by rw [IntKind.wrap_i64]; omega
      have v3 : IntKind.i64.wrap (4 * (k : Int) + 3) = 4 * (k : Int) + 3 := by rw [IntKind.wrap_i64]; omega
      have n0 : (4 * (k : Int)).toNat = 4 * k := by omega
      have n1 : (4 * (k : Int) + 1).toNat = 4 * k + 1 := by omega
      have n2 : (4 * (k : Int) + 2).toNat = 4 * k + 2 := by omega
      have n3 : (4 * (k : Int) + 3).toNat = 4 * k + 3 := by omega
      have p0 : 0 ≤ 4 * (k : Int) := by omega
      have p0' : 4 * (k : Int) < (s.size : Int) := by omega
      have p1 : 0 ≤ 4 * (k : Int) + 1 := by omega
      have p1' : 4 * (k : Int) + 1 < (s.size : Int) := by omega
      have p2 : 0 ≤ 4 * (k : Int) + 2 := by omega
      have p2' : 4 * (k : Int) + 2 < (s.size : Int) := by omega
      have p3 : 0 ≤ 4 * (k : Int) + 3 := by omega
      have p3' : 4 * (k : Int) + 3 < (s.size : Int) := by omega
      have pk : 0 ≤ (k : Int) := by omega
      have pk' : (k : Int) < 64 := by omega
      have q0 : 4 * k < s.size := by omega
      have q1 : 4 * k + 1 < s.size := by omega
      have q2 : 4 * k + 2 < s.size := by omega
      have q3 : 4 * k + 3 < s.size := by omega
      clear hdl
      have x0 := idx_str (P := Tryd.prog) 9 s (4 * (k : Int)) (4 * k) Tryd.underlying9 (by omega) q0
      have x1 := idx_str (P := Tryd.prog) 9 s (4 * (k : Int) + 1) (4 * k + 1) Tryd.underlying9 (by omega) q1
      have x2 := idx_str (P := Tryd.prog) 9 s (4 * (k : Int) + 2) (4 * k + 2) Tryd.underlying9 (by omega) q2
      have x3 := idx_str (P := Tryd.prog) 9 s (4 * (k : Int) + 3) (4 * k + 3) Tryd.underlying9 (by omega) q3
      have b0 := ((s.data.toList[4 * k]?).getD 0).toNat_lt
      have b1 := ((s.data.toList[4 * k + 1]?).getD 0).toNat_lt
      have b2 := ((s.data.toList[4 * k + 2]?).getD 0).toNat_lt
      have b3 := ((s.data.toList[4 * k + 3]?).getD 0).toNat_lt
      clear p0 p1 p2 p3 p0' p1' p2' p3' n0 n1 n2 n3
      have hsl : schedL s.data.toList (k + 1) = schedL s.data.toList k ++ [be4 (s.data[4 * k]?.getD 0) (s.data[4 * k + 1]?.getD 0) (s.data[4 * k + 2]?.getD 0) (s.data[4 * k + 3]?.getD 0)] := by
        rw [sched_lo _ k hlt]; simp only [Array.getElem?_toList]
      have HSL := Lib.hid hsl
      clear hsl
      go_still_tail 31, (by kernel_rfl)
      rw [be4_eq]
      clear v0 v1 v2 v3 x0 x1 x2 x3 b0 b1 b2 b3 q0 q1 q2 q3
      generalize hx : be4 (s.data[4 * k]?.getD 0) (s.data[4 * k + 1]?.getD 0) (s.data[4 * k + 2]?.getD 0) (s.data[4 * k + 3]?.getD 0) = x at *
      have R := arr_step (x := x) HG.out (schedL_len _ k) (by omega)
      rw [← HSL.out] at R
      have HR := Lib.hid R
      clear R hx HSL
      change wpList _ _ _ _ _ wr.drew
      go_wp2
      go_roundw
      case rel => exact ⟨k + 1, by omega, by go_num, HR.out, (hb.drew).setCell (Nat.le_refl _) _⟩
      case measure => simp [intOf]; omega
    · obtain rfl : k = 16 := by omega
      rw [show ((16 : Nat) : Int) = 16 from rfl]
      generalize hsl : s.data.toList = l at *
      have HSD := Lib.hid hsl
      clear hsl
      go_wp2_with fail
      go_loopw [7] (fun i wr => ∃ k : Nat, 16 ≤ k ∧ k ≤ 64 ∧ i = .int .i64 k ∧ wr.heap[w.heap.size]? = some (.cells (wordsA (schedL l k)) 149 (0, 0)) ∧ Below w.heap.size w wr) (fun i _ => 64 - (intOf i).toNat)
      case atStart => exact ⟨16, by omega, by omega, rfl, HG.out, hb⟩
      case round =>
        clear HG hb
        obtain ⟨k, hk0, hk1, rfl, hg, hb⟩ := hrel
        have HG := Lib.hid hg
        clear hg
        by_cases hlt : k < 64
        · have rd : ∀ i, i < k → wr.cell? ⟨w.heap.size, i, none⟩ = some (.int .u32 ((schedL l k).getD i 0)) := fun i hi => by
            rw [cell_of_row wr _ i _ _ _ HG.out, wordsA_get _ _ (by rw [schedL_len]; exact hi)]
          have c16 := rd (k - 16) (by omega)
          have c15 := rd (k - 15) (by omega)
          have c7 := rd (k - 7) (by omega)
          have c2 := rd (k - 2) (by omega)
          have q16 := schedL_bd l k (k - 16)
          have q15 := schedL_bd l k (k - 15)
          have q7 := schedL_bd l k (k - 7)
          have q2 := schedL_bd l k (k - 2)
          have hf : wr.frozen? ⟨w.heap.size, k, none⟩ = false := frozen_of_row wr _ k _ _ HG.out
          obtain ⟨u, hu⟩ := wordsA_some (schedL l k) k (by rw [schedL_len]; omega) (by omega)
          have hcu : wr.cell? ⟨w.heap.size, k, none⟩ = some u := by rw [cell_of_row wr _ k _ _ _ HG.out, hu]
          have HN : Hid (nextW (schedL l k) k = ((schedL l k).getD (k - 16) 0 + sig0 ((schedL l k).getD (k - 15) 0) + (schedL l k).getD (k - 7) 0 + sig1 ((schedL l k).getD (k - 2) 0)) % 4294967296) := Lib.hid rfl
          clear rd hu
          generalize (schedL l k).getD (k - 16) 0 = y16 at *
          generalize (schedL l k).getD (k - 15) 0 = y15 at *
          generalize (schedL l k).getD (k - 7) 0 = y7 at *
          generalize (schedL l k).getD (k - 2) 0 = y2 at *
          obtain ⟨q15a, q15b⟩ := q15
          obtain ⟨q2a, q2b⟩ := q2
          have m15 : ((k : Int) - 15).toNat = k - 15 := by omega
          have m2 : ((k : Int) - 2).toNat = k - 2 := by omega
          have m16 : ((k : Int) - 16).toNat = k - 16 := by omega
          have m7 : ((k : Int) - 7).toNat = k - 7 := by omega
          have d15 : 0 ≤ (k : Int) - 15 := by omega
          have d15' : (k : Int) - 15 < 64 := by omega
          have d2 : 0 ≤ (k : Int) - 2 := by omega
          have d2' : (k : Int) - 2 < 64 := by omega
          go_wp2_with fail
          have v16 : IntKind.i64.wrap ((k : Int) - 16) = (k : Int) - 16 := by rw [IntKind.wrap_i64]; omega
          have v7 : IntKind.i64.wrap ((k : Int) - 7) = (k : Int) - 7 := by rw [IntKind.wrap_i64]; omega
          have d16 : 0 ≤ (k : Int) - 16 := by omega
          have d16' : (k : Int) - 16 < 64 := by omega
          have d7 : 0 ≤ (k : Int) - 7 := by omega
          have d7' : (k : Int) - 7 < 64 := by omega
          have x16 : (16 : Int) ≤ (k : Int) := by omega
          have x7 : (7 : Int) ≤ (k : Int) := by omega
          have y16' : (k : Int) < 64 + 16 := by omega
          have y7' : (k : Int) < 64 + 7 := by omega
          have z16' : (k : Int) < 80 := by omega
          have z7' : (k : Int) < 71 := by omega
          have dk : 0 ≤ (k : Int) := by omega
          have dk' : (k : Int) < 64 := by omega
          have o16 : k - 16 ≠ k := by omega
          have o7 : k - 7 ≠ k := by omega
          have o16' : k ≠ k - 16 := by omega
          have o7' : k ≠ k - 7 := by omega
          go_region_held3 (fun w' => w'.cell? ⟨w.heap.size, k - 16, none⟩ = some (.int .u32 y16) ∧ w'.cell? ⟨w.heap.size, k - 7, none⟩ = some (.int .u32 y7))
            (first | (go_keep; done) | (refine ⟨?_, ?_⟩ <;> (simp [*, go_sem]; done)))
            (first
              | (go_at_call 159; with_reducible refine (Turn.l1Turn _ _ _ (by omega) (by omega) (by omega) (by omega)).mono ?_; rintro e' w' ⟨rfl, rfl⟩))
          have hv : IntKind.u32.wrap (IntKind.u32.wrap (IntKind.u32.wrap (y16 + y7) + bits .xor .u32 (bits .xor .u32 (Turn.rotR y15 7) (Turn.rotR y15 18)) (y15 / 8)) + bits .xor .u32 (bits .xor .u32 (Turn.rotR y2 17) (Turn.rotR y2 19)) (y2 / 1024)) = nextW (schedL l k) k := by
            rw [nest_add, HN.out]; unfold sig0 sig1; congr 1; omega
          rw [hv]
          clear hv HN v16 v7 d16 d16' d7 d7' x16 x7 y16' y7' z16' z7' m15 m2 m16 m7 d15 d15' d2 d2' c16 c15 c7 c2
          generalize hx : nextW (schedL l k) k = x
          have R := arr_step (x := x) HG.out (schedL_len l k) (by omega)
          rw [← hx, ← sched_hi l k hk0, hx] at R
          have HR := Lib.hid R
          clear R hx
          go_wp2
          go_roundw
          case rel => exact ⟨k + 1, by omega, by omega, by go_num, HR.out, (hb.setCell (Nat.le_refl _) _).drew⟩
          case measure => simp [intOf]; omega
        · obtain rfl : k = 64 := by omega
          rw [show ((64 : Nat) : Int) = 64 from rfl]
          obtain ⟨b, off, rfl, hbB, hc8⟩ := HX.out.2 (by omega)
          have hbz := hb.size
          have hold : Hid (∀ W, Below w.heap.size w W → ∀ j u, (u32s v.list)[j]? = some u → W.cell? ((⟨b, off, none⟩ : Addr).add j) = some u) := Lib.hid (fun W hW j u hu => by
            have ha : (⟨b, off, none⟩ : Addr).add j = ⟨b, off + j, none⟩ := by unfold Addr.add; split <;> simp_all
            rw [ha, hW.cell (p := ⟨b, off + j, none⟩) hbB]
            exact hc8 j u hu)
          clear hc8
          have hgS : w.heap.size < wr.heap.size := (Array.getElem?_eq_some_iff.1 HG.out).1
          go_wp2_with (at_builtin; refine wpList_append_lies _ rfl _ _ _ rfl (w.heap.size + 1) 149 i0 _ 1 4 Tryd.underlying162 hi hz0 hz1 hz2 rfl (by omega) _ 0 [] rfl (World.ownsRow_lit wr #[] 0 (by omega) (by unfold maxLen; omega) rfl) ⟨b, off, none⟩ 8 c (u32s v.list) rfl rfl (hold.out _ (hb.alloc hbz _)) (by intro u hu; obtain ⟨z, _, rfl⟩ := List.mem_map.1 hu; rfl) (by omega) (by unfold maxLen; omega) (by omega) (by simp; omega) (wr.heap.size + 1) (by simp) ?_; intro gV cap w3 hown3 hgrow3 hat3 hlt3; have hgr3 : (wr.alloc (.cells #[] 149)).grownBy w3 (some wr.heap.size) := hgrow3; have hO3 : w3.ownsRow (w.heap.size + 1) 149 1 (.slice (some ⟨gV, 0, none⟩) 8 cap) 8 (u32s v.list) := hown3; clear hgrow3 hat3 hown3)
          have hV1 : w.heap.size + 1 ≤ gV := (hO3.lt gV rfl).1
          have hB3 : Below w.heap.size w w3 := (hb.alloc hbz _).grown hgr3 (by simp; omega) (fun k hk => by injection hk with hk; omega)
          have hG3 : w3.heap[w.heap.size]? = some (.cells (wordsA (schedL l 64)) 149 (0, 0)) := ((hgr3.block w.heap.size (by simp; omega) (by intro e; injection e with e; omega)).trans (Below.heap_alloc _ _ _ hgS)).trans HG.out
          have hz3 := hB3.size
          have HO3 := Lib.hid hO3
          have HG3 := Lib.hid hG3
          clear hO3 hG3 HG hb hgr3 hbz hgS
          go_wp2_with fail
          refine (constsOf w3).mono ?_
          rintro e w4 ⟨rfl, hK4, hb4, hz4⟩
          have hB4 : Below w.heap.size w w4 := hB3.trans (hb4.mono hz3)
          have HO4 := Lib.hid (Mark.own_below HO3.out hb4 (Nat.le_refl _))
          have HG4 : Hid (w4.heap[w.heap.size]? = some (.cells (wordsA (schedL l 64)) 149 (0, 0))) := Lib.hid ((hb4.block w.heap.size (by have := (Array.getElem?_eq_some_iff.1 HG3.out).1; omega)).trans HG3.out)
          have HK4 := Lib.hid hK4
          clear hK4 hb4 HO3 HG3 hB3
          have hSl := schedL_len l 64
          generalize hgK : w3.heap.size = gK at *
          have hVK : gV < gK := by omega
          clear hgK
          have hSb : Hid (∀ i, 0 ≤ (schedL l 64).getD i 0 ∧ (schedL l 64).getD i 0 ≤ 4294967295) := Lib.hid (fun i => schedL_bd l 64 i)
          have HCV : Hid (compV v l = addV v (rounds v (schedL l 64) 64)) := Lib.hid rfl
          have HSL := Lib.hid hSl
          clear hSl
          generalize schedL l 64 = S at *
          have HV : Hid v.ok := Lib.hid (words_ok hv)
          have HVV := Lib.hid hv
          clear hv
          go_wp2
          go_loopw [12] (fun t wr => ∃ k : Nat, k ≤ 64 ∧ t = .int .i64 k ∧ wr.ownsRow (w.heap.size + 1) 149 1 (.slice (some ⟨gV, 0, none⟩) 8 cap) 8 (u32s (rounds v S k).list) ∧ wr.heap[w.heap.size]? = some (.cells (wordsA S) 149 (0, 0)) ∧ wr.rangeAt gK 0 (u32s consts) ∧ Below w.heap.size w wr) (fun t _ => 64 - (intOf t).toNat)
          case atStart => exact ⟨0, by omega, rfl, HO4.out, HG4.out, HK4.out, hB4⟩
          case round =>
            clear HO4 HG4 HK4 hB4
            obtain ⟨k, hk, rfl, hO, hG, hK, hb⟩ := hrel
            by_cases hlt : k < 64
            · have hok := rounds_ok v S HV.out k
              have HR : Hid (rounds v S (k + 1) = rnd (rounds v S k) ((consts.getD k 0 + S.getD k 0) % 4294967296)) := Lib.hid rfl
              have hcS : wr.cell? ⟨w.heap.size, k, none⟩ = some (.int .u32 (S.getD k 0)) := by rw [cell_of_row wr _ k _ _ _ hG, wordsA_get _ _ (by rw [HSL.out]; exact hlt)]
              have hcK : wr.cell? ⟨gK, k, none⟩ = some (.int .u32 (consts.getD k 0)) := by
                have := hK k (.int .u32 (consts.getD k 0)) (by unfold u32s; rw [List.getElem?_map, List.getElem?_eq_getElem (by show k < 64; exact hlt), List.getD_eq_getElem?_getD, List.getElem?_eq_getElem (by show k < 64; exact hlt)]; rfl)
                rwa [Nat.zero_add] at this
              generalize rounds v S k = V at *
              generalize S.getD k 0 = sk at *
              generalize consts.getD k 0 = kk at *
              obtain ⟨c0, f0⟩ := own_word hO (i := 0) (by omega)
              obtain ⟨c1, f1⟩ := own_word hO (i := 1) (by omega)
              obtain ⟨c2, f2⟩ := own_word hO (i := 2) (by omega)
              obtain ⟨c4, f4⟩ := own_word hO (i := 4) (by omega)
              obtain ⟨c5, f5⟩ := own_word hO (i := 5) (by omega)
              obtain ⟨c6, f6⟩ := own_word hO (i := 6) (by omega)
              obtain ⟨c7, f7⟩ := own_word hO (i := 7) (by omega)
              obtain ⟨x0, x1, x2, x3, x4, x5, x6, x7⟩ := V
              obtain ⟨⟨ha0, ha1⟩, he0, he1⟩ := hok
              dsimp only [V8.list, List.getD_cons_zero, List.getD_cons_succ] at c0 c1 c2 c4 c5 c6 c7 ha0 ha1 he0 he1
              have HO := Lib.hid hO
              have HG := Lib.hid hG
              have HK := Lib.hid hK
              clear hO hG hK f0 f1 f2 f4 f5 f6 f7
              have i1 : (k : Int) < 64 := by omega
              have i0' : (0 : Int) ≤ (k : Int) := by omega
              go_wp2_with fail
              go_quiet ((go_at_call 159; exact Calls.quiet_of_same (turnS _ _ _ (by omega) (by omega) (by omega) (by omega))))
              generalize hone : ((x7 + bits .xor .u32 (bits .xor .u32 (Turn.rotR x4 6) (Turn.rotR x4 11)) (Turn.rotR x4 25) + bits .xor .u32 (bits .and .u32 x4 x5) (bits .and .u32 (bits .xor .u32 (if IntKind.u32.signed = true then -1 else IntKind.u32.max) x4) x6) + kk) % 4294967296 + sk) % 4294967296 = one
              have H1 : Hid (one = (x7 + bigS1 x4 + chF x4 x5 x6 + (kk + sk) % 4294967296) % 4294967296) := Lib.hid (by
                rw [← hone]
                show ((x7 + bigS1 x4 + chF x4 x5 x6 + kk) % 4294967296 + sk) % 4294967296 = _
                omega)
              clear hone
              have hB1 : Below wr.heap.size wr (wr.drewN nq) := below_drewN (Below.refl _ wr) nq
              have d0 : (wr.drewN nq).cell? ⟨gV, 0, none⟩ = some (.int .u32 x0) := c0
              have d1 : (wr.drewN nq).cell? ⟨gV, 1, none⟩ = some (.int .u32 x1) := c1
              have d2 : (wr.drewN nq).cell? ⟨gV, 2, none⟩ = some (.int .u32 x2) := c2
              have HO1 := Lib.hid (Mark.own_below HO.out hB1 (Nat.le_refl _))
              have HG1 : Hid ((wr.drewN nq).heap[w.heap.size]? = some (.cells (wordsA S) 149 (0, 0))) := HG
              have HK1 : Hid ((wr.drewN nq).rangeAt gK 0 (u32s consts)) := HK
              have hb1 := below_drewN hb nq
              generalize wr.drewN nq = W1 at *
              clear c0 c1 c2 c4 c5 c6 c7 hcS hcK HO HG HK hb hB1 i1 i0'
              go_wp2_with fail
              go_quiet ((go_at_call 159; exact Calls.quiet_of_same (turnS _ _ _ (by omega) (by omega) (by omega) (by omega))))
              generalize htwo : (bits .xor .u32 (bits .xor .u32 (Turn.rotR x0 2) (Turn.rotR x0 13)) (Turn.rotR x0 22) + bits .xor .u32 (bits .xor .u32 (bits .and .u32 x0 x1) (bits .and .u32 x0 x2)) (bits .and .u32 x1 x2)) % 4294967296 = two
              have H2 : Hid (two = (bigS0 x0 + majF x0 x1 x2) % 4294967296) := Lib.hid htwo.symm
              clear htwo
              rename Nat => nq2
              have hB2 : Below W1.heap.size W1 (W1.drewN nq2) := below_drewN (Below.refl _ W1) nq2
              have HO2 := Lib.hid (Mark.own_below HO1.out hB2 (Nat.le_refl _))
              have HG2 : Hid ((W1.drewN nq2).heap[w.heap.size]? = some (.cells (wordsA S) 149 (0, 0))) := HG1
              have HK2 : Hid ((W1.drewN nq2).rangeAt gK 0 (u32s consts)) := HK1
              have hb2 := below_drewN hb1 nq2
              generalize W1.drewN nq2 = W2 at *
              clear d0 d1 d2 HO1 HG1 HK1 hb1 hB2
              have ho1 : 0 ≤ one ∧ one ≤ 4294967295 := by rw [H1.out]; omega
              have ht1 : 0 ≤ two ∧ two ≤ 4294967295 := by rw [H2.out]; omega
              go_wp2_with fail
              go_loopw [17] (fun i wr => ∃ j : Nat, j ≤ 7 ∧ i = .int .i64 (7 - (j : Int)) ∧ wr.ownsRow (w.heap.size + 1) 149 1 (.slice (some ⟨gV, 0, none⟩) 8 cap) 8 (u32s (sft [x0, x1, x2, x3, x4, x5, x6, x7] j)) ∧ wr.heap[w.heap.size]? = some (.cells (wordsA S) 149 (0, 0)) ∧ wr.rangeAt gK 0 (u32s consts) ∧ Below w.heap.size w wr) (fun i _ => (intOf i).toNat)
              case atStart => exact ⟨0, by omega, rfl, HO2.out, HG2.out, HK2.out, hb2⟩
              case round =>
                clear HO2 HG2 HK2 hb2
                obtain ⟨j, hj, rfl, hO, hG, hK, hb⟩ := hrel
                have HO := Lib.hid hO
                have HG := Lib.hid hG
                have HK := Lib.hid hK
                clear hO hG hK
                by_cases hlt7 : j < 7
                · have hg6 := sft_get ⟨x0, x1, x2, x3, x4, x5, x6, x7⟩ j hlt7
                  obtain ⟨e6, _⟩ := own_word HO.out (i := 6 - j) (by omega)
                  obtain ⟨e7, f7⟩ := own_word HO.out (i := 7 - j) (by omega)
                  have hP := own_put HO.out (7 - j) ([x0, x1, x2, x3, x4, x5, x6, x7].getD (6 - j) 0)
                  have hP' : (wr.setCell ⟨gV, 7 - j, none⟩ (.int .u32 ([x0, x1, x2, x3, x4, x5, x6, x7].getD (6 - j) 0))).ownsRow (w.heap.size + 1) 149 1 (.slice (some ⟨gV, 0, none⟩) 8 cap) 8 (u32s (sft [x0, x1, x2, x3, x4, x5, x6, x7] (j + 1))) := hP
                  have hg6' : (sft [x0, x1, x2, x3, x4, x5, x6, x7] j).getD (6 - j) 0 = [x0, x1, x2, x3, x4, x5, x6, x7].getD (6 - j) 0 := hg6
                  rw [hg6'] at e6
                  have HP := Lib.hid hP'
                  clear hP hP' hg6 hg6'
                  generalize [x0, x1, x2, x3, x4, x5, x6, x7].getD (6 - j) 0 = y at *
                  generalize (sft [x0, x1, x2, x3, x4, x5, x6, x7] j).getD (7 - j) 0 = y7 at *
                  have s7 : (7 - (j : Int)).toNat = 7 - j := by omega
                  have s6 : (7 - (j : Int) - 1).toNat = 6 - j := by omega
                  have p7 : 0 ≤ 7 - (j : Int) := by omega
                  have p6 : 0 ≤ 7 - (j : Int) - 1 := by omega
                  have q7 : 7 - (j : Int) < 8 := by omega
                  have q6 : 7 - (j : Int) - 1 < 8 := by omega
                  have hBn := hb.setCell (p := ⟨gV, 7 - j, none⟩) (show w.heap.size ≤ gV by omega) (.int .u32 y)
                  have hGn : (wr.setCell ⟨gV, 7 - j, none⟩ (.int .u32 y)).heap[w.heap.size]? = some (.cells (wordsA S) 149 (0, 0)) := (heap_put wr gV w.heap.size (7 - j) (.int .u32 y) (by omega)).trans HG.out
                  have hKn : (wr.setCell ⟨gV, 7 - j, none⟩ (.int .u32 y)).rangeAt gK 0 (u32s consts) := rangeAt_heap (heap_put wr gV gK (7 - j) (.int .u32 y) (by omega)) HK.out
                  have HGn := Lib.hid hGn
                  have HKn := Lib.hid hKn
                  clear hGn hKn
                  go_wp2
                  go_roundw
                  case rel => exact ⟨j + 1, by omega, by go_num, HP.out, HGn.out, HKn.out, hBn⟩
                  case measure => simp [intOf]; omega
                · obtain rfl : j = 7 := by omega
                  have hO7 : wr.ownsRow (w.heap.size + 1) 149 1 (.slice (some ⟨gV, 0, none⟩) 8 cap) 8 (u32s [x0, x0, x1, x2, x3, x4, x5, x6]) := HO.out
                  obtain ⟨e4, f4⟩ := own_word hO7 (i := 4) (by omega)
                  have hP4 := own_put hO7 4 ((x3 + one) % 4294967296)
                  obtain ⟨e0, f0⟩ := own_word hP4 (i := 0) (by omega)
                  have hP0 := own_put hP4 0 ((one + two) % 4294967296)
                  have hE : rounds v S (k + 1) = ⟨(one + two) % 4294967296, x0, x1, x2, (x3 + one) % 4294967296, x4, x5, x6⟩ := by
                    rw [HR.out]
                    unfold rnd newA newE
                    dsimp only
                    have e1 : (x7 + bigS1 x4 + chF x4 x5 x6 + (kk + sk) % 4294967296 + (bigS0 x0 + majF x0 x1 x2)) % 4294967296 = (one + two) % 4294967296 := by rw [H1.out, H2.out]; omega
                    have e2 : (x3 + (x7 + bigS1 x4 + chF x4 x5 x6 + (kk + sk) % 4294967296)) % 4294967296 = (x3 + one) % 4294967296 := by rw [H1.out]; omega
                    rw [e1, e2]
                  have hF : ((wr.setCell ⟨gV, 4, none⟩ (.int .u32 ((x3 + one) % 4294967296))).setCell ⟨gV, 0, none⟩ (.int .u32 ((one + two) % 4294967296))).ownsRow (w.heap.size + 1) 149 1 (.slice (some ⟨gV, 0, none⟩) 8 cap) 8 (u32s (rounds v S (k + 1)).list) := by rw [hE]; exact hP0
                  have HF := Lib.hid hF
                  have hBn := (hb.setCell (p := ⟨gV, 4, none⟩) (show w.heap.size ≤ gV by omega) (.int .u32 ((x3 + one) % 4294967296))).setCell (p := ⟨gV, 0, none⟩) (show w.heap.size ≤ gV by omega) (.int .u32 ((one + two) % 4294967296))
                  have HGn : Hid (((wr.setCell ⟨gV, 4, none⟩ (.int .u32 ((x3 + one) % 4294967296))).setCell ⟨gV, 0, none⟩ (.int .u32 ((one + two) % 4294967296))).heap[w.heap.size]? = some (.cells (wordsA S) 149 (0, 0))) := Lib.hid (((heap_put _ gV w.heap.size 0 _ (by omega)).trans (heap_put wr gV w.heap.size 4 _ (by omega))).trans HG.out)
                  have HKn : Hid (((wr.setCell ⟨gV, 4, none⟩ (.int .u32 ((x3 + one) % 4294967296))).setCell ⟨gV, 0, none⟩ (.int .u32 ((one + two) % 4294967296))).rangeAt gK 0 (u32s consts)) := Lib.hid (rangeAt_heap ((heap_put _ gV gK 0 _ (by omega)).trans (heap_put wr gV gK 4 _ (by omega))) HK.out)
                  dsimp only [List.getD_cons_zero, List.getD_cons_succ, List.set_cons_zero, List.set_cons_succ] at e4 e0
                  have e4' : wr.cell? ⟨gV, 4, none⟩ = some (.int .u32 x3) := e4
                  have e0' : (wr.setCell ⟨gV, 4, none⟩ (.int .u32 ((x3 + one) % 4294967296))).cell? ⟨gV, 0, none⟩ = some (.int .u32 x0) := e0
                  clear hO7 hP4 hP0 hE hF e4 e0 HO HG HK HR
                  go_wp2
                  go_roundw
                  case rel => exact ⟨k + 1, by omega, by go_num, HF.out, HGn.out, HKn.out, hBn⟩
                  case measure => simp [intOf]; omega
            · obtain rfl : k = 64 := by omega
              generalize wr = w9 at *
              have hz9 := hb.size
              have HL : Hid (∀ j, j < 8 → (compV v l).list.getD j 0 = (v.list.getD j 0 + (rounds v S 64).list.getD j 0) % 4294967296) := Lib.hid (fun j hj => by rw [HCV.out]; exact addV_at v _ j hj)
              have HO := Lib.hid hO
              clear hO hG hK
              generalize rounds v S 64 = R at *
              rw [show ((64 : Nat) : Int) = 64 from rfl]
              go_wp2_with fail
              go_loopw [18, 205] (fun o i wr => ∃ j : Nat, j ≤ 8 ∧ i = .int .i64 j ∧ wr.ownsRow w9.heap.size 149 1 o j (u32s ((compV v l).list.take j)) ∧ Below w9.heap.size w9 wr) (fun _ i _ => 8 - (intOf i).toNat)
              case atStart => exact ⟨0, by omega, rfl, World.ownsRow_nil _ _ _ _, Below.refl _ _⟩
              case round =>
                obtain ⟨j, hj, rfl, hQ, hbq⟩ := hrel
                have HQ := Lib.hid hQ
                clear hQ
                have hzq := hbq.size
                by_cases hlt8 : j < 8
                · have hBq : Below w.heap.size w wr := hb.trans (hbq.mono hz9)
                  obtain ⟨cv, _⟩ := own_word (Mark.own_below HO.out hbq (Nat.le_refl _)) (i := j) hlt8
                  obtain ⟨cv9, _⟩ := own_word HO.out (i := j) hlt8
                  have hb9 : b < w9.heap.size := by omega
                  have hg9 : gV < w9.heap.size := (HO.out.lt gV rfl).2
                  have cw9 : w9.cell? ⟨b, off + j, none⟩ = some (.int .u32 (v.list.getD j 0)) := by
                    have := hold.out w9 hb j (.int .u32 (v.list.getD j 0)) (u32_at v j hlt8)
                    have ha : (⟨b, off, none⟩ : Addr).add j = ⟨b, off + j, none⟩ := by unfold Addr.add; split <;> simp_all
                    rwa [ha] at this
                  have cw : wr.cell? ⟨b, off + j, none⟩ = some (.int .u32 (v.list.getD j 0)) := by
                    have := hold.out wr hBq j (.int .u32 (v.list.getD j 0)) (u32_at v j hlt8)
                    have ha : (⟨b, off, none⟩ : Addr).add j = ⟨b, off + j, none⟩ := by unfold Addr.add; split <;> simp_all
                    rwa [ha] at this
                  have HLj := Lib.hid (HL.out j hlt8)
                  have HT := Lib.hid (take_word (compV v l) j hlt8)
                  have j0 : (0 : Int) ≤ (j : Int) := by omega
                  have j1 : (j : Int) < 8 := by omega
                  have hbw : b < wr.heap.size := by omega
                  have hgw : gV < wr.heap.size := by have := (HO.out.lt gV rfl).2; omega
                  generalize v.list.getD j 0 = p at *
                  generalize R.list.getD j 0 = q at *
                  go_wp2_with fail
                  go_region_held3 (fun w' => w'.cell? ⟨b, off + j, none⟩ = some (.int .u32 p) ∧ w'.cell? ⟨gV, j, none⟩ = some (.int .u32 q)) (first | (go_keep; done) | exact ⟨cw, cv⟩ | exact ⟨s1, s2⟩ | (refine ⟨?_, ?_⟩ <;> (simp [*, go_sem]; done))) ((refine step_append_lies _ (by rfl) _ _ _ (by rfl) w9.heap.size 149 i0 _ 1 4 Tryd.underlying162 hi hz0 hz1 hz2 rfl (by omega) _ j _ (by rfl) ((HQ.out.alloc _).drew) ⟨wr.heap.size, 0, none⟩ 1 1 _ (by rfl) (by rfl) (World.news_of_block (heap_alloc_new wr _)) (by simp [Value.oneCell']) (by omega) (by unfold maxLen; omega) (by omega) (by simp; omega) (wr.heap.size + 1) (by simp) ?_; intro g cap' w1 hown1 hgrow hat hlt1; have HA := Lib.hid (app_u32 ((hbq.alloc hzq _).drew) HQ.out hown1 (by rfl) hgrow); have s1 : w1.cell? ⟨b, off + j, none⟩ = some (.int .u32 p) := (HA.out.2.cell (p := ⟨b, off + j, none⟩) hb9).trans cw9; have s2 : w1.cell? ⟨gV, j, none⟩ = some (.int .u32 q) := (HA.out.2.cell (p := ⟨gV, j, none⟩) hg9).trans cv9; clear hown1 hgrow hat))
                  have HR : Hid (w1.ownsRow w9.heap.size 149 1 (.slice (some ⟨g, 0, none⟩) (j + 1) cap') (j + 1) (u32s ((compV v l).list.take (j + 1)))) := Lib.hid (by rw [HT.out, HLj.out, ← IntKind.wrap_u32]; exact HA.out.1)
                  have hBn := HA.out.2
                  clear HA s1 s2 cw cv cw9 cv9
                  go_wp2
                  go_roundw
                  case rel => exact ⟨j + 1, by omega, by go_num, HR.out, hBn⟩
                  case measure => simp [intOf]; omega
                · obtain rfl : j = 8 := by omega
                  have HF : Hid (wr.ownsRow w.heap.size 149 1 u18 8 (u32s (compV v l).list)) := Lib.hid (by have := own_base HQ.out (show w.heap.size ≤ w9.heap.size by omega); rw [take_all8] at this; exact this)
                  have hBq : Below w.heap.size w wr := hb.trans (hbq.mono hz9)
                  go_wp2
                  go_ret
                  refine ⟨u18, ?_, ?_, hBq⟩
                  · rfl
                  · rw [HSD.out]; exact HF.out
end Go.Proofs.YtmnihigackilkaaDoor.Mix
