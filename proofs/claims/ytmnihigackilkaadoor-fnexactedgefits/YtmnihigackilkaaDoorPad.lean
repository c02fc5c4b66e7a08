/-
  The padding of a string: contracts of the reference and of the program, and the walk of the law on PadText. For every string both answer alike, and nothing that was in memory is changed.
-/
import Derived.Test.YtmnihigackilkaaDoorRows
import Derived.Test.YtmnihigackilkaaDoorMem
import Derived.OpenShut
import Derived.ShutString
namespace Go.Proofs.YtmnihigackilkaaDoor.Pad
open Go.ChangeShapes Go.WideShapes Go.ChangeAt Go.RowKit
open Go.Proofs.YtmnihigackilkaaDoor.Mem
set_option linter.unusedVariables false
set_option maxRecDepth 100000

theorem infoB : (Tryd.prog.info? 5).map (fun i => (i.zero, i.size, i.bytes)) = some (some (.int .u8 0), 1, 1) := by kernel_rfl

def zeros (n : Nat) : Nat := (119 - n % 64) % 64
def byteAt (m i : Nat) : UInt8 := UInt8.ofNat (m / 2 ^ (8 * i))
def be (m : Nat) : List UInt8 := [byteAt m 7, byteAt m 6, byteAt m 5, byteAt m 4, byteAt m 3, byteAt m 2, byteAt m 1, byteAt m 0]
def tailL (n : Nat) : List UInt8 := 128 :: List.replicate (zeros n) 0 ++ be (8 * n)
theorem zeros_lt (n : Nat) : zeros n < 64 := by unfold zeros; omega
theorem zeros_test (n j : Nat) (h : j ≤ zeros n) : ((n + (1 + j)) % 64 = 56) = (j = zeros n) := by
  unfold zeros at *; apply propext; omega
theorem byteAt_val (m i : Nat) : ((byteAt m i).toNat : Int) = ((m / 2 ^ (8 * i) % 256 : Nat) : Int) := by
  unfold byteAt; rw [UInt8.toNat_ofNat']
theorem be_len (m : Nat) : (be m).length = 8 := rfl
theorem tailL_len (n : Nat) : (tailL n).length = 9 + zeros n := by unfold tailL; simp [be_len]; omega
theorem be_snoc (m j : Nat) (h : j < 8) : (be m).take (j + 1) = (be m).take j ++ [byteAt m (7 - j)] := by
  match j, h with
  | 0, _ | 1, _ | 2, _ | 3, _ | 4, _ | 5, _ | 6, _ | 7, _ => rfl
  | j + 8, h => omega

set_option maxHeartbeats 1000000 in
theorem l1Tail (n : Nat) (w : World) (hn : n ≤ 1000000) :
    Calls Tryd.prog 148 #[.int .i64 n] w fun e w' => e = .returned (.string ⟨(tailL n).toArray⟩) ∧ Below w.heap.size w w' := by
  obtain ⟨i0, hi, hz0, hz1, hz2⟩ := info_parts infoB
  have hz := zeros_lt n
  go_enter Tryd.func148, Tryd.ntmps148
  go_wp2
  have h0 : (w.alloc (.cells #[.int .u8 128] 5)).ownsRow w.heap.size 5 1 (.slice (some ⟨w.heap.size, 0, none⟩) 1 1) 1 #[.int .u8 128].toList := World.ownsRow_lit w _ 1 (Nat.le_refl _) (by decide) rfl
  go_loopw [3] (fun v wr => ∃ (j g cap : Nat), v = .slice (some ⟨g, 0, none⟩) (1 + j) cap ∧ j ≤ zeros n ∧ wr.ownsRow w.heap.size 5 1 v (1 + j) ((128 :: List.replicate j 0).map byteV) ∧ Below w.heap.size w wr)
    (fun v _ => 100 - slen v)
  case atStart => exact ⟨0, _, _, rfl, Nat.zero_le _, h0, (Below.refl _ _).alloc (Nat.le_refl _) _⟩
  case round =>
    obtain ⟨j, g, cap, rfl, hj, hown, hb⟩ := hrel
    clear h0
    by_cases hlt : j < zeros n
    · have ht : ((((n : Int) + (1 + (j : Int))) % 64) != 56) = true := by
        have := zeros_test n j hj
        rw [bne_iff_ne]; intro hc; have : j = zeros n := by rw [← this]; omega
        omega
      have HO := Lib.hid hown
      clear hown
      go_wp2_with (at_builtin; refine wpList_append_lies _ rfl _ _ _ rfl w.heap.size 5 i0 _ 1 1 Tryd.underlying22 hi hz0 hz1 hz2 rfl (by omega) _ (1 + j) _ rfl (HO.out.alloc _) ⟨wr.heap.size, 0, none⟩ 1 1 _ rfl rfl (World.news_of_block (heap_alloc_new wr _)) (by simp [Value.oneCell']) (by omega) (by unfold maxLen; omega) (by omega) (by have := hb.size; simp; omega) (wr.heap.size + 1) (by simp) ?_; intro g1 cap1 w1 hown1 hgrow hat hlt1)
      have R := app_step (new := [0]) (hb.alloc hb.size _) HO.out hown1 (by rfl) hgrow
      have HR := Lib.hid R
      clear R hown1 hgrow hat hlt1
      go_roundw
      case rel => exact ⟨j + 1, g1, cap1, by rw [show 1 + (j + 1) = 1 + j + 1 from by omega], by omega, own_congr HR.out.1 (by omega) (by rw [List.replicate_succ']; rfl), HR.out.2⟩
      case measure => simp [slen]; omega
    · obtain rfl : j = zeros n := by omega
      have ht : ((((n : Int) + (1 + (zeros n : Int))) % 64) != 56) = false := by
        have := zeros_test n (zeros n) (Nat.le_refl _)
        rw [bne_eq_false_iff_eq]; simp at this; omega
      have HO := Lib.hid hown
      have HT := Lib.hid ht
      clear hown
      go_wp2_with fail
      clear HT ht
      go_loopw [3, 4] (fun v i wr => ∃ (j g cap : Nat), j ≤ 8 ∧ i = .int .i64 (7 - (j : Int)) ∧ v = .slice (some ⟨g, 0, none⟩) (1 + zeros n + j) cap ∧ wr.ownsRow w.heap.size 5 1 v (1 + zeros n + j) ((128 :: List.replicate (zeros n) 0 ++ (be (8 * n)).take j).map byteV) ∧ Below w.heap.size w wr)
        (fun _ i _ => (intOf i + 1).toNat)
      case atStart => exact ⟨0, g, cap, by omega, rfl, rfl, by simpa using HO.out, hb⟩
      case round =>
        clear HO hb
        obtain ⟨j, g2, cap2, hj8, rfl, rfl, hown, hb⟩ := hrel
        have HO := Lib.hid hown
        clear hown
        by_cases hj : j < 8
        · go_wp2_with (at_builtin; refine wpList_append_lies _ rfl _ _ _ rfl w.heap.size 5 i0 _ 1 1 Tryd.underlying22 hi hz0 hz1 hz2 rfl (by omega) _ (1 + zeros n + j) _ rfl (HO.out.alloc _) ⟨_, 0, none⟩ 1 1 _ rfl rfl (World.news_of_block (heap_alloc_new _ _)) (by simp [Value.oneCell']) (by omega) (by unfold maxLen; omega) (by omega) (by have := hb.size; simp; omega) _ rfl ?_; intro g1 cap1 w1 hown1 hgrow hat hlt1)
          have R := app_step (new := [byteAt (8 * n) (7 - j)]) (hb.alloc hb.size _) HO.out hown1 (by simp [byteV, byteAt_val]) hgrow
          have HR := Lib.hid R
          clear R hown1 hgrow hat hlt1
          go_roundw
          case rel => exact ⟨j + 1, g1, cap1, by omega, by go_num, by rw [show 1 + zeros n + (j + 1) = 1 + zeros n + j + 1 from by omega], own_congr HR.out.1 (by omega) (by rw [be_snoc _ _ hj, List.append_assoc]), HR.out.2⟩
          case measure => simp [intOf]; omega
        · obtain rfl : j = 8 := by omega
          have hconv := run_own_string (P := Tryd.prog) wr 22 9 5 _ _ _ _ Tryd.underlying22 Tryd.underlying5 Tryd.underlying9 HO.out
          have e8 : 128 :: List.replicate (zeros n) 0 ++ (be (8 * n)).take 8 = tailL n := rfl
          rw [e8] at hconv
          clear HO e8
          go_wp2
          go_ret
          exact ⟨rfl, hb⟩

/-- The zero bytes that 'make' lays, as bytes. -/
theorem made_zero (n : Nat) : (madeCells (Value.int .u8 0).cells (n * 1)).toList = (List.replicate n (0 : UInt8)).map byteV := by
  have : (Value.int IntKind.u8 0).cells = #[.int .u8 0] := rfl
  rw [this, toList_madeCells_one, Nat.mul_one, List.map_replicate]; rfl
theorem made_facts {w : World} {B e g n cap : Nat} (h : w.ownsRow B e 1 (.slice (some ⟨g, 0, none⟩) n cap) n (madeCells (Value.int .u8 0).cells (n * 1)).toList) (hn : 0 < n) :
    w.cell? ⟨g, 0, none⟩ = some (.int .u8 0) ∧ w.frozen? ⟨g, 0, none⟩ = false ∧ Hid (w.ownsRow B e 1 (.slice (some ⟨g, 0, none⟩) n cap) n ((List.replicate n (0 : UInt8)).map byteV)) := by
  rw [made_zero] at h
  refine ⟨?_, h.frozenAt 0, Lib.hid h⟩
  rw [h.cellAt 0 (by omega)]
  simp [hn, byteV]
/-- The padding with its last j bytes written. -/
def padW (n j : Nat) : List UInt8 := 128 :: List.replicate (zeros n + (8 - j)) 0 ++ (be (8 * n)).drop (8 - j)
theorem padW_len (n j : Nat) (h : j ≤ 8) : (padW n j).length = 9 + zeros n := by unfold padW; simp [be_len]; omega
theorem padW_set (n j : Nat) (h : j < 8) : (padW n j).set (8 + zeros n - j) (byteAt (8 * n) j) = padW n (j + 1) := by
  have e : 8 + zeros n - j = 1 + (zeros n + (7 - j)) := by omega
  unfold padW
  have h1 : zeros n + (8 - j) = (zeros n + (7 - j)) + 1 := by omega
  have h2 : zeros n + (8 - (j + 1)) = zeros n + (7 - j) := by omega
  have h3 : (be (8 * n)).drop (8 - (j + 1)) = byteAt (8 * n) j :: (be (8 * n)).drop (8 - j) := by
    match j, h with
    | 0, _ | 1, _ | 2, _ | 3, _ | 4, _ | 5, _ | 6, _ | 7, _ => rfl
    | j + 8, h => omega
  rw [e, h1, h2, h3, List.replicate_succ']
  rw [show 1 + (zeros n + (7 - j)) = (zeros n + (7 - j)) + 1 from by omega]
  simp
theorem padW_end (n : Nat) : padW n 8 = tailL n := rfl
theorem map_set_byte (l : List UInt8) (i : Nat) (c : UInt8) : (l.set i c).map byteV = (l.map byteV).set i (byteV c) := List.map_set

set_option maxHeartbeats 1000000 in
theorem paddingOf (n : Nat) (w : World) (hn : n ≤ 1000000) :
    Calls Tryd.prog 136 #[.int .i64 n] w fun e w' => e = .returned (.string ⟨(tailL n).toArray⟩) ∧ Below w.heap.size w w' := by
  obtain ⟨i0, hi, hz0, hz1, hz2⟩ := info_parts infoB
  have hz := zeros_lt n
  have ez : ((119 : Int) - (n : Int) % 64) % 64 = (zeros n : Int) := by unfold zeros; omega
  go_enter Tryd.func136, Tryd.ntmps136
  go_wp2_with (at_make; refine wpList_make_full _ rfl _ _ 22 rfl w.heap.size 5 i0 _ 1 Tryd.underlying22 hi hz0 hz1 .i64 .i64 _ _ (9 + zeros n) rfl rfl (by omega) (by omega) (by rw [hz2]; omega) (by unfold maxLen; omega) (by simp) ?_; intro w2 hown2 hgrow2; obtain ⟨hc0, hf0, HO2⟩ := made_facts hown2 (by omega); clear hown2)
  have hb2 : Below w.heap.size w w2 := (Below.refl _ _).grown hgrow2 (by simp) (fun k hk => by cases hk)
  have hst := HO2.out.stored 0 (byteV 128)
  have hb3 : Below w.heap.size w (w2.setCell ⟨w.heap.size, 0, none⟩ (byteV 128)) := hb2.setCell (Nat.le_refl _) _
  have hown3 : (w2.setCell ⟨w.heap.size, 0, none⟩ (byteV 128)).ownsRow w.heap.size 5 1 (.slice (some ⟨w.heap.size, 0, none⟩) (9 + zeros n) (9 + zeros n)) (9 + zeros n) ((padW n 0).map byteV) := by
    refine own_congr hst.1 rfl ?_
    rw [← map_set_byte]
    congr 1
    unfold padW
    rw [show 9 + zeros n = (zeros n + 8) + 1 from by omega, List.replicate_succ]
    simp [be_len]
  clear hst hb2 hgrow2 HO2 hc0 hf0
  go_loopw [5, 20] (fun c i wr => ∃ j : Nat, j ≤ 8 ∧ i = .int .i64 j ∧ c = .int .u64 ((8 * n / 2 ^ (8 * j) : Nat) : Int) ∧ wr.ownsRow w.heap.size 5 1 (.slice (some ⟨w.heap.size, 0, none⟩) (9 + zeros n) (9 + zeros n)) (9 + zeros n) ((padW n j).map byteV) ∧ Below w.heap.size w wr)
    (fun _ i _ => 8 - (intOf i).toNat)
  case atStart => exact ⟨0, by omega, rfl, by simp; omega, hown3, hb3⟩
  case round =>
    obtain ⟨j, hj8, rfl, rfl, hown, hb⟩ := hrel
    clear hown3 hb3
    by_cases hj : j < 8
    · have hc := hown.cellAt (8 + zeros n - j) (by omega)
      have hl : 8 + zeros n - j < ((padW n j).map byteV).length := by simp [padW_len n j hj8]; omega
      rw [List.getElem?_eq_getElem hl] at hc
      have hf := hown.frozenAt (8 + zeros n - j)
      have HO := Lib.hid hown
      clear hown
      have hd0 : 8 * n / 2 ^ (8 * j) ≤ 8000000 := Nat.le_trans (Nat.div_le_self _ _) (by omega)
      have hd1 : 8 * n / 2 ^ (8 * j) / 256 = 8 * n / 2 ^ (8 * (j + 1)) := by rw [Nat.div_div_eq_div_mul, show 8 * (j + 1) = 8 * j + 8 from by omega, Nat.pow_add]
      have HD := Lib.hid hd1
      clear hd1
      have HB := Lib.hid (byteAt_val (8 * n) j)
      generalize 8 * n / 2 ^ (8 * j) = d at *
      have hv : Value.int .u8 ((d : Int) % 256) = byteV (byteAt (8 * n) j) := by unfold byteV; rw [HB.out]; simp
      have R := HO.out.stored (8 + zeros n - j) (byteV (byteAt (8 * n) j))
      rw [← map_set_byte, padW_set n j hj, ← hv] at R
      have HR := Lib.hid R
      clear R hv HB
      go_wp2
      go_roundw
      case rel => exact ⟨j + 1, by omega, by go_num, by rw [← HD.out]; simp, HR.out.1, hb.setCell (Nat.le_refl _) _⟩
      case measure => simp [intOf]; omega
    · obtain rfl : j = 8 := by omega
      have hconv := run_own_string (P := Tryd.prog) wr 22 9 5 _ _ _ _ Tryd.underlying22 Tryd.underlying5 Tryd.underlying9 hown
      rw [padW_end] at hconv
      clear hown
      go_wp2
      go_ret
      exact ⟨rfl, hb⟩

end Go.Proofs.YtmnihigackilkaaDoor.Pad
