/-
  All blocks of a text absorbed, by the specification.
-/
import Derived.Test.YtmnihigackilkaaDoorFeed
namespace Go.Proofs.YtmnihigackilkaaDoor.Feed2
open Go.ChangeShapes Go.WideShapes Go.ChangeAt Go.RowKit
open Go.Proofs.YtmnihigackilkaaDoor.Mem Go.Proofs.YtmnihigackilkaaDoor.Ints Go.Proofs.YtmnihigackilkaaDoor.State Go.Proofs.YtmnihigackilkaaDoor.ShaComp Go.Proofs.YtmnihigackilkaaDoor.ShaSched Go.Proofs.YtmnihigackilkaaDoor.ShaRound Go.Proofs.YtmnihigackilkaaDoor.Absorb Go.Proofs.YtmnihigackilkaaDoor.Mix Go.Proofs.YtmnihigackilkaaDoor.End Go.Proofs.YtmnihigackilkaaDoor.Feed
set_option linter.unusedVariables false
set_option maxRecDepth 100000

theorem ext_head (t : ByteArray) (m : Nat) (h : m + 64 ≤ t.size) : ((t.extract m t.size).extract 0 64).data.toList = (t.data.toList.drop m).take 64 ∧ ((t.extract m t.size).extract 0 64).size = 64 := by
  constructor
  · simp only [ByteArray.data_extract, Array.extract_extract, Array.toList_extract, List.extract_eq_take_drop]
    congr 1
    · have : t.data.size = t.size := rfl
      omega
  · simp; omega
theorem ext_tail (t : ByteArray) (m : Nat) (h : m + 64 ≤ t.size) : (t.extract m t.size).extract 64 (t.extract m t.size).size = t.extract (m + 64) t.size := by
  apply ByteArray.ext
  have h2 : (t.extract m t.size).size = t.size - m := by simp
  simp only [ByteArray.data_extract, Array.extract_extract, h2]
  congr 1
  omega
set_option maxHeartbeats 1000000 in
theorem l1Feed (u : Value) (v : V8) (s : ByteArray) (w : World) (hv : ∀ z ∈ v.list, 0 ≤ z ∧ z ≤ 4294967295) (hs : s.size ≤ 2000000) (hu : Wd w u v) :
    Calls Tryd.prog 146 #[u, .string s] w fun e w' => ∃ u', e = .returned (.tuple #[u', .string (s.extract (64 * (s.size / 64)) s.size)]) ∧ Wd w' u' (blk v s.data.toList (s.size / 64)) ∧ Below w.heap.size w w' := by
  have HU := Lib.hid hu
  have HV := Lib.hid hv
  clear hu hv
  go_enter Tryd.func146, Tryd.ntmps146
  go_wp2
  go_loopw [0, 1] (fun u t wr => ∃ (k : Nat) (t' : ByteArray), 64 * k ≤ s.size ∧ t = .string t' ∧ Hid (t' = s.extract (64 * k) s.size ∧ t'.size = s.size - 64 * k) ∧ Wd wr u (blk v s.data.toList k) ∧ Below w.heap.size w wr) (fun _ t _ => strLen t)
  case atStart => exact ⟨0, s, by omega, rfl, Lib.hid ⟨by simp, by simp⟩, HU.out, Below.refl _ _⟩
  case round =>
    clear HU
    obtain ⟨k, t', hk, rfl, HT, hW, hb⟩ := hrel
    have HW := Lib.hid hW
    clear hW
    have hbz := hb.size
    have ht2 : t'.size ≤ 2000000 := by have := HT.out.2; omega
    by_cases hlt : 64 ≤ t'.size
    · have h64 : 64 * k + 64 ≤ s.size := by have := HT.out.2; omega
      have HH := Lib.hid (ext_head s (64 * k) h64)
      have HE := Lib.hid (ext_tail s (64 * k) h64)
      rw [← HT.out.1] at HH HE
      have SL1 : ∀ W, (Instr.slice 9 (.string t') none (some (.int .i64 64)) none).run Tryd.prog W = .ok (.string (t'.extract 0 64)) W := fun W => by
        have := run_slice_string_h (P := Tryd.prog) W 9 t' Tryd.underlying9 .i64 64 (by omega) (by omega)
        simpa using this
      have SL2 : ∀ W, (Instr.slice 9 (.string t') (some (.int .i64 64)) none none).run Tryd.prog W = .ok (.string (t'.extract 64 t'.size)) W := fun W => by
        have := run_slice_string_l (P := Tryd.prog) W 9 t' Tryd.underlying9 .i64 64 (by omega) (by omega)
        simpa using this
      have HS : Hid ((t'.extract 64 t'.size).size = s.size - 64 * (k + 1)) := Lib.hid (by rw [HE.out]; simp; omega)
      generalize t'.extract 0 64 = x at *
      generalize t'.extract 64 t'.size = y at *
      obtain ⟨A, c, rfl, hR⟩ := HW.out
      have C := Lib.hid (l1Mix (blk v s.data.toList k) A c x wr HH.out.2 (blk_words _ HV.out k) hR)
      rw [HH.out.1] at C
      change Hid (Calls _ _ _ _ fun e w' => ∃ u, e = .returned u ∧ w'.ownsRow _ _ _ u 8 (u32s (blk v s.data.toList (k + 1)).list) ∧ _) at C
      clear hR HW
      go_wp2_with (go_at_call 155; with_reducible refine C.out.mono ?_; rintro e w1 ⟨u1, rfl, ho1, hb1⟩; have HW1 := Lib.hid (Wd.own ho1); have hB1 : Below w.heap.size w w1 := hb.trans (hb1.mono hbz); clear ho1 hb1)
      go_roundw
      case rel => exact ⟨k + 1, y, by omega, rfl, Lib.hid ⟨by rw [HE.out]; congr 1, HS.out⟩, HW1.out, hB1⟩
      case measure =>
        have := HS.out
        have := HT.out.2
        simp [strLen]; omega
    · have hk' : k = s.size / 64 := by have := HT.out.2; omega
      have HE : Hid (t' = s.extract (64 * (s.size / 64)) s.size) := Lib.hid (by rw [HT.out.1, ← hk'])
      have HF : Hid (Wd wr u0 (blk v s.data.toList (s.size / 64))) := Lib.hid (by rw [← hk']; exact HW.out)
      clear hk' HW
      go_wp2
      go_ret2
      exact ⟨u0, by rw [← HE.out]; rfl, HF.out, hb⟩
end Go.Proofs.YtmnihigackilkaaDoor.Feed2
