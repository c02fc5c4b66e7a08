/-
  Blocks absorbed, by the specification: its words out of a state, the blocks of a text, and the bytes of the words.
-/
import Derived.Test.YtmnihigackilkaaDoorMix
import Derived.Test.YtmnihigackilkaaDoorEnd
namespace Go.Proofs.YtmnihigackilkaaDoor.Feed
open Go.ChangeShapes Go.WideShapes Go.ChangeAt Go.RowKit
open Go.Proofs.YtmnihigackilkaaDoor.Mem Go.Proofs.YtmnihigackilkaaDoor.Ints Go.Proofs.YtmnihigackilkaaDoor.State Go.Proofs.YtmnihigackilkaaDoor.ShaComp Go.Proofs.YtmnihigackilkaaDoor.ShaSched Go.Proofs.YtmnihigackilkaaDoor.ShaRound Go.Proofs.YtmnihigackilkaaDoor.Absorb Go.Proofs.YtmnihigackilkaaDoor.Mix Go.Proofs.YtmnihigackilkaaDoor.End
set_option linter.unusedVariables false
set_option maxRecDepth 100000

/-- A slice that reads as eight words. -/
def Wd (w : World) (u : Value) (v : V8) : Prop := ∃ A c, u = .slice A 8 c ∧ Rd w w.heap.size 1 A 8 (u32s v.list)
theorem Wd.below {w w' : World} {u : Value} {v : V8} (h : Wd w u v) (hb : Below w.heap.size w w') : Wd w' u v := by
  obtain ⟨A, c, e, hr⟩ := h
  exact ⟨A, c, e, (hr.below hb (Nat.le_refl _)).mono hb.size⟩
theorem Wd.own {w : World} {base : Nat} {u : Value} {v : V8} (h : w.ownsRow base 149 1 u 8 (u32s v.list)) : Wd w u v := by
  obtain ⟨A, c, rfl⟩ := Mark.own_shape h
  exact ⟨A, c, rfl, Rd.own h⟩
theorem rd_u32 {w : World} {B k : Nat} {A : Option Addr} {v : V8} (h : Rd w B 1 A 8 (u32s v.list)) (hk : k < 8) : ∃ b off, A = some ⟨b, off, none⟩ ∧ b < B ∧ w.cell? ⟨b, off + k, none⟩ = some (.int .u32 (v.list.getD k 0)) := by
  obtain ⟨b, off, e, hb, hc⟩ := h.2 (by omega)
  exact ⟨b, off, e, hb, hc k _ (u32_at v k hk)⟩
theorem int_at (x : V8) : ∀ j (h : j < x.list.length), x.list[j] = x.list.getD j 0 := fun j h => by simp [h]
theorem get_mem (v : V8) : ∀ k, k < 8 → v.list.getD k 0 ∈ v.list
  | 0, _ => by simp [V8.list] | 1, _ => by simp [V8.list] | 2, _ => by simp [V8.list] | 3, _ => by simp [V8.list] | 4, _ => by simp [V8.list] | 5, _ => by simp [V8.list] | 6, _ => by simp [V8.list] | 7, _ => by simp [V8.list]

set_option maxHeartbeats 1000000 in
theorem l1Bytes (u : Value) (v : V8) (w : World) (hv : ∀ z ∈ v.list, 0 ≤ z ∧ z ≤ 4294967295) (hu : Wd w u v) :
    Calls Tryd.prog 149 #[u] w fun e w' => e = .returned (.string ⟨(outL v.list).toArray⟩) ∧ Below w.heap.size w w' := by
  obtain ⟨i0, hi, hz0, hz1, hz2⟩ := info_parts Pad.infoB
  obtain ⟨A, c, rfl, hx⟩ := hu
  have HX := Lib.hid hx
  have HV := Lib.hid hv
  clear hx hv
  go_enter Tryd.func149, Tryd.ntmps149
  go_wp2
  go_loopw [3, 8] (fun o i wr => ∃ j : Nat, j ≤ 8 ∧ i = .int .i64 j ∧ wr.ownsRow w.heap.size 5 1 o (4 * j) ((outL (v.list.take j)).map byteV) ∧ Below w.heap.size w wr) (fun _ i _ => 8 - (intOf i).toNat)
  case atStart => exact ⟨0, by omega, rfl, World.ownsRow_nil _ _ _ _, Below.refl _ _⟩
  case round =>
    obtain ⟨j, hj, rfl, hO, hb⟩ := hrel
    have HO := Lib.hid hO
    clear hO
    have hbz := hb.size
    by_cases hlt : j < 8
    · obtain ⟨b, off, rfl, hbB, hc⟩ := rd_u32 (HX.out.below hb (Nat.le_refl _)) hlt
      have hzj := HV.out _ (get_mem v j hlt)
      have z0 := hzj.1
      have z1 := hzj.2
      have HT := Lib.hid (outL_take v j hlt)
      have HW := Lib.hid (wb_map (v.list.getD j 0) z0 z1)
      clear hzj
      generalize v.list.getD j 0 = z at *
      have j0 : (0 : Int) ≤ (j : Int) := by omega
      have j1 : (j : Int) < 8 := by omega
      go_wp2_with (at_builtin; refine wpList_append_lies _ rfl _ _ _ rfl w.heap.size 5 i0 _ 1 1 Tryd.underlying22 hi hz0 hz1 hz2 rfl (by omega) _ (4 * j) _ rfl (HO.out.alloc _) ⟨wr.heap.size, 0, none⟩ 4 4 _ rfl rfl (World.news_of_block (heap_alloc_new wr _)) (by simp [Value.oneCell']) (by omega) (by unfold maxLen; omega) (by omega) (by simp; omega) (wr.heap.size + 1) (by simp) ?_; intro g cap w1 hown1 hgrow hat hlt1)
      have R := app_step (new := wb z) (hb.alloc hbz _) HO.out hown1 HW.out hgrow
      have HR : Hid (w1.ownsRow w.heap.size 5 1 (.slice (some ⟨g, 0, none⟩) (4 * j + 4) cap) (4 * (j + 1)) ((outL (v.list.take (j + 1))).map byteV)) := Lib.hid (by rw [HT.out]; exact own_congr R.1 (by omega) rfl)
      go_roundw
      case rel => exact ⟨j + 1, by omega, by go_num, HR.out, R.2⟩
      case measure => simp [intOf]; omega
    · obtain rfl : j = 8 := by omega
      have hconv := run_own_string (P := Tryd.prog) wr 22 9 5 _ _ _ _ Tryd.underlying22 Tryd.underlying5 Tryd.underlying9 HO.out
      rw [take_all8] at hconv
      go_wp2
      go_ret
      exact ⟨rfl, hb⟩
end Go.Proofs.YtmnihigackilkaaDoor.Feed
