/-
  The end of a state, by the specification and by the program, whatever the state is.
-/
import Derived.Test.YtfoclgijhkibeabDoorMix
import Derived.Test.YtfoclgijhkibeabDoorEnd
namespace Go.Proofs.YtfoclgijhkibeabDoor.Feed
open Go.ChangeShapes Go.WideShapes Go.ChangeAt Go.RowKit
open Go.Proofs.YtfoclgijhkibeabDoor.Mem Go.Proofs.YtfoclgijhkibeabDoor.Ints Go.Proofs.YtfoclgijhkibeabDoor.State Go.Proofs.YtfoclgijhkibeabDoor.ShaComp Go.Proofs.YtfoclgijhkibeabDoor.ShaSched Go.Proofs.YtfoclgijhkibeabDoor.ShaRound Go.Proofs.YtfoclgijhkibeabDoor.Absorb Go.Proofs.YtfoclgijhkibeabDoor.Mix Go.Proofs.YtfoclgijhkibeabDoor.End
set_option linter.unusedVariables false
set_option maxRecDepth 100000

/-- A slice that reads as eight words. -/
def Wd (w : World) (u : Value) (v : V8) : Prop := ∃ A c, u = .slice A 8 c ∧ Rd w w.heap.size 1 A 8 (u32s v.list)
theorem Wd.below {w w' : World} {u : Value} {v : V8} (h : Wd w u v) (hb : Below w.heap.size w w') : Wd w' u v := by
  obtain ⟨A, c, e, hr⟩ := h
  exact ⟨A, c, e, (hr.below hb (Nat.le_refl _)).mono hb.size⟩
theorem Wd.own {w : World} {base : Nat} {u : Value} {v : V8} (h : w.ownsRow base 107 1 u 8 (u32s v.list)) : Wd w u v := by
  obtain ⟨A, c, rfl⟩ := Mark.own_shape h
  exact ⟨A, c, rfl, Rd.own h⟩
theorem rd_u32 {w : World} {B k : Nat} {A : Option Addr} {v : V8} (h : Rd w B 1 A 8 (u32s v.list)) (hk : k < 8) : ∃ b off, A = some ⟨b, off, none⟩ ∧ b < B ∧ w.cell? ⟨b, off + k, none⟩ = some (.int .u32 (v.list.getD k 0)) := by
  obtain ⟨b, off, e, hb, hc⟩ := h.2 (by omega)
  exact ⟨b, off, e, hb, hc k _ (u32_at v k hk)⟩
theorem int_at (x : V8) : ∀ j (h : j < x.list.length), x.list[j] = x.list.getD j 0 := fun j h => by simp [h]
theorem get_mem (v : V8) : ∀ k, k < 8 → v.list.getD k 0 ∈ v.list
  | 0, _ => by simp [V8.list] | 1, _ => by simp [V8.list] | 2, _ => by simp [V8.list] | 3, _ => by simp [V8.list] | 4, _ => by simp [V8.list] | 5, _ => by simp [V8.list] | 6, _ => by simp [V8.list] | 7, _ => by simp [V8.list]

set_option maxHeartbeats 1000000 in
theorem l1Back (A : Option Addr) (c : Nat) (v : V8) (w : World) (hv : ∀ z ∈ v.list, 0 ≤ z ∧ z ≤ 4294967295) (hx : Rd w w.heap.size 1 A 8 (ints v.list)) :
    Calls Tryd.prog 97 #[.slice A 8 c] w fun e w' => ∃ u, e = .returned u ∧ Wd w' u v ∧ Below w.heap.size w w' := by
  obtain ⟨i0, hi, hz0, hz1, hz2⟩ := info_parts infoW
  have HX := Lib.hid hx
  have HV := Lib.hid hv
  clear hx hv
  go_enter Tryd.func97, Tryd.ntmps97
  go_wp2
  go_loopw [3, 8] (fun o i wr => ∃ j : Nat, j ≤ 8 ∧ i = .int .i64 j ∧ wr.ownsRow w.heap.size 107 1 o j (u32s (v.list.take j)) ∧ Below w.heap.size w wr) (fun _ i _ => 8 - (intOf i).toNat)
  case atStart => exact ⟨0, by omega, rfl, World.ownsRow_nil _ _ _ _, Below.refl _ _⟩
  case round =>
    obtain ⟨j, hj, rfl, hO, hb⟩ := hrel
    have HO := Lib.hid hO
    clear hO
    have hbz := hb.size
    by_cases hlt : j < 8
    · obtain ⟨b, off, hl, rfl, hbB, hc⟩ := (HX.out.below hb (Nat.le_refl _)).int hlt
      rw [int_at v j hl] at hc
      have hzj := HV.out _ (get_mem v j hlt)
      have z0 := hzj.1
      have z1 := hzj.2
      have HT := Lib.hid (take_word v j hlt)
      clear hzj
      generalize v.list.getD j 0 = z at *
      have j0 : (0 : Int) ≤ (j : Int) := by omega
      have j1 : (j : Int) < 8 := by omega
      go_wp2_with (at_builtin; refine wpList_append_lies _ rfl _ _ _ rfl w.heap.size 107 i0 _ 1 4 Tryd.underlying114 hi hz0 hz1 hz2 rfl (by omega) _ j _ rfl (HO.out.alloc _) ⟨wr.heap.size, 0, none⟩ 1 1 _ rfl rfl (World.news_of_block (heap_alloc_new wr _)) (by simp [Value.oneCell']) (by omega) (by unfold maxLen; omega) (by omega) (by simp; omega) (wr.heap.size + 1) (by simp) ?_; intro g cap w1 hown1 hgrow hat hlt1)
      have R := app_u32 (x := z) (hb.alloc hbz _) HO.out hown1 rfl hgrow
      have HR : Hid (w1.ownsRow w.heap.size 107 1 (.slice (some ⟨g, 0, none⟩) (j + 1) cap) (j + 1) (u32s (v.list.take (j + 1)))) := Lib.hid (by rw [HT.out]; exact R.1)
      go_roundw
      case rel => exact ⟨j + 1, by omega, by go_num, HR.out, R.2⟩
      case measure => simp [intOf]; omega
    · obtain rfl : j = 8 := by omega
      have HF : Hid (Wd wr u3 v) := Lib.hid (Wd.own (by have := HO.out; rw [take_all8] at this; exact this))
      go_wp2
      go_ret
      exact ⟨_, rfl, HF.out, hb⟩

set_option maxHeartbeats 1000000 in
theorem l1Bytes (u : Value) (v : V8) (w : World) (hv : ∀ z ∈ v.list, 0 ≤ z ∧ z ≤ 4294967295) (hu : Wd w u v) :
    Calls Tryd.prog 101 #[u] w fun e w' => e = .returned (.string ⟨(outL v.list).toArray⟩) ∧ Below w.heap.size w w' := by
  obtain ⟨i0, hi, hz0, hz1, hz2⟩ := info_parts Pad.infoB
  obtain ⟨A, c, rfl, hx⟩ := hu
  have HX := Lib.hid hx
  have HV := Lib.hid hv
  clear hx hv
  go_enter Tryd.func101, Tryd.ntmps101
  go_wp2
  go_loopw [3, 8] (fun o i wr => ∃ j : Nat, j ≤ 8 ∧ i = .int .i64 j ∧ wr.ownsRow w.heap.size 5 1 o (4 * j) ((outL (v.list.take j)).map byteV) ∧ Below w.heap.size w wr) (fun _ i _ => 8 - (intOf i).toNat)
  case atStart => exact ⟨0, by omega, rfl, World.ownsRow_nil _ _ _ _, Below.refl _ _⟩
  case round =>
    obtain ⟨j, hj, rfl, hO, hb⟩ := hrel
    have HO := Lib.hid hO
    clear hO
    have hbz := hb.size
    by_cases hlt : j < 8
    · obtain ⟨b, off, rfl, hbB, hc⟩ := rd_u32 (HX.out.below hb (Nat.le_refl _)) hlt
      have hzj := HV.out _ (get_mem v j hlt)
      have z0 := hzj.1
      have z1 := hzj.2
      have HT := Lib.hid (outL_take v j hlt)
      have HW := Lib.hid (wb_map (v.list.getD j 0) z0 z1)
      clear hzj
      generalize v.list.getD j 0 = z at *
      have j0 : (0 : Int) ≤ (j : Int) := by omega
      have j1 : (j : Int) < 8 := by omega
      go_wp2_with (at_builtin; refine wpList_append_lies _ rfl _ _ _ rfl w.heap.size 5 i0 _ 1 1 Tryd.underlying22 hi hz0 hz1 hz2 rfl (by omega) _ (4 * j) _ rfl (HO.out.alloc _) ⟨wr.heap.size, 0, none⟩ 4 4 _ rfl rfl (World.news_of_block (heap_alloc_new wr _)) (by simp [Value.oneCell']) (by omega) (by unfold maxLen; omega) (by omega) (by simp; omega) (wr.heap.size + 1) (by simp) ?_; intro g cap w1 hown1 hgrow hat hlt1)
      have R := app_step (new := wb z) (hb.alloc hbz _) HO.out hown1 HW.out hgrow
      have HR : Hid (w1.ownsRow w.heap.size 5 1 (.slice (some ⟨g, 0, none⟩) (4 * j + 4) cap) (4 * (j + 1)) ((outL (v.list.take (j + 1))).map byteV)) := Lib.hid (by rw [HT.out]; exact own_congr R.1 (by omega) rfl)
      go_roundw
      case rel => exact ⟨j + 1, by omega, by go_num, HR.out, R.2⟩
      case measure => simp [intOf]; omega
    · obtain rfl : j = 8 := by omega
      have hconv := run_own_string (P := Tryd.prog) wr 22 9 5 _ _ _ _ Tryd.underlying22 Tryd.underlying5 Tryd.underlying9 HO.out
      rw [take_all8] at hconv
      go_wp2
      go_ret
      exact ⟨rfl, hb⟩
end Go.Proofs.YtfoclgijhkibeabDoor.Feed

namespace Go.Proofs.YtfoclgijhkibeabDoor.Feed2
open Go.ChangeShapes Go.WideShapes Go.ChangeAt Go.RowKit
open Go.Proofs.YtfoclgijhkibeabDoor.Mem Go.Proofs.YtfoclgijhkibeabDoor.Ints Go.Proofs.YtfoclgijhkibeabDoor.State Go.Proofs.YtfoclgijhkibeabDoor.ShaComp Go.Proofs.YtfoclgijhkibeabDoor.ShaSched Go.Proofs.YtfoclgijhkibeabDoor.ShaRound Go.Proofs.YtfoclgijhkibeabDoor.Absorb Go.Proofs.YtfoclgijhkibeabDoor.Mix Go.Proofs.YtfoclgijhkibeabDoor.End Go.Proofs.YtfoclgijhkibeabDoor.Feed
set_option linter.unusedVariables false
set_option maxRecDepth 100000

theorem ext_head (t : ByteArray) (m : Nat) (h : m + 64 ≤ t.size) : ((t.extract m t.size).extract 0 64).data.toList = (t.data.toList.drop m).take 64 ∧ ((t.extract m t.size).extract 0 64).size = 64 := by
  constructor
  · simp only [ByteArray.data_extract, Array.extract_extract, Array.toList_extract, List.extract_eq_take_drop]
    congr 1
    · have : t.data.size = t.size := rfl
      omega
  · simp; omega
theorem ext_tail (t : ByteArray) (m : Nat) (h : m + 64 ≤ t.size) : (t.extract m t.size).extract 64 (t.extract m t.size).size = t.extract (m + 64) t.size := by
  apply ByteArray.ext
  have h2 : (t.extract m t.size).size = t.size - m := by simp
  simp only [ByteArray.data_extract, Array.extract_extract, h2]
  congr 1
  omega
set_option maxHeartbeats 1000000 in
theorem l1Feed (u : Value) (v : V8) (s : ByteArray) (w : World) (hv : ∀ z ∈ v.list, 0 ≤ z ∧ z ≤ 4294967295) (hs : s.size ≤ 2000000) (hu : Wd w u v) :
    Calls Tryd.prog 96 #[u, .string s] w fun e w' => ∃ u', e = .returned (.tuple #[u', .string (s.extract (64 * (s.size / 64)) s.size)]) ∧ Wd w' u' (blk v s.data.toList (s.size / 64)) ∧ Below w.heap.size w w' := by
  have HU := Lib.hid hu
  have HV := Lib.hid hv
  clear hu hv
  go_enter Tryd.func96, Tryd.ntmps96
  go_wp2
  go_loopw [0, 1] (fun u t wr => ∃ (k : Nat) (t' : ByteArray), 64 * k ≤ s.size ∧ t = .string t' ∧ Hid (t' = s.extract (64 * k) s.size ∧ t'.size = s.size - 64 * k) ∧ Wd wr u (blk v s.data.toList k) ∧ Below w.heap.size w wr) (fun _ t _ => strLen t)
  case atStart => exact ⟨0, s, by omega, rfl, Lib.hid ⟨by simp, by simp⟩, HU.out, Below.refl _ _⟩
  case round =>
    clear HU
    obtain ⟨k, t', hk, rfl, HT, hW, hb⟩ := hrel
    have HW := Lib.hid hW
    clear hW
    have hbz := hb.size
    have ht2 : t'.size ≤ 2000000 := by have := HT.out.2; omega
    by_cases hlt : 64 ≤ t'.size
    · have h64 : 64 * k + 64 ≤ s.size := by have := HT.out.2; omega
      have HH := Lib.hid (ext_head s (64 * k) h64)
      have HE := Lib.hid (ext_tail s (64 * k) h64)
      rw [← HT.out.1] at HH HE
      have SL1 : ∀ W, (Instr.slice 9 (.string t') none (some (.int .i64 64)) none).run Tryd.prog W = .ok (.string (t'.extract 0 64)) W := fun W => by
        have := run_slice_string_h (P := Tryd.prog) W 9 t' Tryd.underlying9 .i64 64 (by omega) (by omega)
        simpa using this
      have SL2 : ∀ W, (Instr.slice 9 (.string t') (some (.int .i64 64)) none none).run Tryd.prog W = .ok (.string (t'.extract 64 t'.size)) W := fun W => by
        have := run_slice_string_l (P := Tryd.prog) W 9 t' Tryd.underlying9 .i64 64 (by omega) (by omega)
        simpa using this
      have HS : Hid ((t'.extract 64 t'.size).size = s.size - 64 * (k + 1)) := Lib.hid (by rw [HE.out]; simp; omega)
      generalize t'.extract 0 64 = x at *
      generalize t'.extract 64 t'.size = y at *
      obtain ⟨A, c, rfl, hR⟩ := HW.out
      have C := Lib.hid (l1Mix (blk v s.data.toList k) A c x wr HH.out.2 (blk_words _ HV.out k) hR)
      rw [HH.out.1] at C
      change Hid (Calls _ _ _ _ fun e w' => ∃ u, e = .returned u ∧ w'.ownsRow _ _ _ u 8 (u32s (blk v s.data.toList (k + 1)).list) ∧ _) at C
      clear hR HW
      go_wp2_with (go_at_call 134; with_reducible refine C.out.mono ?_; rintro e w1 ⟨u1, rfl, ho1, hb1⟩; have HW1 := Lib.hid (Wd.own ho1); have hB1 : Below w.heap.size w w1 := hb.trans (hb1.mono hbz); clear ho1 hb1)
      go_roundw
      case rel => exact ⟨k + 1, y, by omega, rfl, Lib.hid ⟨by rw [HE.out]; congr 1, HS.out⟩, HW1.out, hB1⟩
      case measure =>
        have := HS.out
        have := HT.out.2
        simp [strLen]; omega
    · have hk' : k = s.size / 64 := by have := HT.out.2; omega
      have HE : Hid (t' = s.extract (64 * (s.size / 64)) s.size) := Lib.hid (by rw [HT.out.1, ← hk'])
      have HF : Hid (Wd wr u0 (blk v s.data.toList (s.size / 64))) := Lib.hid (by rw [← hk']; exact HW.out)
      clear hk' HW
      go_wp2
      go_ret2
      exact ⟨u0, by rw [← HE.out]; rfl, HF.out, hb⟩
end Go.Proofs.YtfoclgijhkibeabDoor.Feed2

namespace Go.Proofs.YtfoclgijhkibeabDoor.SpecEnd
open Go.ChangeShapes Go.WideShapes Go.ChangeAt Go.RowKit
open Go.Proofs.YtfoclgijhkibeabDoor.Mem Go.Proofs.YtfoclgijhkibeabDoor.Ints Go.Proofs.YtfoclgijhkibeabDoor.State Go.Proofs.YtfoclgijhkibeabDoor.ShaComp Go.Proofs.YtfoclgijhkibeabDoor.ShaSched Go.Proofs.YtfoclgijhkibeabDoor.ShaRound Go.Proofs.YtfoclgijhkibeabDoor.Absorb Go.Proofs.YtfoclgijhkibeabDoor.Mix Go.Proofs.YtfoclgijhkibeabDoor.End Go.Proofs.YtfoclgijhkibeabDoor.Feed Go.Proofs.YtfoclgijhkibeabDoor.Feed2 Go.Proofs.YtfoclgijhkibeabDoor.GoodState
set_option linter.unusedVariables false
set_option maxRecDepth 100000

theorem tail_size (L : Nat) : (ByteArray.mk (Pad.tailL L).toArray).size ≤ 72 := by
  rw [mk_size, Pad.tailL_len]; have := Pad.zeros_lt L; omega
set_option maxHeartbeats 4000000 in
theorem specEnd (A : Option Addr) (c : Nat) (s : ByteArray) (L : Nat) (v : V8) (w : World) (hv : ∀ z ∈ v.list, 0 ≤ z ∧ z ≤ 4294967295) (h1 : L ≤ 1000000) (hs : s.size = L % 64) (hg : goodS v.list s L = true) (hx : Rd w w.heap.size 1 A 8 (ints v.list)) :
    Calls Tryd.prog 41 #[stV A 8 c s L] w fun e w' => e = .returned (.tuple #[.string ⟨(outL (blk v (s.data.toList ++ Pad.tailL L) ((s.size + (Pad.tailL L).length) / 64)).list).toArray⟩, .bool true]) ∧ Below w.heap.size w w' := by
  have HG := Lib.hid (fun W (h : Below w.heap.size w W) => specGood A 8 c s L v.list W (by omega) (by unfold maxLen; omega) ((hx.below h (Nat.le_refl _)).mono h.size))
  rw [hg] at HG
  have HX := Lib.hid hx
  have hts := tail_size L
  have CT0 := Lib.hid (fun W => Pad.l1Tail L W h1)
  have HC0 := Lib.hid (fun W u (h : Wd W u v) => l1Feed u v (s ++ ⟨(Pad.tailL L).toArray⟩) W hv (by rw [ByteArray.size_append]; omega) h)
  have HBW := Lib.hid (blk_words (v := v) (s.data.toList ++ Pad.tailL L) hv ((s.size + (Pad.tailL L).length) / 64))
  have e1 : (s ++ (⟨(Pad.tailL L).toArray⟩ : ByteArray)).data.toList = s.data.toList ++ Pad.tailL L := by rw [ByteArray.data_append, Array.toList_append]
  have e2 : (s ++ (⟨(Pad.tailL L).toArray⟩ : ByteArray)).size = s.size + (Pad.tailL L).length := by rw [ByteArray.size_append]; congr 1
  rw [e1, e2] at HC0
  have HV := Lib.hid hv
  clear hx hg e1 e2 hv
  generalize hbl : blk v (s.data.toList ++ Pad.tailL L) ((s.size + (Pad.tailL L).length) / 64) = R at *
  have HBL := Lib.hid hbl
  clear hbl
  generalize (ByteArray.mk (Pad.tailL L).toArray) = tl at *
  generalize (s ++ tl).extract _ _ = rest at *
  unfold stV at *
  go_enter Tryd.func41, Tryd.ntmps41
  go_wp2_with fail
  obtain ⟨x0, y0, z0⟩ := boxed w #[.slice A 8 c, .string s, .int .i64 L] 60
  generalize World.alloc w _ = W0 at *
  refine (HG.out W0 y0).mono ?_
  rintro e' w1 ⟨rfl, hb1⟩
  have hs1 := hb1.size
  have x1 := (hb1.block w.heap.size (by omega)).trans x0
  have B1 : Below w.heap.size w w1 := y0.trans (hb1.mono (by omega))
  clear HG y0 x0 hb1
  obtain ⟨p0, p1, p2⟩ := row3 x1
  have hlt1 : w.heap.size < w1.heap.size := by omega
  have D1 : Below w1.heap.size w1 w1.drew := (Below.refl _ w1).drew
  have CB := Lib.hid (fun W (h : Below w1.heap.size w1 W) => (l1Back A c v W HV.out ((HX.out.below (B1.trans (h.mono (by omega))) (Nat.le_refl _)).mono (by have := h.size; omega))).mono (fun e w' (q : ∃ u, e = .returned u ∧ Wd w' u v ∧ Below W.heap.size W w') => (show ∃ u, e = .returned u ∧ Wd w' u v ∧ Below W.heap.size W w' ∧ Below w1.heap.size w1 w' from by obtain ⟨u, a1, a2, a3⟩ := q; exact ⟨u, a1, a2, a3, h.trans (a3.mono h.size)⟩)))
  have CT := Lib.hid (fun W (h : Below w1.heap.size w1 W) => (CT0.out W).mono (fun e w' (q : e = .returned (.string tl) ∧ Below W.heap.size W w') => (show e = .returned (.string tl) ∧ Below W.heap.size W w' ∧ Below w1.heap.size w1 w' from ⟨q.1, q.2, h.trans (q.2.mono h.size)⟩)))
  have CF := Lib.hid (fun W u (h : Below w1.heap.size w1 W) (hW : Wd W u v) => (HC0.out W u hW).mono (fun e w' (q : ∃ u', e = .returned (.tuple #[u', .string rest]) ∧ Wd w' u' R ∧ Below W.heap.size W w') => (show ∃ u', e = .returned (.tuple #[u', .string rest]) ∧ Wd w' u' R ∧ Below w1.heap.size w1 w' from by obtain ⟨u', a1, a2, a3⟩ := q; exact ⟨u', a1, a2, h.trans (a3.mono h.size)⟩)))
  have hadd : ∀ W, (Op.stringOp .add s tl).run Tryd.prog W = .ok (.string (s ++ tl)) W := fun W => run_string_add W s tl (by omega) (by omega)
  clear CT0 HC0 HX
  go_wp2_with fail
  go_region_held3 (fun w' => w'.cell? ⟨w.heap.size, 0, none⟩ = some (.slice A 8 c) ∧ w'.cell? ⟨w.heap.size, 1, none⟩ = some (.string s) ∧ w'.cell? ⟨w.heap.size, 2, none⟩ = some (.int .i64 L))
    (first | (go_keep; done) | (refine ⟨?_, ?_, ?_⟩ <;> (rw [bf.cell (by exact hlt1)]; assumption)) | (refine ⟨?_, ?_, ?_⟩ <;> (rw [bb.cell (by exact hlt1)]; assumption)) | (refine ⟨?_, ?_, ?_⟩ <;> (rw [bt.cell (by exact hlt1)]; assumption)) | (refine ⟨?_, ?_, ?_⟩ <;> (rw [D1.cell (by exact hlt1)]; assumption)))
    (first
      | (go_at_call 97; refine (CB.out _ (by first | exact bt | exact D1)).mono ?_; rintro e wb ⟨ub, rfl, hWb, bb2, bb⟩)
      | (go_at_call 100; refine (CT.out _ (by first | exact bb | exact D1)).mono ?_; rintro e wt ⟨rfl, bt2, bt⟩)
      | (go_at_call 96; refine (CF.out _ ub (by first | exact bt | exact bb) (by first | exact hWb | exact hWb.below bt2)).mono ?_; rintro e wf ⟨uf, rfl, hWf, bf⟩))
  all_goals
    have hBf : Below w.heap.size w wf := B1.trans (bf.mono (by omega))
    have hzf := hBf.size
    have C5 := Lib.hid (l1Bytes uf R wf HBW.out hWf)
    clear bb bb2 bt bt2 bf hWf hWb CB CT CF hadd
    go_wp2_with fail
    refine C5.out.mono ?_
    rintro e w9 ⟨rfl, hb9⟩
    have hB9 : Below w.heap.size w w9 := hBf.trans (hb9.mono hzf)
    clear hb9 C5
    go_wp2
    go_ret2
    exact ⟨rfl, hB9⟩
theorem specEndNo (A : Option Addr) (n c : Nat) (s : ByteArray) (L : Int) (zs : List Int) (w : World) (hn : n ≤ 1048576) (hs : s.size ≤ maxLen) (hg : goodS zs s L = false) (hx : Rd w w.heap.size 1 A n (ints zs)) :
    Calls Tryd.prog 41 #[stV A n c s L] w fun e w' => e = .returned (.tuple #[.string ⟨#[]⟩, .bool false]) ∧ Below w.heap.size w w' := by
  have HG := Lib.hid (fun W (h : Below w.heap.size w W) => specGood A n c s L zs W hn hs ((hx.below h (Nat.le_refl _)).mono h.size))
  rw [hg] at HG
  clear hx hg
  unfold stV at *
  go_enter Tryd.func41, Tryd.ntmps41
  go_wp2_with fail
  obtain ⟨x0, y0, z0⟩ := boxed w #[.slice A n c, .string s, .int .i64 L] 60
  generalize World.alloc w _ = W0 at *
  refine (HG.out W0 y0).mono ?_
  rintro e' w1 ⟨rfl, hb1⟩
  have B1 : Below w.heap.size w w1 := y0.trans (hb1.mono (by omega))
  clear HG y0 x0 hb1
  go_wp2
  go_ret2
  exact ⟨rfl, B1⟩
theorem implEndNo (A : Option Addr) (n c : Nat) (s : ByteArray) (L : Int) (zs : List Int) (w : World) (hn : n ≤ 1048576) (hs : s.size ≤ maxLen) (hg : goodS zs s L = false) (hx : Rd w w.heap.size 1 A n (ints zs)) :
    Calls Tryd.prog 36 #[stV A n c s L] w fun e w' => e = .returned (.tuple #[.string ⟨#[]⟩, .bool false]) ∧ Below w.heap.size w w' := by
  have HG := Lib.hid (fun W (h : Below w.heap.size w W) => implGood A n c s L zs W hn hs ((hx.below h (Nat.le_refl _)).mono h.size))
  rw [hg] at HG
  clear hx hg
  unfold stV at *
  go_enter Tryd.func36, Tryd.ntmps36
  go_wp2_with fail
  obtain ⟨x0, y0, z0⟩ := boxed w #[.slice A n c, .string s, .int .i64 L] 60
  generalize World.alloc w _ = W0 at *
  refine (HG.out W0 y0).mono ?_
  rintro e' w1 ⟨rfl, hb1⟩
  have B1 : Below w.heap.size w w1 := y0.trans (hb1.mono (by omega))
  clear HG y0 x0 hb1
  go_wp2
  go_ret2
  exact ⟨rfl, B1⟩
/-- Both ends of a state, good or not: one answer. -/
theorem both (n : Nat) (s : ByteArray) (L : Int) (zs : List Int) (hn : n ≤ 1048576) (hs : s.size ≤ maxLen) (hl : zs.length = n) : ∃ (t : ByteArray) (ok : Bool),
    (∀ A c W, Rd W W.heap.size 1 A n (ints zs) → Calls Tryd.prog 41 #[stV A n c s L] W fun e w' => e = .returned (.tuple #[.string t, .bool ok]) ∧ Below W.heap.size W w') ∧
    (∀ A c W, Rd W W.heap.size 1 A n (ints zs) → W.rangeAt 1 0 (u32s consts) → Calls Tryd.prog 36 #[stV A n c s L] W fun e w' => e = .returned (.tuple #[.string t, .bool ok]) ∧ Below W.heap.size W w') := by
  cases hg : goodS zs s L with
  | false => exact ⟨_, _, fun A c W h => specEndNo A n c s L zs W hn hs hg h, fun A c W h _ => implEndNo A n c s L zs W hn hs hg h⟩
  | true =>
    obtain ⟨v, rfl, hv, h0, h1, h2⟩ := good_v8 hg
    obtain ⟨K, rfl⟩ := Int.eq_ofNat_of_zero_le h0
    have e8 : n = 8 := by rw [← hl]; rfl
    subst e8
    exact ⟨_, _, fun A c W h => specEnd A c s K v W hv (by omega) (by omega) hg h, fun A c W h hk => implEnd A c s K v W hv (by omega) (by omega) hg h hk⟩
end Go.Proofs.YtfoclgijhkibeabDoor.SpecEnd
