/-
  The end of a state, by the specification and by the program, whatever the state is.
-/
import Derived.Test.YtfoclgijhkibeabDoorFeed2
namespace Go.Proofs.YtfoclgijhkibeabDoor.SpecEnd
open Go.ChangeShapes Go.WideShapes Go.ChangeAt Go.RowKit
open Go.Proofs.YtfoclgijhkibeabDoor.Mem Go.Proofs.YtfoclgijhkibeabDoor.Ints Go.Proofs.YtfoclgijhkibeabDoor.State Go.Proofs.YtfoclgijhkibeabDoor.ShaComp Go.Proofs.YtfoclgijhkibeabDoor.ShaSched Go.Proofs.YtfoclgijhkibeabDoor.ShaRound Go.Proofs.YtfoclgijhkibeabDoor.Absorb Go.Proofs.YtfoclgijhkibeabDoor.Mix Go.Proofs.YtfoclgijhkibeabDoor.End Go.Proofs.YtfoclgijhkibeabDoor.Feed Go.Proofs.YtfoclgijhkibeabDoor.Feed2 Go.Proofs.YtfoclgijhkibeabDoor.GoodState
set_option linter.unusedVariables false
set_option maxRecDepth 100000

theorem tail_size (L : Nat) : (ByteArray.mk (Pad.tailL L).toArray).size ≤ 72 := by
  rw [mk_size, Pad.tailL_len]; have := Pad.zeros_lt L; omega
set_option maxHeartbeats 4000000 in
theorem specEnd (A : Option Addr) (c : Nat) (s : ByteArray) (L : Nat) (v : V8) (w : World) (hv : ∀ z ∈ v.list, 0 ≤ z ∧ z ≤ 4294967295) (h1 : L ≤ 1000000) (hs : s.size = L % 64) (hg : goodS v.list s L = true) (hx : Rd w w.heap.size 1 A 8 (ints v.list)) :
    Calls Tryd.prog 41 #[stV A 8 c s L] w fun e w' => e = .returned (.tuple #[.string ⟨(outL (blk v (s.data.toList ++ Pad.tailL L) ((s.size + (Pad.tailL L).length) / 64)).list).toArray⟩, .bool true]) ∧ Below w.heap.size w w' := by
  have HG := Lib.hid (fun W (h : Below w.heap.size w W) => specGood A 8 c s L v.list W (by omega) (by unfold maxLen; omega) ((hx.below h (Nat.le_refl _)).mono h.size))
  rw [hg] at HG
  have HX := Lib.hid hx
  have hts := tail_size L
  have CT0 := Lib.hid (fun W => Pad.l1Tail L W h1)
  have HC0 := Lib.hid (fun W u (h : Wd W u v) => l1Feed u v (s ++ ⟨(Pad.tailL L).toArray⟩) W hv (by rw [ByteArray.size_append]; omega) h)
  have HBW := Lib.hid (blk_words (v := v) (s.data.toList ++ Pad.tailL L) hv ((s.size + (Pad.tailL L).length) / 64))
  have e1 : (s ++ (⟨(Pad.tailL L).toArray⟩ : ByteArray)).data.toList = s.data.toList ++ Pad.tailL L := by rw [ByteArray.data_append, Array.toList_append]
  have e2 : (s ++ (⟨(Pad.tailL L).toArray⟩ : ByteArray)).size = s.size + (Pad.tailL L).length := by rw [ByteArray.size_append]; congr 1
  rw [e1, e2] at HC0
  have HV := Lib.hid hv
  clear hx hg e1 e2 hv
  generalize hbl : blk v (s.data.toList ++ Pad.tailL L) ((s.size + (Pad.tailL L).length) / 64) = R at *
  have HBL := Lib.hid hbl
  clear hbl
  generalize (ByteArray.mk (Pad.tailL L).toArray) = tl at *
  generalize (s ++ tl).extract _ _ = rest at *
  unfold stV at *
  go_enter Tryd.func41, Tryd.ntmps41
  go_wp2_with fail
  obtain ⟨x0, y0, z0⟩ := boxed w #[.slice A 8 c, .string s, .int .i64 L] 60
  generalize World.alloc w _ = W0 at *
  refine (HG.out W0 y0).mono ?_
  rintro e' w1 ⟨rfl, hb1⟩
  have hs1 := hb1.size
  have x1 := (hb1.block w.heap.size (by omega)).trans x0
  have B1 : Below w.heap.size w w1 := y0.trans (hb1.mono (by omega))
  clear HG y0 x0 hb1
  obtain ⟨p0, p1, p2⟩ := row3 x1
  have hlt1 : w.heap.size < w1.heap.size := by omega
  have D1 : Below w1.heap.size w1 w1.drew := (Below.refl _ w1).drew
  have CB := Lib.hid (fun W (h : Below w1.heap.size w1 W) => (l1Back A c v W HV.out ((HX.out.below (B1.trans (h.mono (by omega))) (Nat.le_refl _)).mono (by have := h.size; omega))).mono (fun e w' (q : ∃ u, e = .returned u ∧ Wd w' u v ∧ Below W.heap.size W w') => (show ∃ u, e = .returned u ∧ Wd w' u v ∧ Below W.heap.size W w' ∧ Below w1.heap.size w1 w' from by obtain ⟨u, a1, a2, a3⟩ := q; exact ⟨u, a1, a2, a3, h.trans (a3.mono h.size)⟩)))
  have CT := Lib.hid (fun W (h : Below w1.heap.size w1 W) => (CT0.out W).mono (fun e w' (q : e = .returned (.string tl) ∧ Below W.heap.size W w') => (show e = .returned (.string tl) ∧ Below W.heap.size W w' ∧ Below w1.heap.size w1 w' from ⟨q.1, q.2, h.trans (q.2.mono h.size)⟩)))
  have CF := Lib.hid (fun W u (h : Below w1.heap.size w1 W) (hW : Wd W u v) => (HC0.out W u hW).mono (fun e w' (q : ∃ u', e = .returned (.tuple #[u', .string rest]) ∧ Wd w' u' R ∧ Below W.heap.size W w') => (show ∃ u', e = .returned (.tuple #[u', .string rest]) ∧ Wd w' u' R ∧ Below w1.heap.size w1 w' from by obtain ⟨u', a1, a2, a3⟩ := q; exact ⟨u', a1, a2, h.trans (a3.mono h.size)⟩)))
  have hadd : ∀ W, (Op.stringOp .add s tl).run Tryd.prog W = .ok (.string (s ++ tl)) W := fun W => run_string_add W s tl (by omega) (by omega)
  clear CT0 HC0 HX
  go_wp2_with fail
  go_region_held3 (fun w' => w'.cell? ⟨w.heap.size, 0, none⟩ = some (.slice A 8 c) ∧ w'.cell? ⟨w.heap.size, 1, none⟩ = some (.string s) ∧ w'.cell? ⟨w.heap.size, 2, none⟩ = some (.int .i64 L))
    (first | (go_keep; done) | (refine ⟨?_, ?_, ?_⟩ <;> (rw [bf.cell (by exact hlt1)]; assumption)) | (refine ⟨?_, ?_, ?_⟩ <;> (rw [bb.cell (by exact hlt1)]; assumption)) | (refine ⟨?_, ?_, ?_⟩ <;> (rw [bt.cell (by exact hlt1)]; assumption)) | (refine ⟨?_, ?_, ?_⟩ <;> (rw [D1.cell (by exact hlt1)]; assumption)))
    (first
      | (go_at_call 97; refine (CB.out _ (by first | exact bt | exact D1)).mono ?_; rintro e wb ⟨ub, rfl, hWb, bb2, bb⟩)
      | (go_at_call 100; refine (CT.out _ (by first | exact bb | exact D1)).mono ?_; rintro e wt ⟨rfl, bt2, bt⟩)
      | (go_at_call 96; refine (CF.out _ ub (by first | exact bt | exact bb) (by first | exact hWb | exact hWb.below bt2)).mono ?_; rintro e wf ⟨uf, rfl, hWf, bf⟩))
  all_goals
    have hBf : Below w.heap.size w wf := B1.trans (bf.mono (by omega))
    have hzf := hBf.size
    have C5 := Lib.hid (l1Bytes uf R wf HBW.out hWf)
    clear bb bb2 bt bt2 bf hWf hWb CB CT CF hadd
    go_wp2_with fail
    refine C5.out.mono ?_
    rintro e w9 ⟨rfl, hb9⟩
    have hB9 : Below w.heap.size w w9 := hBf.trans (hb9.mono hzf)
    clear hb9 C5
    go_wp2
    go_ret2
    exact ⟨rfl, hB9⟩
theorem specEndNo (A : Option Addr) (n c : Nat) (s : ByteArray) (L : Int) (zs : List Int) (w : World) (hn : n ≤ 1048576) (hs : s.size ≤ maxLen) (hg : goodS zs s L = false) (hx : Rd w w.heap.size 1 A n (ints zs)) :
    Calls Tryd.prog 41 #[stV A n c s L] w fun e w' => e = .returned (.tuple #[.string ⟨#[]⟩, .bool false]) ∧ Below w.heap.size w w' := by
  have HG := Lib.hid (fun W (h : Below w.heap.size w W) => specGood A n c s L zs W hn hs ((hx.below h (Nat.le_refl _)).mono h.size))
  rw [hg] at HG
  clear hx hg
  unfold stV at *
  go_enter Tryd.func41, Tryd.ntmps41
  go_wp2_with fail
  obtain ⟨x0, y0, z0⟩ := boxed w #[.slice A n c, .string s, .int .i64 L] 60
  generalize World.alloc w _ = W0 at *
  refine (HG.out W0 y0).mono ?_
  rintro e' w1 ⟨rfl, hb1⟩
  have B1 : Below w.heap.size w w1 := y0.trans (hb1.mono (by omega))
  clear HG y0 x0 hb1
  go_wp2
  go_ret2
  exact ⟨rfl, B1⟩
theorem implEndNo (A : Option Addr) (n c : Nat) (s : ByteArray) (L : Int) (zs : List Int) (w : World) (hn : n ≤ 1048576) (hs : s.size ≤ maxLen) (hg : goodS zs s L = false) (hx : Rd w w.heap.size 1 A n (ints zs)) :
    Calls Tryd.prog 36 #[stV A n c s L] w fun e w' => e = .returned (.tuple #[.string ⟨#[]⟩, .bool false]) ∧ Below w.heap.size w w' := by
  have HG := Lib.hid (fun W (h : Below w.heap.size w W) => implGood A n c s L zs W hn hs ((hx.below h (Nat.le_refl _)).mono h.size))
  rw [hg] at HG
  clear hx hg
  unfold stV at *
  go_enter Tryd.func36, Tryd.ntmps36
  go_wp2_with fail
  obtain ⟨x0, y0, z0⟩ := boxed w #[.slice A n c, .string s, .int .i64 L] 60
  generalize World.alloc w _ = W0 at *
  refine (HG.out W0 y0).mono ?_
  rintro e' w1 ⟨rfl, hb1⟩
  have B1 : Below w.heap.size w w1 := y0.trans (hb1.mono (by omega))
  clear HG y0 x0 hb1
  go_wp2
  go_ret2
  exact ⟨rfl, B1⟩
/-- Both ends of a state, good or not: one answer. -/
theorem both (n : Nat) (s : ByteArray) (L : Int) (zs : List Int) (hn : n ≤ 1048576) (hs : s.size ≤ maxLen) (hl : zs.length = n) : ∃ (t : ByteArray) (ok : Bool),
    (∀ A c W, Rd W W.heap.size 1 A n (ints zs) → Calls Tryd.prog 41 #[stV A n c s L] W fun e w' => e = .returned (.tuple #[.string t, .bool ok]) ∧ Below W.heap.size W w') ∧
    (∀ A c W, Rd W W.heap.size 1 A n (ints zs) → W.rangeAt 1 0 (u32s consts) → Calls Tryd.prog 36 #[stV A n c s L] W fun e w' => e = .returned (.tuple #[.string t, .bool ok]) ∧ Below W.heap.size W w') := by
  cases hg : goodS zs s L with
  | false => exact ⟨_, _, fun A c W h => specEndNo A n c s L zs W hn hs hg h, fun A c W h _ => implEndNo A n c s L zs W hn hs hg h⟩
  | true =>
    obtain ⟨v, rfl, hv, h0, h1, h2⟩ := good_v8 hg
    obtain ⟨K, rfl⟩ := Int.eq_ofNat_of_zero_le h0
    have e8 : n = 8 := by rw [← hl]; rfl
    subst e8
    exact ⟨_, _, fun A c W h => specEnd A c s K v W hv (by omega) (by omega) hg h, fun A c W h hk => implEnd A c s K v W hv (by omega) (by omega) hg h hk⟩
end Go.Proofs.YtfoclgijhkibeabDoor.SpecEnd
