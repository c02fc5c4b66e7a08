/-
  The digest of a text, by the program: its contract, and the walk of the law on DigestOf. The program's two tables of words are as its text lays them.
-/
import Derived.Test.YtfoclgijhkibeabDoorImplFeed
namespace Go.Proofs.YtfoclgijhkibeabDoor.Digest
open Go.ChangeShapes Go.WideShapes Go.ChangeAt Go.RowKit
open Go.Proofs.YtfoclgijhkibeabDoor.Mem Go.Proofs.YtfoclgijhkibeabDoor.Ints Go.Proofs.YtfoclgijhkibeabDoor.State Go.Proofs.YtfoclgijhkibeabDoor.ShaComp Go.Proofs.YtfoclgijhkibeabDoor.ShaSched Go.Proofs.YtfoclgijhkibeabDoor.ShaRound Go.Proofs.YtfoclgijhkibeabDoor.Absorb Go.Proofs.YtfoclgijhkibeabDoor.End Go.Proofs.YtfoclgijhkibeabDoor.GoodState Go.Proofs.YtfoclgijhkibeabDoor.Feed Go.Proofs.YtfoclgijhkibeabDoor.Feed2 Go.Proofs.YtfoclgijhkibeabDoor.ImplFeed
set_option linter.unusedVariables false
set_option maxRecDepth 100000

def F8 : V8 := ⟨1779033703, 3144134277, 1013904242, 2773480762, 1359893119, 2600822924, 528734635, 1541459225⟩
theorem F8_list : F8.list = Words.firsts := by decide
theorem F8_words : ∀ z ∈ F8.list, 0 ≤ z ∧ z ≤ 4294967295 := by decide
/-- Blocks absorbed one part after another. -/
theorem blk_add (v : V8) (l : List UInt8) (k : Nat) : ∀ j, blk v l (k + j) = blk (blk v l k) (l.drop (64 * k)) j
  | 0 => rfl
  | j + 1 => by
    show compV (blk v l (k + j)) ((l.drop (64 * (k + j))).take 64) = compV (blk (blk v l k) (l.drop (64 * k)) j) (((l.drop (64 * k)).drop (64 * j)).take 64)
    rw [blk_add v l k j, List.drop_drop, show 64 * k + 64 * j = 64 * (k + j) from by omega]
theorem blk_left (v : V8) (a b : List UInt8) : ∀ k, 64 * k ≤ a.length → blk v (a ++ b) k = blk v a k
  | 0, _ => rfl
  | k + 1, h => by
    show compV (blk v (a ++ b) k) (((a ++ b).drop (64 * k)).take 64) = compV (blk v a k) ((a.drop (64 * k)).take 64)
    rw [blk_left v a b k (by omega), List.drop_append_of_le_length (by omega), List.take_append_of_le_length (by simp; omega)]
def dig (l : List UInt8) : List UInt8 := outL (blk F8 (l ++ Pad.tailL l.length) ((l.length + (Pad.tailL l.length).length) / 64)).list
theorem dig_split (s : ByteArray) (rest : ByteArray) (hr : rest = s.extract (64 * (s.size / 64)) s.size) :
    outL (blk (blk F8 s.data.toList (s.size / 64)) (rest.data.toList ++ Pad.tailL s.size) ((rest.size + (Pad.tailL s.size).length) / 64)).list = dig s.data.toList := by
  have hl : s.data.toList.length = s.size := by simp
  have h1 : rest.size = s.size - 64 * (s.size / 64) := by rw [hr]; simp
  have h2 : rest.data.toList = s.data.toList.drop (64 * (s.size / 64)) := by
    rw [hr, ByteArray.data_extract, Array.toList_extract]; simp only [List.extract_eq_take_drop]; exact List.take_of_length_le (by simp)
  unfold dig
  rw [hl]
  have h3 : (s.size + (Pad.tailL s.size).length) / 64 = s.size / 64 + (rest.size + (Pad.tailL s.size).length) / 64 := by rw [h1]; omega
  rw [h3, blk_add, blk_left F8 s.data.toList _ _ (by omega), List.drop_append_of_le_length (by omega), h2]

theorem l1First (w : World) : Calls Tryd.prog 104 #[] w fun e w' => ∃ u, e = .returned u ∧ Wd w' u F8 ∧ Below w.heap.size w w' := by
  go_enter Tryd.func104, Tryd.ntmps104
  go_wp2
  go_ret
  refine ⟨_, rfl, ⟨_, _, rfl, ?_⟩, (Below.refl _ w).alloc (Nat.le_refl _) _⟩
  exact (Words.lit_rd32 w _ 107 F8.list rfl).mono (by simp)
set_option maxHeartbeats 1000000 in
theorem l1Digest (s : ByteArray) (w : World) (hs : s.size ≤ 1000000) : Calls Tryd.prog 90 #[.string s] w fun e w' => e = .returned (.string ⟨(dig s.data.toList).toArray⟩) ∧ Below w.heap.size w w' := by
  have hts := SpecEnd.tail_size s.size
  have CT := Lib.hid (fun W => Pad.l1Tail s.size W hs)
  have CF := Lib.hid (fun W u (h : Wd W u F8) => l1Feed u F8 (s ++ ⟨(Pad.tailL s.size).toArray⟩) W F8_words (by rw [ByteArray.size_append]; omega) h)
  have e1 : (s ++ (⟨(Pad.tailL s.size).toArray⟩ : ByteArray)).data.toList = s.data.toList ++ Pad.tailL s.size := by rw [ByteArray.data_append, Array.toList_append]
  have e2 : (s ++ (⟨(Pad.tailL s.size).toArray⟩ : ByteArray)).size = s.size + (Pad.tailL s.size).length := by rw [ByteArray.size_append]; congr 1
  rw [e1, e2] at CF
  have HBW := Lib.hid (blk_words (v := F8) (s.data.toList ++ Pad.tailL s.size) F8_words ((s.size + (Pad.tailL s.size).length) / 64))
  have HD : Hid (dig s.data.toList = outL (blk F8 (s.data.toList ++ Pad.tailL s.size) ((s.size + (Pad.tailL s.size).length) / 64)).list) := Lib.hid (by unfold dig; rw [show s.data.toList.length = s.size from by simp])
  clear e1 e2
  generalize blk F8 (s.data.toList ++ Pad.tailL s.size) ((s.size + (Pad.tailL s.size).length) / 64) = R at *
  generalize (ByteArray.mk (Pad.tailL s.size).toArray) = tl at *
  have hadd : ∀ W, (Op.stringOp .add s tl).run Tryd.prog W = .ok (.string (s ++ tl)) W := fun W => run_string_add_sum W s tl (by omega)
  generalize (s ++ tl).extract _ _ = rest at *
  go_enter Tryd.func90, Tryd.ntmps90
  go_wp2_with fail
  refine (l1First _).mono ?_
  rintro e w1 ⟨u1, rfl, hW1, hb1⟩
  go_wp2_with fail
  refine (CT.out _).mono ?_
  rintro e w2 ⟨rfl, hb2⟩
  have hB2 : Below w.heap.size w w2 := hb1.trans (hb2.mono hb1.size)
  have HW2 := Lib.hid (hW1.below hb2)
  clear hW1 hb1 hb2
  go_wp2_with fail
  refine (CF.out _ u1 HW2.out).mono ?_
  rintro e w3 ⟨u3, rfl, hW3, hb3⟩
  have hB3 : Below w.heap.size w w3 := hB2.trans (hb3.mono hB2.size)
  have C5 := Lib.hid (l1Bytes u3 R w3 HBW.out hW3)
  clear hW3 hb3 HW2 hB2
  go_wp2_with fail
  refine C5.out.mono ?_
  rintro e w9 ⟨rfl, hb9⟩
  have hB9 : Below w.heap.size w w9 := hB3.trans (hb9.mono hB3.size)
  clear hb9 C5
  go_wp2
  go_ret
  exact ⟨by rw [HD.out]; rfl, hB9⟩
theorem specDigest (s : ByteArray) (w : World) (hs : s.size ≤ 600) : Calls Tryd.prog 30 #[.string s] w fun e w' => e = .returned (.tuple #[.string ⟨(dig s.data.toList).toArray⟩, .bool true]) ∧ Below w.heap.size w w' := by
  go_enter Tryd.func30, Tryd.ntmps30
  go_wp2_with fail
  refine (l1Digest s _ (by omega)).mono ?_
  rintro e w' ⟨rfl, hb⟩
  go_wp2
  go_ret2
  exact ⟨rfl, hb⟩
theorem specLong (s : ByteArray) (w : World) (hs : 600 < s.size) (hm : s.size ≤ maxLen) : Calls Tryd.prog 30 #[.string s] w fun e w' => e = .returned (.tuple #[.string ⟨#[]⟩, .bool false]) ∧ w = w' := by
  unfold maxLen at hm
  go_enter Tryd.func30, Tryd.ntmps30
  go_wp2
  go_ret2
  exact ⟨rfl, rfl⟩
theorem good_new : goodS Words.firsts ByteArray.empty 0 = true := by decide
end Go.Proofs.YtfoclgijhkibeabDoor.Digest

namespace Go.Proofs.YtfoclgijhkibeabDoor.DigestI
open Go.ChangeShapes Go.WideShapes Go.ChangeAt Go.RowKit
open Go.Proofs.YtfoclgijhkibeabDoor.Mem Go.Proofs.YtfoclgijhkibeabDoor.Ints Go.Proofs.YtfoclgijhkibeabDoor.State Go.Proofs.YtfoclgijhkibeabDoor.ShaComp Go.Proofs.YtfoclgijhkibeabDoor.ShaSched Go.Proofs.YtfoclgijhkibeabDoor.ShaRound Go.Proofs.YtfoclgijhkibeabDoor.Absorb Go.Proofs.YtfoclgijhkibeabDoor.End Go.Proofs.YtfoclgijhkibeabDoor.GoodState Go.Proofs.YtfoclgijhkibeabDoor.Feed Go.Proofs.YtfoclgijhkibeabDoor.Feed2 Go.Proofs.YtfoclgijhkibeabDoor.ImplFeed Go.Proofs.YtfoclgijhkibeabDoor.Digest
set_option linter.unusedVariables false
set_option maxRecDepth 100000

theorem empty_add (s : ByteArray) : ByteArray.empty ++ s = s := by apply ByteArray.ext; rw [ByteArray.data_append]; simp
theorem good_fed (v : V8) (s rest : ByteArray) (hv : ∀ z ∈ v.list, 0 ≤ z ∧ z ≤ 4294967295) (hs : s.size ≤ 1000000) (hr : rest = s.extract (64 * (s.size / 64)) s.size) : goodS v.list rest (s.size : Int) = true ∧ rest.size = s.size % 64 := by
  have h1 : rest.size = s.size % 64 := by rw [hr]; simp; omega
  refine ⟨goodS_yes ⟨rfl, ?_, by omega, by omega, by omega⟩, h1⟩
  unfold allB
  rw [List.all_eq_true]
  intro z hz
  simpa [inB] using hv z hz
/-- The new state fed with a text that fits. -/
theorem fedNew (g c : Nat) (s : ByteArray) (W : World) (hs : s.size ≤ 600) (hx : Rd W W.heap.size 1 (some ⟨g, 0, none⟩) 8 (ints F8.list)) (hk : W.rangeAt 1 0 (u32s consts)) :
    Calls Tryd.prog 34 #[.agg #[.slice (some ⟨g, 0, none⟩) 8 c, .string ByteArray.empty, .int .i64 0], .string s] W fun e w' => ∃ g' c', e = .returned (.tuple #[.agg #[.slice (some ⟨g', 0, none⟩) 8 c', .string (s.extract (64 * (s.size / 64)) s.size), .int .i64 (s.size : Int)], .bool true]) ∧ w'.ownsRow W.heap.size 3 1 (.slice (some ⟨g', 0, none⟩) 8 c') 8 (ints (blk F8 s.data.toList (s.size / 64)).list) ∧ Below W.heap.size W w' := by
  have C := implFeed (some ⟨g, 0, none⟩) c ByteArray.empty s 0 F8 W F8_words hs (by omega) (by decide) (by rw [F8_list]; exact good_new) hx hk
  refine C.mono ?_
  rintro e w' ⟨g', c', rfl, ho, hb⟩
  have e0 : ByteArray.empty.size + s.size = s.size := by show 0 + s.size = s.size; omega
  have e1 : (ByteArray.empty.data.toList ++ s.data.toList) = s.data.toList := by simp
  rw [e0, e1] at ho
  refine ⟨g', c', ?_, ho, hb⟩
  unfold stV
  rw [empty_add, e0, Nat.zero_add]
set_option maxHeartbeats 4000000 in
theorem implDigest (s : ByteArray) (w : World) (hs : s.size ≤ 600) (hf : w.rangeAt 0 0 (u32s Words.firsts)) (hk : w.rangeAt 1 0 (u32s consts)) :
    Calls Tryd.prog 29 #[.string s] w fun e w' => e = .returned (.tuple #[.string ⟨(dig s.data.toList).toArray⟩, .bool true]) ∧ Below w.heap.size w w' := by
  have hlt : 1 < w.heap.size := World.block_lt_of_cell? w ⟨1, 0, none⟩ (hk 0 (.int .u32 0x428a2f98) rfl)
  have HK := Lib.hid (fun W (h : Below w.heap.size w W) => rangeAt_heap (h.block 1 hlt) hk)
  have N := Lib.hid (Words.implNew w hf)
  have HD := Lib.hid (fun rest h => dig_split s rest h)
  have HVW := Lib.hid (blk_words (v := F8) s.data.toList F8_words (s.size / 64))
  clear hf hk
  unfold stV at N
  go_enter Tryd.func29, Tryd.ntmps29
  go_wp2_with fail
  refine N.out.mono ?_
  rintro e w1 ⟨g, c, rfl, ho1, hb1⟩
  rw [← F8_list] at ho1
  have CF := Lib.hid (fedNew g c s w1 hs (Rd.own ho1) (HK.out w1 hb1))
  clear ho1 N
  go_wp2_with fail
  refine CF.out.mono ?_
  rintro e w2 ⟨g2, c2, rfl, ho2, hb2⟩
  have hB2 : Below w.heap.size w w2 := hb1.trans (hb2.mono hb1.size)
  have HO2 := Lib.hid ho2
  clear ho2 hb1 hb2 CF
  generalize hrst : s.extract (64 * (s.size / 64)) s.size = rest at *
  have HRS := Lib.hid hrst
  clear hrst
  go_wp2_with fail
  have hal : Below w2.heap.size w2 (w2.alloc (.cells #[.slice (some ⟨g2, 0, none⟩) 8 c2, .string rest, .int .i64 (s.size : Int)] 60)) := (Below.refl _ _).alloc (Nat.le_refl _) _
  have hB3 := hB2.alloc hB2.size (.cells #[.slice (some ⟨g2, 0, none⟩) 8 c2, .string rest, .int .i64 (s.size : Int)] 60)
  generalize w2.alloc (.cells #[.slice (some ⟨g2, 0, none⟩) 8 c2, .string rest, .int .i64 (s.size : Int)] 60) = w3 at *
  have hgf := good_fed _ s rest HVW.out (by omega) HRS.out.symm
  have CE := Lib.hid (implEnd (some ⟨g2, 0, none⟩) c2 rest s.size (blk F8 s.data.toList (s.size / 64)) w3 HVW.out (by omega) hgf.2 hgf.1 (((Rd.own HO2.out).below hal (Nat.le_refl _)).mono hal.size) (HK.out w3 hB3))
  rw [HD.out rest rfl] at CE
  unfold stV at CE
  clear HD HO2 hal hgf HVW
  refine CE.out.mono ?_
  rintro e w4 ⟨rfl, hb4⟩
  have hB4 : Below w.heap.size w w4 := hB3.trans (hb4.mono hB3.size)
  clear hb4 CE hB3 hB2
  generalize hu : (ByteArray.mk (dig s.data.toList).toArray) = u
  have HU := Lib.hid hu
  clear hu
  go_wp2
  go_ret2
  exact ⟨by rw [HU.out]; rfl, hB4⟩
set_option maxHeartbeats 2000000 in
theorem implDigestLong (s : ByteArray) (w : World) (hs : 600 < s.size) (hm : s.size ≤ maxLen) (hf : w.rangeAt 0 0 (u32s Words.firsts)) :
    Calls Tryd.prog 29 #[.string s] w fun e w' => e = .returned (.tuple #[.string ⟨#[]⟩, .bool false]) ∧ Below w.heap.size w w' := by
  have N := Lib.hid (Words.implNew w hf)
  clear hf
  unfold stV at N
  go_enter Tryd.func29, Tryd.ntmps29
  go_wp2_with fail
  refine N.out.mono ?_
  rintro e w1 ⟨g, c, rfl, ho1, hb1⟩
  have CF := Lib.hid (implFeedLong (some ⟨g, 0, none⟩) c ByteArray.empty s 0 Words.firsts w1 hs hm (by unfold maxLen; decide) good_new (Rd.own ho1))
  unfold stV at CF
  clear ho1 N
  go_wp2_with fail
  refine CF.out.mono ?_
  rintro e w2 ⟨rfl, hb2⟩
  have hB2 : Below w.heap.size w w2 := hb1.trans (hb2.mono hb1.size)
  have hB3 := hB2.alloc hB2.size (.cells #[.slice none 0 0, .string ⟨#[]⟩, .int .i64 0] 60)
  clear hb1 hb2 CF
  go_wp2
  go_ret2
  exact ⟨rfl, hB3⟩
end Go.Proofs.YtfoclgijhkibeabDoor.DigestI
