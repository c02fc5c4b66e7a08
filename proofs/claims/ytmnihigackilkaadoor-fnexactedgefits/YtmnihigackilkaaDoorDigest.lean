/-
  The digest of a text: contracts of the specification and of the program, and the walk of the law on DigestOf.
-/
import Derived.Test.YtmnihigackilkaaDoorImplFeed
namespace Go.Proofs.YtmnihigackilkaaDoor.Digest
open Go.ChangeShapes Go.WideShapes Go.ChangeAt Go.RowKit
open Go.Proofs.YtmnihigackilkaaDoor.Mem Go.Proofs.YtmnihigackilkaaDoor.Ints Go.Proofs.YtmnihigackilkaaDoor.State Go.Proofs.YtmnihigackilkaaDoor.ShaComp Go.Proofs.YtmnihigackilkaaDoor.ShaSched Go.Proofs.YtmnihigackilkaaDoor.ShaRound Go.Proofs.YtmnihigackilkaaDoor.Absorb Go.Proofs.YtmnihigackilkaaDoor.End Go.Proofs.YtmnihigackilkaaDoor.GoodState Go.Proofs.YtmnihigackilkaaDoor.Feed Go.Proofs.YtmnihigackilkaaDoor.Feed2 Go.Proofs.YtmnihigackilkaaDoor.ImplFeed
set_option linter.unusedVariables false
set_option maxRecDepth 100000

def F8 : V8 := ⟨1779033703, 3144134277, 1013904242, 2773480762, 1359893119, 2600822924, 528734635, 1541459225⟩
theorem F8_list : F8.list = Words.firsts := by decide
theorem F8_words : ∀ z ∈ F8.list, 0 ≤ z ∧ z ≤ 4294967295 := by decide
/-- Blocks absorbed one part after another. -/
theorem blk_add (v : V8) (l : List UInt8) (k : Nat) : ∀ j, blk v l (k + j) = blk (blk v l k) (l.drop (64 * k)) j
  | 0 => rfl
  | j + 1 => by
    show compV (blk v l (k + j)) ((l.drop (64 * (k + j))).take 64) = compV (blk (blk v l k) (l.drop (64 * k)) j) (((l.drop (64 * k)).drop (64 * j)).take 64)
    rw [blk_add v l k j, List.drop_drop, show 64 * k + 64 * j = 64 * (k + j) from by omega]
theorem blk_left (v : V8) (a b : List UInt8) : ∀ k, 64 * k ≤ a.length → blk v (a ++ b) k = blk v a k
  | 0, _ => rfl
  | k + 1, h => by
    show compV (blk v (a ++ b) k) (((a ++ b).drop (64 * k)).take 64) = compV (blk v a k) ((a.drop (64 * k)).take 64)
    rw [blk_left v a b k (by omega), List.drop_append_of_le_length (by omega), List.take_append_of_le_length (by simp; omega)]
def dig (l : List UInt8) : List UInt8 := outL (blk F8 (l ++ Pad.tailL l.length) ((l.length + (Pad.tailL l.length).length) / 64)).list
theorem dig_split (s : ByteArray) (rest : ByteArray) (hr : rest = s.extract (64 * (s.size / 64)) s.size) :
    outL (blk (blk F8 s.data.toList (s.size / 64)) (rest.data.toList ++ Pad.tailL s.size) ((rest.size + (Pad.tailL s.size).length) / 64)).list = dig s.data.toList := by
  have hl : s.data.toList.length = s.size := by simp
  have h1 : rest.size = s.size - 64 * (s.size / 64) := by rw [hr]; simp
  have h2 : rest.data.toList = s.data.toList.drop (64 * (s.size / 64)) := by
    rw [hr, ByteArray.data_extract, Array.toList_extract]; simp only [List.extract_eq_take_drop]; exact List.take_of_length_le (by simp)
  unfold dig
  rw [hl]
  have h3 : (s.size + (Pad.tailL s.size).length) / 64 = s.size / 64 + (rest.size + (Pad.tailL s.size).length) / 64 := by rw [h1]; omega
  rw [h3, blk_add, blk_left F8 s.data.toList _ _ (by omega), List.drop_append_of_le_length (by omega), h2]

theorem l1First (w : World) : Calls Tryd.prog 147 #[] w fun e w' => ∃ u, e = .returned u ∧ Wd w' u F8 ∧ Below w.heap.size w w' := by
  go_enter Tryd.func147, Tryd.ntmps147
  go_wp2
  go_ret
  refine ⟨_, rfl, ⟨_, _, rfl, ?_⟩, (Below.refl _ w).alloc (Nat.le_refl _) _⟩
  exact (Words.lit_rd32 w _ 149 F8.list rfl).mono (by simp)
set_option maxHeartbeats 1000000 in
theorem l1Digest (s : ByteArray) (w : World) (hs : s.size ≤ 1000000) : Calls Tryd.prog 131 #[.string s] w fun e w' => e = .returned (.string ⟨(dig s.data.toList).toArray⟩) ∧ Below w.heap.size w w' := by
  have hts := SpecEnd.tail_size s.size
  have CT := Lib.hid (fun W => Pad.l1Tail s.size W hs)
  have CF := Lib.hid (fun W u (h : Wd W u F8) => l1Feed u F8 (s ++ ⟨(Pad.tailL s.size).toArray⟩) W F8_words (by rw [ByteArray.size_append]; omega) h)
  have e1 : (s ++ (⟨(Pad.tailL s.size).toArray⟩ : ByteArray)).data.toList = s.data.toList ++ Pad.tailL s.size := by rw [ByteArray.data_append, Array.toList_append]
  have e2 : (s ++ (⟨(Pad.tailL s.size).toArray⟩ : ByteArray)).size = s.size + (Pad.tailL s.size).length := by rw [ByteArray.size_append]; congr 1
  rw [e1, e2] at CF
  have HBW := Lib.hid (blk_words (v := F8) (s.data.toList ++ Pad.tailL s.size) F8_words ((s.size + (Pad.tailL s.size).length) / 64))
  have HD : Hid (dig s.data.toList = outL (blk F8 (s.data.toList ++ Pad.tailL s.size) ((s.size + (Pad.tailL s.size).length) / 64)).list) := Lib.hid (by unfold dig; rw [show s.data.toList.length = s.size from by simp])
  clear e1 e2
  generalize blk F8 (s.data.toList ++ Pad.tailL s.size) ((s.size + (Pad.tailL s.size).length) / 64) = R at *
  generalize (ByteArray.mk (Pad.tailL s.size).toArray) = tl at *
  have hadd : ∀ W, (Op.stringOp .add s tl).run Tryd.prog W = .ok (.string (s ++ tl)) W := fun W => run_string_add_sum W s tl (by omega)
  generalize (s ++ tl).extract _ _ = rest at *
  go_enter Tryd.func131, Tryd.ntmps131
  go_wp2_with fail
  refine (l1First _).mono ?_
  rintro e w1 ⟨u1, rfl, hW1, hb1⟩
  go_wp2_with fail
  refine (CT.out _).mono ?_
  rintro e w2 ⟨rfl, hb2⟩
  have hB2 : Below w.heap.size w w2 := hb1.trans (hb2.mono hb1.size)
  have HW2 := Lib.hid (hW1.below hb2)
  clear hW1 hb1 hb2
  go_wp2_with fail
  refine (CF.out _ u1 HW2.out).mono ?_
  rintro e w3 ⟨u3, rfl, hW3, hb3⟩
  have hB3 : Below w.heap.size w w3 := hB2.trans (hb3.mono hB2.size)
  have C5 := Lib.hid (l1Bytes u3 R w3 HBW.out hW3)
  clear hW3 hb3 HW2 hB2
  go_wp2_with fail
  refine C5.out.mono ?_
  rintro e w9 ⟨rfl, hb9⟩
  have hB9 : Below w.heap.size w w9 := hB3.trans (hb9.mono hB3.size)
  clear hb9 C5
  go_wp2
  go_ret
  exact ⟨by rw [HD.out]; rfl, hB9⟩
theorem good_new : goodS Words.firsts ByteArray.empty 0 = true := by decide
end Go.Proofs.YtmnihigackilkaaDoor.Digest
