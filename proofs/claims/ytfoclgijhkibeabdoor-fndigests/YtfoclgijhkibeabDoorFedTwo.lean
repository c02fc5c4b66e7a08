/-
  A text fed in two parts gives the state of the whole text.
-/
import Derived.Test.YtfoclgijhkibeabDoorDigestI
namespace Go.Proofs.YtfoclgijhkibeabDoor.FedTwo
open Go.ChangeShapes Go.WideShapes Go.ChangeAt Go.RowKit
open Go.Proofs.YtfoclgijhkibeabDoor.Mem Go.Proofs.YtfoclgijhkibeabDoor.Ints Go.Proofs.YtfoclgijhkibeabDoor.State Go.Proofs.YtfoclgijhkibeabDoor.ShaComp Go.Proofs.YtfoclgijhkibeabDoor.Absorb Go.Proofs.YtfoclgijhkibeabDoor.End Go.Proofs.YtfoclgijhkibeabDoor.GoodState Go.Proofs.YtfoclgijhkibeabDoor.Digest Go.Proofs.YtfoclgijhkibeabDoor.DigestI Go.Proofs.YtfoclgijhkibeabDoor.ImplFeed
set_option linter.unusedVariables false
set_option maxRecDepth 100000

theorem rest_list (a : ByteArray) : (a.extract (64 * (a.size / 64)) a.size).data.toList = a.data.toList.drop (64 * (a.size / 64)) := by
  rw [ByteArray.data_extract, Array.toList_extract]; simp only [List.extract_eq_take_drop]; exact List.take_of_length_le (by simp)
theorem rest_two (a b : ByteArray) : ((a.extract (64 * (a.size / 64)) a.size) ++ b).extract (64 * (((a.extract (64 * (a.size / 64)) a.size).size + b.size) / 64)) ((a.extract (64 * (a.size / 64)) a.size).size + b.size) = (a ++ b).extract (64 * ((a ++ b).size / 64)) (a ++ b).size := by
  have h1 : (a.extract (64 * (a.size / 64)) a.size).size = a.size - 64 * (a.size / 64) := by simp
  have hl : a.data.toList.length = a.size := by simp
  have e1 := rest_list (a ++ b)
  have e2 := rest_list (a.extract (64 * (a.size / 64)) a.size ++ b)
  rw [ByteArray.size_append] at e1 e2 ⊢
  apply ByteArray.ext
  apply Array.toList_inj.1
  rw [e1, e2, ByteArray.data_append, ByteArray.data_append, Array.toList_append, Array.toList_append, rest_list, h1, ← List.drop_append_of_le_length (by omega), List.drop_drop]
  congr 1
  omega
theorem blk_two (a b : ByteArray) : blk (blk F8 a.data.toList (a.size / 64)) ((a.extract (64 * (a.size / 64)) a.size).data.toList ++ b.data.toList) (((a.extract (64 * (a.size / 64)) a.size).size + b.size) / 64) = blk F8 (a ++ b).data.toList ((a ++ b).size / 64) := by
  have h1 : (a.extract (64 * (a.size / 64)) a.size).size = a.size - 64 * (a.size / 64) := by simp
  have hl : a.data.toList.length = a.size := by simp
  have h3 : (a ++ b).size / 64 = a.size / 64 + ((a.extract (64 * (a.size / 64)) a.size).size + b.size) / 64 := by rw [ByteArray.size_append, h1]; omega
  rw [h3, blk_add, ByteArray.data_append, Array.toList_append, blk_left F8 a.data.toList _ _ (by omega), List.drop_append_of_le_length (by omega), rest_list]
/-- The state of a text, fed with another text. -/
theorem fedMore (g c : Nat) (a b : ByteArray) (W : World) (hs : a.size + b.size ≤ 600) (hx : Rd W W.heap.size 1 (some ⟨g, 0, none⟩) 8 (ints (blk F8 a.data.toList (a.size / 64)).list)) (hk : W.rangeAt 1 0 (u32s consts)) :
    Calls Tryd.prog 34 #[.agg #[.slice (some ⟨g, 0, none⟩) 8 c, .string (a.extract (64 * (a.size / 64)) a.size), .int .i64 (a.size : Int)], .string b] W fun e w' => ∃ g' c', e = .returned (.tuple #[.agg #[.slice (some ⟨g', 0, none⟩) 8 c', .string ((a ++ b).extract (64 * ((a ++ b).size / 64)) (a ++ b).size), .int .i64 ((a ++ b).size : Int)], .bool true]) ∧ w'.ownsRow W.heap.size 3 1 (.slice (some ⟨g', 0, none⟩) 8 c') 8 (ints (blk F8 (a ++ b).data.toList ((a ++ b).size / 64)).list) ∧ Below W.heap.size W w' := by
  have hv := blk_words (v := F8) a.data.toList F8_words (a.size / 64)
  obtain ⟨hg, hr⟩ := good_fed (blk F8 a.data.toList (a.size / 64)) a _ hv (by omega) rfl
  refine (implFeed (some ⟨g, 0, none⟩) c _ b a.size _ W hv (by omega) (by omega) hr hg hx hk).mono ?_
  rintro e w' ⟨g', c', rfl, ho, hb⟩
  rw [blk_two] at ho
  refine ⟨g', c', ?_, ho, hb⟩
  unfold stV
  rw [rest_two, ByteArray.size_append]
/-- The state of a text: its end is the digest of the text, and the program takes it for good. -/
theorem endOf (g c : Nat) (s : ByteArray) (W : World) (hs : s.size ≤ 600) (hx : Rd W W.heap.size 1 (some ⟨g, 0, none⟩) 8 (ints (blk F8 s.data.toList (s.size / 64)).list)) (hk : W.rangeAt 1 0 (u32s consts)) :
    Calls Tryd.prog 36 #[.agg #[.slice (some ⟨g, 0, none⟩) 8 c, .string (s.extract (64 * (s.size / 64)) s.size), .int .i64 (s.size : Int)]] W fun e w' => e = .returned (.tuple #[.string ⟨(dig s.data.toList).toArray⟩, .bool true]) ∧ Below W.heap.size W w' := by
  have hv := blk_words (v := F8) s.data.toList F8_words (s.size / 64)
  obtain ⟨hg, hr⟩ := good_fed (blk F8 s.data.toList (s.size / 64)) s _ hv (by omega) rfl
  have C := implEnd (some ⟨g, 0, none⟩) c _ s.size _ W hv (by omega) hr hg hx hk
  rw [dig_split s _ rfl] at C
  exact C
theorem goodOf (g c : Nat) (s : ByteArray) (W : World) (hs : s.size ≤ 600) (hx : Rd W W.heap.size 1 (some ⟨g, 0, none⟩) 8 (ints (blk F8 s.data.toList (s.size / 64)).list)) :
    Calls Tryd.prog 37 #[.agg #[.slice (some ⟨g, 0, none⟩) 8 c, .string (s.extract (64 * (s.size / 64)) s.size), .int .i64 (s.size : Int)]] W fun e w' => e = .returned (.bool true) ∧ Below W.heap.size W w' := by
  have hv := blk_words (v := F8) s.data.toList F8_words (s.size / 64)
  obtain ⟨hg, hr⟩ := good_fed (blk F8 s.data.toList (s.size / 64)) s _ hv (by omega) rfl
  have C := implGood (some ⟨g, 0, none⟩) 8 c _ s.size _ W (by omega) (by rw [hr]; unfold maxLen; omega) hx
  rw [hg] at C
  exact C
theorem dig_len (l : List UInt8) : (ByteArray.mk (dig l).toArray).size = 32 := by
  unfold dig
  simp only [ByteArray.size, List.size_toArray, outL_len]
  rfl
end Go.Proofs.YtfoclgijhkibeabDoor.FedTwo
