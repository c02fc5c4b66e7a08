/-
  The digest of a text, by the program: its contract, and the walk of the law on DigestOf. The program's two tables of words are as its text lays them.
-/
import Derived.Test.YtmnihigackilkaaDoorDigest
namespace Go.Proofs.YtmnihigackilkaaDoor.DigestI
open Go.ChangeShapes Go.WideShapes Go.ChangeAt Go.RowKit
open Go.Proofs.YtmnihigackilkaaDoor.Mem Go.Proofs.YtmnihigackilkaaDoor.Ints Go.Proofs.YtmnihigackilkaaDoor.State Go.Proofs.YtmnihigackilkaaDoor.ShaComp Go.Proofs.YtmnihigackilkaaDoor.ShaSched Go.Proofs.YtmnihigackilkaaDoor.ShaRound Go.Proofs.YtmnihigackilkaaDoor.Absorb Go.Proofs.YtmnihigackilkaaDoor.End Go.Proofs.YtmnihigackilkaaDoor.GoodState Go.Proofs.YtmnihigackilkaaDoor.Feed Go.Proofs.YtmnihigackilkaaDoor.Feed2 Go.Proofs.YtmnihigackilkaaDoor.ImplFeed Go.Proofs.YtmnihigackilkaaDoor.Digest
set_option linter.unusedVariables false
set_option maxRecDepth 100000

theorem empty_add (s : ByteArray) : ByteArray.empty ++ s = s := by apply ByteArray.ext; rw [ByteArray.data_append]; simp
theorem good_fed (v : V8) (s rest : ByteArray) (hv : ∀ z ∈ v.list, 0 ≤ z ∧ z ≤ 4294967295) (hs : s.size ≤ 1000000) (hr : rest = s.extract (64 * (s.size / 64)) s.size) : goodS v.list rest (s.size : Int) = true ∧ rest.size = s.size % 64 := by
  have h1 : rest.size = s.size % 64 := by rw [hr]; simp; omega
  refine ⟨goodS_yes ⟨rfl, ?_, by omega, by omega, by omega⟩, h1⟩
  unfold allB
  rw [List.all_eq_true]
  intro z hz
  simpa [inB] using hv z hz
/-- The new state fed with a text that fits. -/
theorem fedNew (g c : Nat) (s : ByteArray) (W : World) (hs : s.size ≤ 600) (hx : Rd W W.heap.size 1 (some ⟨g, 0, none⟩) 8 (ints F8.list)) (hk : W.rangeAt 1 0 (u32s consts)) :
    Calls Tryd.prog 92 #[.agg #[.slice (some ⟨g, 0, none⟩) 8 c, .string ByteArray.empty, .int .i64 0], .string s] W fun e w' => ∃ g' c', e = .returned (.tuple #[.agg #[.slice (some ⟨g', 0, none⟩) 8 c', .string (s.extract (64 * (s.size / 64)) s.size), .int .i64 (s.size : Int)], .bool true]) ∧ w'.ownsRow W.heap.size 3 1 (.slice (some ⟨g', 0, none⟩) 8 c') 8 (ints (blk F8 s.data.toList (s.size / 64)).list) ∧ Below W.heap.size W w' := by
  have C := implFeed (some ⟨g, 0, none⟩) c ByteArray.empty s 0 F8 W F8_words hs (by omega) (by decide) (by rw [F8_list]; exact good_new) hx hk
  refine C.mono ?_
  rintro e w' ⟨g', c', rfl, ho, hb⟩
  have e0 : ByteArray.empty.size + s.size = s.size := by show 0 + s.size = s.size; omega
  have e1 : (ByteArray.empty.data.toList ++ s.data.toList) = s.data.toList := by simp
  rw [e0, e1] at ho
  refine ⟨g', c', ?_, ho, hb⟩
  unfold stV
  rw [empty_add, e0, Nat.zero_add]
set_option maxHeartbeats 4000000 in
theorem implDigest (s : ByteArray) (w : World) (hs : s.size ≤ 600) (hf : w.rangeAt 0 0 (u32s Words.firsts)) (hk : w.rangeAt 1 0 (u32s consts)) :
    Calls Tryd.prog 23 #[.string s] w fun e w' => e = .returned (.tuple #[.string ⟨(dig s.data.toList).toArray⟩, .bool true]) ∧ Below w.heap.size w w' := by
  have hlt : 1 < w.heap.size := World.block_lt_of_cell? w ⟨1, 0, none⟩ (hk 0 (.int .u32 0x428a2f98) rfl)
  have HK := Lib.hid (fun W (h : Below w.heap.size w W) => rangeAt_heap (h.block 1 hlt) hk)
  have N := Lib.hid (Words.implNew w hf)
  have HD := Lib.hid (fun rest h => dig_split s rest h)
  have HVW := Lib.hid (blk_words (v := F8) s.data.toList F8_words (s.size / 64))
  clear hf hk
  unfold stV at N
  go_enter Tryd.func23, Tryd.ntmps23
  go_wp2_with fail
  refine N.out.mono ?_
  rintro e w1 ⟨g, c, rfl, ho1, hb1⟩
  rw [← F8_list] at ho1
  have CF := Lib.hid (fedNew g c s w1 hs (Rd.own ho1) (HK.out w1 hb1))
  clear ho1 N
  go_wp2_with fail
  refine CF.out.mono ?_
  rintro e w2 ⟨g2, c2, rfl, ho2, hb2⟩
  have hB2 : Below w.heap.size w w2 := hb1.trans (hb2.mono hb1.size)
  have HO2 := Lib.hid ho2
  clear ho2 hb1 hb2 CF
  generalize hrst : s.extract (64 * (s.size / 64)) s.size = rest at *
  have HRS := Lib.hid hrst
  clear hrst
  go_wp2_with fail
  have hal : Below w2.heap.size w2 (w2.alloc (.cells #[.slice (some ⟨g2, 0, none⟩) 8 c2, .string rest, .int .i64 (s.size : Int)] 107)) := (Below.refl _ _).alloc (Nat.le_refl _) _
  have hB3 := hB2.alloc hB2.size (.cells #[.slice (some ⟨g2, 0, none⟩) 8 c2, .string rest, .int .i64 (s.size : Int)] 107)
  generalize w2.alloc (.cells #[.slice (some ⟨g2, 0, none⟩) 8 c2, .string rest, .int .i64 (s.size : Int)] 107) = w3 at *
  have hgf := good_fed _ s rest HVW.out (by omega) HRS.out.symm
  have CE := Lib.hid (implEnd (some ⟨g2, 0, none⟩) c2 rest s.size (blk F8 s.data.toList (s.size / 64)) w3 HVW.out (by omega) hgf.2 hgf.1 (((Rd.own HO2.out).below hal (Nat.le_refl _)).mono hal.size) (HK.out w3 hB3))
  rw [HD.out rest rfl] at CE
  unfold stV at CE
  clear HD HO2 hal hgf HVW
  refine CE.out.mono ?_
  rintro e w4 ⟨rfl, hb4⟩
  have hB4 : Below w.heap.size w w4 := hB3.trans (hb4.mono hB3.size)
  clear hb4 CE hB3 hB2
  generalize hu : (ByteArray.mk (dig s.data.toList).toArray) = u
  have HU := Lib.hid hu
  clear hu
  go_wp2
  go_ret2
  exact ⟨by rw [HU.out]; rfl, hB4⟩
set_option maxHeartbeats 2000000 in
theorem implDigestLong (s : ByteArray) (w : World) (hs : 600 < s.size) (hm : s.size ≤ maxLen) (hf : w.rangeAt 0 0 (u32s Words.firsts)) :
    Calls Tryd.prog 23 #[.string s] w fun e w' => e = .returned (.tuple #[.string ⟨#[]⟩, .bool false]) ∧ Below w.heap.size w w' := by
  have N := Lib.hid (Words.implNew w hf)
  clear hf
  unfold stV at N
  go_enter Tryd.func23, Tryd.ntmps23
  go_wp2_with fail
  refine N.out.mono ?_
  rintro e w1 ⟨g, c, rfl, ho1, hb1⟩
  have CF := Lib.hid (implFeedLong (some ⟨g, 0, none⟩) c ByteArray.empty s 0 Words.firsts w1 hs hm (by unfold maxLen; decide) good_new (Rd.own ho1))
  unfold stV at CF
  clear ho1 N
  go_wp2_with fail
  refine CF.out.mono ?_
  rintro e w2 ⟨rfl, hb2⟩
  have hB2 : Below w.heap.size w w2 := hb1.trans (hb2.mono hb1.size)
  have hB3 := hB2.alloc hB2.size (.cells #[.slice none 0 0, .string ⟨#[]⟩, .int .i64 0] 107)
  clear hb1 hb2 CF
  go_wp2
  go_ret2
  exact ⟨rfl, hB3⟩
end Go.Proofs.YtmnihigackilkaaDoor.DigestI
