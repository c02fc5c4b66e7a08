/-
  The text of a list of runes: contracts of the reference and of the program, and the walk of the law on TextOf. For every list of numbers both answer alike, and the argument is left as it was.
-/
import Derived.Test.YtehmlkcnhccjmabDoorEnc
import Derived.Test.YtehmlkcnhccjmabDoorPairs
import Derived.Lib.AppendStr
import Derived.Laws.Cover4
namespace Go.Proofs.YtehmlkcnhccjmabDoor.Text
open Go.ChangeShapes Go.WideShapes Go.ChangeAt Go.RowKit
open Go.Proofs.YtehmlkcnhccjmabDoor.Mem Go.Proofs.YtehmlkcnhccjmabDoor.Rune Go.Proofs.YtehmlkcnhccjmabDoor.Ints Go.Proofs.YtehmlkcnhccjmabDoor.Enc Go.Proofs.YtehmlkcnhccjmabDoor.Pairs
set_option linter.unusedVariables false

def encL (n : Int) : List UInt8 := (Utf8.encode n).data.toList
def textL (l : List Int) : List UInt8 := l.flatMap encL
def resT (l : List Int) : ByteArray := if okL l then ⟨(textL l).toArray⟩ else ⟨#[]⟩
theorem resT_yes {l : List Int} (h : okL l = true) : resT l = ⟨(textL l).toArray⟩ := by unfold resT; rw [if_pos h]
theorem resT_no {l : List Int} (h : okL l = false) : resT l = ⟨#[]⟩ := by unfold resT; rw [h]; rfl
theorem textL_snoc (zs : List Int) (k : Nat) (h : k < zs.length) : textL (zs.take (k + 1)) = textL (zs.take k) ++ encL zs[k] := by
  unfold textL; rw [take_snoc_int zs k h, List.flatMap_append, List.flatMap_singleton]
theorem data_len (b : ByteArray) : b.data.toList.length = b.size := by rw [Array.length_toList]; rfl
theorem encL_len (n : Int) : (encL n).length = (Utf8.encode n).size := data_len _
theorem textL_len (l : List Int) : (textL l).length ≤ 4 * l.length := by
  induction l with
  | nil => simp [textL]
  | cons a l ih =>
    have h1 := encL_len a
    have h2 := encode_size_le a
    simp only [textL, List.flatMap_cons, List.length_append, List.length_cons] at ih ⊢
    omega
theorem app_data (a b : ByteArray) : (a ++ b).data.toList = a.data.toList ++ b.data.toList := by
  rw [ByteArray.data_append, Array.toList_append]
theorem mk_toList (s : ByteArray) : (⟨s.data.toList.toArray⟩ : ByteArray) = s := by cases s; simp
theorem strCells_byteV (s : ByteArray) : Lib.strCells s = s.data.toList.map byteV := rfl
theorem infoB : (Tryd.prog.info? 5).map (fun i => (i.zero, i.size, i.bytes)) = some (some (.int .u8 0), 1, 1) := by kernel_rfl
set_option maxHeartbeats 1000000 in
theorem specText (A : Option Addr) (n c : Nat) (zs : List Int) (B : Nat) (w : World) (hn : n ≤ 1048576) (hB : B ≤ w.heap.size) (hx : Rd w B 1 A n (ints zs)) :
    Calls Tryd.prog 38 #[.slice A n c] w fun e w' => e = .returned (.tuple #[.string (resT zs), .bool (okL zs)]) ∧ Below w.heap.size w w' := by
  have C := Lib.hid (l2All A n c zs B w hn hx)
  have lx := hx.len
  subst lx
  rcases hg : okL zs with _ | _
  · rw [resT_no hg]
    rw [hg] at C
    clear hg hx
    go_enter Tryd.func38, Tryd.ntmps38
    go_wp2_with fail
    refine C.out.mono ?_
    rintro e w' ⟨rfl, rfl⟩
    go_wp2
    go_ret2
    exact ⟨rfl, Below.refl _ _⟩
  · rw [resT_yes hg]
    have h60 : zs.length ≤ 60 := by
      rcases Nat.lt_or_ge 60 zs.length with h | h
      · rw [okL_long (by omega)] at hg; cases hg
      · exact h
    have hall : ∀ z ∈ zs, goodR z = true := by
      unfold okL at hg
      have := (Bool.and_eq_true_iff.1 hg).1
      exact List.all_eq_true.1 this
    have HX := Lib.hid hx
    have D := Lib.hid l2Bytes
    rw [hg] at C
    clear hg hx
    go_enter Tryd.func38, Tryd.ntmps38
    go_wp2_with fail
    refine C.out.mono ?_
    rintro e w' ⟨rfl, rfl⟩
    go_wp2
    go_loopw [4, 12] (fun v i wr => ∃ (k : Nat) (S : ByteArray), k ≤ zs.length ∧ i = .int .i64 k ∧ v = .string S ∧ S.data.toList = textL (zs.take k) ∧ S.size ≤ 4 * k ∧ Below w.heap.size w wr)
      (fun _ i _ => zs.length - (intOf i).toNat)
    case atStart => exact ⟨0, ⟨#[]⟩, Nat.zero_le _, rfl, rfl, rfl, Nat.le_refl _, Below.refl _ _⟩
    case round =>
      obtain ⟨k, S, hk, rfl, rfl, hS, hz, hb⟩ := hrel
      have HS := Lib.hid hS
      clear hS
      by_cases hlt : k < zs.length
      · obtain ⟨b, off, hl, rfl, hbB, hc⟩ := (HX.out.below hb hB).int hlt
        have hgz := hall zs[k] (List.getElem_mem hl)
        have E := Lib.hid (show (S ++ Utf8.encode zs[k]).data.toList = textL (zs.take (k + 1)) by rw [app_data, textL_snoc zs k hl, HS.out]; rfl)
        have hes := encode_size_le zs[k]
        have hsz := hb.size
        have D1 := Lib.hid (D.out zs[k] wr hgz)
        clear hgz
        have hsum : (S ++ Utf8.encode zs[k]).size = S.size + (Utf8.encode zs[k]).size := ByteArray.size_append
        generalize zs[k] = z at *
        generalize Utf8.encode z = eb at *
        go_wp2_with fail
        refine D1.out.mono ?_
        rintro e w1 ⟨rfl, hb1⟩
        have hb2 : Below w.heap.size w w1 := hb.trans (hb1.mono hsz)
        clear hb1
        go_wp2
        go_roundw
        case rel => exact ⟨k + 1, _, by omega, by go_num, rfl, E.out, by omega, hb2⟩
        case measure => simp [intOf]; omega
      · have E := Lib.hid (show S = ⟨(textL zs).toArray⟩ by rw [← mk_toList S, HS.out, List.take_of_length_le (by omega)])
        go_wp2
        go_ret2
        exact ⟨by rw [← E.out]; rfl, hb⟩
set_option maxRecDepth 100000 in
set_option maxHeartbeats 1000000 in
theorem implText (A : Option Addr) (n c : Nat) (zs : List Int) (B : Nat) (w : World) (hn : n ≤ 1048576) (hB : B ≤ w.heap.size) (hx : Rd w B 1 A n (ints zs)) :
    Calls Tryd.prog 34 #[.slice A n c] w fun e w' => e = .returned (.tuple #[.string (resT zs), .bool (okL zs)]) ∧ Below w.heap.size w w' := by
  obtain ⟨i0, hi, hz0, hz1, hz2⟩ := info_parts infoB
  have lx := hx.len
  subst lx
  by_cases h60 : 60 < zs.length
  · rw [resT_no (okL_long h60), okL_long h60]
    clear hx
    go_enter Tryd.func34, Tryd.ntmps34
    go_wp2
    go_ret2
    exact ⟨rfl, Below.refl _ _⟩
  have HX := Lib.hid hx
  clear hx
  have D := Lib.hid implBytes
  go_enter Tryd.func34, Tryd.ntmps34
  go_wp2_with (at_make; refine wpList_make_own _ rfl _ _ 38 rfl w.heap.size 5 i0 _ 1 Tryd.underlying38 hi hz0 hz1 .i64 .i64 _ 240 rfl rfl (by omega) (by rw [hz2]; omega) (by unfold maxLen; omega) (by simp) ?_; intro w2 hown2 hgrow2)
  have hb2 : Below w.heap.size w w2 := (Below.refl _ _).grown hgrow2 (by simp) (fun k hk => by cases hk)
  clear hgrow2
  go_loopw [4, 15] (fun v i wr => ∃ k : Nat, k ≤ zs.length ∧ i = .int .i64 k ∧ (zs.take k).all goodR = true ∧ wr.ownsRow w.heap.size 5 1 v (textL (zs.take k)).length ((textL (zs.take k)).map byteV) ∧ Below w.heap.size w wr)
    (fun _ i _ => zs.length - (intOf i).toNat)
  case atStart => exact ⟨0, Nat.zero_le _, rfl, rfl, hown2, hb2⟩
  case round =>
    obtain ⟨k, hk, rfl, ht, hown, hb⟩ := hrel
    clear hown2 hb2
    have HT := Lib.hid ht
    clear ht
    by_cases hlt : k < zs.length
    · have HO := Lib.hid hown
      clear hown
      obtain ⟨b, off, hl, rfl, hbB, hc⟩ := (HX.out.below hb hB).int hlt
      have D1 := Lib.hid (D.out zs[k] wr)
      have hsz := hb.size
      rcases hg : goodR zs[k] with _ | _
      · have e1 := Lib.hid (okL_bad hl hg)
        rw [hg, encB_no hg] at D1
        clear hg
        go_wp2_with fail
        refine D1.out.mono ?_
        rintro e w' ⟨rfl, rfl⟩
        go_wp2
        go_ret2
        rw [e1.out, resT_no e1.out]
        exact ⟨rfl, hb⟩
      have HA := Lib.hid (all_snoc hl HT.out hg)
      rw [hg, encB_yes hg] at D1
      have HE := Lib.hid (show (textL (zs.take k)).map byteV ++ Lib.strCells (Utf8.encode zs[k]) = (textL (zs.take (k + 1))).map byteV by rw [textL_snoc zs k hl, List.map_append, strCells_byteV]; rfl)
      have HL := Lib.hid (show (textL (zs.take k)).length + (Utf8.encode zs[k]).size = (textL (zs.take (k + 1))).length by rw [textL_snoc zs k hl, List.length_append, encL_len])
      have hlen : (textL (zs.take k)).length ≤ 240 := Nat.le_trans (textL_len _) (by simp; omega)
      have hes := encode_size_le zs[k]
      clear hg
      generalize zs[k] = z at *
      generalize Utf8.encode z = eb at *
      generalize textL (zs.take k) = ps at *
      go_wp2_with fail
      refine D1.out.mono ?_
      rintro e w' ⟨rfl, rfl⟩
      go_wp2_with (at_builtin; refine Lib.wpList_append_own_string _ rfl _ _ _ _ rfl w.heap.size 5 i0 Tryd.underlying38 Tryd.underlying9 hi hz0 hz1 hz2 _ ps.length _ rfl HO.out eb rfl (by unfold maxLen; omega) (by omega) hsz ?_; intro v1 w1 hown1 hgrow hat)
      have hb1 : Below w.heap.size w w1 := hb.grown hgrow hsz (fun g hg => ownBlock_ge HO.out g hg)
      have HR := Lib.hid (own_congr hown1 HL.out HE.out)
      clear hown1 hgrow hat
      go_wp2
      go_roundw
      case rel => exact ⟨k + 1, by omega, by go_num, HA.out, HR.out, hb1⟩
      case measure => simp [intOf]; omega
    · have hy : okL zs = true := by rw [okL_end (by omega) HT.out]; exact decide_eq_true (by omega)
      have hconv := run_own_string (P := Tryd.prog) wr 38 9 5 _ _ _ _ Tryd.underlying38 Tryd.underlying5 Tryd.underlying9 hown
      rw [List.take_of_length_le (by omega)] at hconv
      have HY := Lib.hid hy
      clear hown hy
      generalize hts : textL zs = ts at hconv
      go_wp2
      go_ret2
      rw [HY.out, resT_yes HY.out, hts]
      exact ⟨rfl, hb⟩
end Go.Proofs.YtehmlkcnhccjmabDoor.Text
