/-
  The string of which a text is the padding: contracts of the reference and of the program, and the walk of the law on UnpadText. For every string both answer alike, and nothing that was in memory is changed.
-/
import Derived.Test.YtdpiinecjjeklabRows
import Derived.Test.YtdpiinecjjeklabMem
import Derived.Test.YtdpiinecjjeklabPad
import Derived.Test.YtdpiinecjjeklabShelf
import Derived.OpenShut
import Derived.Deep.QuietTactic
import Derived.BigQuiet
import Derived.ShutString
namespace Go.Proofs.Ytdpiinecjjeklab.Unpad
open Go.ChangeShapes Go.WideShapes Go.ChangeAt Go.RowKit
open Go.Proofs.Ytdpiinecjjeklab.Mem Go.Proofs.Ytdpiinecjjeklab.Pad
set_option linter.unusedVariables false

def val (l : List UInt8) : Nat := l.foldl (fun a c => a * 256 + c.toNat) 0
theorem val_snoc (l : List UInt8) (c : UInt8) : val (l ++ [c]) = val l * 256 + c.toNat := by simp [val]
theorem fold_lt : ∀ (l : List UInt8) (a : Nat), l.foldl (fun a c => a * 256 + c.toNat) a < (a + 1) * 256 ^ l.length
  | [], a => by simp
  | c :: l, a => by
    have h := fold_lt l (a * 256 + c.toNat)
    have hc := c.toNat_lt
    simp only [List.foldl_cons, List.length_cons, Nat.pow_succ]
    refine Nat.lt_of_lt_of_le h ?_
    rw [Nat.mul_comm (256 ^ l.length) 256, ← Nat.mul_assoc]
    exact Nat.mul_le_mul_right _ (by omega)
theorem fold_ge : ∀ (l : List UInt8) (a : Nat), a ≤ l.foldl (fun a c => a * 256 + c.toNat) a
  | [], a => Nat.le_refl _
  | c :: l, a => by
    simp only [List.foldl_cons]
    exact Nat.le_trans (by omega) (fold_ge l _)
theorem val_lt (l : List UInt8) : val l < 256 ^ l.length := by have := fold_lt l 0; simpa [val] using this
theorem val_take_le (l : List UInt8) (k : Nat) : val (l.take k) ≤ val l := by
  have h := fold_ge (l.drop k) (val (l.take k))
  have e : val l = (l.drop k).foldl (fun a c => a * 256 + c.toNat) (val (l.take k)) :=
    calc val l = val (l.take k ++ l.drop k) := by rw [List.take_append_drop]
      _ = _ := by unfold val; rw [List.foldl_append]
  omega
theorem val_be (m : Nat) (h : m < 2 ^ 64) : val (be m) = m := by
  unfold val be byteAt
  simp only [List.foldl_cons, List.foldl_nil, UInt8.toNat_ofNat']
  omega

/-- The last eight bytes of a text, and the number that they write. -/
def last8 (s : ByteArray) : List UInt8 := s.data.toList.drop (s.size - 8)
def cnt (s : ByteArray) : Nat := val (last8 s)
theorem last8_len (s : ByteArray) (h : 8 ≤ s.size) : (last8 s).length = 8 := by
  unfold last8
  rw [List.length_drop, Array.length_toList]
  show s.size - (s.size - 8) = 8
  omega
theorem last8_snoc (s : ByteArray) (j : Nat) (h8 : 8 ≤ s.size) (h0 : s.size - 8 ≤ j) (hj : j < s.size) : (last8 s).take (j + 1 - (s.size - 8)) = (last8 s).take (j - (s.size - 8)) ++ [s[j]] := by
  have hl := last8_len s h8
  rw [show j + 1 - (s.size - 8) = (j - (s.size - 8)) + 1 from by omega, List.take_succ_eq_append_getElem (by omega)]
  congr 2
  simp only [last8, List.getElem_drop]
  congr 1
  omega
theorem or_u64 (x : Nat) (c : UInt8) (hx : x < 72057594037927936) : bits .or .u64 ((x : Int) * 256) (c.toNat : Int) = ((x * 256 + c.toNat : Nat) : Int) := by
  have hc := c.toNat_lt
  have h := bits_join .u64 64 (by decide) (fun n h0 h1 => by rw [IntKind.wrap_u64]; omega) 8 ((x : Int) * 256) (c.toNat : Int) (by omega) (by omega) (by omega) (by omega) (by omega) (by omega)
  rw [h]; omega
theorem or_i64 (x : Nat) (c : UInt8) (hx : x ≤ 1048576) : bits .or .i64 ((x : Int) * 256) (c.toNat : Int) = ((x * 256 + c.toNat : Nat) : Int) := by
  have hc := c.toNat_lt
  have h := bits_join .i64 63 (by decide) (fun n h0 h1 => by rw [IntKind.wrap_i64]; omega) 8 ((x : Int) * 256) (c.toNat : Int) (by omega) (by omega) (by omega) (by omega) (by omega) (by omega)
  rw [h]; omega

theorem cnt_lt (s : ByteArray) (h : 8 ≤ s.size) : cnt s < 18446744073709551616 := by
  have := val_lt (last8 s)
  rw [last8_len s h] at this
  exact this
theorem wrap_q (s : ByteArray) (h : 8 ≤ s.size) : IntKind.u64.wrap ((cnt s : Int) / 8) = ((cnt s / 8 : Nat) : Int) := by
  have := cnt_lt s h
  rw [IntKind.wrap_u64]; omega
/-- What the text says, if its padding is right. -/
def part (s : ByteArray) : ByteArray := s.extract 0 (cnt s / 8)
def whole (s : ByteArray) : ByteArray := part s ++ ⟨(tailL (cnt s / 8)).toArray⟩
def goodB (s : ByteArray) : Bool := decide (s.size ≤ 672 ∧ 8 ≤ s.size ∧ cnt s / 8 ≤ s.size ∧ cnt s / 8 ≤ 600 ∧ whole s = s)
def res (s : ByteArray) : Value := if goodB s = true then .tuple #[.string (part s), .bool true] else .tuple #[.string ⟨#[]⟩, .bool false]
theorem res_no (s : ByteArray) (h : ¬ (s.size ≤ 672 ∧ 8 ≤ s.size ∧ cnt s / 8 ≤ s.size ∧ cnt s / 8 ≤ 600 ∧ whole s = s)) : res s = .tuple #[.string ⟨#[]⟩, .bool false] := by
  unfold res goodB; rw [if_neg (by simpa using h)]
theorem res_yes (s : ByteArray) (h : s.size ≤ 672 ∧ 8 ≤ s.size ∧ cnt s / 8 ≤ s.size ∧ cnt s / 8 ≤ 600 ∧ whole s = s) : res s = .tuple #[.string (part s), .bool true] := by
  unfold res goodB; rw [if_pos (by simpa using h)]
theorem ret_res {s : ByteArray} {v : Value} (h : res s = v) : Ending.returned v = .returned (res s) := by rw [h]
theorem part_size (s : ByteArray) (h : cnt s / 8 ≤ s.size) : (part s).size = cnt s / 8 := by unfold part; rw [ByteArray.size_extract]; omega
theorem clone (s : ByteArray) (w : World) (hlim : s.size ≤ 600) :
    Calls Try.prog 16 #[.string s] w fun e w' => e = .returned (.string s) ∧ Below w.heap.size w w' := by
  go_enter Try.func16, Try.ntmps16
  go_wp2_with fail
  refine (Try.stringslite_Clone s _ (by omega)).mono ?_
  rintro e w' ⟨rfl, hb⟩
  go_wp2
  go_ret
  exact ⟨rfl, hb⟩

set_option maxHeartbeats 1000000 in
theorem implUnpad (s : ByteArray) (w : World) (h8 : 8 ≤ s.size) (hs : s.size ≤ 672) :
    Calls Try.prog 7 #[.string s] w fun e w' => e = .returned (res s) ∧ Below w.heap.size w w' := by
  have hl8 := last8_len s h8
  go_enter Try.func7, Try.ntmps7
  go_wp2
  go_loop [4, 5] (fun c i => ∃ j : Nat, s.size - 8 ≤ j ∧ j ≤ s.size ∧ i = .int .i64 j ∧ c = .int .u64 (val ((last8 s).take (j - (s.size - 8))) : Int)) (fun _ i => s.size - (intOf i).toNat)
  case atStart => exact ⟨s.size - 8, by omega, by omega, by simp; omega, by simp [val]⟩
  case round =>
    obtain ⟨j, h0j, hjs, rfl, rfl⟩ := hrel
    by_cases hj : j < s.size
    · have hle : val ((last8 s).take (j - (s.size - 8))) < 72057594037927936 := by
        refine Nat.lt_of_lt_of_le (val_lt _) ?_
        rw [List.length_take, hl8, Nat.min_eq_left (by omega)]
        exact Nat.le_trans (Nat.pow_le_pow_right (by omega) (by omega : j - (s.size - 8) ≤ 7)) (by decide)
      have hor := or_u64 (val ((last8 s).take (j - (s.size - 8)))) s[j] hle
      have hsn : val ((last8 s).take (j + 1 - (s.size - 8))) = val ((last8 s).take (j - (s.size - 8))) * 256 + (s[j]).toNat := by rw [last8_snoc s j h8 h0j hj, val_snoc]
      have HS := Lib.hid hsn
      clear hsn
      generalize val ((last8 s).take (j - (s.size - 8))) = x at *
      have hwb : IntKind.u64.wrap ((s[j]).toNat : Int) = ((s[j]).toNat : Int) := by have := (s[j]).toNat_lt; rw [IntKind.wrap_u64]; omega
      go_wp2
      go_round
      case rel => exact ⟨j + 1, by omega, by omega, by go_num, by rw [HS.out]; simp⟩
      case measure => simp [intOf]; omega
    · obtain rfl : j = s.size := by omega
      have hc : val ((last8 s).take (s.size - (s.size - 8))) = cnt s := by
        unfold cnt; rw [show s.size - (s.size - 8) = 8 from by omega, List.take_of_length_le (by omega)]
      rw [hc]
      clear hc
      have hq := wrap_q s h8
      have hp := part_size s
      have ep : s.extract 0 (cnt s / 8) = part s := rfl
      by_cases h1 : s.size < cnt s / 8
      · have R := Lib.hid (res_no s (by omega))
        clear hp ep
        generalize cnt s / 8 = q at *
        go_wp2
        go_ret2
        exact ⟨ret_res R.out, Below.refl _ _⟩
      have hps := hp (by omega)
      clear hp
      by_cases h6 : 600 < cnt s / 8
      · have R := Lib.hid (res_no s (by omega))
        generalize part s = t at *
        generalize cnt s / 8 = q at *
        go_wp2_with fail
        refine (implLong t _ (by omega) (by unfold maxLen; omega)).mono ?_
        rintro e w' ⟨rfl, rfl⟩
        go_wp2
        go_ret2
        exact ⟨ret_res R.out, Below.refl _ _⟩
      have ew : part s ++ ⟨(tailL (part s).size).toArray⟩ = whole s := by rw [hps]; rfl
      by_cases hw : whole s = s
      · have R := Lib.hid (res_yes s (by refine ⟨by omega, by omega, by omega, by omega, hw⟩))
        generalize part s = t at *
        generalize cnt s / 8 = q at *
        go_wp2_with fail
        refine (implPad t _ (by omega)).mono ?_
        rintro e w1 ⟨rfl, hb1⟩
        rw [ew, hw]
        clear ew hw
        go_wp2_with fail
        refine (clone t _ (by omega)).mono ?_
        rintro e w2 ⟨rfl, hb2⟩
        have hb : Below w.heap.size w w2 := hb1.trans (hb2.mono hb1.size)
        clear hb1 hb2
        go_wp2
        go_ret2
        exact ⟨ret_res R.out, hb⟩
      · have R := Lib.hid (res_no s (fun h => hw h.2.2.2.2))
        generalize part s = t at *
        generalize cnt s / 8 = q at *
        go_wp2_with fail
        refine (implPad t _ (by omega)).mono ?_
        rintro e w1 ⟨rfl, hb1⟩
        rw [ew]
        generalize whole s = u at *
        have hb' := str_ne hw
        clear ew hw
        go_wp2_with fail
        go_ret2
        exact ⟨ret_res R.out, hb1⟩
theorem implOut (s : ByteArray) (w : World) (hm : s.size ≤ maxLen) (h : s.size < 8 ∨ 672 < s.size) :
    Calls Try.prog 7 #[.string s] w fun e w' => e = .returned (res s) ∧ Below w.heap.size w w' := by
  have R := Lib.hid (res_no s (by omega))
  unfold maxLen at hm
  by_cases h6 : 672 < s.size
  · clear h
    go_enter Try.func7, Try.ntmps7
    go_wp2
    go_ret2
    exact ⟨ret_res R.out, Below.refl _ _⟩
  · have h8 : s.size < 8 := by omega
    clear h
    go_enter Try.func7, Try.ntmps7
    go_wp2
    go_ret2
    exact ⟨ret_res R.out, Below.refl _ _⟩
theorem impl_any (s : ByteArray) (w : World) (hm : s.size ≤ maxLen) :
    Calls Try.prog 7 #[.string s] w fun e w' => e = .returned (res s) ∧ Below w.heap.size w w' := by
  by_cases h : s.size < 8 ∨ 672 < s.size
  · exact implOut s w hm h
  · exact implUnpad s w (by omega) (by omega)

/-- A padded text is a row of whole blocks, and its last eight bytes are the number of its bits. -/
theorem whole_facts (s : ByteArray) (h8 : 8 ≤ s.size) (hq : cnt s / 8 ≤ s.size) (hw : whole s = s) : s.size % 64 = 0 ∧ cnt s % 8 = 0 := by
  have hp := part_size s hq
  have ht := tailL_len (cnt s / 8)
  have hsz : s.size = cnt s / 8 + (9 + zeros (cnt s / 8)) := by
    have e : (whole s).size = s.size := by rw [hw]
    unfold whole at e
    rw [ByteArray.size_append, hp] at e
    have e2 : (ByteArray.mk (tailL (cnt s / 8)).toArray).size = (tailL (cnt s / 8)).length := by simp [ByteArray.size]
    omega
  refine ⟨by unfold zeros at hsz; omega, ?_⟩
  have hl : last8 s = be (8 * (cnt s / 8)) := by
    have e : s.data.toList = (part s).data.toList ++ tailL (cnt s / 8) := by
      conv => lhs; rw [← hw]
      simp [whole]
    have hpl : (part s).data.toList.length = cnt s / 8 := by rw [Array.length_toList]; exact hp
    unfold last8
    rw [e, List.drop_append, List.drop_of_length_le (by omega), List.nil_append, hpl]
    unfold tailL
    rw [List.drop_append, List.drop_of_length_le (by simp; omega), List.nil_append]
    simp only [List.length_cons, List.length_replicate]
    rw [show s.size - 8 - cnt s / 8 - (zeros (cnt s / 8) + 1) = 0 from by omega, List.drop_zero]
  have hc : cnt s = 8 * (cnt s / 8) := by
    have hlt := cnt_lt s h8
    conv => lhs; unfold cnt; rw [hl]
    exact val_be _ (by omega)
  omega

end Go.Proofs.Ytdpiinecjjeklab.Unpad
