/-
  RuneAt by the reference and by the program, and the walk of the law on it. For every string and number both answer alike. The program's side takes that the library's two tables of UTF-8 are as its text lays them.
-/
import Derived.Test.YtehmlkcnhccjmabDoorAt
namespace Go.Proofs.YtehmlkcnhccjmabDoor.RuneAt
open Go.ChangeShapes Go.WideShapes Go.ChangeAt Go.RowKit Go.Lib
open Go.Proofs.YtehmlkcnhccjmabDoor.Mem Go.Proofs.YtehmlkcnhccjmabDoor.Rune Go.Proofs.YtehmlkcnhccjmabDoor.Enc Go.Proofs.YtehmlkcnhccjmabDoor.Text Go.Proofs.YtehmlkcnhccjmabDoor.Utf Go.Proofs.YtehmlkcnhccjmabDoor.At
set_option linter.unusedVariables false

def atV (s : ByteArray) (k : Nat) : Value := if bad (tl s k) then .tuple #[.int .i64 0, .int .i64 0, .bool false] else .tuple #[.int .i64 ((decodeL (tl s k)).1 : Nat), .int .i64 ((k + (decodeL (tl s k)).2 : Nat) : Int), .bool true]
theorem decL_bad {l : List UInt8} (h : bad l) : decL l = (0, 0) := if_pos h
theorem decL_good {l : List UInt8} (h : ¬ bad l) : decL l = decodeL l := if_neg h
set_option maxRecDepth 100000 in
set_option maxHeartbeats 1000000 in
theorem specAt (s : ByteArray) (k : Nat) (w : World) (hs : s.size ≤ 240) (hk : k < s.size) :
    Calls Tryd.prog 43 #[.string s, .int .i64 k] w fun e w' => e = .returned (atV s k) ∧ Below w.heap.size w w' := by
  have C := Lib.hid (l2At s k w hs hk)
  have hk' : (k : Int) < (s.size : Int) := by omega
  unfold atV
  by_cases hb : bad (tl s k)
  · rw [if_pos hb]
    rw [decL_bad hb] at C
    clear hb
    go_enter Tryd.func43, Tryd.ntmps43
    go_wp2_with (first | (go_at_call 85; refine C.out.mono ?_; rintro e w1 ⟨rfl, hb1⟩) | go_in)
    go_ret3
    exact ⟨rfl, hb1⟩
  · rw [if_neg hb]
    have h3 := (enc_decode (tl_ne hk) hb).2.2.1
    have h4 := (enc_decode (tl_ne hk) hb).2.2.2
    rw [decL_good hb] at C
    rw [tl_len] at h4
    generalize (decodeL (tl s k)).1 = n at *
    generalize (decodeL (tl s k)).2 = m at *
    have t : ((m : Int) == 0) = false := by rw [beq_eq_false_iff_ne]; omega
    clear hb
    go_enter Tryd.func43, Tryd.ntmps43
    go_wp2_with (first | (go_at_call 85; refine C.out.mono ?_; rintro e w1 ⟨rfl, hb1⟩) | go_in)
    go_ret3
    exact ⟨rfl, hb1⟩
theorem specAtNo (s : ByteArray) (a : Int) (w : World) (hs : s.size ≤ maxLen) (h : 240 < s.size ∨ a < 0 ∨ (s.size : Int) ≤ a) :
    Calls Tryd.prog 43 #[.string s, .int .i64 a] w fun e w' => e = .returned (.tuple #[.int .i64 0, .int .i64 0, .bool false]) ∧ w = w' := by
  unfold maxLen at hs
  by_cases h1 : 240 < s.size
  · have h1' : (240 : Int) < (s.size : Int) := by omega
    have t : decide ((s.size : Int) ≤ 240) = false := by simp; omega
    clear h
    go_enter Tryd.func43, Tryd.ntmps43
    go_wp2
    go_ret3
    exact ⟨rfl, rfl⟩
  have h1' : (s.size : Int) ≤ 240 := by omega
  by_cases h2 : a < 0
  · clear h
    go_enter Tryd.func43, Tryd.ntmps43
    go_wp2
    go_ret3
    exact ⟨rfl, rfl⟩
  · have h3 : (s.size : Int) ≤ a := by omega
    clear h
    go_enter Tryd.func43, Tryd.ntmps43
    go_wp2
    go_ret3
    exact ⟨rfl, rfl⟩
theorem decodeGo_tl (s : ByteArray) (k : Nat) (h : k < s.size) : decodeGo (s.extract k s.size) = decodeL (tl s k) := by
  unfold decodeGo decodeL
  rw [if_neg (by rw [ext_size]; omega)]
  congr 1
  refine eq_of_data ?_
  rw [ext_list]; simp [tl]
theorem decode_le (l : List UInt8) : (decodeL l).1 ≤ 1114111 := decodeL_rune l
set_option maxRecDepth 100000 in
set_option maxHeartbeats 1000000 in
theorem implAt (s : ByteArray) (k : Nat) (w : World) (hs : s.size ≤ 240) (hk : k < s.size) (hT : Lib.Utf8Tabs 1 2 w) :
    Calls Tryd.prog 36 #[.string s, .int .i64 k] w fun e w' => e = .returned (atV s k) ∧ Below w.heap.size w w' := by
  have C := Lib.hid (Tryd.utf8_DecodeRuneInString (s.extract k s.size) w hT)
  rw [decodeGo_tl s k hk] at C
  have hk' : (k : Int) < (s.size : Int) := by omega
  have hle := decode_le (tl s k)
  clear hT
  unfold atV
  by_cases hb : bad (tl s k)
  · rw [if_pos hb]
    unfold bad at hb
    rw [hb.1, hb.2] at C
    clear hb hle
    go_enter Tryd.func36, Tryd.ntmps36
    go_wp2_with (first | (go_at_call 79; refine C.out.mono ?_; rintro e w1 ⟨rfl, hb1⟩) | go_in)
    go_ret3
    exact ⟨rfl, hb1⟩
  · rw [if_neg hb]
    have h3 := (enc_decode (tl_ne hk) hb).2.2.1
    have h4 := (enc_decode (tl_ne hk) hb).2.2.2
    rw [tl_len] at h4
    have hbb : ¬ ((decodeL (tl s k)).1 = 65533 ∧ (decodeL (tl s k)).2 = 1) := hb
    generalize (decodeL (tl s k)).1 = n at *
    generalize (decodeL (tl s k)).2 = m at *
    clear hb
    by_cases hn : n = 65533
    · subst hn
      have t : ((m : Int) == 1) = false := by rw [beq_eq_false_iff_ne]; omega
      clear hbb
      go_enter Tryd.func36, Tryd.ntmps36
      go_wp2_with (first | (go_at_call 79; refine C.out.mono ?_; rintro e w1 ⟨rfl, hb1⟩) | go_in)
      go_ret3
      exact ⟨rfl, hb1⟩
    · have t : ((n : Int) == 65533) = false := by rw [beq_eq_false_iff_ne]; omega
      clear hbb
      go_enter Tryd.func36, Tryd.ntmps36
      go_wp2_with (first | (go_at_call 79; refine C.out.mono ?_; rintro e w1 ⟨rfl, hb1⟩) | go_in)
      go_ret3
      exact ⟨rfl, hb1⟩
theorem implAtNo (s : ByteArray) (a : Int) (w : World) (hs : s.size ≤ maxLen) (h : 240 < s.size ∨ a < 0 ∨ (s.size : Int) ≤ a) :
    Calls Tryd.prog 36 #[.string s, .int .i64 a] w fun e w' => e = .returned (.tuple #[.int .i64 0, .int .i64 0, .bool false]) ∧ w = w' := by
  unfold maxLen at hs
  have h' : (decide ((240 : Int) < (s.size : Int)) || decide (a < 0) || decide ((s.size : Int) ≤ a)) = true := by simp; omega
  clear h
  go_enter Tryd.func36, Tryd.ntmps36
  go_wp2
  all_goals
    go_ret3
    exact ⟨rfl, rfl⟩
theorem atV_cases (s : ByteArray) (k : Nat) : ∃ (a b : Int) (t : Bool), atV s k = .tuple #[.int .i64 a, .int .i64 b, .bool t] := by
  unfold atV; split <;> exact ⟨_, _, _, rfl⟩
end Go.Proofs.YtehmlkcnhccjmabDoor.RuneAt
