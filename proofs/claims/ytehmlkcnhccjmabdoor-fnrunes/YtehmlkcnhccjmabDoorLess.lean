/-
  The order of strings by their UTF-16 units: contracts of the reference and of the program, and the walk of the law on LessPairs. For every two strings both answer alike. The program's side takes that the library's two tables of UTF-8 are as its text lays them.
-/
import Derived.Test.YtehmlkcnhccjmabDoorRunes
import Derived.Test.YtehmlkcnhccjmabDoorPairs
namespace Go.Proofs.YtehmlkcnhccjmabDoor.Less
open Go.ChangeShapes Go.WideShapes Go.ChangeAt Go.RowKit
open Go.Proofs.YtehmlkcnhccjmabDoor.Mem Go.Proofs.YtehmlkcnhccjmabDoor.Rune Go.Proofs.YtehmlkcnhccjmabDoor.Ints Go.Proofs.YtehmlkcnhccjmabDoor.Mark Go.Proofs.YtehmlkcnhccjmabDoor.Pairs Go.Proofs.YtehmlkcnhccjmabDoor.Runes Go.Proofs.YtehmlkcnhccjmabDoor.Utf Go.Proofs.YtehmlkcnhccjmabDoor.At
set_option linter.unusedVariables false

def cmpL : List Int → List Int → Int
  | [], [] => 0
  | [], _ :: _ => -1
  | _ :: _, [] => 1
  | a :: x, b :: y => if a < b then -1 else if b < a then 1 else cmpL x y
theorem cmpL_eq {a : Int} (x y : List Int) : cmpL (a :: x) (a :: y) = cmpL x y := by rw [cmpL, if_neg (by omega), if_neg (by omega)]
theorem cmpL_lt {a b : Int} (x y : List Int) (h : a < b) : cmpL (a :: x) (b :: y) = -1 := by rw [cmpL, if_pos h]
theorem cmpL_gt {a b : Int} (x y : List Int) (h : b < a) : cmpL (a :: x) (b :: y) = 1 := by rw [cmpL, if_neg (by omega), if_pos h]
theorem cmpL_end (x : List Int) (y : List Int) (h : x = []) : cmpL x y = if 0 < y.length then -1 else 0 := by
  subst h
  cases y <;> simp [cmpL]
theorem drop_cons {zs : List Int} {k : Nat} (h : k < zs.length) : zs.drop k = zs[k] :: zs.drop (k + 1) := List.drop_eq_getElem_cons h
theorem runesG_good (f : Nat) : ∀ (l : List UInt8) (rs : List Int), runesG f l = some rs → ∀ z ∈ rs, goodR z = true := by
  induction f with
  | zero =>
    intro l rs h z hz
    obtain rfl := Option.some.inj h
    cases hz
  | succ f ih =>
    intro l rs h z hz
    unfold runesG at h
    split at h
    · obtain rfl := Option.some.inj h
      cases hz
    · split at h
      · cases h
      · rename_i hne hb
        cases hr : runesG f (List.drop (Lib.decodeL l).2 l) with
        | none => rw [hr] at h; cases h
        | some r2 =>
          rw [hr] at h
          obtain rfl := Option.some.inj h
          rcases List.mem_cons.1 hz with h1 | h1
          · rw [h1]; exact (enc_decode hne hb).1
          · exact ih _ r2 hr z h1
theorem resR_good (s : ByteArray) : ∀ z ∈ resR s, goodR z = true := by
  unfold resR
  split
  · split
    · rename_i o ho
      split
      · exact runesG_good _ _ o ho
      · intro z hz; cases hz
    · intro z hz; cases hz
  · intro z hz; cases hz
theorem resR_60 (s : ByteArray) : (resR s).length ≤ 60 := by
  unfold resR
  split
  · split
    · split
      · assumption
      · simp
    · simp
  · simp
theorem resR_ok (s : ByteArray) : okL (resR s) = true := by
  unfold okL
  rw [List.all_eq_true.2 (resR_good s), decide_eq_true (resR_60 s)]; rfl
theorem pairsR_len (s : ByteArray) : (pairs (resR s)).length ≤ 120 := by have := pairs_len (resR s); have := resR_60 s; omega
theorem noR {s : ByteArray} (h : okR s = false) : resR s = [] := by
  by_cases hs : s.size ≤ 240
  · unfold okR at h
    unfold resR
    rw [if_pos hs] at h ⊢
    split
    · rename_i o ho
      rw [ho] at h
      rw [if_neg (of_decide_eq_false h)]
    · rfl
  · exact (r_long (by omega)).1
def lessV (a b : ByteArray) : Value := if okR a && okR b then .tuple #[.bool (decide (cmpL (pairs (resR a)) (pairs (resR b)) < 0)), .bool true] else .tuple #[.bool false, .bool false]
theorem lessV_cases (a b : ByteArray) : ∃ x y : Bool, lessV a b = .tuple #[.bool x, .bool y] := by
  unfold lessV; split <;> exact ⟨_, _, rfl⟩
end Go.Proofs.YtehmlkcnhccjmabDoor.Less
