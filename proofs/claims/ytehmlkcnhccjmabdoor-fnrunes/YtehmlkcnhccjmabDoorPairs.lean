/-
  UTF-16 units of runes: contracts of the reference and of the program. For every list of numbers both answer alike; the answer's row is the call's own.
-/
import Derived.Test.YtehmlkcnhccjmabDoorRune
import Derived.Test.YtehmlkcnhccjmabDoorInts
import Derived.Deep.AppendLies
namespace Go.Proofs.YtehmlkcnhccjmabDoor.Pairs
open Go.ChangeShapes Go.WideShapes Go.ChangeAt Go.RowKit
open Go.Proofs.YtehmlkcnhccjmabDoor.Mem Go.Proofs.YtehmlkcnhccjmabDoor.Rune Go.Proofs.YtehmlkcnhccjmabDoor.Ints
set_option linter.unusedVariables false

def units (n : Int) : List Int := if n < 65536 then [n] else [55296 + (n - 65536) / 1024, 56320 + (n - 65536) % 1024]
def pairs (l : List Int) : List Int := l.flatMap units
def okL (l : List Int) : Bool := l.all goodR && decide (l.length ≤ 60)
def resP (l : List Int) : List Int := if okL l then pairs l else []
theorem resP_yes {l : List Int} (h : okL l = true) : resP l = pairs l := by unfold resP; rw [if_pos h]
theorem resP_no {l : List Int} (h : okL l = false) : resP l = [] := by unfold resP; rw [h]; rfl
theorem units_len (n : Int) : (units n).length ≤ 2 := by unfold units; split <;> simp
theorem pairs_len (l : List Int) : (pairs l).length ≤ 2 * l.length := by
  induction l with
  | nil => simp [pairs]
  | cons a l ih => have := units_len a; simp only [pairs, List.flatMap_cons, List.length_append, List.length_cons] at ih ⊢; omega
theorem resP_len (l : List Int) : (resP l).length ≤ 120 := by
  rcases h : okL l with _ | _
  · rw [resP_no h]; simp
  · rw [resP_yes h]
    have := pairs_len l
    unfold okL at h
    have h2 := of_decide_eq_true (Bool.and_eq_true_iff.1 h).2
    omega
theorem pairs_snoc (zs : List Int) (k : Nat) (h : k < zs.length) : pairs (zs.take (k + 1)) = pairs (zs.take k) ++ units zs[k] := by
  unfold pairs; rw [take_snoc_int zs k h, List.flatMap_append, List.flatMap_singleton]
theorem ints_app (a b : List Int) : ints (a ++ b) = ints a ++ ints b := by simp [ints]
theorem ints_len (a : List Int) : (ints a).length = a.length := by simp [ints]
theorem units_lo {n : Int} (h : n < 65536) : units n = [n] := by unfold units; rw [if_pos h]
theorem units_hi {n : Int} (h : 65536 ≤ n) : units n = [55296 + (n - 65536) / 1024, 56320 + (n - 65536) % 1024] := by unfold units; rw [if_neg (by omega)]
theorem okL_bad {zs : List Int} {k : Nat} (h : k < zs.length) (hb : goodR zs[k] = false) : okL zs = false := by
  unfold okL
  have : zs.all goodR = false := List.all_eq_false.2 ⟨zs[k], List.getElem_mem h, by rw [hb]; decide⟩
  rw [this]; rfl
theorem okL_long {zs : List Int} (h : 60 < zs.length) : okL zs = false := by
  unfold okL
  rw [show decide (zs.length ≤ 60) = false from decide_eq_false (by omega)]; simp
theorem all_snoc {zs : List Int} {k : Nat} (h : k < zs.length) (ha : (zs.take k).all goodR = true) (hb : goodR zs[k] = true) : (zs.take (k + 1)).all goodR = true := by
  rw [take_snoc_int zs k h, List.all_append, ha]; simp [hb]
theorem okL_end {zs : List Int} {k : Nat} (hk : zs.length ≤ k) (ha : (zs.take k).all goodR = true) : okL zs = decide ((zs.length : Int) ≤ 60) := by
  rw [List.take_of_length_le hk] at ha
  unfold okL; rw [ha, Bool.true_and]; exact decide_eq_decide.2 (by omega)
theorem i64_and1023 (x : Int) (h0 : 0 ≤ x) (h1 : x < 4294967296) : bits .and .i64 x 1023 = x % 1024 := by
  have h := bits_mask .i64 62 (by decide) (fun n h0 h1 => by rw [IntKind.wrap_i64]; omega) 10 (by decide) x h0 (by omega)
  have e : ((2 : Int) ^ 10 - 1) = 1023 := by decide
  rw [e] at h
  simpa using h
set_option maxHeartbeats 1000000 in
theorem l2All (A : Option Addr) (n c : Nat) (zs : List Int) (B : Nat) (w : World) (hn : n ≤ 1048576) (hx : Rd w B 1 A n (ints zs)) :
    Calls Tryd.prog 81 #[.slice A n c] w fun e w' => e = .returned (.bool (okL zs)) ∧ w = w' := by
  have lx := hx.len
  subst lx
  have HX := Lib.hid hx
  clear hx
  have G := Lib.hid specGood
  go_enter Tryd.func81, Tryd.ntmps81
  go_wp2
  go_loop [7] (fun i => ∃ k : Nat, k ≤ zs.length ∧ i = .int .i64 k ∧ (zs.take k).all goodR = true) (fun i => zs.length - (intOf i).toNat)
  case atStart => exact ⟨0, by omega, rfl, rfl⟩
  case round =>
    obtain ⟨k, hk, rfl, ht⟩ := hrel
    have HT := Lib.hid ht
    clear ht
    by_cases hlt : k < zs.length
    · obtain ⟨b, off, hl, rfl, _, hc⟩ := HX.out.int hlt
      rcases hg : goodR zs[k] with _ | _
      · have e := Lib.hid (okL_bad hl hg)
        have HG := Lib.hid hg
        clear hg
        go_wp2_with (first | (go_at_call 50; refine (G.out _ _).mono ?_; rintro e' w' ⟨rfl, rfl⟩; rw [HG.out]) | go_in)
        go_ret
        exact ⟨by rw [e.out]; rfl, rfl⟩
      · have HG := Lib.hid hg
        clear hg
        go_wp2_with (first | (go_at_call 50; refine (G.out _ _).mono ?_; rintro e' w' ⟨rfl, rfl⟩; rw [HG.out]) | go_in)
        go_round
        case rel => exact ⟨k + 1, by omega, by go_num, all_snoc hl HT.out HG.out⟩
        case measure => simp [intOf]; omega
    · have e := Lib.hid (okL_end (by omega) HT.out)
      go_wp2
      go_ret
      exact ⟨by rw [e.out]; rfl, rfl⟩
end Go.Proofs.YtehmlkcnhccjmabDoor.Pairs
