/-
  The challenge as both sides give it, and the walk of the law on ChallengeOf.
-/
import Derived.Test.YtfoclgijhkibeabDoorChc
namespace Go.Proofs.YtfoclgijhkibeabDoor.Chd
open Go.ChangeShapes Go.WideShapes Go.ChangeAt Go.RowKit
open Go.Proofs.YtfoclgijhkibeabDoor.Mem Go.Proofs.YtfoclgijhkibeabDoor.Num Go.Proofs.YtfoclgijhkibeabDoor.Mod Go.Proofs.YtfoclgijhkibeabDoor.Pow Go.Proofs.YtfoclgijhkibeabDoor.Sch Go.Proofs.YtfoclgijhkibeabDoor.Key Go.Proofs.YtfoclgijhkibeabDoor.Txt Go.Proofs.YtfoclgijhkibeabDoor.Cha Go.Proofs.YtfoclgijhkibeabDoor.Chb Go.Proofs.YtfoclgijhkibeabDoor.Rec Go.Proofs.YtfoclgijhkibeabDoor.Chc
set_option linter.unusedVariables false
set_option maxRecDepth 100000

/-- A number in the field, not 0. -/
def okR (r : Int) : Bool := decide (1 ≤ r) && decide (r ≤ 2026)
theorem okR_yes {r : Int} (h : okR r = true) : ∃ n : Nat, r = n ∧ 1 ≤ n ∧ n ≤ 2026 := by
  simp only [okR, Bool.and_eq_true, decide_eq_true_eq] at h
  exact ⟨r.toNat, by omega, by omega, by omega⟩
theorem okR_no {r : Int} (h : okR r = false) : r < 1 ∨ 2026 < r := by
  simp only [okR, Bool.and_eq_false_iff, decide_eq_false_iff_not] at h; omega
theorem okR_of {n : Nat} (h1 : 1 ≤ n) (h2 : n ≤ 2026) : okR n = true := by simp [okR]; omega
set_option maxHeartbeats 1000000 in
theorem implOfNo (r k : Int) (t : ByteArray) (w : World) (hm : t.size ≤ maxLen) (h : okR r = false ∨ (okK k && okT t) = false) :
    Calls Tryd.prog 10 #[.int .i64 r, .int .i64 k, .string t] w fun e w' => e = .returned (.tuple #[.int .i64 0, .bool false]) ∧ Below w.heap.size w w' := by
  by_cases h1 : r < 1
  · clear h
    go_enter Tryd.func10, Tryd.ntmps10
    go_wp2
    go_ret2
    exact ⟨rfl, al1 _ _⟩
  by_cases h2 : 2027 ≤ r
  · clear h
    have h1' : ¬ r < 1 := h1
    go_enter Tryd.func10, Tryd.ntmps10
    go_wp2
    go_ret2
    exact ⟨rfl, al1 _ _⟩
  have hv : (okK k && okT t) = false := by
    rcases h with h | h
    · have := okR_no h; omega
    · exact h
  have C := Lib.hid (fun W => stValid k t W hm)
  rw [hv] at C
  clear h hv
  go_enter Tryd.func10, Tryd.ntmps10
  go_wp2_with fail
  refine (C.out _).mono ?_
  rintro e w1 ⟨rfl, b1⟩
  have B := then_ (n := 0) (al1 _ _) b1
  clear b1
  go_wp2
  go_ret2
  exact ⟨rfl, B⟩
set_option maxHeartbeats 1000000 in
theorem implOf (r k : Nat) (t : ByteArray) (w : World) (h1 : 1 ≤ r) (h2 : r ≤ 2026) (hk : okK k = true) (h3 : k ≤ 2026) (ht : t.size ≤ 200) (hT : Tb w) :
    Calls Tryd.prog 10 #[.int .i64 r, .int .i64 k, .string t] w fun e w' => e = .returned (.tuple #[.int .i64 (chal r k t : Nat), .bool true]) ∧ Below w.heap.size w w' := by
  have C := Lib.hid (fun W => stValid k t W (by unfold maxLen; omega))
  rw [hk, okT_of ht] at C
  have HT := Lib.hid (fun W (h : Below w.heap.size w W) => hT.below h)
  have C2 := Lib.hid (fun W (h : Tb W) => stChal r k t W (by omega) (by omega) ht h)
  generalize chal r k t = x at *
  clear hk hT
  go_enter Tryd.func10, Tryd.ntmps10
  go_wp2_with fail
  refine (C.out _).mono ?_
  rintro e w1 ⟨rfl, b1⟩
  obtain ⟨c0, c1⟩ := row2 (box_1 b1)
  have B := then_ (n := 0) (al1 _ _) b1
  have HTb := Lib.hid (HT.out _ B)
  clear b1 C HT
  go_wp2_with fail
  refine (C2.out _ HTb.out).mono ?_
  rintro e w2 ⟨rfl, b2⟩
  have B2 := then_ (n := 0) B b2
  clear b2 B C2 HTb
  go_wp2
  go_ret2
  exact ⟨rfl, B2⟩
/-- The program's answer. -/
theorem chalI (r k : Int) (t : ByteArray) (hm : t.size ≤ maxLen) : ∃ (x : Int) (b : Bool), (∀ W, Tb W → Calls Tryd.prog 10 #[.int .i64 r, .int .i64 k, .string t] W fun e w' => e = .returned (.tuple #[.int .i64 x, .bool b]) ∧ Below W.heap.size W w') ∧ b = (okR r && (okK k && okT t)) ∧ (b = true → x = (chal r.toNat k.toNat t : Nat)) := by
  by_cases h : okR r = false ∨ (okK k && okT t) = false
  · refine ⟨0, false, fun W _ => implOfNo r k t W hm h, ?_, by simp⟩
    rcases h with h | h <;> simp [h]
  · have hr : okR r = true := by cases e : okR r <;> simp_all
    have hk : okK k = true := by cases e : okK k <;> simp_all
    have ht : okT t = true := by cases e : okT t <;> simp_all
    obtain ⟨n, rfl, h1, h2⟩ := okR_yes hr
    obtain ⟨m, rfl, h3, h4⟩ := okK_yes hk
    exact ⟨(chal n m t : Nat), true, fun W hT => implOf n m t W h1 h2 hk h4 (okT_yes ht) hT, by simp [hr, hk, ht], fun _ => by simp⟩
end Go.Proofs.YtfoclgijhkibeabDoor.Chd
