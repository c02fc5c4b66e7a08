/-
  Secrets and keys: contracts of both sides, and the walks of the laws on KeyFor and IsKey.
-/
import Derived.Test.YtbljmgmpmmajeaaDoorPow
import Derived.Test.YtbljmgmpmmajeaaDoorSch
namespace Go.Proofs.YtbljmgmpmmajeaaDoor.Key
open Go.ChangeShapes Go.WideShapes Go.ChangeAt Go.RowKit
open Go.Proofs.YtbljmgmpmmajeaaDoor.Mem Go.Proofs.YtbljmgmpmmajeaaDoor.Num Go.Proofs.YtbljmgmpmmajeaaDoor.Mod Go.Proofs.YtbljmgmpmmajeaaDoor.Pow Go.Proofs.YtbljmgmpmmajeaaDoor.Sch
set_option linter.unusedVariables false
set_option maxRecDepth 100000

/-- A secret or a nonce. -/
def okS (n : Int) : Bool := decide (1 ≤ n) && decide (n ≤ 1012)
theorem okS_yes {n : Int} (h : okS n = true) : ∃ k : Nat, n = k ∧ 1 ≤ k ∧ k ≤ 1012 := by
  simp only [okS, Bool.and_eq_true, decide_eq_true_eq] at h
  exact ⟨n.toNat, by omega, by omega, by omega⟩
theorem okS_of {n : Nat} (h1 : 1 ≤ n) (h2 : n ≤ 1012) : okS n = true := by simp [okS]; omega
/-- A public key. -/
def okK (k : Int) : Bool := decide (2 ≤ k) && decide (k ≤ 2026) && decide (pw k.toNat 1013 = 1)
theorem okK_yes {k : Int} (h : okK k = true) : ∃ n : Nat, k = n ∧ 2 ≤ n ∧ n ≤ 2026 := by
  simp only [okK, Bool.and_eq_true, decide_eq_true_eq] at h
  exact ⟨k.toNat, by omega, by omega, by omega⟩
theorem okK_key {n : Nat} (h1 : 1 ≤ n) (h2 : n ≤ 1012) : okK (pw 4 n : Nat) = true := by
  have a := pw_ge n h1 h2
  have b := pw_lt 4 n
  have c := pw_q n
  simp only [okK, Bool.and_eq_true, decide_eq_true_eq, Int.toNat_natCast]
  exact ⟨⟨by omega, by omega⟩, c⟩

theorem isSecret (n : Int) (w : World) : Calls Tryd.prog 48 #[.int .i64 n] w fun e w' => e = .returned (.bool (okS n)) ∧ w = w' := by
  by_cases h0 : 1 ≤ n
  · have E : Hid (okS n = decide (n < 1013)) := Lib.hid (by simp [okS, h0]; omega)
    go_enter Tryd.func48, Tryd.ntmps48
    go_wp2
    go_ret
    exact ⟨by rw [E.out]; rfl, rfl⟩
  · have E : Hid (okS n = false) := Lib.hid (by simp [okS, h0])
    go_enter Tryd.func48, Tryd.ntmps48
    go_wp2
    go_ret
    exact ⟨by rw [E.out]; rfl, rfl⟩
theorem l6Secret (n : Int) (w : World) : Calls Tryd.prog 45 #[.int .i64 n] w fun e w' => e = .returned (.bool (okS n)) ∧ w = w' := by
  cases h : okS n
  · have h' : n < 1 ∨ 1012 < n := by simp only [okS, Bool.and_eq_false_iff, decide_eq_false_iff_not] at h; omega
    clear h
    go_enter Tryd.func45, Tryd.ntmps45
    go_wp2_with fail
    refine (inNo _ _ _ _ h').mono ?_
    rintro e w' ⟨rfl, rfl⟩
    go_wp2
    go_ret
    exact ⟨rfl, rfl⟩
  · obtain ⟨k, rfl, h1, h2⟩ := okS_yes h
    go_enter Tryd.func45, Tryd.ntmps45
    go_wp2_with fail
    refine (inYes _ _ _ _ (by omega) (by omega)).mono ?_
    rintro e w' ⟨rfl, rfl⟩
    go_wp2
    go_ret
    exact ⟨rfl, rfl⟩
theorem bigPower (a k : Nat) (w : World) (ha : a < 2027) (hk : k ≤ 1000000000) : Calls Tryd.prog 69 #[.int .i64 a, .int .i64 k] w fun e w' => e = .returned (.int .i64 (pw a k : Nat)) ∧ w = w' := by
  go_enter Tryd.func69, Tryd.ntmps69
  go_wp2_with fail
  refine (powerOf a k 2027 _ (by omega) (by omega) ha hk).mono ?_
  rintro e w' ⟨rfl, rfl⟩
  go_wp2
  go_ret
  exact ⟨rfl, rfl⟩
theorem specPw (a k : Nat) (w : World) (ha : a < 2027) (hk : k ≤ 1000000000) : Calls Tryd.prog 75 #[.int .i64 a, .int .i64 k, .int .i64 2027] w fun e w' => e = .returned (.int .i64 (pw a k : Nat)) ∧ w = w' :=
  l4Power a k 2027 w (by omega) (by omega) ha hk
theorem l6Key (n : Nat) (w : World) (h : n ≤ 1000000000) : Calls Tryd.prog 64 #[.int .i64 n] w fun e w' => e = .returned (.int .i64 (pw 4 n : Nat)) ∧ w = w' := by
  go_enter Tryd.func64, Tryd.ntmps64
  go_wp2_with fail
  refine (specPw 4 n _ (by omega) h).mono ?_
  rintro e w' ⟨rfl, rfl⟩
  go_wp2
  go_ret
  exact ⟨rfl, rfl⟩
theorem big4 (n : Nat) (w : World) (h : n ≤ 1000000000) : Calls Tryd.prog 69 #[.int .i64 4, .int .i64 n] w fun e w' => e = .returned (.int .i64 (pw 4 n : Nat)) ∧ w = w' := bigPower 4 n w (by omega) h

theorem implKey (k : Int) (w : World) : Calls Tryd.prog 37 #[.int .i64 k] w fun e w' => e = .returned (.bool (okK k)) ∧ w = w' := by
  by_cases h0 : 2 ≤ k
  · by_cases h1 : k < 2027
    · obtain ⟨n, rfl⟩ : ∃ n : Nat, k = n := ⟨k.toNat, by omega⟩
      have E : Hid (okK n = decide ((pw n 1013 : Int) = 1)) := Lib.hid (by
        have a1 : decide (2 ≤ (n : Int)) = true := by simpa using h0
        have a2 : decide ((n : Int) ≤ 2026) = true := by simp; omega
        rw [okK, a1, a2, Int.toNat_natCast]; simp; omega)
      have C := Lib.hid (fun W => bigPower n 1013 W (by omega) (by omega))
      generalize pw n 1013 = x at *
      go_enter Tryd.func37, Tryd.ntmps37
      go_wp2_with fail
      refine (C.out _).mono ?_
      rintro e w' ⟨rfl, rfl⟩
      go_wp2
      go_ret
      exact ⟨by rw [E.out]; rfl, rfl⟩
    · have E : Hid (okK k = false) := Lib.hid (by
        have a2 : decide (k ≤ 2026) = false := by simp; omega
        rw [okK, a2]; simp)
      go_enter Tryd.func37, Tryd.ntmps37
      go_wp2
      go_ret
      exact ⟨by rw [E.out]; rfl, rfl⟩
  · have E : Hid (okK k = false) := Lib.hid (by
      have a2 : decide (2 ≤ k) = false := by simpa using h0
      rw [okK, a2]; simp)
    go_enter Tryd.func37, Tryd.ntmps37
    go_wp2
    go_ret
    exact ⟨by rw [E.out]; rfl, rfl⟩
theorem specKey (k : Int) (w : World) : Calls Tryd.prog 42 #[.int .i64 k] w fun e w' => e = .returned (.bool (okK k)) ∧ w = w' := by
  by_cases h : k < 2 ∨ 2026 < k
  · have E : Hid (okK k = false) := Lib.hid (by simp only [okK, Bool.and_eq_false_iff, decide_eq_false_iff_not]; omega)
    go_enter Tryd.func42, Tryd.ntmps42
    go_wp2_with fail
    refine (inNo _ _ _ _ h).mono ?_
    rintro e w' ⟨rfl, rfl⟩
    go_wp2
    go_ret
    exact ⟨by rw [E.out]; rfl, rfl⟩
  · obtain ⟨n, rfl⟩ : ∃ n : Nat, k = n := ⟨k.toNat, by omega⟩
    have E : Hid (okK n = decide ((pw n 1013 : Int) = 1)) := Lib.hid (by
      have a1 : decide (2 ≤ (n : Int)) = true := by simp; omega
      have a2 : decide ((n : Int) ≤ 2026) = true := by simp; omega
      rw [okK, a1, a2, Int.toNat_natCast]; simp; omega)
    have C := Lib.hid (fun W => specPw n 1013 W (by omega) (by omega))
    generalize pw n 1013 = x at *
    go_enter Tryd.func42, Tryd.ntmps42
    go_wp2_with fail
    refine (inYes _ _ _ _ (by omega) (by omega)).mono ?_
    rintro e w' ⟨rfl, rfl⟩
    go_wp2_with fail
    refine (C.out _).mono ?_
    rintro e w' ⟨rfl, rfl⟩
    go_wp2
    go_ret
    exact ⟨by rw [E.out]; rfl, rfl⟩
theorem implFor (n : Nat) (w : World) (h1 : 1 ≤ n) (h2 : n ≤ 1012) : Calls Tryd.prog 35 #[.int .i64 n] w fun e w' => e = .returned (.tuple #[.int .i64 (pw 4 n : Nat), .bool true]) ∧ w = w' := by
  have E := Lib.hid (okS_of h1 h2)
  have C := Lib.hid (fun W => big4 n W (by omega))
  generalize pw 4 n = x at *
  go_enter Tryd.func35, Tryd.ntmps35
  go_wp2_with fail
  refine (isSecret _ _).mono ?_
  rintro e w' ⟨rfl, rfl⟩
  rw [E.out]
  go_wp2_with fail
  refine (C.out _).mono ?_
  rintro e w' ⟨rfl, rfl⟩
  go_wp2
  go_ret2
  exact ⟨rfl, rfl⟩
theorem implForNo (n : Int) (w : World) (h : okS n = false) : Calls Tryd.prog 35 #[.int .i64 n] w fun e w' => e = .returned (.tuple #[.int .i64 0, .bool false]) ∧ w = w' := by
  go_enter Tryd.func35, Tryd.ntmps35
  go_wp2_with fail
  refine (isSecret _ _).mono ?_
  rintro e w' ⟨rfl, rfl⟩
  rw [h]
  go_wp2
  go_ret2
  exact ⟨rfl, rfl⟩
theorem specFor (n : Nat) (w : World) (h1 : 1 ≤ n) (h2 : n ≤ 1012) : Calls Tryd.prog 36 #[.int .i64 n] w fun e w' => e = .returned (.tuple #[.int .i64 (pw 4 n : Nat), .bool true]) ∧ w = w' := by
  have E := Lib.hid (okS_of h1 h2)
  have C := Lib.hid (fun W => l6Key n W (by omega))
  generalize pw 4 n = x at *
  go_enter Tryd.func36, Tryd.ntmps36
  go_wp2_with fail
  refine (l6Secret _ _).mono ?_
  rintro e w' ⟨rfl, rfl⟩
  rw [E.out]
  go_wp2_with fail
  refine (C.out _).mono ?_
  rintro e w' ⟨rfl, rfl⟩
  go_wp2
  go_ret2
  exact ⟨rfl, rfl⟩
theorem specForNo (n : Int) (w : World) (h : okS n = false) : Calls Tryd.prog 36 #[.int .i64 n] w fun e w' => e = .returned (.tuple #[.int .i64 0, .bool false]) ∧ w = w' := by
  go_enter Tryd.func36, Tryd.ntmps36
  go_wp2_with fail
  refine (l6Secret _ _).mono ?_
  rintro e w' ⟨rfl, rfl⟩
  rw [h]
  go_wp2
  go_ret2
  exact ⟨rfl, rfl⟩
end Go.Proofs.YtbljmgmpmmajeaaDoor.Key
