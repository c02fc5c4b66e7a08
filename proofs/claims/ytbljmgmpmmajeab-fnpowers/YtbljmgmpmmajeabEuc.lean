/-
  The extended Euclidean algorithm: contracts of the program and of the reference.
-/
import Derived.Test.YtbljmgmpmmajeabMod
import Derived.Test.YtbljmgmpmmajeabInts
namespace Go.Proofs.Ytbljmgmpmmajeab.Euc
open Go.ChangeShapes Go.WideShapes Go.ChangeAt Go.RowKit
open Go.Proofs.Ytbljmgmpmmajeab.Mem Go.Proofs.Ytbljmgmpmmajeab.Ints Go.Proofs.Ytbljmgmpmmajeab.Num Go.Proofs.Ytbljmgmpmmajeab.Mod
set_option linter.unusedVariables false
set_option maxRecDepth 100000

def okE (n : Int) : Bool := decide (0 ≤ n) && decide (n ≤ 1000000)
theorem okE_yes {n : Int} (h : okE n = true) : ∃ k : Nat, n = k ∧ k ≤ 1000000 := by
  simp only [okE, Bool.and_eq_true, decide_eq_true_eq] at h
  exact ⟨n.toNat, by omega, by omega⟩
theorem isEuclid (n : Int) (w : World) : Calls Try.prog 27 #[.int .i64 n] w fun e w' => e = .returned (.bool (okE n)) ∧ w = w' := by
  by_cases h0 : 0 ≤ n
  · have E : Hid (okE n = decide (n ≤ 1000000)) := Lib.hid (by simp [okE, h0])
    go_enter Try.func27, Try.ntmps27
    go_wp2
    go_ret
    exact ⟨by rw [E.out]; rfl, rfl⟩
  · have E : Hid (okE n = false) := Lib.hid (by simp [okE, h0])
    go_enter Try.func27, Try.ntmps27
    go_wp2
    go_ret
    exact ⟨by rw [E.out]; rfl, rfl⟩
theorem l1InE (n : Int) (w : World) : Calls Try.prog 23 #[.int .i64 n, .int .i64 0, .int .i64 1000000] w fun e w' => e = .returned (.bool (okE n)) ∧ w = w' := by
  cases h : okE n
  · exact inNo n 0 1000000 w (by simp [okE] at h; omega)
  · obtain ⟨k, rfl, hk⟩ := okE_yes h
    exact inYes _ _ _ w (by omega) (by omega)
/-- Both refuse alike. -/
def refused (a b : Int) : Prop := okE a = false ∨ okE b = false ∨ (a = 0 ∧ b = 0)
theorem implNo (a b : Int) (w : World) (h : refused a b) :
    Calls Try.prog 12 #[.int .i64 a, .int .i64 b] w fun e w' => e = .returned (.tuple #[.int .i64 0, .int .i64 0, .int .i64 0, .bool false]) ∧ w = w' := by
  unfold refused at h
  cases ha : okE a
  · go_enter Try.func12, Try.ntmps12
    go_wp2_with fail
    refine (isEuclid _ _).mono ?_
    rintro e w' ⟨rfl, rfl⟩
    rw [ha]
    go_wp2
    refine bodyPost_ret (v := .tuple #[.int .i64 0, .int .i64 0, .int .i64 0, .bool false]) (by simp [results, Try.results12, go_sem]) rfl ⟨rfl, rfl⟩
  · cases hb : okE b
    · go_enter Try.func12, Try.ntmps12
      go_wp2_with fail
      refine (isEuclid _ _).mono ?_
      rintro e w' ⟨rfl, rfl⟩
      rw [ha]
      go_wp2_with fail
      refine (isEuclid _ _).mono ?_
      rintro e w' ⟨rfl, rfl⟩
      rw [hb]
      go_wp2
      refine bodyPost_ret (v := .tuple #[.int .i64 0, .int .i64 0, .int .i64 0, .bool false]) (by simp [results, Try.results12, go_sem]) rfl ⟨rfl, rfl⟩
    · obtain ⟨rfl, rfl⟩ : a = 0 ∧ b = 0 := by rw [ha, hb] at h; simpa using h
      clear h
      go_enter Try.func12, Try.ntmps12
      go_wp2_with fail
      refine (isEuclid _ _).mono ?_
      rintro e w' ⟨rfl, rfl⟩
      rw [ha]
      go_wp2_with fail
      refine (isEuclid _ _).mono ?_
      rintro e w' ⟨rfl, rfl⟩
      go_wp2
      refine bodyPost_ret (v := .tuple #[.int .i64 0, .int .i64 0, .int .i64 0, .bool false]) (by simp [results, Try.results12, go_sem]) rfl ⟨rfl, rfl⟩
theorem specNo (a b : Int) (w : World) (h : refused a b) :
    Calls Try.prog 13 #[.int .i64 a, .int .i64 b] w fun e w' => e = .returned (.tuple #[.int .i64 0, .int .i64 0, .int .i64 0, .bool false]) ∧ w = w' := by
  unfold refused at h
  cases ha : okE a
  · go_enter Try.func13, Try.ntmps13
    go_wp2_with fail
    refine (l1InE _ _).mono ?_
    rintro e w' ⟨rfl, rfl⟩
    rw [ha]
    go_wp2
    refine bodyPost_ret (v := .tuple #[.int .i64 0, .int .i64 0, .int .i64 0, .bool false]) (by simp [results, Try.results13, go_sem]) rfl ⟨rfl, rfl⟩
  · cases hb : okE b
    · go_enter Try.func13, Try.ntmps13
      go_wp2_with fail
      refine (l1InE _ _).mono ?_
      rintro e w' ⟨rfl, rfl⟩
      rw [ha]
      go_wp2_with fail
      refine (l1InE _ _).mono ?_
      rintro e w' ⟨rfl, rfl⟩
      rw [hb]
      go_wp2
      refine bodyPost_ret (v := .tuple #[.int .i64 0, .int .i64 0, .int .i64 0, .bool false]) (by simp [results, Try.results13, go_sem]) rfl ⟨rfl, rfl⟩
    · obtain ⟨rfl, rfl⟩ : a = 0 ∧ b = 0 := by rw [ha, hb] at h; simpa using h
      clear h
      go_enter Try.func13, Try.ntmps13
      go_wp2_with fail
      refine (l1InE _ _).mono ?_
      rintro e w' ⟨rfl, rfl⟩
      rw [ha]
      go_wp2_with fail
      refine (l1InE _ _).mono ?_
      rintro e w' ⟨rfl, rfl⟩
      go_wp2
      refine bodyPost_ret (v := .tuple #[.int .i64 0, .int .i64 0, .int .i64 0, .bool false]) (by simp [results, Try.results13, go_sem]) rfl ⟨rfl, rfl⟩
end Go.Proofs.Ytbljmgmpmmajeab.Euc
