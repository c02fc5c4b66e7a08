/-
  One round of the hash, by the program: its contract. Words are numbers from 0 to 4294967295.
-/
import Derived.Test.YtmnihigackilkaaDoorRows
import Derived.Test.YtmnihigackilkaaDoorMem
import Derived.Test.YtmnihigackilkaaDoorInts
import Derived.Test.YtmnihigackilkaaDoorTurn
import Derived.Laws.Closers25b
namespace Go.Proofs.YtmnihigackilkaaDoor.ShaRound
open Go.ChangeShapes Go.WideShapes Go.ChangeAt Go.RowKit
open Go.Proofs.YtmnihigackilkaaDoor.Mem Go.Proofs.YtmnihigackilkaaDoor.Ints
set_option linter.unusedVariables false
set_option maxRecDepth 100000

theorem turnedQ (x b : Int) (w : World) (h0 : 0 ≤ x) (h1 : x ≤ 4294967295) (h2 : 0 ≤ b) (h3 : b ≤ 31) :
    Calls Tryd.prog 161 #[.int .u32 x, .int .i64 b] w fun e w' => e = .returned (.int .u32 (Turn.rotR x b)) ∧ w' = w :=
  (Turn.turned x b w h0 h1 h2 h3).mono fun e w' ⟨he, hw⟩ => ⟨he, hw.symm⟩
def w32 (x : Int) : Prop := 0 ≤ x ∧ x ≤ 4294967295
def agg8 (a b c d e f g h : Int) : Value := .agg #[.int .u32 a, .int .u32 b, .int .u32 c, .int .u32 d, .int .u32 e, .int .u32 f, .int .u32 g, .int .u32 h]
def bigS1 (e : Int) : Int := bits .xor .u32 (bits .xor .u32 (Turn.rotR e 6) (Turn.rotR e 11)) (Turn.rotR e 25)
def bigS0 (a : Int) : Int := bits .xor .u32 (bits .xor .u32 (Turn.rotR a 2) (Turn.rotR a 13)) (Turn.rotR a 22)
def chF (e f g : Int) : Int := bits .xor .u32 (bits .and .u32 e f) (bits .and .u32 (bits .xor .u32 IntKind.u32.max e) g)
def majF (a b c : Int) : Int := bits .xor .u32 (bits .xor .u32 (bits .and .u32 a b) (bits .and .u32 a c)) (bits .and .u32 b c)
def newA (x0 x1 x2 x4 x5 x6 x7 s : Int) : Int := (x7 + bigS1 x4 + chF x4 x5 x6 + s + (bigS0 x0 + majF x0 x1 x2)) % 4294967296
def newE (x3 x4 x5 x6 x7 s : Int) : Int := (x3 + (x7 + bigS1 x4 + chF x4 x5 x6 + s)) % 4294967296
set_option maxHeartbeats 2000000 in
theorem nextRound (x0 x1 x2 x3 x4 x5 x6 x7 s : Int) (w : World) (ha : 0 ≤ x0) (ha' : x0 ≤ 4294967295) (he : 0 ≤ x4) (he' : x4 ≤ 4294967295) :
    Calls Tryd.prog 157 #[agg8 x0 x1 x2 x3 x4 x5 x6 x7, .int .u32 s] w fun e' w' =>
      e' = .returned (agg8 (newA x0 x1 x2 x4 x5 x6 x7 s) x0 x1 x2 (newE x3 x4 x5 x6 x7 s) x4 x5 x6) ∧ Below w.heap.size w w' := by
  unfold agg8
  go_enter Tryd.func157, Tryd.ntmps157
  go_wp2_with fail
  go_quiet (fail)
  go_wp2_with fail
  go_quiet (fail)
  go_wp2_with fail
  generalize hW : World.drewN (World.drewN _ _) _ = W
  have hc7 : W.cell? ⟨w.heap.size, 7, none⟩ = some (.int .u32 x7) := by rw [← hW]; simp [go_sem]
  have hc3 : W.cell? ⟨w.heap.size, 3, none⟩ = some (.int .u32 x3) := by rw [← hW]; simp [go_sem]
  have hcr0 : W.cell? ⟨w.heap.size + 1, 0, none⟩ = some (.int .u32 0) := by rw [← hW]; simp [go_sem]
  have hfr0 : W.frozen? ⟨w.heap.size + 1, 0, none⟩ = false := by rw [← hW]; simp [go_sem]
  have hcr1 : W.cell? ⟨w.heap.size + 1, 1, none⟩ = some (.int .u32 0) := by rw [← hW]; simp [go_sem]
  have hfr1 : W.frozen? ⟨w.heap.size + 1, 1, none⟩ = false := by rw [← hW]; simp [go_sem]
  have hcr2 : W.cell? ⟨w.heap.size + 1, 2, none⟩ = some (.int .u32 0) := by rw [← hW]; simp [go_sem]
  have hfr2 : W.frozen? ⟨w.heap.size + 1, 2, none⟩ = false := by rw [← hW]; simp [go_sem]
  have hcr3 : W.cell? ⟨w.heap.size + 1, 3, none⟩ = some (.int .u32 0) := by rw [← hW]; simp [go_sem]
  have hfr3 : W.frozen? ⟨w.heap.size + 1, 3, none⟩ = false := by rw [← hW]; simp [go_sem]
  have hcr4 : W.cell? ⟨w.heap.size + 1, 4, none⟩ = some (.int .u32 0) := by rw [← hW]; simp [go_sem]
  have hfr4 : W.frozen? ⟨w.heap.size + 1, 4, none⟩ = false := by rw [← hW]; simp [go_sem]
  have hcr5 : W.cell? ⟨w.heap.size + 1, 5, none⟩ = some (.int .u32 0) := by rw [← hW]; simp [go_sem]
  have hfr5 : W.frozen? ⟨w.heap.size + 1, 5, none⟩ = false := by rw [← hW]; simp [go_sem]
  have hcr6 : W.cell? ⟨w.heap.size + 1, 6, none⟩ = some (.int .u32 0) := by rw [← hW]; simp [go_sem]
  have hfr6 : W.frozen? ⟨w.heap.size + 1, 6, none⟩ = false := by rw [← hW]; simp [go_sem]
  have hcr7 : W.cell? ⟨w.heap.size + 1, 7, none⟩ = some (.int .u32 0) := by rw [← hW]; simp [go_sem]
  have hfr7 : W.frozen? ⟨w.heap.size + 1, 7, none⟩ = false := by rw [← hW]; simp [go_sem]
  have hB : Below w.heap.size w W := by rw [← hW]; exact below_drewN (below_drewN (((Below.refl _ w).alloc (Nat.le_refl _) _).alloc (by simp) _) _) _
  clear hW
  go_quiet ((go_at_call 161; exact Calls.quiet_of_same (turnedQ _ _ _ (by omega) (by omega) (by omega) (by omega))))
  go_wp2_with (go_at_call 161; with_reducible refine (Turn.turned _ _ _ (by omega) (by omega) (by omega) (by omega)).mono ?_; rintro e' w' ⟨rfl, rfl⟩)
  refine bodyPost_ret (v := .agg #[.int .u32 (newA x0 x1 x2 x4 x5 x6 x7 s), .int .u32 x0, .int .u32 x1, .int .u32 x2, .int .u32 (newE x3 x4 x5 x6 x7 s), .int .u32 x4, .int .u32 x5, .int .u32 x6]) (by simp [results, Tryd.results157, go_sem, hcr0, hcr1, hcr2, hcr3, hcr4, hcr5, hcr6, hcr7, newA, newE, bigS1, bigS0, chF, majF]) rfl ⟨rfl, ?_⟩
  exact (Below.setCell (Below.setCell (Below.setCell (Below.setCell (Below.setCell (Below.setCell (Below.setCell (Below.setCell (below_drewN hB _) (by dsimp only; omega) _) (by dsimp only; omega) _) (by dsimp only; omega) _) (by dsimp only; omega) _) (by dsimp only; omega) _) (by dsimp only; omega) _) (by dsimp only; omega) _) (by dsimp only; omega) _)
end Go.Proofs.YtmnihigackilkaaDoor.ShaRound
