/-
  A frontier marked by the laws' own helper: nothing but its row of parts changes.
-/
import Derived.Test.YtmnihigackilkaaDoorEdq
import Derived.Test.YtmnihigackilkaaDoorMkg
namespace Go.Proofs.YtmnihigackilkaaDoor.Edm
open Go.ChangeShapes Go.WideShapes Go.ChangeAt Go.RowKit
open Go.Proofs.YtmnihigackilkaaDoor.Mem Go.Proofs.YtmnihigackilkaaDoor.Ints Go.Proofs.YtmnihigackilkaaDoor.Strs Go.Proofs.YtmnihigackilkaaDoor.Slq Go.Proofs.YtmnihigackilkaaDoor.Rec Go.Proofs.YtmnihigackilkaaDoor.Itr Go.Proofs.YtmnihigackilkaaDoor.Mkg Go.Proofs.YtmnihigackilkaaDoor.Edq
set_option linter.unusedVariables false
set_option maxRecDepth 100000

/-- Of what was there nothing changes but the block of the row. -/
def Only (A : Option Addr) (w w' : World) : Prop := ∀ b, (∀ g, A = some ⟨g, 0, none⟩ → b ≠ g) → b < w.heap.size → w'.heap[b]? = w.heap[b]?
theorem Only.row {A : Option Addr} {w w' : World} (h : Only A w w') {b : Nat} {o : Obj} (K : w.heap[b]? = some o) (hb : ∀ g, A = some ⟨g, 0, none⟩ → b ≠ g) : w'.heap[b]? = some o := (h b hb (bx_lt K)).trans K
/-- A row lies no lower than its block. -/
theorem own_up {w : World} {base base' e size n c : Nat} {A : Option Addr} {xs : List Value} (h : w.ownsRow base e size (.slice A n c) n xs) (hlo : ∀ g, A = some ⟨g, 0, none⟩ → base' ≤ g) : w.ownsRow base' e size (.slice A n c) n xs := by
  refine ⟨h.1, ?_⟩
  rcases h.2 with h0 | ⟨g, cap, cur, h1, h2, h3⟩
  · exact .inl h0
  · have hA : A = some ⟨g, 0, none⟩ := by injection h1
    exact .inr ⟨g, cap, cur, h1, hlo g hA, h3⟩
theorem markSA (A : Option Addr) (n c : Nat) (l : List ByteArray) (k base : Nat) (w : World) (hk : 1 ≤ k ∧ k ≤ 1000000) (hn : n ≤ 1048576) (hB : base ≤ w.heap.size) (ho : w.ownsRow base 9 1 (.slice A n c) n (svs l)) :
    Calls Tryd.prog 69 #[.slice A n c, .int .i64 k] w fun e w' => e = .returned (.int .i64 ((k + n : Nat) : Int)) ∧ w'.ownsRow base 9 1 (.slice A n c) n (svs (mts k n)) ∧ Only A w w' ∧ Below base w w' := by
  rcases ho.2 with ⟨h0, h1⟩ | ⟨g, cap, cur, h1, h2, h3, h4⟩
  · obtain ⟨rfl, rfl, rfl⟩ : A = none ∧ n = 0 ∧ c = 0 := by simpa using h0
    refine (markS none 0 0 [] k w.heap.size w hk (by omega) (Nat.le_refl _) (World.ownsRow_nil _ _ _ _)).mono ?_
    rintro e w' ⟨rfl, -, hb⟩
    exact ⟨rfl, World.ownsRow_nil _ _ _ _, fun b _ hlt => hb.block b hlt, hb.mono hB⟩
  · obtain ⟨rfl, rfl⟩ : A = some ⟨g, 0, none⟩ ∧ c = cap := by simpa using h1
    refine (markSg g n c l k base w hk hn hB ho).mono ?_
    rintro e w' ⟨rfl, h5, h6⟩
    exact ⟨rfl, h5, fun b hb hlt => h6.block b hlt (hb g rfl), ⟨h6.os, h6.tape, h6.output, h6.size, fun b hb => h6.block b (by omega) (by omega)⟩⟩
theorem markEdA (A : Option Addr) (n c : Nat) (m : Int) (l : List ByteArray) (k base : Nat) (w : World) (hk : 1 ≤ k ∧ k ≤ 1000000) (hn : n ≤ 1048576) (hB : base ≤ w.heap.size) (ho : w.ownsRow base 9 1 (.slice A n c) n (svs l)) :
    Calls Tryd.prog 64 #[edV m A n c, .int .i64 k] w fun e w' => e = .returned (.int .i64 ((k + n : Nat) : Int)) ∧ w'.ownsRow base 9 1 (.slice A n c) n (svs (mts k n)) ∧ Only A w w' ∧ Below base w w' := by
  have b0 := al1 w (.cells #[.int .i64 m, .slice A n c] 53)
  have C := Lib.hid (markSA A n c l k base (w.alloc (.cells #[.int .i64 m, .slice A n c] 53)) hk hn (by simp; omega) (own_belowS ho b0 (Nat.le_refl _)))
  have B0 := Lib.hid b0
  unfold edV
  clear ho b0
  go_enter Tryd.func64, Tryd.ntmps64
  go_wp2_with fail
  refine C.out.mono ?_
  rintro e w1 ⟨rfl, h1, h3, h2⟩
  have H1 := Lib.hid h1
  have H2 := Lib.hid ((B0.out.mono hB).trans h2)
  have H3 : Hid (Only A w w1) := Lib.hid (fun b hb hlt => (h3 b hb (by simp; omega)).trans (B0.out.block b hlt))
  clear h1 h2 h3 B0 C
  go_wp2
  go_ret
  exact ⟨rfl, H1.out, H3.out, H2.out⟩
end Go.Proofs.YtmnihigackilkaaDoor.Edm
