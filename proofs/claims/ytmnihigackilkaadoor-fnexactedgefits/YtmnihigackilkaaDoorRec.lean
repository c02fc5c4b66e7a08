/-
  Plain facts on records in memory: rows of two to five cells, blocks laid one behind another.
-/
import Derived.Test.YtmnihigackilkaaDoorMem
import Derived.Deep.QuietTactic
import Derived.BigQuiet
import Derived.Deep.Cut
namespace Go.Proofs.YtmnihigackilkaaDoor.Rec
open Go.ChangeShapes Go.WideShapes Go.ChangeAt Go.RowKit
open Go.Proofs.YtmnihigackilkaaDoor.Mem
set_option linter.unusedVariables false
set_option maxRecDepth 100000

/-- Two numbers as a record. -/
def pv (a b : Int) : Value := .agg #[.int .i64 a, .int .i64 b]
theorem row2 {W : World} {b t : Nat} {x y : Value} (K : W.heap[b]? = some (.cells #[x, y] t)) : W.cell? ⟨b, 0, none⟩ = some x ∧ W.cell? ⟨b, 1, none⟩ = some y :=
  ⟨cell_of_row W _ 0 _ _ _ K, cell_of_row W _ 1 _ _ _ K⟩
theorem row3 {W : World} {b t : Nat} {x y z : Value} (K : W.heap[b]? = some (.cells #[x, y, z] t)) : W.cell? ⟨b, 0, none⟩ = some x ∧ W.cell? ⟨b, 1, none⟩ = some y ∧ W.cell? ⟨b, 2, none⟩ = some z :=
  ⟨cell_of_row W _ 0 _ _ _ K, cell_of_row W _ 1 _ _ _ K, cell_of_row W _ 2 _ _ _ K⟩
theorem row4 {W : World} {b t : Nat} {x y z u : Value} (K : W.heap[b]? = some (.cells #[x, y, z, u] t)) : W.cell? ⟨b, 0, none⟩ = some x ∧ W.cell? ⟨b, 1, none⟩ = some y ∧ W.cell? ⟨b, 2, none⟩ = some z ∧ W.cell? ⟨b, 3, none⟩ = some u :=
  ⟨cell_of_row W _ 0 _ _ _ K, cell_of_row W _ 1 _ _ _ K, cell_of_row W _ 2 _ _ _ K, cell_of_row W _ 3 _ _ _ K⟩
theorem frz2 {W : World} {b t : Nat} {x y : Value} (K : W.heap[b]? = some (.cells #[x, y] t)) : W.frozen? ⟨b, 0, none⟩ = false ∧ W.frozen? ⟨b, 1, none⟩ = false := by
  refine ⟨?_, ?_⟩ <;> simp [World.frozen?, K, go_sem]
theorem frz3 {W : World} {b t : Nat} {x y z : Value} (K : W.heap[b]? = some (.cells #[x, y, z] t)) : W.frozen? ⟨b, 0, none⟩ = false ∧ W.frozen? ⟨b, 1, none⟩ = false ∧ W.frozen? ⟨b, 2, none⟩ = false := by
  refine ⟨?_, ?_, ?_⟩ <;> simp [World.frozen?, K, go_sem]
theorem frz4 {W : World} {b t : Nat} {x y z u : Value} (K : W.heap[b]? = some (.cells #[x, y, z, u] t)) : W.frozen? ⟨b, 0, none⟩ = false ∧ W.frozen? ⟨b, 1, none⟩ = false ∧ W.frozen? ⟨b, 2, none⟩ = false ∧ W.frozen? ⟨b, 3, none⟩ = false := by
  refine ⟨?_, ?_, ?_, ?_⟩ <;> simp [World.frozen?, K, go_sem]
theorem bx {W W' : World} {b : Nat} {o : Obj} (K : W.heap[b]? = some o) (hb : Below W.heap.size W W') : W'.heap[b]? = some o := (hb.block b (Array.getElem?_eq_some_iff.1 K).1).trans K
theorem bx_lt {W : World} {b : Nat} {o : Obj} (K : W.heap[b]? = some o) : b < W.heap.size := (Array.getElem?_eq_some_iff.1 K).1
theorem below_drewN {B : Nat} {w w' : World} (h : Below B w w') (n : Nat) : Below B w (w'.drewN n) := ⟨h.os, h.tape, h.output, h.size, h.block⟩
theorem al1 (w : World) (o : Obj) : Below w.heap.size w (w.alloc o) := (Below.refl _ w).alloc (Nat.le_refl _) o
theorem al2 (w : World) (o o2 : Obj) : Below w.heap.size w ((w.alloc o).alloc o2) := (al1 w o).alloc (by simp) o2
theorem al3 (w : World) (o o2 o3 : Obj) : Below w.heap.size w (((w.alloc o).alloc o2).alloc o3) := (al2 w o o2).alloc (by simp; omega) o3
theorem al4 (w : World) (o o2 o3 o4 : Obj) : Below w.heap.size w ((((w.alloc o).alloc o2).alloc o3).alloc o4) := (al3 w o o2 o3).alloc (by simp; omega) o4
theorem al5 (w : World) (o o2 o3 o4 o5 : Obj) : Below w.heap.size w (((((w.alloc o).alloc o2).alloc o3).alloc o4).alloc o5) := (al4 w o o2 o3 o4).alloc (by simp; omega) o5
theorem then_ {n : Nat} {w w1 w2 : World} (h : Below w.heap.size w w1) (k : Below w1.heap.size w1 w2) : Below w.heap.size w w2 := h.trans (k.mono h.size)
theorem nw1 (w : World) (o : Obj) : (w.alloc o).heap[w.heap.size]? = some o := heap_alloc_new w o
theorem nw2 (w : World) (o o2 : Obj) : ((w.alloc o).alloc o2).heap[w.heap.size]? = some o ∧ ((w.alloc o).alloc o2).heap[w.heap.size + 1]? = some o2 := by
  refine ⟨bx (nw1 w o) (al1 _ o2), ?_⟩
  have := nw1 (w.alloc o) o2
  rwa [World.size_alloc] at this
theorem nw3 (w : World) (o o2 o3 : Obj) : (((w.alloc o).alloc o2).alloc o3).heap[w.heap.size]? = some o ∧ (((w.alloc o).alloc o2).alloc o3).heap[w.heap.size + 1]? = some o2 ∧ (((w.alloc o).alloc o2).alloc o3).heap[w.heap.size + 1 + 1]? = some o3 := by
  refine ⟨bx (nw2 w o o2).1 (al1 _ o3), bx (nw2 w o o2).2 (al1 _ o3), ?_⟩
  have := nw1 ((w.alloc o).alloc o2) o3
  rwa [World.size_alloc, World.size_alloc] at this
theorem nw4 (w : World) (o o2 o3 o4 : Obj) : ((((w.alloc o).alloc o2).alloc o3).alloc o4).heap[w.heap.size]? = some o ∧ ((((w.alloc o).alloc o2).alloc o3).alloc o4).heap[w.heap.size + 1]? = some o2 ∧ ((((w.alloc o).alloc o2).alloc o3).alloc o4).heap[w.heap.size + 1 + 1]? = some o3 ∧ ((((w.alloc o).alloc o2).alloc o3).alloc o4).heap[w.heap.size + 1 + 1 + 1]? = some o4 := by
  obtain ⟨h1, h2, h3⟩ := nw3 w o o2 o3
  refine ⟨bx h1 (al1 _ o4), bx h2 (al1 _ o4), bx h3 (al1 _ o4), ?_⟩
  have := nw1 (((w.alloc o).alloc o2).alloc o3) o4
  rwa [World.size_alloc, World.size_alloc, World.size_alloc] at this
theorem box_1 {w w1 : World} {o : Obj} (b : Below (w.alloc o).heap.size (w.alloc o) w1) : w1.heap[w.heap.size]? = some o := bx (nw1 w o) b
theorem box_2 {w w1 : World} {o o2 : Obj} (b : Below ((w.alloc o).alloc o2).heap.size ((w.alloc o).alloc o2) w1) : w1.heap[w.heap.size]? = some o ∧ w1.heap[w.heap.size + 1]? = some o2 :=
  ⟨bx (nw2 w o o2).1 b, bx (nw2 w o o2).2 b⟩
theorem rel2 {P : Program} {f : Nat} {args : Array Value} {v : Value} (W0 : World) (C : ∀ W, Calls P f args W fun e w' => e = .returned v ∧ Below W.heap.size W w') (W : World) (h : Below W0.heap.size W0 W) :
    Calls P f args W fun e w' => e = .returned v ∧ Below W.heap.size W w' ∧ Below W0.heap.size W0 w' := (C W).mono fun e w' q => ⟨q.1, q.2, then_ (n := 0) h q.2⟩
theorem xa_of {v w1 : World} {o : Obj} (b : Below (v.alloc o).heap.size (v.alloc o) w1) : w1.heap[v.heap.size]? = some o := bx (nw1 v o) b
theorem xa_drew {v w1 : World} {o : Obj} (b : Below (v.alloc o).drew.heap.size (v.alloc o).drew w1) : w1.heap[v.heap.size]? = some o := bx (W := (v.alloc o).drew) (nw1 v o) b
theorem heap_set2 {v : World} {a t : Nat} {x y x' y' : Value} (h : v.heap[a]? = some (.cells #[x', y'] t)) : ((v.setCell ⟨a, 0, none⟩ x).setCell ⟨a, 1, none⟩ y).heap[a]? = some (.cells #[x, y] t) := by
  have h1 := heap_setCell_same v a 0 #[x', y'] t x h
  have h2 := heap_setCell_same (v.setCell ⟨a, 0, none⟩ x) a 1 _ t y h1
  simpa using h2
theorem cell_set2 {v : World} {a b i : Nat} {x y r : Value} (h : v.cell? ⟨b, i, none⟩ = some r) (hne : b ≠ a) : ((v.setCell ⟨a, 0, none⟩ x).setCell ⟨a, 1, none⟩ y).cell? ⟨b, i, none⟩ = some r := by
  have e : ((v.setCell ⟨a, 0, none⟩ x).setCell ⟨a, 1, none⟩ y).heap[b]? = v.heap[b]? := by
    rw [heap_setCell_other _ _ _ _ hne, heap_setCell_other _ _ _ _ hne]
  rw [← h]; simp only [World.cell?, e]
theorem xb_of {v w1 : World} {o o' : Obj} (b : Below ((v.alloc o).alloc o').heap.size ((v.alloc o).alloc o') w1) : w1.heap[v.heap.size]? = some o ∧ w1.heap[v.heap.size + 1]? = some o' := ⟨bx (nw2 v o o').1 b, bx (nw2 v o o').2 b⟩
theorem xb_drew {v w1 : World} {o o' : Obj} (b : Below ((v.alloc o).alloc o').drew.heap.size ((v.alloc o).alloc o').drew w1) : w1.heap[v.heap.size]? = some o ∧ w1.heap[v.heap.size + 1]? = some o' := ⟨bx (W := ((v.alloc o).alloc o').drew) (nw2 v o o').1 b, bx (W := ((v.alloc o).alloc o').drew) (nw2 v o o').2 b⟩
theorem ca0 {v w1 : World} {o : Obj} {a : Nat} (x : v.heap[a]? = some o) (b : Below v.heap.size v w1) : w1.heap[a]? = some o := bx x b
theorem ca1 {v w1 : World} {o o' : Obj} {a : Nat} (x : v.heap[a]? = some o) (b : Below (v.alloc o').heap.size (v.alloc o') w1) : w1.heap[a]? = some o := bx (bx x (al1 v o')) b
theorem ca2 {v w1 : World} {o o' o2 : Obj} {a : Nat} (x : v.heap[a]? = some o) (b : Below ((v.alloc o').alloc o2).heap.size ((v.alloc o').alloc o2) w1) : w1.heap[a]? = some o := bx (bx x (al2 v o' o2)) b
theorem heap_set4 {v : World} {a t : Nat} {x y z u x' y' z' u' : Value} (h : v.heap[a]? = some (.cells #[x', y', z', u'] t)) : ((((v.setCell ⟨a, 0, none⟩ x).setCell ⟨a, 1, none⟩ y).setCell ⟨a, 2, none⟩ z).setCell ⟨a, 3, none⟩ u).heap[a]? = some (.cells #[x, y, z, u] t) := by
  have h1 := heap_setCell_same v a 0 #[x', y', z', u'] t x h
  have h2 := heap_setCell_same (v.setCell ⟨a, 0, none⟩ x) a 1 _ t y h1
  have h3 := heap_setCell_same ((v.setCell ⟨a, 0, none⟩ x).setCell ⟨a, 1, none⟩ y) a 2 _ t z h2
  have h4 := heap_setCell_same (((v.setCell ⟨a, 0, none⟩ x).setCell ⟨a, 1, none⟩ y).setCell ⟨a, 2, none⟩ z) a 3 _ t u h3
  simpa using h4
theorem heap_set4o {v : World} {a b : Nat} {o : Obj} {x y z u : Value} (h : v.heap[b]? = some o) (hne : b ≠ a) : ((((v.setCell ⟨a, 0, none⟩ x).setCell ⟨a, 1, none⟩ y).setCell ⟨a, 2, none⟩ z).setCell ⟨a, 3, none⟩ u).heap[b]? = some o := by
  rw [heap_setCell_other _ _ _ _ hne, heap_setCell_other _ _ _ _ hne, heap_setCell_other _ _ _ _ hne, heap_setCell_other _ _ _ _ hne]; exact h
theorem cell_of_heap' {v v' : World} {b i : Nat} {r : Value} (h : v.cell? ⟨b, i, none⟩ = some r) (e : v'.heap[b]? = v.heap[b]?) : v'.cell? ⟨b, i, none⟩ = some r := by rw [← h]; simp only [World.cell?, e]
theorem cell_set4 {v : World} {a b i : Nat} {x y z u r : Value} (h : v.cell? ⟨b, i, none⟩ = some r) (hne : b ≠ a) : ((((v.setCell ⟨a, 0, none⟩ x).setCell ⟨a, 1, none⟩ y).setCell ⟨a, 2, none⟩ z).setCell ⟨a, 3, none⟩ u).cell? ⟨b, i, none⟩ = some r :=
  cell_of_heap' h (by rw [heap_setCell_other _ _ _ _ hne, heap_setCell_other _ _ _ _ hne, heap_setCell_other _ _ _ _ hne, heap_setCell_other _ _ _ _ hne])
theorem cell_al {v : World} {o : Obj} {b i : Nat} {r : Value} (h : v.cell? ⟨b, i, none⟩ = some r) : (v.alloc o).cell? ⟨b, i, none⟩ = some r := by
  have hb := World.block_lt_of_cell? v _ h
  exact ((al1 v o).cell (p := ⟨b, i, none⟩) hb).trans h
theorem cell_dr {v : World} {b i : Nat} {r : Value} (h : v.cell? ⟨b, i, none⟩ = some r) : v.drew.cell? ⟨b, i, none⟩ = some r := h
theorem al_ok {w v : World} {o : Obj} (h : Below w.heap.size w v) : Below w.heap.size w (v.alloc o) := h.alloc h.size o
theorem if_pv (b : Bool) (x y x' y' : Int) : ∃ u v : Int, (if b then pv x y else pv x' y') = pv u v := by cases b <;> exact ⟨_, _, rfl⟩
end Go.Proofs.YtmnihigackilkaaDoor.Rec
