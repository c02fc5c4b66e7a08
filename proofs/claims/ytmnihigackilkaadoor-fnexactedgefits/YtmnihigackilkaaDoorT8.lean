/-
  Digests of leaves and pairs, by both sides; the roots by the reference.
-/
import Derived.Test.YtmnihigackilkaaDoorDigestI
import Derived.Test.YtmnihigackilkaaDoorSib
import Derived.Test.YtmnihigackilkaaDoorSpl
import Derived.Test.YtmnihigackilkaaDoorSlq
import Derived.Test.YtmnihigackilkaaDoorRec
import Derived.Deep.RegionHeld3
import Derived.Deep.Cut
namespace Go.Proofs.YtmnihigackilkaaDoor.T8
open Go.ChangeShapes Go.WideShapes Go.ChangeAt Go.RowKit
open Go.Proofs.YtmnihigackilkaaDoor.Mem Go.Proofs.YtmnihigackilkaaDoor.Ints Go.Proofs.YtmnihigackilkaaDoor.Strs Go.Proofs.YtmnihigackilkaaDoor.ShaComp Go.Proofs.YtmnihigackilkaaDoor.Digest Go.Proofs.YtmnihigackilkaaDoor.DigestI Go.Proofs.YtmnihigackilkaaDoor.Mkl Go.Proofs.YtmnihigackilkaaDoor.Sib Go.Proofs.YtmnihigackilkaaDoor.Spl Go.Proofs.YtmnihigackilkaaDoor.Slq Go.Proofs.YtmnihigackilkaaDoor.Rec
set_option linter.unusedVariables false
set_option maxRecDepth 100000

/-- The program's two tables, as its text lays them. -/
def Tbl (w : World) : Prop := w.rangeAt 0 0 (u32s Words.firsts) ∧ w.rangeAt 1 0 (u32s consts)
theorem Tbl.lt {w : World} (h : Tbl w) : 0 < w.heap.size ∧ 1 < w.heap.size :=
  ⟨World.block_lt_of_cell? w ⟨0, 0, none⟩ (h.1 0 (.int .u32 1779033703) rfl), World.block_lt_of_cell? w ⟨1, 0, none⟩ (h.2 0 (.int .u32 0x428a2f98) rfl)⟩
theorem Tbl.heap {w w' : World} (h : Tbl w) (h1 : w'.heap[0]? = w.heap[0]?) (h2 : w'.heap[1]? = w.heap[1]?) : Tbl w' := ⟨rangeAt_heap h1 h.1, rangeAt_heap h2 h.2⟩
theorem Tbl.below {w w' : World} (h : Tbl w) (hb : Below w.heap.size w w') : Tbl w' := h.heap (hb.block _ h.lt.1) (hb.block _ h.lt.2)

def tl (s : ByteArray) : List UInt8 := s.data.toList
def bs (l : List UInt8) : ByteArray := ⟨l.toArray⟩
theorem tl_bs (l : List UInt8) : tl (bs l) = l := rfl
theorem bs_tl (s : ByteArray) : bs (tl s) = s := by apply ByteArray.ext; simp [bs, tl]
theorem tl_len (s : ByteArray) : (tl s).length = s.size := by simp [tl]
theorem bs_size (l : List UInt8) : (bs l).size = l.length := mk_size l
theorem tl_app (a b : ByteArray) : tl (a ++ b) = tl a ++ tl b := by unfold tl; rw [ByteArray.data_append, Array.toList_append]
theorem bs_inj {a b : List UInt8} (h : bs a = bs b) : a = b := by have := congrArg tl h; simpa [tl_bs] using this
theorem dig32 (l : List UInt8) : (dig l).length = 32 := by
  unfold dig
  rw [End.outL_len]
  rfl
theorem leaf32 (l : List UInt8) : (bs (leafD dig l)).size = 32 := by rw [bs_size]; exact dig32 _
theorem pair32 (a b : List UInt8) : (bs (pairD dig a b)).size = 32 := by rw [bs_size]; exact dig32 _

def z1 : ByteArray := ⟨#[0]⟩
def o1 : ByteArray := ⟨#[1]⟩
theorem leaf_in (s : ByteArray) : bs (dig (tl (z1 ++ s))) = bs (leafD dig (tl s)) := by rw [tl_app]; rfl
theorem pair_in (a b : ByteArray) : bs (dig (tl (o1 ++ a ++ b))) = bs (pairD dig (tl a) (tl b)) := by rw [tl_app, tl_app]; rfl

theorem l8Leaf (s : ByteArray) (w : World) (hs : s.size ≤ 1000) : Calls Tryd.prog 97 #[.string s] w fun e w' => e = .returned (.string (bs (leafD dig (tl s)))) ∧ Below w.heap.size w w' := by
  have q1 : ∀ W, (Op.stringOp .add ⟨#[0]⟩ s).run Tryd.prog W = .ok (.string (z1 ++ s)) W := fun W => run_string_add_sum W _ _ (by show 1 + _ ≤ _; omega)
  have h1 : (z1 ++ s).size = 1 + s.size := by rw [ByteArray.size_append]; rfl
  have C := Lib.hid (fun W => l1Digest (z1 ++ s) W (by rw [h1]; omega))
  rw [show (⟨(dig (z1 ++ s).data.toList).toArray⟩ : ByteArray) = bs (leafD dig (tl s)) from leaf_in s] at C
  clear h1
  generalize z1 ++ s = u at *
  generalize bs (leafD dig (tl s)) = d at *
  go_enter Tryd.func97, Tryd.ntmps97
  go_wp2_with fail
  refine (C.out _).mono ?_
  rintro e w' ⟨rfl, hb⟩
  go_wp2
  go_ret
  exact ⟨rfl, hb⟩
theorem l8Pair (a b : ByteArray) (w : World) (ha : a.size ≤ 1000) (hb : b.size ≤ 1000) : Calls Tryd.prog 99 #[.string a, .string b] w fun e w' => e = .returned (.string (bs (pairD dig (tl a) (tl b)))) ∧ Below w.heap.size w w' := by
  have q1 : ∀ W, (Op.stringOp .add ⟨#[1]⟩ a).run Tryd.prog W = .ok (.string (o1 ++ a)) W := fun W => run_string_add_sum W _ _ (by show 1 + _ ≤ _; omega)
  have h1 : (o1 ++ a).size = 1 + a.size := by rw [ByteArray.size_append]; rfl
  have q2 : ∀ W, (Op.stringOp .add (o1 ++ a) b).run Tryd.prog W = .ok (.string (o1 ++ a ++ b)) W := fun W => run_string_add_sum W _ _ (by rw [h1]; omega)
  have h2 : (o1 ++ a ++ b).size = 1 + a.size + b.size := by rw [ByteArray.size_append, h1]
  have C := Lib.hid (fun W => l1Digest (o1 ++ a ++ b) W (by rw [h2]; omega))
  rw [show (⟨(dig (o1 ++ a ++ b).data.toList).toArray⟩ : ByteArray) = bs (pairD dig (tl a) (tl b)) from pair_in a b] at C
  clear h1 h2
  generalize o1 ++ a ++ b = u at *
  generalize o1 ++ a = v at *
  generalize bs (pairD dig (tl a) (tl b)) = d at *
  go_enter Tryd.func99, Tryd.ntmps99
  go_wp2_with fail
  refine (C.out _).mono ?_
  rintro e w' ⟨rfl, hb⟩
  go_wp2
  go_ret
  exact ⟨rfl, hb⟩
theorem leafInput (s : ByteArray) (w : World) (hs : s.size ≤ 1000) : Calls Tryd.prog 96 #[.string s] w fun e w' => e = .returned (.string (z1 ++ s)) ∧ w = w' := by
  have q1 : ∀ W, (Op.stringOp .add ⟨#[0]⟩ s).run Tryd.prog W = .ok (.string (z1 ++ s)) W := fun W => run_string_add_sum W _ _ (by show 1 + _ ≤ _; omega)
  generalize z1 ++ s = u at *
  go_enter Tryd.func96, Tryd.ntmps96
  go_wp2
  go_ret
  exact ⟨rfl, rfl⟩
theorem pairInput (a b : ByteArray) (w : World) (ha : a.size ≤ 1000) (hb : b.size ≤ 1000) : Calls Tryd.prog 98 #[.string a, .string b] w fun e w' => e = .returned (.string (o1 ++ a ++ b)) ∧ w = w' := by
  have q1 : ∀ W, (Op.stringOp .add ⟨#[1]⟩ a).run Tryd.prog W = .ok (.string (o1 ++ a)) W := fun W => run_string_add_sum W _ _ (by show 1 + _ ≤ _; omega)
  have h1 : (o1 ++ a).size = 1 + a.size := by rw [ByteArray.size_append]; rfl
  have q2 : ∀ W, (Op.stringOp .add (o1 ++ a) b).run Tryd.prog W = .ok (.string (o1 ++ a ++ b)) W := fun W => run_string_add_sum W _ _ (by rw [h1]; omega)
  clear h1
  generalize o1 ++ a ++ b = u at *
  generalize o1 ++ a = v at *
  go_enter Tryd.func98, Tryd.ntmps98
  go_wp2
  go_ret
  exact ⟨rfl, rfl⟩
theorem treeDigest (s : ByteArray) (w : World) (hs : s.size ≤ 600) (hT : Tbl w) : Calls Tryd.prog 85 #[.string s] w fun e w' => e = .returned (.string (bs (dig (tl s)))) ∧ Below w.heap.size w w' := by
  have C := Lib.hid (implDigest s w hs hT.1 hT.2)
  clear hT
  rw [show (⟨(dig s.data.toList).toArray⟩ : ByteArray) = bs (dig (tl s)) from rfl] at C
  generalize bs (dig (tl s)) = d at *
  go_enter Tryd.func85, Tryd.ntmps85
  go_wp2_with fail
  refine C.out.mono ?_
  rintro e w' ⟨rfl, hb⟩
  go_wp2
  go_ret
  exact ⟨rfl, hb⟩
end Go.Proofs.YtmnihigackilkaaDoor.T8
