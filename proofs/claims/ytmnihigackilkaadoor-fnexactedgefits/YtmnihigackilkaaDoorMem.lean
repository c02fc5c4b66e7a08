/-
  Plain facts on memory that the walks of this seat use: bytes as cells, a row of bytes that the call owns read as a string.
-/
import Derived.WalkKit
import Derived.ProofKit
import Derived.Lib.Hide
import Derived.Laws.IdiomStrings
import Derived.Laws.OwnMore
import Derived.Deep.RegionHeld3
import Derived.Deep.AppendLies
import Derived.PlainAid
import Derived.Laws.BitsLemmas
import Derived.Laws.Bits64
namespace Go.Proofs.YtmnihigackilkaaDoor.Mem
open Go.RowKit

theorem ret_int {k : IntKind} {a b : Int} (h : a = b) : Ending.returned (.int k a) = .returned (.int k b) := by rw [h]
theorem ret_str {a b : List UInt8} (h : a = b) : Ending.returned (.string ⟨a.toArray⟩) = .returned (.string ⟨b.toArray⟩) := by rw [h]

def byteV (c : UInt8) : Value := .int .u8 (c.toNat : Int)

theorem byteV_one (l : List UInt8) : ∀ u ∈ l.map byteV, u.oneCell' = true := by
  intro u hu
  obtain ⟨c, _, rfl⟩ := List.mem_map.1 hu
  rfl

/-- 'string(b)' where b is a row of bytes that the call owns, nil let in. -/
theorem run_own_string {P : Program} (w : World) (src dst e base : Nat) (v : Value) (n : Nat) (l : List UInt8)
    (hs : P.underlying src = some (.slice e)) (he : P.underlying e = some (.int .u8)) (hd : P.underlying dst = some .string)
    (h : w.ownsRow base e 1 v n (l.map byteV)) : (convert src dst v).run P w = .ok (.string ⟨l.toArray⟩) w := by
  have hl : l.length = n := by have := h.1; simpa using this
  rcases h.2 with ⟨rfl, h0⟩ | ⟨g, cap, cur, rfl, _, hh, _, _, _, hx⟩
  · have : l = [] := List.eq_nil_of_length_eq_zero (by omega)
    subst this
    rw [run_convert_bytes_string w src dst e none 0 0 hs he hd]
    simp [Conv.bytesToString, Sem.run_pure]
    rfl
  · subst hl
    refine run_convert_bytes_back w src dst e ⟨g, 0, none⟩ cap l hs he hd (fun j hj => ?_)
    have hadd : (⟨g, 0, none⟩ : Addr).add j = ⟨g, j, none⟩ := by unfold Addr.add; split <;> simp_all
    rw [hadd, cell_of_row w g j cur e (0, 0) hh]
    have h1 : (cur.toList.take (l.length * 1))[j]? = some (byteV l[j]) := by
      rw [hx, List.getElem?_map, List.getElem?_eq_getElem hj]; rfl
    rw [List.getElem?_take] at h1
    split at h1
    · simpa [byteV] using h1
    · cases h1

theorem own_congr {w : World} {base e size : Nat} {v : Value} {n m : Nat} {xs ys : List Value} (h : w.ownsRow base e size v n xs) (hn : n = m) (hx : xs = ys) : w.ownsRow base e size v m ys := by
  subst hn; subst hx; exact h

theorem take_snoc (s : ByteArray) (k : Nat) (h : k < s.size) : s.data.toList.take (k + 1) = s.data.toList.take k ++ [s[k]] := by
  rw [List.take_succ_eq_append_getElem (by simpa using h)]; rfl
theorem take_all (s : ByteArray) (k : Nat) (h : s.size ≤ k) : s.data.toList.take k = s.data.toList := List.take_of_length_le (by simpa using h)

theorem ownBlock_ge {w : World} {base e size n : Nat} {v : Value} {xs : List Value} (h : w.ownsRow base e size v n xs) : ∀ g, v.ownBlock = some g → base ≤ g := by
  intro g hg
  rcases h.2 with ⟨rfl, _⟩ | ⟨g', cap, cur, rfl, hb, _⟩
  · simp [Value.ownBlock] at hg
  · have : g' = g := by simpa [Value.ownBlock] using hg
    omega
/-- Behind an append of bytes onto a row of the call's own. -/
theorem app_step {w wr wa w1 : World} {e : Nat} {v v' : Value} {n m : Nat} {l new : List UInt8} {ys : List Value} (hb : Below w.heap.size w wa)
    (hown : wr.ownsRow w.heap.size e 1 v n (l.map byteV)) (h1 : w1.ownsRow w.heap.size e 1 v' m (l.map byteV ++ ys)) (hy : ys = new.map byteV) (hg : wa.grownBy w1 v.ownBlock) :
    w1.ownsRow w.heap.size e 1 v' m ((l ++ new).map byteV) ∧ Below w.heap.size w w1 := by
  subst hy
  refine ⟨by rw [List.map_append]; exact h1, hb.grown hg hb.size (fun g hgg => ownBlock_ge hown g hgg)⟩

/-- '[]byte(s)': a new row with the string's bytes. -/
theorem str_bytes {P : Program} (w : World) (src dst e : Nat) (s : ByteArray) (hs : P.underlying src = some .string) (hd : P.underlying dst = some (.slice e)) (he : P.underlying e = some (.int .u8)) :
    ∃ cap W, (convert src dst (.string s)).run P w = .ok (.slice (some ⟨w.heap.size, 0, none⟩) s.size cap) W ∧ (∀ j (h : j < s.size), W.cell? ⟨w.heap.size, j, none⟩ = some (.int .u8 ((s[j]'h).toNat : Int))) ∧ Below w.heap.size w W := by
  refine ⟨_, _, run_bytes_of_string w src dst e s hs hd he, fun j hj => ?_, (Below.refl _ _).drew.alloc (by simp) _⟩
  rw [cell_of_row _ w.heap.size j _ _ _ (heap_alloc_new w.drew _), bytesRow_at s _ j hj]
  rfl

theorem str_ext {u s : ByteArray} (h : u.toList = s.toList) : u = s := by
  rw [ByteArray.toList_eq, ByteArray.toList_eq] at h
  exact ByteArray.ext (Array.toList_inj.1 h)
theorem str_ne {u s : ByteArray} (h : u ≠ s) : (u.toList == s.toList) = false := by
  rw [beq_eq_false_iff_ne]
  exact fun e => h (str_ext e)

/-- Old cells read as before, and old marks stand. -/
theorem bel_cell {B : Nat} {W w1 : World} (hb : Below B W w1) : ∀ b o, b < B → w1.cell? ⟨b, o, none⟩ = W.cell? ⟨b, o, none⟩ := fun b o h => hb.cell (p := ⟨b, o, none⟩) h
theorem bel_frozen {B : Nat} {W w1 : World} (hb : Below B W w1) : ∀ b o, b < B → w1.frozen? ⟨b, o, none⟩ = W.frozen? ⟨b, o, none⟩ := fun b o h => hb.frozen (p := ⟨b, o, none⟩) h

theorem own_base {w : World} {base base' e size n : Nat} {v : Value} {xs : List Value} (h : w.ownsRow base e size v n xs) (hb : base' ≤ base) : w.ownsRow base' e size v n xs := by
  refine ⟨h.1, ?_⟩
  rcases h.2 with h0 | ⟨g, cap, cur, h1, h2, h3⟩
  · exact .inl h0
  · exact .inr ⟨g, cap, cur, h1, by omega, h3⟩

/-- A boxed value's cells, in whatever world keeps that box. -/
theorem box_cell {w w1 : World} {cs : Array Value} {t : Nat} (hb : Below (w.heap.size + 1) (w.alloc (.cells cs t)) w1) (i : Nat) : w1.cell? ⟨w.heap.size, i, none⟩ = cs[i]? := by
  rw [hb.cell (p := ⟨w.heap.size, i, none⟩) (by show w.heap.size < _; omega), cell_of_row _ w.heap.size i cs t (0, 0) (heap_alloc_new w _)]
theorem box3 {w w1 : World} {x y z : Value} {t : Nat} (hb : Below (w.heap.size + 1) (w.alloc (.cells #[x, y, z] t)) w1) :
    w1.cell? ⟨w.heap.size, 0, none⟩ = some x ∧ w1.cell? ⟨w.heap.size, 1, none⟩ = some y ∧ w1.cell? ⟨w.heap.size, 2, none⟩ = some z := ⟨box_cell hb 0, box_cell hb 1, box_cell hb 2⟩
theorem below_box {w w1 : World} {o : Obj} {B : Nat} (hb : Below B (w.alloc o) w1) (hB : w.heap.size ≤ B) : Below w.heap.size w w1 := ((Below.refl _ w).alloc (Nat.le_refl _) o).trans (hb.mono hB)

theorem own_cell {w : World} {base e g n cap k : Nat} {xs : List Value} (h : w.ownsRow base e 1 (.slice (some ⟨g, 0, none⟩) n cap) n xs) (hk : k < n) : ∃ u, w.cell? ⟨g, k, none⟩ = some u := by
  have hl : k < xs.length := by have := h.1; omega
  exact ⟨xs[k], by rw [h.cellAt k (by omega), List.getElem?_eq_getElem hl]⟩

theorem mk_size (l : List UInt8) : (ByteArray.mk l.toArray).size = l.length := by simp [ByteArray.size]
theorem size_snoc (s : ByteArray) (x : UInt8) : (s ++ (⟨#[x]⟩ : ByteArray)).size = s.size + 1 := by rw [ByteArray.size_append]; rfl

def u32s (ws : List Int) : List Value := ws.map (Value.int .u32)
def slen : Value → Nat
  | .slice _ n _ => n
  | _ => 0

end Go.Proofs.YtmnihigackilkaaDoor.Mem
