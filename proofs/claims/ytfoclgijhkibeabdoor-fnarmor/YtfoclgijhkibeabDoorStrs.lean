/-
  Slices of strings: compared, marked and looked at again by the laws' own helpers. A slice may be nil or empty.
-/
import Derived.Test.YtfoclgijhkibeabDoorInts
namespace Go.Proofs.YtfoclgijhkibeabDoor.Strs
open Go.ChangeShapes Go.WideShapes Go.ChangeAt Go.RowKit
open Go.Proofs.YtfoclgijhkibeabDoor.Mem Go.Proofs.YtfoclgijhkibeabDoor.Ints
set_option linter.unusedVariables false

def svs (l : List ByteArray) : List Value := l.map Value.string
theorem rd_str {w : World} {B n k : Nat} {A : Option Addr} {l : List ByteArray} (h : Rd w B 1 A n (svs l)) (hk : k < n) : ∃ b off, ∃ hl : k < l.length, A = some ⟨b, off, none⟩ ∧ b < B ∧ w.cell? ⟨b, off + k, none⟩ = some (.string l[k]) := by
  obtain ⟨b, off, u, e, hb, hx, hc⟩ := h.at1 hk
  have hl : k < l.length := by have := h.1; simp [svs] at this; omega
  refine ⟨b, off, hl, e, hb, ?_⟩
  rw [hc, ← hx]
  simp [svs, hl]
theorem rd_len {w : World} {B n : Nat} {A : Option Addr} {l : List ByteArray} (h : Rd w B 1 A n (svs l)) : l.length = n := by have := h.1; simpa [svs] using this
theorem strs_one (l : List ByteArray) : ∀ u ∈ svs l, u.oneCell' = true := by
  intro u hu
  obtain ⟨c, _, rfl⟩ := List.mem_map.1 hu
  rfl
theorem infoS : (Tryd.prog.info? 9).map (fun i => (i.zero, i.size, i.bytes)) = some (some (.string ⟨#[]⟩), 1, 16) := by kernel_rfl


def mdig (k : Nat) (out : ByteArray) : ByteArray := if h : k = 0 then out else mdig (k / 10) ((⟨#[UInt8.ofNat (48 + k % 10)]⟩ : ByteArray) ++ out)
termination_by k
decreasing_by omega
theorem mdig_zero (out : ByteArray) : mdig 0 out = out := by unfold mdig; simp
theorem mdig_pos (k : Nat) (out : ByteArray) (h : 0 < k) : mdig k out = mdig (k / 10) ((⟨#[UInt8.ofNat (48 + k % 10)]⟩ : ByteArray) ++ out) := by rw [mdig, dif_neg (by omega)]
def mt (k : Nat) : ByteArray := (⟨#[109]⟩ : ByteArray) ++ mdig k ⟨#[]⟩
theorem dig_one (k : Nat) : [Value.int .u8 (48 + (k : Int) % 10)] = [UInt8.ofNat (48 + k % 10)].map byteV := by
  simp only [List.map, byteV]
  rw [UInt8.toNat_ofNat']
  congr 2
  omega
theorem own_keepS {w w' : World} {base e size n : Nat} {v : Value} {xs : List Value} (h : w.ownsRow base e size v n xs) (hk : ∀ b, b < w.heap.size → base ≤ b → w'.heap[b]? = w.heap[b]?) : w'.ownsRow base e size v n xs := by
  refine ⟨h.1, ?_⟩
  rcases h.2 with h0 | ⟨g, cap, cur, h1, h2, h3, h4⟩
  · exact .inl h0
  · exact .inr ⟨g, cap, cur, h1, h2, (hk g (Array.getElem?_eq_some_iff.1 h3).1 h2).trans h3, h4⟩
theorem own_belowS {w w' : World} {base e size n B : Nat} {v : Value} {xs : List Value} (h : w.ownsRow base e size v n xs) (hb : Below B w w') (hB : w.heap.size ≤ B) : w'.ownsRow base e size v n xs :=
  own_keepS h fun b hlt _ => hb.block b (by omega)
theorem own_shapeS {w : World} {base e size n : Nat} {v : Value} {xs : List Value} (h : w.ownsRow base e size v n xs) : ∃ A c, v = .slice A n c := by
  rcases h.2 with ⟨h0, h1⟩ | ⟨g, cap, cur, h1, _⟩
  · exact ⟨none, 0, by rw [h0, h1]⟩
  · exact ⟨_, _, h1⟩
theorem own_someS {w : World} {base e n c : Nat} {A : Option Addr} {xs : List Value} (h : w.ownsRow base e 1 (.slice A n c) n xs) (hn : 0 < n) : ∃ g, A = some ⟨g, 0, none⟩ ∧ base ≤ g := by
  rcases h.2 with ⟨h0, h1⟩ | ⟨g, cap, cur, h1, h2, _⟩
  · omega
  · injection h1 with hA _ _
    exact ⟨g, hA, h2⟩

def mts (k n : Nat) : List ByteArray := (List.range n).map fun i => mt (k + i)
theorem mts_len (k n : Nat) : (mts k n).length = n := by simp [mts]
theorem mts_at (k n i : Nat) (h' : i < (mts k n).length) : (mts k n)[i] = mt (k + i) := by simp [mts]
theorem mts_set (l : List ByteArray) (k i : Nat) (h : i < l.length) : (svs (mts k i ++ l.drop i)).set i (.string (mt (k + i))) = svs (mts k (i + 1) ++ l.drop (i + 1)) := by
  unfold svs
  rw [← List.map_set, List.set_append_right _ _ (by rw [mts_len]; exact Nat.le_refl _), mts_len, Nat.sub_self, List.drop_eq_getElem_cons h, List.set_cons_zero]
  simp [mts, List.range_succ]
end Go.Proofs.YtfoclgijhkibeabDoor.Strs
