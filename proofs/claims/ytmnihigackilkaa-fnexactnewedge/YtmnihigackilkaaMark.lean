/-
  The marking of a result's numbers, and the look whether they are still held.
-/
import Derived.Test.YtmnihigackilkaaInts
import Derived.Test.YtmnihigackilkaaState
namespace Go.Proofs.Ytmnihigackilkaa.Mark
open Go.ChangeShapes Go.WideShapes Go.ChangeAt Go.RowKit
open Go.Proofs.Ytmnihigackilkaa.Mem Go.Proofs.Ytmnihigackilkaa.Ints Go.Proofs.Ytmnihigackilkaa.State
set_option linter.unusedVariables false
set_option maxRecDepth 100000

def marks (k : Int) (n : Nat) : List Int := (List.range n).map fun (i : Nat) => k + (i : Int)
theorem marks_len (k : Int) (n : Nat) : (marks k n).length = n := by simp [marks]
theorem marks_at (k : Int) (n i : Nat) (h : i < n) (h' : i < (marks k n).length) : (marks k n)[i] = k + i := by simp [marks]
theorem mark_set (zs : List Int) (k : Int) (i : Nat) (h : i < zs.length) : (ints (marks k i ++ zs.drop i)).set i (.int .i64 (k + i)) = ints (marks k (i + 1) ++ zs.drop (i + 1)) := by
  unfold ints
  rw [← List.map_set, List.set_append_right _ _ (by rw [marks_len]; exact Nat.le_refl _), marks_len, Nat.sub_self, List.drop_eq_getElem_cons h, List.set_cons_zero]
  simp [marks, List.range_succ]
set_option maxHeartbeats 1000000 in
theorem markIntS (g n c : Nat) (zs : List Int) (k : Int) (base : Nat) (w : World) (hk : 0 ≤ k ∧ k ≤ 1099511627776) (hn : n ≤ 1048576) (ho : w.ownsRow base 3 1 (.slice (some ⟨g, 0, none⟩) n c) n (ints zs)) :
    Calls Try.prog 18 #[.slice (some ⟨g, 0, none⟩) n c, .int .i64 k] w fun e w' => e = .returned (.int .i64 (k + n)) ∧ w'.ownsRow base 3 1 (.slice (some ⟨g, 0, none⟩) n c) n (ints (marks k n)) ∧ (∀ b, b ≠ g → w'.heap[b]? = w.heap[b]?) ∧ Below g w w' := by
  have lz : zs.length = n := by have := ho.1; simpa [ints] using this
  subst lz
  have HO := Lib.hid ho
  clear ho
  have hz0 : 0 ≤ k := hk.1
  have hz1 : k ≤ 1099511627776 := hk.2
  clear hk
  go_enter Try.func18, Try.ntmps18
  go_wp2
  go_loopw [1, 5] (fun x i wr => ∃ j : Nat, j ≤ zs.length ∧ x = .int .i64 (k + j) ∧ i = .int .i64 j ∧ wr.ownsRow base 3 1 (.slice (some ⟨g, 0, none⟩) zs.length c) zs.length (ints (marks k j ++ zs.drop j)) ∧ (∀ b, b ≠ g → wr.heap[b]? = w.heap[b]?) ∧ Below g w wr)
    (fun _ i _ => zs.length - (intOf i).toNat)
  case atStart => exact ⟨0, by omega, by simp, rfl, by simpa [marks] using HO.out, fun _ _ => rfl, Below.refl _ _⟩
  case round =>
    obtain ⟨j, hj, rfl, rfl, hown, hot, hb⟩ := hrel
    clear HO
    by_cases hlt : j < zs.length
    · have hc2 := hown.cellAt j (by omega)
      have hll : j < (ints (marks k j ++ zs.drop j)).length := by simp [ints, marks_len]; omega
      rw [List.getElem?_eq_getElem hll] at hc2
      have hf2 := hown.frozenAt j
      have R := hown.stored j (.int .i64 (k + j))
      rw [mark_set zs k j hlt] at R
      have HR := Lib.hid R
      have HT := Lib.hid hot
      clear R hown hot
      go_wp2
      go_roundw
      case rel => exact ⟨j + 1, by omega, by go_num, by go_num, HR.out.1, fun b hbg => (Below.heap_setCell _ _ _ _ hbg).trans (HT.out b hbg), hb.setCell (Nat.le_refl _) _⟩
      case measure => simp [intOf]; omega
    · obtain rfl : j = zs.length := by omega
      have ho : wr.ownsRow base 3 1 (.slice (some ⟨g, 0, none⟩) zs.length c) zs.length (ints (marks k zs.length)) := by simpa using hown
      have HO := Lib.hid ho
      have HT := Lib.hid hot
      clear ho hown hot
      go_wp2
      go_ret
      exact ⟨rfl, HO.out, HT.out, hb⟩
theorem heldIntS (A : Option Addr) (n c : Nat) (k : Int) (B : Nat) (w : World) (hk : 0 ≤ k ∧ k ≤ 1099511627776) (hn : n ≤ 1048576) (hx : Rd w B 1 A n (ints (marks k n))) :
    Calls Try.prog 19 #[.slice A n c, .int .i64 k] w fun e w' => e = .returned (.int .i64 (k + n)) ∧ ∃ q, w' = w.drewN q := by
  have HX := Lib.hid hx
  clear hx
  have hz0 : 0 ≤ k := hk.1
  have hz1 : k ≤ 1099511627776 := hk.2
  clear hk
  go_enter Try.func19, Try.ntmps19
  go_wp2
  go_loopw [1, 5] (fun x i wr => ∃ j q : Nat, j ≤ n ∧ x = .int .i64 (k + j) ∧ i = .int .i64 j ∧ wr = w.drewN q)
    (fun _ i _ => n - (intOf i).toNat)
  case atStart => exact ⟨0, 0, by omega, by simp, rfl, rfl⟩
  case round =>
    obtain ⟨j, q, hj, rfl, rfl, rfl⟩ := hrel
    by_cases hlt : j < n
    · obtain ⟨b, off, hl, rfl, _, hc⟩ := HX.out.int hlt
      rw [marks_at k n j hlt] at hc
      have i0 : (0 : Int) ≤ (j : Int) := by omega
      have i1 : (j : Int) < (n : Int) := by omega
      have hbn : ((k + (j : Int)) != (k + (j : Int))) = false := by simp
      go_wp2
      go_roundw
      case rel => exact ⟨j + 1, _, by omega, by go_num, by go_num, rfl⟩
      case measure => simp [intOf]; omega
    · obtain rfl : j = n := by omega
      go_wp2
      go_ret
      exact ⟨rfl, _, rfl⟩
theorem own_heap {w w' : World} {base e size g n m c : Nat} {xs : List Value} (h : w.ownsRow base e size (.slice (some ⟨g, 0, none⟩) m c) n xs) (hg : w'.heap[g]? = w.heap[g]?) : w'.ownsRow base e size (.slice (some ⟨g, 0, none⟩) m c) n xs := by
  refine ⟨h.1, ?_⟩
  rcases h.2 with ⟨h0, _⟩ | ⟨g', cap, cur, h1, h2, h3, h4⟩
  · cases h0
  · obtain ⟨rfl, rfl, rfl⟩ : g = g' ∧ m = n ∧ c = cap := by simpa using h1
    exact .inr ⟨g, c, cur, rfl, h2, hg.trans h3, h4⟩
theorem own_lt {w : World} {base e size g n m c : Nat} {xs : List Value} (h : w.ownsRow base e size (.slice (some ⟨g, 0, none⟩) m c) n xs) : g < w.heap.size := by
  rcases h.2 with ⟨h0, _⟩ | ⟨g', cap, cur, h1, h2, h3, h4⟩
  · cases h0
  · obtain ⟨rfl, rfl, rfl⟩ : g = g' ∧ m = n ∧ c = cap := by simpa using h1
    exact (Array.getElem?_eq_some_iff.1 h3).1
theorem own_shape {w : World} {base e size n : Nat} {v : Value} {xs : List Value} (h : w.ownsRow base e size v n xs) : ∃ A c, v = .slice A n c := by
  rcases h.2 with ⟨h0, h1⟩ | ⟨g, cap, cur, h1, _⟩
  · exact ⟨none, 0, by rw [h0, h1]⟩
  · exact ⟨_, _, h1⟩
theorem own_keep {w w' : World} {base e size n : Nat} {v : Value} {xs : List Value} (h : w.ownsRow base e size v n xs) (hk : ∀ b, b < w.heap.size → base ≤ b → w'.heap[b]? = w.heap[b]?) : w'.ownsRow base e size v n xs := by
  refine ⟨h.1, ?_⟩
  rcases h.2 with h0 | ⟨g, cap, cur, h1, h2, h3, h4⟩
  · exact .inl h0
  · exact .inr ⟨g, cap, cur, h1, h2, (hk g (Array.getElem?_eq_some_iff.1 h3).1 h2).trans h3, h4⟩
theorem own_below {w w' : World} {base e size n B : Nat} {v : Value} {xs : List Value} (h : w.ownsRow base e size v n xs) (hb : Below B w w') (hB : w.heap.size ≤ B) : w'.ownsRow base e size v n xs :=
  own_keep h fun b hlt _ => hb.block b (by omega)
theorem markNil (k : Int) (w : World) (hk : 0 ≤ k ∧ k ≤ 1099511627776) :
    Calls Try.prog 18 #[.slice none 0 0, .int .i64 k] w fun e w' => e = .returned (.int .i64 k) ∧ w = w' := by
  go_enter Try.func18, Try.ntmps18
  go_wp2
  go_loop [1, 5] (fun x i => x = .int .i64 k ∧ i = .int .i64 0) (fun _ _ => 0)
  case atStart => exact ⟨rfl, rfl⟩
  case round =>
    obtain ⟨rfl, rfl⟩ := hrel
    go_wp2
    go_ret
    exact ⟨rfl, rfl⟩
/-- A row of the call's own is marked: of memory only that row changes. -/
theorem markOwn (A : Option Addr) (n c : Nat) (zs : List Int) (k : Int) (base : Nat) (w : World) (hk : 0 ≤ k ∧ k ≤ 1099511627776) (hn : n ≤ 1048576) (hB : base ≤ w.heap.size) (ho : w.ownsRow base 3 1 (.slice A n c) n (ints zs)) :
    Calls Try.prog 18 #[.slice A n c, .int .i64 k] w fun e w' => e = .returned (.int .i64 (k + n)) ∧ w'.ownsRow base 3 1 (.slice A n c) n (ints (marks k n)) ∧ Below base w w' := by
  rcases ho.2 with ⟨h0, h1⟩ | ⟨g, cap, cur, h1, h2, h3, h4⟩
  · obtain ⟨rfl, rfl, rfl⟩ : A = none ∧ n = 0 ∧ c = 0 := by simpa using h0
    refine (markNil k w hk).mono ?_
    rintro e w' ⟨rfl, rfl⟩
    exact ⟨by simp, World.ownsRow_nil _ _ _ _, Below.refl _ _⟩
  · obtain ⟨rfl, rfl⟩ : A = some ⟨g, 0, none⟩ ∧ c = cap := by simpa using h1
    refine (markIntS g n c zs k base w hk hn ho).mono ?_
    rintro e w' ⟨rfl, h5, h6, h7⟩
    exact ⟨rfl, h5, h7.mono h2⟩
end Go.Proofs.Ytmnihigackilkaa.Mark
