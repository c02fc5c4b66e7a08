/-
  The walk of the law on FeedState: for every state and text both answer alike, the argument is left as it was, and the answer's memory is its own. The program's table of round constants is as its text lays it.
-/
import Derived.Test.YtfoclgijhkibeabDoorSpecFeed
namespace Go.Proofs.YtfoclgijhkibeabDoor.LawFeed
open Go.ChangeShapes Go.WideShapes Go.ChangeAt Go.RowKit
open Go.Proofs.YtfoclgijhkibeabDoor.Mem Go.Proofs.YtfoclgijhkibeabDoor.Ints Go.Proofs.YtfoclgijhkibeabDoor.State Go.Proofs.YtfoclgijhkibeabDoor.ShaComp Go.Proofs.YtfoclgijhkibeabDoor.Absorb Go.Proofs.YtfoclgijhkibeabDoor.End Go.Proofs.YtfoclgijhkibeabDoor.GoodState Go.Proofs.YtfoclgijhkibeabDoor.Mark
set_option linter.unusedVariables false
set_option maxRecDepth 100000

/-- Both sides' answer, whatever the state and the text. -/
theorem both (n : Nat) (s t : ByteArray) (L : Int) (zs : List Int) (hn : n ≤ 1048576) (hs : s.size ≤ maxLen) (ht : t.size ≤ maxLen) (hl : zs.length = n) : ∃ (m : Nat) (l : List Int) (rs : ByteArray) (Lr : Int) (ok : Bool), m ≤ 8 ∧ rs.size ≤ maxLen ∧
    (∀ A c W, Rd W W.heap.size 1 A n (ints zs) → Calls Tryd.prog 39 #[stV A n c s L, .string t] W fun e w' => ∃ A' c', e = .returned (.tuple #[stV A' m c' rs Lr, .bool ok]) ∧ w'.ownsRow W.heap.size 3 1 (.slice A' m c') m (ints l) ∧ Below W.heap.size W w') ∧
    (∀ A c W, Rd W W.heap.size 1 A n (ints zs) → W.rangeAt 1 0 (u32s consts) → Calls Tryd.prog 34 #[stV A n c s L, .string t] W fun e w' => ∃ A' c', e = .returned (.tuple #[stV A' m c' rs Lr, .bool ok]) ∧ w'.ownsRow W.heap.size 3 1 (.slice A' m c') m (ints l) ∧ Below W.heap.size W w') := by
  by_cases h : goodS zs s L = false ∨ 600 < t.size ∨ 1000000 < L + t.size
  · refine ⟨0, [], ⟨#[]⟩, 0, false, by omega, by simp [ByteArray.size], fun A c W hx => (FeedNo.specFeedNo A n c s t L zs W hn hs ht h hx).mono ?_, fun A c W hx _ => (FeedNo.implFeedNo A n c s t L zs W hn hs ht h hx).mono ?_⟩
    · rintro e w' ⟨rfl, hb⟩
      exact ⟨none, 0, rfl, World.ownsRow_nil _ _ _ _, hb⟩
    · rintro e w' ⟨rfl, hb⟩
      exact ⟨none, 0, rfl, World.ownsRow_nil _ _ _ _, hb⟩
  · have hg : goodS zs s L = true := by
      cases hg : goodS zs s L with
      | true => rfl
      | false => exact absurd (.inl hg) h
    obtain ⟨v, rfl, hv, h0, h1, h2⟩ := good_v8 hg
    obtain ⟨K, rfl⟩ := Int.eq_ofNat_of_zero_le h0
    have e8 : n = 8 := by rw [← hl]; rfl
    subst e8
    refine ⟨8, (blk v (s.data.toList ++ t.data.toList) ((s.size + t.size) / 64)).list, (s ++ t).extract (64 * ((s.size + t.size) / 64)) (s.size + t.size), ((K + t.size : Nat) : Int), true, by omega, by rw [ByteArray.size_extract]; unfold maxLen at *; omega, fun A c W hx => (SpecFeed.specFeed A c s t K v W hv (by omega) (by omega) (by omega) hg hx).mono ?_, fun A c W hx hk => (ImplFeed.implFeed A c s t K v W hv (by omega) (by omega) (by omega) hg hx hk).mono ?_⟩
    · rintro e w' ⟨g, c', rfl, ho, hb⟩
      exact ⟨_, c', rfl, ho, hb⟩
    · rintro e w' ⟨g, c', rfl, ho, hb⟩
      exact ⟨_, c', rfl, ho, hb⟩
theorem bx {W W' : World} {b : Nat} {o : Obj} (K : W.heap[b]? = some o) (hb : Below W.heap.size W W') : W'.heap[b]? = some o := (hb.block b (Array.getElem?_eq_some_iff.1 K).1).trans K
theorem bx_lt {W : World} {b : Nat} {o : Obj} (K : W.heap[b]? = some o) : b < W.heap.size := (Array.getElem?_eq_some_iff.1 K).1
theorem own_at {w w' : World} {base e size n c : Nat} {A : Option Addr} {xs : List Value} (h : w.ownsRow base e size (.slice A n c) n xs) (hk : ∀ g, A = some ⟨g, 0, none⟩ → w'.heap[g]? = w.heap[g]?) : w'.ownsRow base e size (.slice A n c) n xs := by
  refine ⟨h.1, ?_⟩
  rcases h.2 with h0 | ⟨g, cap, cur, h1, h2, h3, h4⟩
  · exact .inl h0
  · have hA : A = some ⟨g, 0, none⟩ := by injection h1
    exact .inr ⟨g, cap, cur, h1, h2, (hk g hA).trans h3, h4⟩
end Go.Proofs.YtfoclgijhkibeabDoor.LawFeed
