/-
  The root that a proof tells, by the reference.
-/
import Derived.Test.YtiiklednbhklhaaDoorT8v
import Derived.Test.YtiiklednbhklhaaDoorT8p
namespace Go.Proofs.YtiiklednbhklhaaDoor.T8c
open Go.ChangeShapes Go.WideShapes Go.ChangeAt Go.RowKit
open Go.Proofs.YtiiklednbhklhaaDoor.Mem Go.Proofs.YtiiklednbhklhaaDoor.Ints Go.Proofs.YtiiklednbhklhaaDoor.Strs Go.Proofs.YtiiklednbhklhaaDoor.ShaComp Go.Proofs.YtiiklednbhklhaaDoor.Digest Go.Proofs.YtiiklednbhklhaaDoor.Mkl Go.Proofs.YtiiklednbhklhaaDoor.Sib Go.Proofs.YtiiklednbhklhaaDoor.Spl Go.Proofs.YtiiklednbhklhaaDoor.Slq Go.Proofs.YtiiklednbhklhaaDoor.Rec Go.Proofs.YtiiklednbhklhaaDoor.T8 Go.Proofs.YtiiklednbhklhaaDoor.T8s Go.Proofs.YtiiklednbhklhaaDoor.T8i Go.Proofs.YtiiklednbhklhaaDoor.T8r Go.Proofs.YtiiklednbhklhaaDoor.T8k Go.Proofs.YtiiklednbhklhaaDoor.T8l Go.Proofs.YtiiklednbhklhaaDoor.T8u Go.Proofs.YtiiklednbhklhaaDoor.T8v
set_option linter.unusedVariables false
set_option maxRecDepth 100000

def upS (many k : Nat) (leaf : ByteArray) (p : List ByteArray) : ByteArray × Bool := (bs (up dig many k (tl leaf) (p.map tl)).1, (up dig many k (tl leaf) (p.map tl)).2)
theorem up_le (n : Nat) : ∀ many k leaf (p : List (List UInt8)), many ≤ n → (up dig many k leaf p).1.length ≤ 32 := by
  intro many k leaf p h
  unfold up
  split
  · simp only [leafD, dig32]; omega
  · split
    · simp
    · split <;> (simp only [pairD, dig32]; omega)
theorem upS_le (many k : Nat) (leaf : ByteArray) (p : List ByteArray) : (upS many k leaf p).1.size ≤ 32 := by
  unfold upS; rw [bs_size]; exact up_le many many k _ _ (Nat.le_refl _)
theorem upS_one (k : Nat) (leaf : ByteArray) (p : List ByteArray) : upS 1 k leaf p = (bs (leafD dig (tl leaf)), decide (p.length = 0)) := by
  unfold upS; rw [up_one dig _ _ _ _ (Nat.le_refl _)]; simp
theorem upS_nil (many k : Nat) (leaf : ByteArray) (h : 2 ≤ many) : upS many k leaf [] = (⟨#[]⟩, false) := by
  unfold upS; rw [List.map_nil, up_nil dig _ _ _ h]; rfl
theorem upS_two (many k : Nat) (leaf : ByteArray) (q : List ByteArray) (x : ByteArray) (h : 2 ≤ many) : upS many k leaf (q ++ [x]) = if k < split many then (bs (pairD dig (tl (upS (split many) k leaf q).1) (tl x)), (upS (split many) k leaf q).2) else (bs (pairD dig (tl x) (tl (upS (many - split many) (k - split many) leaf q).1)), (upS (many - split many) (k - split many) leaf q).2) := by
  unfold upS
  rw [List.map_append, List.map_cons, List.map_nil, up_two dig _ _ _ _ _ h]
  split <;> rfl
theorem snoc_len {n : Nat} (l : List ByteArray) (h : l.length = n + 1) : ∃ q x, l = q ++ [x] ∧ q.length = n := Sib.snoc_of l n h
set_option maxHeartbeats 4000000 in
theorem l8Up (N : Nat) : ∀ (many k : Nat) (leaf : ByteArray) (A : Option Addr) (n c B : Nat) (l : List ByteArray) (w : World), many ≤ N → 1 ≤ many → many ≤ 20 → k < many → n ≤ 1000 → n ≤ c → leaf.size ≤ 500 → (∀ s ∈ l, s.size ≤ 500) → B ≤ w.heap.size → Rd w B 1 A n (svs l) →
    Calls Tryd.prog 64 #[.int .i64 (many : Int), .int .i64 (k : Int), .string leaf, .slice A n c] w fun e w' => e = .returned (.tuple #[.string (upS many k leaf l).1, .bool (upS many k leaf l).2]) ∧ Below w.heap.size w w' := by
  induction N with
  | zero => intro many k leaf A n c B l w h1 h2; omega
  | succ N ih =>
    intro many k leaf A n c B l w hN h1 h20 hk hn hc hlf hl hB hx
    have hlen := rd_len hx
    by_cases hm : many = 1
    · subst hm
      rw [upS_one]
      have C := Lib.hid (T8.l8Leaf leaf w (by omega))
      generalize bs (leafD dig (tl leaf)) = d at *
      have E : Hid (decide (l.length = 0) = ((n : Int) == 0)) := Lib.hid (by rw [hlen]; by_cases h : n = 0 <;> simp [h])
      generalize decide (l.length = 0) = bb at *
      clear ih hx hl hlen
      go_enter Tryd.func64, Tryd.ntmps64
      go_wp2_with fail
      refine C.out.mono ?_
      rintro e w1 ⟨rfl, b1⟩
      go_wp2
      go_ret2
      exact ⟨by rw [E.out]; rfl, b1⟩
    · have h2 : 2 ≤ many := by omega
      by_cases h0 : n = 0
      · subst h0
        obtain rfl := List.eq_nil_of_length_eq_zero hlen
        rw [upS_nil _ _ _ h2]
        clear ih hx hl
        go_enter Tryd.func64, Tryd.ntmps64
        go_wp2
        go_ret2
        exact ⟨rfl, Below.refl _ _⟩
      · obtain ⟨m, rfl⟩ : ∃ m, n = m + 1 := ⟨n - 1, by omega⟩
        obtain ⟨q, x, rfl, hq⟩ := snoc_len l hlen
        obtain ⟨b, off, hll, rfl, hb, hcell⟩ := rd_str hx (k := m) (by omega)
        have hxe : (q ++ [x])[m] = x := by rw [List.getElem_append_right (by omega)]; simp [hq]
        rw [hxe] at hcell
        have hxq := rd_takeS m hx (by omega)
        rw [List.take_left' hq] at hxq
        have hxs := hl x (by simp)
        have hqs : ∀ s ∈ q, s.size ≤ 500 := fun s h => hl s (List.mem_append.2 (.inl h))
        obtain ⟨s1, s2, s3⟩ := split_lt h2
        have EU := upS_two many k leaf q x h2
        rw [EU]
        have CS := Lib.hid (fun W => specSplit many W h2 h20)
        have q1 := sl_h b off (m + 1) c m (by omega) (by omega)
        by_cases hks : k < split many
        · rw [if_pos hks]
          have hle := upS_le (split many) k leaf q
          have C1 := Lib.hid (fun W (h : Below w.heap.size w W) => ih (split many) k leaf (some ⟨b, off, none⟩) m c B q W (by omega) (by omega) (by omega) hks (by omega) (by omega) hlf hqs (by have := h.size; omega) (hxq.below h hB))
          have C2 := Lib.hid (fun W => T8.l8Pair (upS (split many) k leaf q).1 x W (by omega) (by omega))
          clear ih hx hxq hl hqs EU hlen
          generalize bs (pairD dig (tl (upS (split many) k leaf q).1) (tl x)) = d3 at *
          generalize (upS (split many) k leaf q).1 = d1 at *
          generalize (upS (split many) k leaf q).2 = bb at *
          generalize split many = s at *
          have j0 : ¬ ((many : Int) = 1) := by omega
          have j1 : ¬ (((m + 1 : Nat) : Int) = 0) := by omega
          have j2 : ¬ ((m : Int) + 1 = 0) := by omega
          go_enter Tryd.func64, Tryd.ntmps64
          go_wp2_with fail
          refine (CS.out _).mono ?_
          rintro e w' ⟨rfl, rfl⟩
          go_wp2_with fail
          refine (C1.out _ (Below.refl _ _)).mono ?_
          rintro e w1 ⟨rfl, b1⟩
          go_wp2_with fail
          refine (C2.out _).mono ?_
          rintro e w2 ⟨rfl, b2⟩
          go_wp2
          go_ret2
          exact ⟨rfl, then_ (n := 0) b1 b2⟩
        · rw [if_neg hks]
          have hle := upS_le (many - split many) (k - split many) leaf q
          have C1 := Lib.hid (fun W (h : Below w.heap.size w W) => ih (many - split many) (k - split many) leaf (some ⟨b, off, none⟩) m c B q W (by omega) (by omega) (by omega) (by omega) (by omega) (by omega) hlf hqs (by have := h.size; omega) (hxq.below h hB))
          rw [show ((many - split many : Nat) : Int) = (many : Int) - ((split many : Nat) : Int) by omega, show ((k - split many : Nat) : Int) = (k : Int) - ((split many : Nat) : Int) by omega] at C1
          have C2 := Lib.hid (fun W => T8.l8Pair x (upS (many - split many) (k - split many) leaf q).1 W (by omega) (by omega))
          clear ih hx hxq hl hqs EU hlen
          generalize bs (pairD dig (tl x) (tl (upS (many - split many) (k - split many) leaf q).1)) = d3 at *
          generalize (upS (many - split many) (k - split many) leaf q).1 = d1 at *
          generalize (upS (many - split many) (k - split many) leaf q).2 = bb at *
          generalize split many = s at *
          have j0 : ¬ ((many : Int) = 1) := by omega
          have j1 : ¬ (((m + 1 : Nat) : Int) = 0) := by omega
          have j2 : ¬ ((m : Int) + 1 = 0) := by omega
          go_enter Tryd.func64, Tryd.ntmps64
          go_wp2_with fail
          refine (CS.out _).mono ?_
          rintro e w' ⟨rfl, rfl⟩
          go_wp2_with fail
          refine (C1.out _ (Below.refl _ _)).mono ?_
          rintro e w1 ⟨rfl, b1⟩
          go_wp2_with fail
          refine (C2.out _).mono ?_
          rintro e w2 ⟨rfl, b2⟩
          go_wp2
          go_ret2
          exact ⟨rfl, then_ (n := 0) b1 b2⟩
end Go.Proofs.YtiiklednbhklhaaDoor.T8c
