/-
  The laws on LeafDigest, PairDigest and RootOf.
-/
import Derived.Test.YtmnihigackilkaaDoorT8r
import Derived.Test.YtmnihigackilkaaDoorLaidK
namespace Go.Proofs.YtmnihigackilkaaDoor.T8w
open Go.ChangeShapes Go.WideShapes Go.ChangeAt Go.RowKit
open Go.Proofs.YtmnihigackilkaaDoor.Mem Go.Proofs.YtmnihigackilkaaDoor.Ints Go.Proofs.YtmnihigackilkaaDoor.Strs Go.Proofs.YtmnihigackilkaaDoor.ShaComp Go.Proofs.YtmnihigackilkaaDoor.Digest Go.Proofs.YtmnihigackilkaaDoor.DigestI Go.Proofs.YtmnihigackilkaaDoor.Mkl Go.Proofs.YtmnihigackilkaaDoor.Sib Go.Proofs.YtmnihigackilkaaDoor.Spl Go.Proofs.YtmnihigackilkaaDoor.Slq Go.Proofs.YtmnihigackilkaaDoor.Rec Go.Proofs.YtmnihigackilkaaDoor.T8 Go.Proofs.YtmnihigackilkaaDoor.T8s Go.Proofs.YtmnihigackilkaaDoor.T8i Go.Proofs.YtmnihigackilkaaDoor.T8r
set_option linter.unusedVariables false
set_option maxRecDepth 100000

/-- One answer of both sides, whatever the leaf. -/
theorem leafBoth (s : ByteArray) (hm : s.size ≤ maxLen) : ∃ (u : ByteArray) (b : Bool), (b = true → u = bs (leafD dig (tl s)) ∧ s.size ≤ 100) ∧ (b = false → u = ⟨#[]⟩ ∧ 100 < s.size) ∧
    (∀ w, Calls Tryd.prog 26 #[.string s] w fun e w' => e = .returned (.tuple #[.string u, .bool b]) ∧ Below w.heap.size w w') ∧
    (∀ w, Tbl w → Calls Tryd.prog 25 #[.string s] w fun e w' => e = .returned (.tuple #[.string u, .bool b]) ∧ Below w.heap.size w w') := by
  unfold maxLen at hm
  by_cases h : s.size ≤ 100
  · refine ⟨bs (leafD dig (tl s)), true, fun _ => ⟨rfl, h⟩, fun h => (by cases h), fun w => ?_, fun w hT => ?_⟩
    · have C := Lib.hid (T8.l8Leaf s w (by omega))
      generalize bs (leafD dig (tl s)) = d at *
      go_enter Tryd.func26, Tryd.ntmps26
      go_wp2_with fail
      refine C.out.mono ?_
      rintro e w' ⟨rfl, hb⟩
      go_wp2
      go_ret2
      exact ⟨rfl, hb⟩
    · have C1 := Lib.hid (leafInput s w (by omega))
      have C2 := Lib.hid (T8.treeDigest (z1 ++ s) w (by rw [ByteArray.size_append]; show 1 + _ ≤ _; omega) hT)
      have C0 := Lib.hid (isLeaf s w (by unfold maxLen; omega))
      rw [leaf_in] at C2
      rw [decide_eq_true h] at C0
      clear hT
      generalize bs (leafD dig (tl s)) = d at *
      generalize z1 ++ s = y at *
      go_enter Tryd.func25, Tryd.ntmps25
      go_wp2_with fail
      refine C0.out.mono ?_
      rintro e w' ⟨rfl, rfl⟩
      go_wp2_with fail
      refine C1.out.mono ?_
      rintro e w' ⟨rfl, rfl⟩
      go_wp2_with fail
      refine C2.out.mono ?_
      rintro e w' ⟨rfl, hb⟩
      go_wp2
      go_ret2
      exact ⟨rfl, hb⟩
  · refine ⟨⟨#[]⟩, false, fun h => (by cases h), fun _ => ⟨rfl, by omega⟩, fun w => ?_, fun w hT => ?_⟩
    · go_enter Tryd.func26, Tryd.ntmps26
      go_wp2
      go_ret2
      exact ⟨rfl, Below.refl _ _⟩
    · have C0 := Lib.hid (isLeaf s w (by unfold maxLen; omega))
      rw [decide_eq_false h] at C0
      clear hT
      go_enter Tryd.func25, Tryd.ntmps25
      go_wp2_with fail
      refine C0.out.mono ?_
      rintro e w' ⟨rfl, rfl⟩
      go_wp2
      go_ret2
      exact ⟨rfl, Below.refl _ _⟩
theorem pairBoth (s t : ByteArray) (hm : s.size ≤ maxLen) (hm2 : t.size ≤ maxLen) : ∃ (u : ByteArray) (b : Bool), (b = true → u = bs (pairD dig (tl s) (tl t)) ∧ s.size = 32 ∧ t.size = 32) ∧ (b = false → u = ⟨#[]⟩ ∧ ¬ (s.size = 32 ∧ t.size = 32)) ∧
    (∀ w, Calls Tryd.prog 29 #[.string s, .string t] w fun e w' => e = .returned (.tuple #[.string u, .bool b]) ∧ Below w.heap.size w w') ∧
    (∀ w, Tbl w → Calls Tryd.prog 28 #[.string s, .string t] w fun e w' => e = .returned (.tuple #[.string u, .bool b]) ∧ Below w.heap.size w w') := by
  have C0 := Lib.hid (fun W => isDigest s W hm)
  have C9 := Lib.hid (fun W => isDigest t W hm2)
  unfold maxLen at hm hm2
  by_cases h : s.size = 32
  · rw [decide_eq_true h] at C0
    have n1 : ((s.size : Int) != 32) = false := by rw [bne_eq_false_iff_eq]; omega
    by_cases h2 : t.size = 32
    · rw [decide_eq_true h2] at C9
      have n2 : ((t.size : Int) != 32) = false := by rw [bne_eq_false_iff_eq]; omega
      refine ⟨bs (pairD dig (tl s) (tl t)), true, fun _ => ⟨rfl, h, h2⟩, fun h => (by cases h), fun w => ?_, fun w hT => ?_⟩
      · have C := Lib.hid (T8.l8Pair s t w (by omega) (by omega))
        generalize bs (pairD dig (tl s) (tl t)) = d at *
        clear h h2 C0 C9
        go_enter Tryd.func29, Tryd.ntmps29
        go_wp2_with fail
        refine C.out.mono ?_
        rintro e w' ⟨rfl, hb⟩
        go_wp2
        go_ret2
        exact ⟨rfl, hb⟩
      · have C1 := Lib.hid (pairInput s t w (by omega) (by omega))
        have C2 := Lib.hid (T8.treeDigest (o1 ++ s ++ t) w (by rw [ByteArray.size_append, ByteArray.size_append]; show 1 + _ + _ ≤ _; omega) hT)
        rw [pair_in] at C2
        clear hT h h2
        generalize bs (pairD dig (tl s) (tl t)) = d at *
        generalize o1 ++ s ++ t = y at *
        go_enter Tryd.func28, Tryd.ntmps28
        go_wp2_with fail
        refine (C0.out _).mono ?_
        rintro e w' ⟨rfl, rfl⟩
        go_wp2_with fail
        refine (C9.out _).mono ?_
        rintro e w' ⟨rfl, rfl⟩
        go_wp2_with fail
        refine C1.out.mono ?_
        rintro e w' ⟨rfl, rfl⟩
        go_wp2_with fail
        refine C2.out.mono ?_
        rintro e w' ⟨rfl, hb⟩
        go_wp2
        go_ret2
        exact ⟨rfl, hb⟩
    · rw [decide_eq_false h2] at C9
      have n2 : ((t.size : Int) != 32) = true := by rw [bne_iff_ne]; omega
      refine ⟨⟨#[]⟩, false, fun h => (by cases h), fun _ => ⟨rfl, fun q => h2 q.2⟩, fun w => ?_, fun w hT => ?_⟩
      · clear h h2 C0 C9
        go_enter Tryd.func29, Tryd.ntmps29
        go_wp2
        go_ret2
        exact ⟨rfl, Below.refl _ _⟩
      · clear hT h h2
        go_enter Tryd.func28, Tryd.ntmps28
        go_wp2_with fail
        refine (C0.out _).mono ?_
        rintro e w' ⟨rfl, rfl⟩
        go_wp2_with fail
        refine (C9.out _).mono ?_
        rintro e w' ⟨rfl, rfl⟩
        go_wp2
        go_ret2
        exact ⟨rfl, Below.refl _ _⟩
  · rw [decide_eq_false h] at C0
    have n1 : ((s.size : Int) != 32) = true := by rw [bne_iff_ne]; omega
    refine ⟨⟨#[]⟩, false, fun h => (by cases h), fun _ => ⟨rfl, fun q => h q.1⟩, fun w => ?_, fun w hT => ?_⟩
    · clear h C0 C9
      go_enter Tryd.func29, Tryd.ntmps29
      go_wp2
      go_ret2
      exact ⟨rfl, Below.refl _ _⟩
    · clear hT h
      go_enter Tryd.func28, Tryd.ntmps28
      go_wp2_with fail
      refine (C0.out _).mono ?_
      rintro e w' ⟨rfl, rfl⟩
      go_wp2
      go_ret2
      exact ⟨rfl, Below.refl _ _⟩
/-- The root of a list, by both sides. -/
theorem rootBoth (l : List ByteArray) (n : Nat) (hn : n ≤ 1048576) (hl : l.length = n) (hs : ∀ s ∈ l, s.size ≤ maxLen) : ∃ (u : ByteArray) (b : Bool), b = okL l ∧ (b = true → u = bs (root dig (l.map tl))) ∧ (b = false → u = ⟨#[]⟩) ∧
    (∀ A c B w, n ≤ c → B ≤ w.heap.size → Rd w B 1 A n (svs l) → Calls Tryd.prog 15 #[.slice A n c] w fun e w' => e = .returned (.tuple #[.string u, .bool b]) ∧ Below w.heap.size w w') ∧
    (∀ A c B w, n ≤ c → B ≤ w.heap.size → Rd w B 1 A n (svs l) → Tbl w → Calls Tryd.prog 14 #[.slice A n c] w fun e w' => e = .returned (.tuple #[.string u, .bool b]) ∧ Below w.heap.size w w') := by
  cases hok : okL l
  · refine ⟨⟨#[]⟩, false, rfl, fun h => (by cases h), fun _ => rfl, fun A c B w hc hB hx => ?_, fun A c B w hc hB hx hT => ?_⟩
    · have C := Lib.hid (T8i.l8Leaves A n c l B w hn hs hx)
      rw [hok] at C
      clear hx hok
      go_enter Tryd.func15, Tryd.ntmps15
      go_wp2_with fail
      refine C.out.mono ?_
      rintro e w' ⟨rfl, rfl⟩
      go_wp2
      go_ret2
      exact ⟨rfl, Below.refl _ _⟩
    · have C := Lib.hid (T8i.areLeaves A n c l B w hn hs hx)
      rw [hok] at C
      clear hx hok hT
      go_enter Tryd.func14, Tryd.ntmps14
      go_wp2_with fail
      refine C.out.mono ?_
      rintro e w' ⟨rfl, rfl⟩
      go_wp2
      go_ret2
      exact ⟨rfl, Below.refl _ _⟩
  · obtain ⟨hlv, h20⟩ := okL_yes hok
    refine ⟨bs (root dig (l.map tl)), true, rfl, fun _ => rfl, fun h => (by cases h), fun A c B w hc hB hx => ?_, fun A c B w hc hB hx hT => ?_⟩
    · have C := Lib.hid (T8i.l8Leaves A n c l B w hn hs hx)
      have C2 := Lib.hid (T8s.l8Root n A n c B l w (Nat.le_refl _) (by omega) hc hlv hB hx)
      rw [hok] at C
      clear hx hok hlv
      generalize bs (root dig (l.map tl)) = d at *
      go_enter Tryd.func15, Tryd.ntmps15
      go_wp2_with fail
      refine C.out.mono ?_
      rintro e w' ⟨rfl, rfl⟩
      go_wp2_with fail
      refine C2.out.mono ?_
      rintro e w' ⟨rfl, hb⟩
      go_wp2
      go_ret2
      exact ⟨rfl, hb⟩
    · have C := Lib.hid (T8i.areLeaves A n c l B w hn hs hx)
      rw [hok] at C
      have C2 := Lib.hid (T8r.rootsOf A n c w)
      have C3 := Lib.hid (fun W b (h : Below w.heap.size w W) (hR : Rtf W b A n c) => T8r.root n 0 n A n c b B l W (by omega) (by omega) (Nat.le_refl _) (by omega) hlv (by have := h.size; omega) (hx.below h hB) hR (hT.below h))
      have CW := Lib.hid (fun W => wholeSpan n W (by omega))
      have e1 : prS l 0 n = bs (root dig (l.map tl)) := by rw [← hl]; exact pr_all l
      rw [e1] at C3
      clear hx hok hlv hT e1
      generalize bs (root dig (l.map tl)) = d at *
      unfold sp at CW C3
      unfold rtV at C2
      go_enter Tryd.func14, Tryd.ntmps14
      go_wp2_with fail
      refine C.out.mono ?_
      rintro e w' ⟨rfl, rfl⟩
      go_wp2_with fail
      refine C2.out.mono ?_
      rintro e w1 ⟨rfl, hR, b1⟩
      go_wp2_with fail
      refine (CW.out _).mono ?_
      rintro e w2 ⟨rfl, b2⟩
      have HR := Lib.hid (hR.below b2)
      have B2 := then_ (n := 0) b1 b2
      clear hR
      go_wp2_with fail
      refine (C3.out _ _ B2 HR.out).mono ?_
      rintro e w3 ⟨rfl, b3⟩
      go_wp2
      go_ret2
      exact ⟨rfl, then_ (n := 0) B2 b3⟩
end Go.Proofs.YtmnihigackilkaaDoor.T8w
