/-
  The laws on LeafDigest, PairDigest and RootOf: walks.
-/
import Derived.Test.YtiiklednbhklhaaDoorT8w
namespace Go.Proofs.YtiiklednbhklhaaDoor.T8x
open Go.ChangeShapes Go.WideShapes Go.ChangeAt Go.RowKit
open Go.Proofs.YtiiklednbhklhaaDoor.Mem Go.Proofs.YtiiklednbhklhaaDoor.Ints Go.Proofs.YtiiklednbhklhaaDoor.Strs Go.Proofs.YtiiklednbhklhaaDoor.ShaComp Go.Proofs.YtiiklednbhklhaaDoor.Mkl Go.Proofs.YtiiklednbhklhaaDoor.Slq Go.Proofs.YtiiklednbhklhaaDoor.Rec Go.Proofs.YtiiklednbhklhaaDoor.T8 Go.Proofs.YtiiklednbhklhaaDoor.T8s Go.Proofs.YtiiklednbhklhaaDoor.T8i Go.Proofs.YtiiklednbhklhaaDoor.T8r Go.Proofs.YtiiklednbhklhaaDoor.T8w
set_option linter.unusedVariables false
set_option maxRecDepth 100000

namespace L
theorem walk (s : ByteArray) (w0 : s.size ≤ maxLen) (w : World) (hT : Tbl w) : Calls Tryd.prog 5 #[.string s] w fun e w' => e = .returned (.bool true) ∧ Below w.heap.size w w' := by
  obtain ⟨u, b, -, -, S0, I0⟩ := leafBoth s w0
  have S := Lib.hid S0
  have I := Lib.hid (fun W (h : Below w.heap.size w W) => I0 W (hT.below h))
  clear S0 I0 hT
  unfold maxLen at w0
  go_enter Tryd.func5, Tryd.ntmps5
  by_cases hbig : 1048576 < s.size
  · go_wp2
    go_ret
    exact ⟨rfl, Below.refl _ _⟩
  go_wp2_with fail
  refine (S.out _).mono ?_
  rintro e w1 ⟨rfl, b1⟩
  go_wp2_with fail
  refine (I.out _ b1).mono ?_
  rintro e w2 ⟨rfl, b2⟩
  have B2 := then_ (n := 0) b1 b2
  cases b
  all_goals
    go_wp2
    go_ret
    exact ⟨rfl, B2⟩
end L
namespace Q
theorem walk (s t : ByteArray) (w0 : s.size ≤ maxLen) (w1 : t.size ≤ maxLen) (w : World) (hT : Tbl w) : Calls Tryd.prog 6 #[.string s, .string t] w fun e w' => e = .returned (.bool true) ∧ Below w.heap.size w w' := by
  obtain ⟨u, b, -, -, S0, I0⟩ := pairBoth s t w0 w1
  have S := Lib.hid S0
  have I := Lib.hid (fun W (h : Below w.heap.size w W) => I0 W (hT.below h))
  clear S0 I0 hT
  unfold maxLen at w0 w1
  go_enter Tryd.func6, Tryd.ntmps6
  by_cases hbig : 1048576 < s.size
  · go_wp2
    go_ret
    exact ⟨rfl, Below.refl _ _⟩
  by_cases hbig2 : 1048576 < t.size
  · go_wp2
    go_ret
    exact ⟨rfl, Below.refl _ _⟩
  go_wp2_with fail
  refine (S.out _).mono ?_
  rintro e w1 ⟨rfl, b1⟩
  go_wp2_with fail
  refine (I.out _ b1).mono ?_
  rintro e w2 ⟨rfl, b2⟩
  have B2 := then_ (n := 0) b1 b2
  cases b
  all_goals
    go_wp2
    go_ret
    exact ⟨rfl, B2⟩
end Q
namespace R
set_option maxHeartbeats 1000000 in
theorem walk (A : Option Addr) (n c : Nat) (l : List ByteArray) (hn : n ≤ maxLen) (hs : ∀ s ∈ l, s.size ≤ maxLen) (w : World) (hT : Tbl w) (R1 : Rd w w.heap.size 1 A n (svs l)) :
    Calls Tryd.prog 7 #[.slice A n c] w fun e w' => e = .returned (.bool true) ∧ Below w.heap.size w w' := by
  have H1 := Lib.hid R1
  have HS := Lib.hid hs
  have HT := Lib.hid (fun W (h : Below w.heap.size w W) => hT.below h)
  have Z1 : Calls Tryd.prog 41 #[.slice A n c, .int .i64 1048576] w (Sz 1048576 n l w) := szStrS A n c l w.heap.size 1048576 w hn (Nat.le_refl _) hs R1
  have Z := Lib.hid Z1
  have hlen := rd_len R1
  clear R1 hs Z1 hT
  go_enter Tryd.func7, Tryd.ntmps7
  go_wp2_with fail
  refine Z.out.mono ?_
  rintro e w' ⟨z, rfl, rfl, hz0, hz1, hz2⟩
  have HZ := Lib.hid hz2
  clear hz2 Z
  by_cases hneg : z < 0
  · clear HZ
    go_wp2
    go_ret
    exact ⟨rfl, Below.refl _ _⟩
  have hnn : n ≤ 1048576 := (HZ.out (by omega)).1
  clear HZ
  obtain ⟨u, b, -, -, -, S0, I0⟩ := rootBoth l n hnn hlen HS.out
  have S := Lib.hid (fun g W (o : W.ownsRow (g : Nat) 9 1 (.slice (some ⟨g, 0, none⟩) n n) n (svs l)) => S0 _ _ _ W (Nat.le_refl n) (Nat.le_refl _) (Rd.own o))
  have I := Lib.hid (fun g W (o : W.ownsRow (g : Nat) 9 1 (.slice (some ⟨g, 0, none⟩) n n) n (svs l)) (h : Below w.heap.size w W) => I0 _ _ _ W (Nat.le_refl n) (Nat.le_refl _) (Rd.own o) (HT.out W h))
  clear S0 I0 hlen
  go_wp2_with fail
  refine (toStrS A n c l w hnn H1.out).mono ?_
  rintro e v1 ⟨rfl, o1, b1⟩
  go_wp2_with fail
  refine (S.out _ _ o1).mono ?_
  rintro e v2 ⟨rfl, b2⟩
  have B2 := Lib.hid (then_ (n := 0) b1 b2)
  clear o1 b1 b2
  go_wp2_with fail
  refine (toStrS A n c l v2 hnn (Rdm H1.out (Nat.le_refl _) B2.out)).mono ?_
  rintro e v3 ⟨rfl, o3, b3⟩
  have B3 := Lib.hid (then_ (n := 0) B2.out b3)
  have O3 := Lib.hid o3
  clear o3 b3 B2
  go_wp2_with fail
  refine (I.out _ _ O3.out B3.out).mono ?_
  rintro e v4 ⟨rfl, b4⟩
  have B4 := Lib.hid (then_ (n := 0) B3.out b4)
  have P3 := Lib.hid (Rdo O3.out b4)
  clear b4 B3 O3 I S
  cases b
  all_goals
    go_wp2_with fail
    refine (toStrS A n c l v4 hnn (Rdm H1.out (Nat.le_refl _) B4.out)).mono ?_
    rintro e v5 ⟨rfl, o5, b5⟩
    have B5 := Lib.hid (then_ (n := 0) B4.out b5)
    have P3' := Lib.hid (Rdm P3.out (Nat.le_refl _) b5)
    have O5 := Lib.hid (Rd.own o5)
    clear b5 o5 B4 P3
    go_wp2_with fail
    refine (eqSame _ _ n n n l _ _ v5 hnn P3'.out O5.out).mono ?_
    rintro e v6 ⟨rfl, q, rfl⟩
    have B6 := Rec.below_drewN B5.out q
    clear B5 P3' O5 H1 HS HT
    generalize v5.drewN q = v6 at *
    go_wp2
    go_ret
    exact ⟨rfl, B6⟩
end R
end Go.Proofs.YtiiklednbhklhaaDoor.T8x
