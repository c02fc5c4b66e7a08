/-
  Signed texts: contracts of both sides, and the walks of the laws on SignWith and SignText.
-/
import Derived.Test.YtbljmgmpmmajeaaDoorSgn
namespace Go.Proofs.YtbljmgmpmmajeaaDoor.Sgt
open Go.ChangeShapes Go.WideShapes Go.ChangeAt Go.RowKit
open Go.Proofs.YtbljmgmpmmajeaaDoor.Mem Go.Proofs.YtbljmgmpmmajeaaDoor.Num Go.Proofs.YtbljmgmpmmajeaaDoor.Mod Go.Proofs.YtbljmgmpmmajeaaDoor.Pow Go.Proofs.YtbljmgmpmmajeaaDoor.Sch Go.Proofs.YtbljmgmpmmajeaaDoor.Key Go.Proofs.YtbljmgmpmmajeaaDoor.Txt Go.Proofs.YtbljmgmpmmajeaaDoor.Cha Go.Proofs.YtbljmgmpmmajeaaDoor.Chb Go.Proofs.YtbljmgmpmmajeaaDoor.Rec Go.Proofs.YtbljmgmpmmajeaaDoor.Chc Go.Proofs.YtbljmgmpmmajeaaDoor.Sgn
set_option linter.unusedVariables false
set_option maxRecDepth 100000

/-- Both give one answer to SignWith. -/
theorem withBoth (n m : Int) (t : ByteArray) (hl : t.size ≤ maxLen) : ∃ (u v : Int) (b : Bool), (∀ W, Tb W → Calls Tryd.prog 20 #[.int .i64 n, .int .i64 m, .string t] W fun e w' => e = .returned (.tuple #[pv u v, .bool b]) ∧ Below W.heap.size W w') ∧ (∀ W, Calls Tryd.prog 19 #[.int .i64 n, .int .i64 m, .string t] W fun e w' => e = .returned (.tuple #[pv u v, .bool b]) ∧ Below W.heap.size W w') ∧ b = (okS n && (okS m && okT t)) ∧ (b = true → u = (pw 4 m.toNat : Nat) ∧ v = (sS n.toNat m.toNat t : Nat)) := by
  by_cases h : noW n m t
  · refine ⟨0, 0, false, fun W _ => implWithNo n m t W hl h, fun W => specWithNo n m t W hl h, ?_, by simp⟩
    unfold noW at h
    rcases h with h | h | h <;> simp [h]
  · unfold noW at h
    have hn : okS n = true := by cases e : okS n <;> simp_all
    have hm : okS m = true := by cases e : okS m <;> simp_all
    have ht : okT t = true := by cases e : okT t <;> simp_all
    obtain ⟨k, rfl, h1, h2⟩ := okS_yes hn
    obtain ⟨j, rfl, h3, h4⟩ := okS_yes hm
    exact ⟨_, _, true, fun W hT => implWith k j t W h1 h2 h3 h4 (okT_yes ht) hT, fun W => specWith k j t W h1 h2 h3 h4 (okT_yes ht), by simp [hn, hm, ht], fun _ => by simp⟩
set_option maxHeartbeats 1000000 in
theorem implText (n : Nat) (t : ByteArray) (w : World) (hn1 : 1 ≤ n) (hn : n ≤ 1012) (ht : t.size ≤ 200) (hT : Tb w) :
    Calls Tryd.prog 17 #[.int .i64 n, .string t] w fun e w' => e = .returned (.tuple #[pv (pw 4 (nonce n t) : Nat) (sS n (nonce n t) t : Nat), .bool true]) ∧ Below w.heap.size w w' := by
  obtain ⟨m1, m2⟩ := nonce_in n t
  have K := Lib.hid (fun W (h : Tb W) => implNonce n t W hn1 hn ht h)
  have C := Lib.hid (fun W (h : Tb W) => implWith n (nonce n t) t W hn1 hn m1 m2 ht h)
  have HT := Lib.hid (fun W (h : Below w.heap.size w W) => hT.below h)
  generalize nonce n t = m at *
  generalize sS n m t = z at *
  generalize pw 4 m = a at *
  unfold pv at *
  clear hT
  go_enter Tryd.func17, Tryd.ntmps17
  go_wp2_with fail
  refine (K.out _ (HT.out _ (al1 _ _))).mono ?_
  rintro e w1 ⟨rfl, b1⟩
  have k0 := Lib.hid (box_1 b1)
  have B1 := then_ (n := 0) (al1 _ _) b1
  have HTb := Lib.hid (HT.out _ B1)
  clear b1 K HT
  go_wp2_with fail
  refine (C.out _ HTb.out).mono ?_
  rintro e w2 ⟨rfl, b2⟩
  have B := then_ (n := 0) B1 b2
  have k1 := bx k0.out b2
  obtain ⟨c0, c1⟩ := row2 k1
  obtain ⟨f0, f1⟩ := frz2 k1
  have hz := bx_lt k1
  clear b2 k0 k1 C B1 HTb
  go_wp2
  refine bodyPost_ret (v := .tuple #[.agg #[.int .i64 (a : Nat), .int .i64 (z : Nat)], .bool true]) (by simp [results, Tryd.results17, go_sem, c0, c1]) rfl ⟨rfl, ?_⟩
  repeat (first | exact B | refine Below.setCell ?_ (by simp) _)
set_option maxHeartbeats 1000000 in
theorem implTextNo (n : Int) (t : ByteArray) (w : World) (hl : t.size ≤ maxLen) (h : okS n = false ∨ okT t = false) :
    Calls Tryd.prog 17 #[.int .i64 n, .string t] w fun e w' => e = .returned (.tuple #[pv 0 0, .bool false]) ∧ Below w.heap.size w w' := by
  have K := Lib.hid (fun W => implNonceNo n t W hl h)
  clear h
  unfold pv
  go_enter Tryd.func17, Tryd.ntmps17
  go_wp2_with fail
  refine (K.out _).mono ?_
  rintro e w' ⟨rfl, rfl⟩
  go_wp2
  refine bodyPost_ret (v := .tuple #[.agg #[.int .i64 0, .int .i64 0], .bool false]) (by simp [results, Tryd.results17, go_sem]) rfl ⟨rfl, ?_⟩
  repeat (first | exact al1 _ _ | refine Below.setCell ?_ (by simp) _)
set_option maxHeartbeats 1000000 in
theorem specText (n : Nat) (t : ByteArray) (w : World) (hn1 : 1 ≤ n) (hn : n ≤ 1012) (ht : t.size ≤ 200) :
    Calls Tryd.prog 16 #[.int .i64 n, .string t] w fun e w' => e = .returned (.tuple #[pv (pw 4 (nonce n t) : Nat) (sS n (nonce n t) t : Nat), .bool true]) ∧ Below w.heap.size w w' := by
  obtain ⟨m1, m2⟩ := nonce_in n t
  have S := Lib.hid (fun W => l6Secret (n : Int) W)
  rw [okS_of hn1 hn] at S
  have T := Lib.hid (fun W => l6Text t W (by unfold maxLen; omega))
  rw [okT_of ht] at T
  have K := Lib.hid (fun W => l6Nonce n t W (by omega) ht)
  have C := Lib.hid (fun W => l6Sign n (nonce n t) t W hn m2 ht)
  generalize nonce n t = m at *
  generalize sS n m t = z at *
  generalize pw 4 m = a at *
  unfold pv at *
  go_enter Tryd.func16, Tryd.ntmps16
  go_wp2_with fail
  refine (S.out _).mono ?_
  rintro e w' ⟨rfl, rfl⟩
  go_wp2_with fail
  refine (T.out _).mono ?_
  rintro e w' ⟨rfl, rfl⟩
  go_wp2_with fail
  refine (K.out _).mono ?_
  rintro e w1 ⟨rfl, b1⟩
  have k0 := Lib.hid (box_1 b1)
  have B1 := then_ (n := 0) (al1 _ _) b1
  clear b1 K S T
  go_wp2_with fail
  refine (C.out _).mono ?_
  rintro e w2 ⟨rfl, b2⟩
  have B := then_ (n := 0) B1 b2
  have k1 := bx k0.out b2
  obtain ⟨c0, c1⟩ := row2 k1
  obtain ⟨f0, f1⟩ := frz2 k1
  have hz := bx_lt k1
  clear b2 k0 k1 C B1
  go_wp2
  refine bodyPost_ret (v := .tuple #[.agg #[.int .i64 (a : Nat), .int .i64 (z : Nat)], .bool true]) (by simp [results, Tryd.results16, go_sem, c0, c1]) rfl ⟨rfl, ?_⟩
  repeat (first | exact B | refine Below.setCell ?_ (by simp) _)
set_option maxHeartbeats 1000000 in
theorem specTextNo (n : Int) (t : ByteArray) (w : World) (hl : t.size ≤ maxLen) (h : okS n = false ∨ okT t = false) :
    Calls Tryd.prog 16 #[.int .i64 n, .string t] w fun e w' => e = .returned (.tuple #[pv 0 0, .bool false]) ∧ Below w.heap.size w w' := by
  have S := Lib.hid (fun W => l6Secret n W)
  have T := Lib.hid (fun W => l6Text t W hl)
  unfold pv
  generalize okS n = a at *
  generalize okT t = d at *
  cases a
  · clear h
    go_enter Tryd.func16, Tryd.ntmps16
    go_wp2_with fail
    refine (S.out _).mono ?_
    rintro e w' ⟨rfl, rfl⟩
    go_wp2
    refine bodyPost_ret (v := .tuple #[.agg #[.int .i64 0, .int .i64 0], .bool false]) (by simp [results, Tryd.results16, go_sem]) rfl ⟨rfl, ?_⟩
    repeat (first | exact al1 _ _ | refine Below.setCell ?_ (by simp) _)
  · obtain rfl : d = false := by simpa using h
    clear h
    go_enter Tryd.func16, Tryd.ntmps16
    go_wp2_with fail
    refine (S.out _).mono ?_
    rintro e w' ⟨rfl, rfl⟩
    go_wp2_with fail
    refine (T.out _).mono ?_
    rintro e w' ⟨rfl, rfl⟩
    go_wp2
    refine bodyPost_ret (v := .tuple #[.agg #[.int .i64 0, .int .i64 0], .bool false]) (by simp [results, Tryd.results16, go_sem]) rfl ⟨rfl, ?_⟩
    repeat (first | exact al1 _ _ | refine Below.setCell ?_ (by simp) _)
/-- Both give one answer to SignText. -/
theorem textBoth (n : Int) (t : ByteArray) (hl : t.size ≤ maxLen) : ∃ (u v : Int) (b : Bool), (∀ W, Tb W → Calls Tryd.prog 17 #[.int .i64 n, .string t] W fun e w' => e = .returned (.tuple #[pv u v, .bool b]) ∧ Below W.heap.size W w') ∧ (∀ W, Calls Tryd.prog 16 #[.int .i64 n, .string t] W fun e w' => e = .returned (.tuple #[pv u v, .bool b]) ∧ Below W.heap.size W w') ∧ b = (okS n && okT t) ∧ (b = true → u = (pw 4 (nonce n.toNat t) : Nat) ∧ v = (sS n.toNat (nonce n.toNat t) t : Nat)) := by
  by_cases h : okS n = false ∨ okT t = false
  · refine ⟨0, 0, false, fun W _ => implTextNo n t W hl h, fun W => specTextNo n t W hl h, ?_, by simp⟩
    rcases h with h | h <;> simp [h]
  · have hn : okS n = true := by cases e : okS n <;> simp_all
    have ht : okT t = true := by cases e : okT t <;> simp_all
    obtain ⟨k, rfl, h1, h2⟩ := okS_yes hn
    exact ⟨_, _, true, fun W hT => implText k t W h1 h2 (okT_yes ht) hT, fun W => specText k t W h1 h2 (okT_yes ht), by simp [hn, ht], fun _ => by simp⟩
theorem eqSg (u v : Int) (w : World) : Calls Tryd.prog 18 #[pv u v, pv u v] w fun e w' => e = .returned (.bool true) ∧ Below w.heap.size w w' := by
  unfold pv
  go_enter Tryd.func18, Tryd.ntmps18
  go_wp2
  go_ret
  exact ⟨rfl, al2 _ _ _⟩
namespace W
set_option maxHeartbeats 1000000 in
theorem walk (a0 a1 : Int) (a2 : ByteArray) (w0 : (Lit.int .i64 a0).wf = true) (w1 : (Lit.int .i64 a1).wf = true) (w2 : a2.size ≤ maxLen) (w : World) (hT : Tb w) :
    Calls Tryd.prog 6 #[.int .i64 a0, .int .i64 a1, .string a2] w fun e w' => e = .returned (.bool true) ∧ Below w.heap.size w w' := by
  obtain ⟨u, v, b, I0, S0, -, -⟩ := withBoth a0 a1 a2 w2
  have I := Lib.hid I0
  have S := Lib.hid S0
  have Q := Lib.hid (fun W => eqSg u v W)
  have HT := Lib.hid (fun W (h : Below w.heap.size w W) => hT.below h)
  clear I0 S0 hT w0 w1
  unfold maxLen at w2
  unfold pv at *
  by_cases h : 1048576 < a2.size
  · go_enter Tryd.func6, Tryd.ntmps6
    go_wp2
    go_ret
    exact ⟨rfl, Below.refl _ _⟩
  · go_enter Tryd.func6, Tryd.ntmps6
    go_wp2_with fail
    refine (S.out _).mono ?_
    rintro e v1 ⟨rfl, b1⟩
    have hB := b1.alloc b1.size (.cells #[.int .i64 u, .int .i64 v] 28)
    have HTb := Lib.hid (HT.out _ hB)
    clear S HT b1
    go_wp2_with fail
    refine (I.out _ HTb.out).mono ?_
    rintro e v2 ⟨rfl, b2⟩
    have k0 := Lib.hid (box_1 b2)
    have B2 := then_ (n := 0) hB b2
    have B3 := Lib.hid (B2.alloc B2.size (.cells #[.int .i64 u, .int .i64 v] 28))
    obtain ⟨d0, d1⟩ := row2 k0.out
    have hz := bx_lt k0.out
    clear b2 I HTb hB B2
    go_wp2_with fail
    refine (Q.out _).mono ?_
    rintro e v3 ⟨rfl, b3⟩
    have B := then_ (n := 0) B3.out b3
    clear b3 B3 k0 Q
    go_wp2
    go_ret
    exact ⟨rfl, B⟩
end W
namespace T
set_option maxHeartbeats 1000000 in
theorem walk (a0 : Int) (a1 : ByteArray) (w0 : (Lit.int .i64 a0).wf = true) (w1 : a1.size ≤ maxLen) (w : World) (hT : Tb w) :
    Calls Tryd.prog 5 #[.int .i64 a0, .string a1] w fun e w' => e = .returned (.bool true) ∧ Below w.heap.size w w' := by
  obtain ⟨u, v, b, I0, S0, -, -⟩ := textBoth a0 a1 w1
  have I := Lib.hid I0
  have S := Lib.hid S0
  have Q := Lib.hid (fun W => eqSg u v W)
  have HT := Lib.hid (fun W (h : Below w.heap.size w W) => hT.below h)
  clear I0 S0 hT w0
  unfold maxLen at w1
  unfold pv at *
  by_cases h : 1048576 < a1.size
  · go_enter Tryd.func5, Tryd.ntmps5
    go_wp2
    go_ret
    exact ⟨rfl, Below.refl _ _⟩
  · go_enter Tryd.func5, Tryd.ntmps5
    go_wp2_with fail
    refine (S.out _).mono ?_
    rintro e v1 ⟨rfl, b1⟩
    have hB := b1.alloc b1.size (.cells #[.int .i64 u, .int .i64 v] 28)
    have HTb := Lib.hid (HT.out _ hB)
    clear S HT b1
    go_wp2_with fail
    refine (I.out _ HTb.out).mono ?_
    rintro e v2 ⟨rfl, b2⟩
    have k0 := Lib.hid (box_1 b2)
    have B2 := then_ (n := 0) hB b2
    have B3 := Lib.hid (B2.alloc B2.size (.cells #[.int .i64 u, .int .i64 v] 28))
    obtain ⟨d0, d1⟩ := row2 k0.out
    have hz := bx_lt k0.out
    clear b2 I HTb hB B2 k0
    go_wp2_with fail
    refine (Q.out _).mono ?_
    rintro e v3 ⟨rfl, b3⟩
    have B := then_ (n := 0) B3.out b3
    clear b3 B3 Q
    go_wp2
    go_ret
    exact ⟨rfl, B⟩
end T
end Go.Proofs.YtbljmgmpmmajeaaDoor.Sgt
