/-
  Nonces and challenges by the program: contracts, and the walks of the laws on NonceFor and ChallengeOf.
-/
import Derived.Test.YtbljmgmpmmajeaaDoorCha
import Derived.Deep.RegionHeld3
import Derived.Deep.QuietTactic
import Derived.BigQuiet
namespace Go.Proofs.YtbljmgmpmmajeaaDoor.Chb
open Go.ChangeShapes Go.WideShapes Go.ChangeAt Go.RowKit
open Go.Proofs.YtbljmgmpmmajeaaDoor.Mem Go.Proofs.YtbljmgmpmmajeaaDoor.Num Go.Proofs.YtbljmgmpmmajeaaDoor.Mod Go.Proofs.YtbljmgmpmmajeaaDoor.Pow Go.Proofs.YtbljmgmpmmajeaaDoor.Sch Go.Proofs.YtbljmgmpmmajeaaDoor.Key Go.Proofs.YtbljmgmpmmajeaaDoor.Txt Go.Proofs.YtbljmgmpmmajeaaDoor.Cha
set_option linter.unusedVariables false
set_option maxRecDepth 100000

theorem okT_of {t : ByteArray} (h : t.size ≤ 200) : okT t = true := by simp [okT, h]
theorem okT_yes {t : ByteArray} (h : okT t = true) : t.size ≤ 200 := by simpa [okT] using h
theorem then2 {a b c : World} (h : Below a.heap.size a b) (k : Below b.heap.size b c) : Below a.heap.size a c := h.trans (k.mono h.size)
theorem implNonce (n : Nat) (t : ByteArray) (w : World) (h1 : 1 ≤ n) (h2 : n ≤ 1012) (ht : t.size ≤ 200) (hT : Tb w) :
    Calls Tryd.prog 13 #[.int .i64 n, .string t] w fun e w' => e = .returned (.tuple #[.int .i64 (nonce n t : Nat), .bool true]) ∧ Below w.heap.size w w' := by
  have Es := Lib.hid (okS_of h1 h2)
  have Et := Lib.hid (okT_of ht)
  have HT := Lib.hid (fun W (h : Below w.heap.size w W) => hT.below h)
  have C1 := Lib.hid (fun W (h : Tb W) => itoa n W (by omega) h)
  have s1 := nu_size n (by omega)
  obtain ⟨a1, a2, a3⟩ := nt_sizes (nu n) t
  have C2 := Lib.hid (fun W (h : Tb W) => digestNumber (nt n t) W (by unfold nt; omega) h.1 h.2.1)
  have h4 := four_lt (nt n t)
  have E : Hid ((nonce n t : Int) = (four (nt n t) : Int) % 1012 + 1) := Lib.hid (by unfold nonce; omega)
  generalize four (nt n t) = x at *
  unfold nt at C2
  generalize nu n = u at *
  clear hT
  go_enter Tryd.func13, Tryd.ntmps13
  go_wp2_with fail
  refine (isSecret _ _).mono ?_
  rintro e w' ⟨rfl, rfl⟩
  rw [Es.out]
  go_wp2_with fail
  refine (isMessage _ _ (by unfold maxLen; omega)).mono ?_
  rintro e w' ⟨rfl, rfl⟩
  rw [Et.out]
  go_wp2_with fail
  refine (C1.out _ (HT.out _ (Below.refl _ _))).mono ?_
  rintro e w1 ⟨rfl, hb1⟩
  go_wp2_with fail
  refine (C2.out _ (HT.out _ hb1)).mono ?_
  rintro e w2 ⟨rfl, hb2⟩
  have hB := then2 hb1 hb2
  clear hb1 hb2 C1 C2 HT
  go_wp2
  go_ret2
  exact ⟨by rw [E.out]; rfl, hB⟩
theorem implNonceNo (n : Int) (t : ByteArray) (w : World) (hm : t.size ≤ maxLen) (h : okS n = false ∨ okT t = false) :
    Calls Tryd.prog 13 #[.int .i64 n, .string t] w fun e w' => e = .returned (.tuple #[.int .i64 0, .bool false]) ∧ w = w' := by
  cases hs : okS n
  · go_enter Tryd.func13, Tryd.ntmps13
    go_wp2_with fail
    refine (isSecret _ _).mono ?_
    rintro e w' ⟨rfl, rfl⟩
    rw [hs]
    go_wp2
    go_ret2
    exact ⟨rfl, rfl⟩
  · have ht : okT t = false := by simpa [hs] using h
    clear h
    go_enter Tryd.func13, Tryd.ntmps13
    go_wp2_with fail
    refine (isSecret _ _).mono ?_
    rintro e w' ⟨rfl, rfl⟩
    rw [hs]
    go_wp2_with fail
    refine (isMessage _ _ hm).mono ?_
    rintro e w' ⟨rfl, rfl⟩
    rw [ht]
    go_wp2
    go_ret2
    exact ⟨rfl, rfl⟩
theorem specNonce (n : Nat) (t : ByteArray) (w : World) (h1 : 1 ≤ n) (h2 : n ≤ 1012) (ht : t.size ≤ 200) :
    Calls Tryd.prog 12 #[.int .i64 n, .string t] w fun e w' => e = .returned (.tuple #[.int .i64 (nonce n t : Nat), .bool true]) ∧ Below w.heap.size w w' := by
  have Es := Lib.hid (okS_of h1 h2)
  have Et := Lib.hid (okT_of ht)
  have C := Lib.hid (fun W => l6Nonce n t W (by omega) ht)
  generalize nonce n t = x at *
  go_enter Tryd.func12, Tryd.ntmps12
  go_wp2_with fail
  refine (l6Secret _ _).mono ?_
  rintro e w' ⟨rfl, rfl⟩
  rw [Es.out]
  go_wp2_with fail
  refine (l6Text _ _ (by unfold maxLen; omega)).mono ?_
  rintro e w' ⟨rfl, rfl⟩
  rw [Et.out]
  go_wp2_with fail
  refine (C.out _).mono ?_
  rintro e w1 ⟨rfl, hb1⟩
  go_wp2
  go_ret2
  exact ⟨rfl, hb1⟩
theorem specNonceNo (n : Int) (t : ByteArray) (w : World) (hm : t.size ≤ maxLen) (h : okS n = false ∨ okT t = false) :
    Calls Tryd.prog 12 #[.int .i64 n, .string t] w fun e w' => e = .returned (.tuple #[.int .i64 0, .bool false]) ∧ w = w' := by
  cases hs : okS n
  · go_enter Tryd.func12, Tryd.ntmps12
    go_wp2_with fail
    refine (l6Secret _ _).mono ?_
    rintro e w' ⟨rfl, rfl⟩
    rw [hs]
    go_wp2
    go_ret2
    exact ⟨rfl, rfl⟩
  · have ht : okT t = false := by simpa [hs] using h
    clear h
    go_enter Tryd.func12, Tryd.ntmps12
    go_wp2_with fail
    refine (l6Secret _ _).mono ?_
    rintro e w' ⟨rfl, rfl⟩
    rw [hs]
    go_wp2_with fail
    refine (l6Text _ _ hm).mono ?_
    rintro e w' ⟨rfl, rfl⟩
    rw [ht]
    go_wp2
    go_ret2
    exact ⟨rfl, rfl⟩
/-- Both give one answer. -/
theorem nonceBoth (n : Int) (t : ByteArray) (hm : t.size ≤ maxLen) : ∃ (x : Int) (b : Bool), (∀ W, Tb W → Calls Tryd.prog 13 #[.int .i64 n, .string t] W fun e w' => e = .returned (.tuple #[.int .i64 x, .bool b]) ∧ Below W.heap.size W w') ∧ (∀ W, Calls Tryd.prog 12 #[.int .i64 n, .string t] W fun e w' => e = .returned (.tuple #[.int .i64 x, .bool b]) ∧ Below W.heap.size W w') ∧ b = (okS n && okT t) ∧ (b = true → x = (nonce n.toNat t : Nat)) := by
  by_cases h : okS n = false ∨ okT t = false
  · refine ⟨0, false, fun W _ => (implNonceNo n t W hm h).mono ?_, fun W => (specNonceNo n t W hm h).mono ?_, ?_, by simp⟩
    · rintro e w' ⟨rfl, rfl⟩; exact ⟨rfl, Below.refl _ _⟩
    · rintro e w' ⟨rfl, rfl⟩; exact ⟨rfl, Below.refl _ _⟩
    · rcases h with h | h <;> simp [h]
  · have hs : okS n = true := by cases e : okS n <;> simp_all
    have ht : okT t = true := by cases e : okT t <;> simp_all
    obtain ⟨k, rfl, h1, h2⟩ := okS_yes hs
    exact ⟨(nonce k t : Nat), true, fun W hT => implNonce k t W h1 h2 (okT_yes ht) hT, fun W => specNonce k t W h1 h2 (okT_yes ht), by simp [hs, ht], fun _ => by simp⟩
namespace N
theorem walk (a0 : Int) (a1 : ByteArray) (w0 : (Lit.int .i64 a0).wf = true) (w1 : a1.size ≤ maxLen) (w : World) (hT : Tb w) :
    Calls Tryd.prog 3 #[.int .i64 a0, .string a1] w fun e w' => e = .returned (.bool true) ∧ Below w.heap.size w w' := by
  obtain ⟨x, b, I0, S0, -, -⟩ := nonceBoth a0 a1 w1
  have I := Lib.hid I0
  have S := Lib.hid S0
  have HT := Lib.hid (fun W (h : Below w.heap.size w W) => hT.below h)
  clear I0 S0 hT
  unfold maxLen at w1
  by_cases h : 1048576 < a1.size
  · go_enter Tryd.func3, Tryd.ntmps3
    go_wp2
    go_ret
    exact ⟨rfl, Below.refl _ _⟩
  · go_enter Tryd.func3, Tryd.ntmps3
    go_wp2_with fail
    refine (S.out _).mono ?_
    rintro e v1 ⟨rfl, hb1⟩
    go_wp2_with fail
    refine (I.out _ (HT.out _ hb1)).mono ?_
    rintro e v2 ⟨rfl, hb2⟩
    have hB := then2 hb1 hb2
    clear hb1 hb2
    go_wp2
    go_ret
    exact ⟨rfl, hB⟩
end N
end Go.Proofs.YtbljmgmpmmajeaaDoor.Chb
