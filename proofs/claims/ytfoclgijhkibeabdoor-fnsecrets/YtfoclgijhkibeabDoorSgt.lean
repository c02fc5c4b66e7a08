/-
  Signed texts: contracts of both sides, and the walks of the laws on SignWith and SignText.
-/
import Derived.Test.YtfoclgijhkibeabDoorSgn
namespace Go.Proofs.YtfoclgijhkibeabDoor.Sgt
open Go.ChangeShapes Go.WideShapes Go.ChangeAt Go.RowKit
open Go.Proofs.YtfoclgijhkibeabDoor.Mem Go.Proofs.YtfoclgijhkibeabDoor.Num Go.Proofs.YtfoclgijhkibeabDoor.Mod Go.Proofs.YtfoclgijhkibeabDoor.Pow Go.Proofs.YtfoclgijhkibeabDoor.Sch Go.Proofs.YtfoclgijhkibeabDoor.Key Go.Proofs.YtfoclgijhkibeabDoor.Txt Go.Proofs.YtfoclgijhkibeabDoor.Cha Go.Proofs.YtfoclgijhkibeabDoor.Chb Go.Proofs.YtfoclgijhkibeabDoor.Rec Go.Proofs.YtfoclgijhkibeabDoor.Chc Go.Proofs.YtfoclgijhkibeabDoor.Sgn
set_option linter.unusedVariables false
set_option maxRecDepth 100000

/-- Both give one answer to SignWith. -/
theorem withBoth (n m : Int) (t : ByteArray) (hl : t.size ≤ maxLen) : ∃ (u v : Int) (b : Bool), (∀ W, Tb W → Calls Tryd.prog 9 #[.int .i64 n, .int .i64 m, .string t] W fun e w' => e = .returned (.tuple #[pv u v, .bool b]) ∧ Below W.heap.size W w') ∧ (∀ W, Calls Tryd.prog 60 #[.int .i64 n, .int .i64 m, .string t] W fun e w' => e = .returned (.tuple #[pv u v, .bool b]) ∧ Below W.heap.size W w') ∧ b = (okS n && (okS m && okT t)) ∧ (b = true → u = (pw 4 m.toNat : Nat) ∧ v = (sS n.toNat m.toNat t : Nat)) := by
  by_cases h : noW n m t
  · refine ⟨0, 0, false, fun W _ => implWithNo n m t W hl h, fun W => specWithNo n m t W hl h, ?_, by simp⟩
    unfold noW at h
    rcases h with h | h | h <;> simp [h]
  · unfold noW at h
    have hn : okS n = true := by cases e : okS n <;> simp_all
    have hm : okS m = true := by cases e : okS m <;> simp_all
    have ht : okT t = true := by cases e : okT t <;> simp_all
    obtain ⟨k, rfl, h1, h2⟩ := okS_yes hn
    obtain ⟨j, rfl, h3, h4⟩ := okS_yes hm
    exact ⟨_, _, true, fun W hT => implWith k j t W h1 h2 h3 h4 (okT_yes ht) hT, fun W => specWith k j t W h1 h2 h3 h4 (okT_yes ht), by simp [hn, hm, ht], fun _ => by simp⟩
set_option maxHeartbeats 1000000 in
theorem specText (n : Nat) (t : ByteArray) (w : World) (hn1 : 1 ≤ n) (hn : n ≤ 1012) (ht : t.size ≤ 200) :
    Calls Tryd.prog 67 #[.int .i64 n, .string t] w fun e w' => e = .returned (.tuple #[pv (pw 4 (nonce n t) : Nat) (sS n (nonce n t) t : Nat), .bool true]) ∧ Below w.heap.size w w' := by
  obtain ⟨m1, m2⟩ := nonce_in n t
  have S := Lib.hid (fun W => l6Secret (n : Int) W)
  rw [okS_of hn1 hn] at S
  have T := Lib.hid (fun W => l6Text t W (by unfold maxLen; omega))
  rw [okT_of ht] at T
  have K := Lib.hid (fun W => l6Nonce n t W (by omega) ht)
  have C := Lib.hid (fun W => l6Sign n (nonce n t) t W hn m2 ht)
  generalize nonce n t = m at *
  generalize sS n m t = z at *
  generalize pw 4 m = a at *
  unfold pv at *
  go_enter Tryd.func67, Tryd.ntmps67
  go_wp2_with fail
  refine (S.out _).mono ?_
  rintro e w' ⟨rfl, rfl⟩
  go_wp2_with fail
  refine (T.out _).mono ?_
  rintro e w' ⟨rfl, rfl⟩
  go_wp2_with fail
  refine (K.out _).mono ?_
  rintro e w1 ⟨rfl, b1⟩
  have k0 := Lib.hid (box_1 b1)
  have B1 := then_ (n := 0) (al1 _ _) b1
  clear b1 K S T
  go_wp2_with fail
  refine (C.out _).mono ?_
  rintro e w2 ⟨rfl, b2⟩
  have B := then_ (n := 0) B1 b2
  have k1 := bx k0.out b2
  obtain ⟨c0, c1⟩ := row2 k1
  obtain ⟨f0, f1⟩ := frz2 k1
  have hz := bx_lt k1
  clear b2 k0 k1 C B1
  go_wp2
  refine bodyPost_ret (v := .tuple #[.agg #[.int .i64 (a : Nat), .int .i64 (z : Nat)], .bool true]) (by simp [results, Tryd.results67, go_sem, c0, c1]) rfl ⟨rfl, ?_⟩
  repeat (first | exact B | refine Below.setCell ?_ (by simp) _)
set_option maxHeartbeats 1000000 in
theorem specTextNo (n : Int) (t : ByteArray) (w : World) (hl : t.size ≤ maxLen) (h : okS n = false ∨ okT t = false) :
    Calls Tryd.prog 67 #[.int .i64 n, .string t] w fun e w' => e = .returned (.tuple #[pv 0 0, .bool false]) ∧ Below w.heap.size w w' := by
  have S := Lib.hid (fun W => l6Secret n W)
  have T := Lib.hid (fun W => l6Text t W hl)
  unfold pv
  generalize okS n = a at *
  generalize okT t = d at *
  cases a
  · clear h
    go_enter Tryd.func67, Tryd.ntmps67
    go_wp2_with fail
    refine (S.out _).mono ?_
    rintro e w' ⟨rfl, rfl⟩
    go_wp2
    refine bodyPost_ret (v := .tuple #[.agg #[.int .i64 0, .int .i64 0], .bool false]) (by simp [results, Tryd.results67, go_sem]) rfl ⟨rfl, ?_⟩
    repeat (first | exact al1 _ _ | refine Below.setCell ?_ (by simp) _)
  · obtain rfl : d = false := by simpa using h
    clear h
    go_enter Tryd.func67, Tryd.ntmps67
    go_wp2_with fail
    refine (S.out _).mono ?_
    rintro e w' ⟨rfl, rfl⟩
    go_wp2_with fail
    refine (T.out _).mono ?_
    rintro e w' ⟨rfl, rfl⟩
    go_wp2
    refine bodyPost_ret (v := .tuple #[.agg #[.int .i64 0, .int .i64 0], .bool false]) (by simp [results, Tryd.results67, go_sem]) rfl ⟨rfl, ?_⟩
    repeat (first | exact al1 _ _ | refine Below.setCell ?_ (by simp) _)
/-- The reference's answer. -/
theorem textS (n : Int) (t : ByteArray) (hl : t.size ≤ maxLen) : ∃ (u v : Int) (b : Bool), ∀ W, Calls Tryd.prog 67 #[.int .i64 n, .string t] W fun e w' => e = .returned (.tuple #[pv u v, .bool b]) ∧ Below W.heap.size W w' := by
  by_cases h : okS n = false ∨ okT t = false
  · exact ⟨0, 0, false, fun W => specTextNo n t W hl h⟩
  · have hn : okS n = true := by cases e : okS n <;> simp_all
    have ht : okT t = true := by cases e : okT t <;> simp_all
    obtain ⟨k, rfl, h1, h2⟩ := okS_yes hn
    exact ⟨_, _, true, fun W => specText k t W h1 h2 (okT_yes ht)⟩
end Go.Proofs.YtfoclgijhkibeabDoor.Sgt
