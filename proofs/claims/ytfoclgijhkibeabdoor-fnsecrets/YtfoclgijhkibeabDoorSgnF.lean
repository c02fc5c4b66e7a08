/-
  What the law on signatures turns on: contracts of both sides with one answer, and what holds of them.
-/
import Derived.Test.YtfoclgijhkibeabDoorDrawQX
import Derived.Test.YtfoclgijhkibeabDoorChd
namespace Go.Proofs.YtfoclgijhkibeabDoor.SgnF
open Go.ChangeShapes Go.WideShapes Go.ChangeAt Go.RowKit
open Go.Proofs.YtfoclgijhkibeabDoor.Mem Go.Proofs.YtfoclgijhkibeabDoor.Num Go.Proofs.YtfoclgijhkibeabDoor.Mod Go.Proofs.YtfoclgijhkibeabDoor.Pow Go.Proofs.YtfoclgijhkibeabDoor.Sch Go.Proofs.YtfoclgijhkibeabDoor.Key Go.Proofs.YtfoclgijhkibeabDoor.Txt Go.Proofs.YtfoclgijhkibeabDoor.Cha Go.Proofs.YtfoclgijhkibeabDoor.Chb Go.Proofs.YtfoclgijhkibeabDoor.Rec Go.Proofs.YtfoclgijhkibeabDoor.Chc Go.Proofs.YtfoclgijhkibeabDoor.Sgn Go.Proofs.YtfoclgijhkibeabDoor.Sgt Go.Proofs.YtfoclgijhkibeabDoor.Chd Go.Proofs.YtfoclgijhkibeabDoor.Chk Go.Proofs.YtfoclgijhkibeabDoor.Chl Go.Proofs.YtfoclgijhkibeabDoor.DrawO
set_option linter.unusedVariables false
set_option maxRecDepth 100000

theorem holds_all (n m : Nat) (t : ByteArray) : hold (pw 4 n) t (pw 4 m) (sS n m t) = true := by
  unfold hold sS
  rw [decide_eq_true_eq]
  exact verify n m _
theorem pw_okX (n m : Nat) (t : ByteArray) (h1 : 1 ≤ m) (h2 : m ≤ 1012) : okX (pw 4 m : Nat) (sS n m t : Nat) = true := by
  have a := pw_ge m h1 h2
  have b := pw_lt 4 m
  have c : sS n m t < 1013 := Nat.mod_lt _ (by omega)
  exact okX_of (by omega) (by omega) (by omega)
/-- A call that gives an answer wherever the tables are as laid. -/
def Gt (f : Nat) (args : Array Value) (v : Value) : Prop := ∀ W, Tb W → Calls Tryd.prog f args W fun e w' => e = .returned v ∧ Below W.heap.size W w'
/-- A call that gives an answer in every world. -/
def Gw (f : Nat) (args : Array Value) (v : Value) : Prop := ∀ W, Calls Tryd.prog f args W fun e w' => e = .returned v ∧ Below W.heap.size W w'
theorem Gw.of {f : Nat} {args : Array Value} {v : Value} (h : ∀ W, Calls Tryd.prog f args W fun e w' => e = .returned v ∧ W = w') : Gw f args v := fun W => (h W).mono fun e w' q => ⟨q.1, by rw [← q.2]; exact Below.refl _ _⟩
theorem checkGood (n m : Nat) (t : ByteArray) (h1 : 1 ≤ n) (h2 : n ≤ 1012) (h3 : 1 ≤ m) (h4 : m ≤ 1012) (ht : t.size ≤ 200) :
    Gt 17 #[.int .i64 (pw 4 n : Nat), .string t, .agg #[.int .i64 (pw 4 m : Nat), .int .i64 (sS n m t : Nat)]] (.tuple #[.bool true, .bool true]) := by
  obtain ⟨x, b, I, -, hb, hx⟩ := checkBoth (pw 4 n : Nat) t (pw 4 m : Nat) (sS n m t : Nat) (by unfold maxLen; omega)
  rw [okK_key h1 h2, okT_of ht, pw_okX n m t h3 h4] at hb
  simp only [Bool.and_self] at hb
  subst hb
  simp only [Int.toNat_natCast, holds_all, Bool.and_self] at hx
  subst hx
  exact I
theorem factsB (n m : Int) (s : ByteArray) (hs : s.size ≤ maxLen) : ∃ (u v k : Int) (b bk : Bool),
    Gt 9 #[.int .i64 n, .int .i64 m, .string s] (.tuple #[.agg #[.int .i64 u, .int .i64 v], .bool b]) ∧ Gw 60 #[.int .i64 n, .int .i64 m, .string s] (.tuple #[.agg #[.int .i64 u, .int .i64 v], .bool b]) ∧
    Gw 8 #[.int .i64 n] (.tuple #[.int .i64 k, .bool bk]) ∧
    (b = true → bk = true ∧ Gt 17 #[.int .i64 k, .string s, .agg #[.int .i64 u, .int .i64 v]] (.tuple #[.bool true, .bool true])) := by
  obtain ⟨u, v, b, I, S, hb, hv⟩ := withBoth n m s hs
  obtain ⟨k, bk, IK, SK, hbk, hk⟩ := keyBoth n
  refine ⟨u, v, k, b, bk, I, S, Gw.of IK, fun h => ?_⟩
  obtain ⟨rfl, rfl⟩ := hv h
  rw [hb] at h
  simp only [Bool.and_eq_true] at h
  obtain ⟨h1, h3, h2⟩ := h
  obtain ⟨N, rfl, n1, n2⟩ := okS_yes h1
  obtain ⟨M, rfl, m1, m2⟩ := okS_yes h3
  have e1 : bk = true := by rw [hbk]; exact h1
  obtain rfl := hk e1
  simp only [Int.toNat_natCast] at *
  exact ⟨e1, checkGood N M s n1 n2 m1 m2 (okT_yes h2)⟩
theorem neqS (X Y : Int) (W : World) : (binOp .neq 28 (.agg #[.int .i64 X, .int .i64 Y]) (.agg #[.int .i64 X, .int .i64 Y])).run Tryd.prog W = .ok (.bool false) W := by simp [go_sem]
end Go.Proofs.YtfoclgijhkibeabDoor.SgnF
