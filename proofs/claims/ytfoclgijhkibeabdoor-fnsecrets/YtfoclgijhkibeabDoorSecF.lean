/-
  What the law on secrets turns on: contracts with one answer, and what holds of them.
-/
import Derived.Test.YtfoclgijhkibeabDoorSgnF
import Derived.Test.YtfoclgijhkibeabDoorSelX
namespace Go.Proofs.YtfoclgijhkibeabDoor.SecF
open Go.ChangeShapes Go.WideShapes Go.ChangeAt Go.RowKit
open Go.Proofs.YtfoclgijhkibeabDoor.Mem Go.Proofs.YtfoclgijhkibeabDoor.Num Go.Proofs.YtfoclgijhkibeabDoor.Mod Go.Proofs.YtfoclgijhkibeabDoor.Pow Go.Proofs.YtfoclgijhkibeabDoor.Sch Go.Proofs.YtfoclgijhkibeabDoor.Key Go.Proofs.YtfoclgijhkibeabDoor.Txt Go.Proofs.YtfoclgijhkibeabDoor.Cha Go.Proofs.YtfoclgijhkibeabDoor.Chb Go.Proofs.YtfoclgijhkibeabDoor.Rec Go.Proofs.YtfoclgijhkibeabDoor.Chc Go.Proofs.YtfoclgijhkibeabDoor.Sgn Go.Proofs.YtfoclgijhkibeabDoor.Sgt Go.Proofs.YtfoclgijhkibeabDoor.Chd Go.Proofs.YtfoclgijhkibeabDoor.Chk Go.Proofs.YtfoclgijhkibeabDoor.Chl Go.Proofs.YtfoclgijhkibeabDoor.DrawO Go.Proofs.YtfoclgijhkibeabDoor.Sec Go.Proofs.YtfoclgijhkibeabDoor.Sei Go.Proofs.YtfoclgijhkibeabDoor.Sel Go.Proofs.YtfoclgijhkibeabDoor.SgnF
set_option linter.unusedVariables false
set_option maxRecDepth 100000

theorem sx_tell (n m : Nat) (s t : ByteArray) (hn : n ≤ 1012) (hne : chal (pw 4 m) (pw 4 n) s ≠ chal (pw 4 m) (pw 4 n) t) : sx (chal (pw 4 m) (pw 4 n) s) (chal (pw 4 m) (pw 4 n) t) (sS n m s) (sS n m t) = n := by
  have h := tell n m _ _ hn (chal_lt (pw 4 m) (pw 4 n) s) (chal_lt (pw 4 m) (pw 4 n) t) hne
  unfold sx inv pws dd sS
  generalize chal (pw 4 m) (pw 4 n) s = e at *
  generalize chal (pw 4 m) (pw 4 n) t = f at *
  rw [show (1013 - 2 : Nat) = 1011 from rfl]
  exact h
theorem okF_tell (n m : Nat) (s t : ByteArray) (h1 : 1 ≤ n) (hn : n ≤ 1012) : okF (pw 4 n) (chal (pw 4 m) (pw 4 n) s) (chal (pw 4 m) (pw 4 n) t) (sS n m s) (sS n m t) = decide (chal (pw 4 m) (pw 4 n) s ≠ chal (pw 4 m) (pw 4 n) t) := by
  by_cases h : chal (pw 4 m) (pw 4 n) s = chal (pw 4 m) (pw 4 n) t
  · have hd : dd (chal (pw 4 m) (pw 4 n) s) (chal (pw 4 m) (pw 4 n) t) = 0 := (tell_same m n _ _ (chal_lt ..) (chal_lt ..)).2 h
    unfold okF
    rw [hd, h]
    simp
  · have hd : dd (chal (pw 4 m) (pw 4 n) s) (chal (pw 4 m) (pw 4 n) t) ≠ 0 := fun q => h ((tell_same m n _ _ (chal_lt ..) (chal_lt ..)).1 q)
    unfold okF
    rw [sx_tell n m s t hn h, decide_eq_true hd, decide_eq_true h, decide_eq_true (show n ≠ 0 by omega), decide_eq_true rfl]
    rfl
theorem factsC (n m : Int) (s t : ByteArray) (hs : s.size ≤ maxLen) (ht : t.size ≤ maxLen) : ∃ (k : Int) (bk : Bool) (u v : Int) (b1 : Bool) (q z : Int) (b2 : Bool),
    Gw 8 #[.int .i64 n] (.tuple #[.int .i64 k, .bool bk]) ∧
    Gt 9 #[.int .i64 n, .int .i64 m, .string s] (.tuple #[.agg #[.int .i64 u, .int .i64 v], .bool b1]) ∧
    Gt 9 #[.int .i64 n, .int .i64 m, .string t] (.tuple #[.agg #[.int .i64 q, .int .i64 z], .bool b2]) ∧
    (b1 = true → b2 = true → ∃ (a b f : Int) (six : Bool), Gt 10 #[.int .i64 u, .int .i64 k, .string s] (.tuple #[.int .i64 a, .bool true]) ∧ Gt 10 #[.int .i64 q, .int .i64 k, .string t] (.tuple #[.int .i64 b, .bool true]) ∧
      Gt 11 #[.int .i64 k, .string s, .agg #[.int .i64 u, .int .i64 v], .string t, .agg #[.int .i64 q, .int .i64 z]] (.tuple #[.int .i64 f, .bool six]) ∧ ((six = true ∧ ¬ a = b ∧ f = n) ∨ (six = false ∧ a = b))) := by
  obtain ⟨k, bk, IK, -, hbk, hk⟩ := keyBoth n
  obtain ⟨u, v, b1, I1, -, hb1, hv1⟩ := withBoth n m s hs
  obtain ⟨q, z, b2, I2, -, hb2, hv2⟩ := withBoth n m t ht
  refine ⟨k, bk, u, v, b1, q, z, b2, Gw.of IK, I1, I2, fun e1 e2 => ?_⟩
  obtain ⟨rfl, rfl⟩ := hv1 e1
  obtain ⟨rfl, rfl⟩ := hv2 e2
  rw [hb1] at e1
  rw [hb2] at e2
  simp only [Bool.and_eq_true] at e1 e2
  obtain ⟨h1, h3, hts⟩ := e1
  obtain ⟨-, -, htt⟩ := e2
  have hkt := hk (by rw [hbk]; exact h1)
  subst hkt
  obtain ⟨N, rfl, n1, n2⟩ := okS_yes h1
  obtain ⟨M, rfl, m1, m2⟩ := okS_yes h3
  simp only [Int.toNat_natCast] at *
  have hK := okK_key n1 n2
  have hX1 := pw_okX N M s m1 m2
  have hX2 := pw_okX N M t m1 m2
  have hR : Chd.okR (pw 4 M : Nat) = true := by
    have a := pw_ge M m1 m2
    have b := pw_lt 4 M
    simp [Chd.okR]; omega
  obtain ⟨a, c1, J1, hc1, hx1⟩ := chalI (pw 4 M : Nat) (pw 4 N : Nat) s hs
  obtain ⟨b, c2, J2, hc2, hx2⟩ := chalI (pw 4 M : Nat) (pw 4 N : Nat) t ht
  rw [hR, hK, hts] at hc1
  rw [hR, hK, htt] at hc2
  simp only [Bool.and_self] at hc1 hc2
  subst hc1 hc2
  have ha := hx1 rfl
  have hb := hx2 rfl
  simp only [Int.toNat_natCast] at ha hb
  subst ha hb
  obtain ⟨V, ok, J3, -, hok, hV⟩ := secBoth (pw 4 N : Nat) s (pw 4 M : Nat) (sS N M s : Nat) t (pw 4 M : Nat) (sS N M t : Nat) hs ht
  rw [hK, hts, htt, hX1, hX2] at hok
  simp only [Int.toNat_natCast, Bool.and_self, Bool.true_and, fin, holds_all, decide_true] at hok
  rw [okF_tell N M s t n1 n2] at hok
  refine ⟨_, _, V, ok, J1, J2, J3, ?_⟩
  by_cases h : chal (pw 4 M) (pw 4 N) s = chal (pw 4 M) (pw 4 N) t
  · exact .inr ⟨by rw [hok, decide_eq_false (fun q => q h)], by rw [h]⟩
  · have ht' : ok = true := by rw [hok, decide_eq_true h]
    refine .inl ⟨ht', by omega, ?_⟩
    rw [hV, ht', if_pos rfl]
    simp only [Int.toNat_natCast]
    rw [sx_tell N M s t n2 h]
theorem factsD (k : Int) (a : ByteArray) (R S : Int) (b : ByteArray) (Q U : Int) (ha : a.size ≤ maxLen) (hb : b.size ≤ maxLen) : ∃ (V : Int) (ok : Bool),
    Gt 11 #[.int .i64 k, .string a, .agg #[.int .i64 R, .int .i64 S], .string b, .agg #[.int .i64 Q, .int .i64 U]] (.tuple #[.int .i64 V, .bool ok]) ∧
    Gw 13 #[.int .i64 k, .string a, .agg #[.int .i64 R, .int .i64 S], .string b, .agg #[.int .i64 Q, .int .i64 U]] (.tuple #[.int .i64 V, .bool ok]) ∧
    (ok = true → Gw 8 #[.int .i64 V] (.tuple #[.int .i64 k, .bool true])) := by
  obtain ⟨V, ok, I, T, hok, hV⟩ := secBoth k a R S b Q U ha hb
  refine ⟨V, ok, I, T, fun h => ?_⟩
  rw [h, if_pos rfl] at hV
  rw [h] at hok
  have hok := hok.symm
  simp only [Bool.and_eq_true, fin, okF, decide_eq_true_eq] at hok
  obtain ⟨⟨⟨hk, -⟩, -⟩, -, -, -, -, -, h0, hp⟩ := hok
  obtain ⟨n, rfl, -, -⟩ := okK_yes hk
  subst hV
  have hlt : sx (chal R.toNat (n : Int).toNat a) (chal Q.toNat (n : Int).toNat b) S.toNat U.toNat < 1013 := Nat.mod_lt _ (by omega)
  generalize sx (chal R.toNat (n : Int).toNat a) (chal Q.toNat (n : Int).toNat b) S.toNat U.toNat = x at *
  have := fun W => implFor x W (by omega) (by omega)
  rw [hp] at this
  simp only [Int.toNat_natCast] at this
  exact Gw.of this
end Go.Proofs.YtfoclgijhkibeabDoor.SecF
