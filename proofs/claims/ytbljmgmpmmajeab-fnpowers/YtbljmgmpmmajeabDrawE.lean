/-
  What the law on powers draws, and what holds of it.
-/
import Derived.Test.YtbljmgmpmmajeabDrawM
import Derived.Test.YtbljmgmpmmajeabEucS
import Derived.Test.YtbljmgmpmmajeabPow
import Derived.Test.YtbljmgmpmmajeabRec
namespace Go.Proofs.Ytbljmgmpmmajeab.DrawE
open Go.ChangeShapes Go.WideShapes Go.ChangeAt Go.RowKit
open Go.Proofs.Ytbljmgmpmmajeab.Mem Go.Proofs.Ytbljmgmpmmajeab.Ints Go.Proofs.Ytbljmgmpmmajeab.Num Go.Proofs.Ytbljmgmpmmajeab.Mod Go.Proofs.Ytbljmgmpmmajeab.Pow Go.Proofs.Ytbljmgmpmmajeab.Cur Go.Proofs.Ytbljmgmpmmajeab.DrawM Go.Proofs.Ytbljmgmpmmajeab.EucS
set_option linter.unusedVariables false
set_option maxRecDepth 100000

set_option maxHeartbeats 1000000 in
theorem drawPower (A : Option Addr) (n c : Nat) (cs : List UInt8) (w : World) (hn : n ≤ maxLen) (hx : Rd w w.heap.size 1 A n (Cur.bytes cs)) :
    Calls Try.prog 4 #[.slice A n c] w fun e w' => ∃ a k p : Int, e = .returned (.tuple #[.int .i64 a, .int .i64 k, .int .i64 p]) ∧ -1 ≤ a ∧ a ≤ 10009 ∧ 0 ≤ p ∧ p ≤ 10009 ∧ Below w.heap.size w w' := by
  go_enter Try.func4, Try.ntmps4
  go_wp2_with fail
  refine (prime w.heap.size w.heap.size 0 _ (by omega) (boxed_cur A n c cs w hn hx)).mono ?_
  rintro e w1 ⟨p, rfl, p0, p1, hc1, hu1⟩
  go_wp2_with fail
  refine (below w.heap.size w.heap.size _ p w1 (by omega) p0 p1 hc1).mono ?_
  rintro e w2 ⟨a, rfl, a0, a1, hc2, hu2⟩
  go_wp2_with fail
  refine (amongLit w.heap.size w.heap.size _ _ [-1, 0, 1, 2, p - 1, p, 1000, 1000000000, 1000000001] w2 (by omega) (by simp) (by simp) rfl hc2).mono ?_
  rintro e w3 ⟨k, rfl, hk, hc3, hu3⟩
  have hb := box_bel ((hu1.trans hu2).trans hu3)
  clear hk hc1 hu1 hc2 hu2 hc3 hu3 hx
  go_wp2
  go_ret3
  exact ⟨a, k, p, rfl, a0, a1, p0, p1, hb⟩
theorem drawPr (A : Option Addr) (n c : Nat) (cs : List UInt8) (w : World) (hn : n ≤ maxLen) (hx : Rd w w.heap.size 1 A n (Cur.bytes cs)) :
    Calls Try.prog 14 #[.slice A n c] w fun e w' => ∃ z : Int, e = .returned (.int .i64 z) ∧ Below w.heap.size w w' := by
  go_enter Try.func14, Try.ntmps14
  go_wp2_with fail
  refine (pick w.heap.size w.heap.size 0 256 _ (by omega) (by omega) (boxed_cur A n c cs w hn hx)).mono ?_
  rintro e w1 ⟨x, rfl, x0, x1, hc1, hu1⟩
  go_wp2_with fail
  refine (amongLit w.heap.size w.heap.size _ _ [-1, 0, 1, 2, 3, 4, 25, 91, 97, 9973, 10007, 10008, x] w1 (by omega) (by simp) (by simp) rfl hc1).mono ?_
  rintro e w2 ⟨z, rfl, hz, hc2, hu2⟩
  have hb := box_bel (hu1.trans hu2)
  clear hz hc1 hu1 hc2 hu2 hx
  go_wp2
  go_ret
  exact ⟨z, rfl, hb⟩
theorem rd_upd {w w' : World} {p B n : Nat} {A : Option Addr} {xs : List Value} (h : Rd w B 1 A n xs) (u : Upd p w w') (hne : ∀ b, A = some b → b.block ≠ p) (hB : B ≤ w.heap.size) : Rd w' B 1 A n xs :=
  ⟨h.1, fun hn => by
    obtain ⟨b, off, e, hb, hc⟩ := h.2 hn
    exact ⟨b, off, e, hb, fun j v hv => (World.cell?_of_block (a := ⟨b, off + j, none⟩) (u.block b (by omega) (hne _ e))).trans (hc j v hv)⟩⟩
theorem pick256 {x : Int} (h0 : 0 ≤ x) (h1 : x < 256 ∨ x = 0) : x ≤ 255 := by omega
set_option maxHeartbeats 2000000 in
theorem drawEu (A : Option Addr) (n c : Nat) (cs : List UInt8) (w : World) (hn : n ≤ maxLen) (hx : Rd w w.heap.size 1 A n (Cur.bytes cs)) :
    Calls Try.prog 11 #[.slice A n c] w fun e w' => ∃ a b : Int, e = .returned (.tuple #[.int .i64 a, .int .i64 b]) ∧ Below w.heap.size w w' := by
  go_enter Try.func11, Try.ntmps11
  go_wp2_with fail
  refine (pick w.heap.size w.heap.size 0 256 _ (by omega) (by omega) (boxed_cur A n c cs w hn hx)).mono ?_
  rintro e w1 ⟨x, rfl, x0, x1, hc1, hu1⟩
  go_wp2_with fail
  refine (pick w.heap.size w.heap.size _ 256 _ (by omega) (by omega) hc1).mono ?_
  rintro e w2 ⟨y, rfl, y0, y1, hc2, hu2⟩
  go_wp2_with fail
  refine (pick w.heap.size w.heap.size _ 256 _ (by omega) (by omega) hc2).mono ?_
  rintro e w3 ⟨z, rfl, z0, z1, hc3, hu3⟩
  have hu := (hu1.trans hu2).trans hu3
  have hxb : x ≤ 255 := by omega
  have hyb : y ≤ 255 := by omega
  have hzb : z ≤ 255 := by omega
  have hp : 0 ≤ x * y ∧ x * y ≤ 65025 := ⟨Int.mul_nonneg x0 y0, by have := Int.mul_le_mul hxb hyb y0 (by omega : (0 : Int) ≤ 255); omega⟩
  have hpw := hc3.lt
  clear x1 y1 z1 hc1 hc2 hu1 hu2 hu3
  have hR : Rd (w3.alloc (.cells (ints [-1, 0, 1, 12, 18, 35, 1000000, 1000001, 1 + x * y, 1 + z]).toArray 3)) (w3.heap.size + 1) 1 (some ⟨w3.heap.size, 0, none⟩) 10 (ints [-1, 0, 1, 12, 18, 35, 1000000, 1000001, 1 + x * y, 1 + z]) := by simpa [ints] using lit_rd w3 (ints [-1, 0, 1, 12, 18, 35, 1000000, 1000001, 1 + x * y, 1 + z]).toArray 3 [-1, 0, 1, 12, 18, 35, 1000000, 1000001, 1 + x * y, 1 + z] rfl
  have HR := Lib.hid hR
  have HC3 := Lib.hid (cur_alloc hc3 (.cells (ints [-1, 0, 1, 12, 18, 35, 1000000, 1000001, 1 + x * y, 1 + z]).toArray 3))
  have HU := Lib.hid (upd_alloc hu (.cells (ints [-1, 0, 1, 12, 18, 35, 1000000, 1000001, 1 + x * y, 1 + z]).toArray 3))
  have HZ : Hid (w3.heap.size + 1 ≤ (w3.alloc (.cells (ints [-1, 0, 1, 12, 18, 35, 1000000, 1000001, 1 + x * y, 1 + z]).toArray 3)).heap.size) := Lib.hid (by simp)
  clear hR hc3 hu hx
  go_wp2_with fail
  have ew : wrap64 (1 + wrap64 (x * y)) = 1 + x * y := by rw [IntWalk.wrap64_in (x * y) (by omega), IntWalk.wrap64_in _ (by omega)]
  try rw [ew]
  clear ew
  have e0 : (.cells #[.int .i64 (-1), .int .i64 0, .int .i64 1, .int .i64 12, .int .i64 18, .int .i64 35, .int .i64 1000000, .int .i64 1000001, .int .i64 (1 + x * y), .int .i64 (1 + z)] 3 : Obj) = .cells (ints [-1, 0, 1, 12, 18, 35, 1000000, 1000001, 1 + x * y, 1 + z]).toArray 3 := rfl
  rw [e0]
  clear e0
  generalize w3.alloc (.cells (ints [-1, 0, 1, 12, 18, 35, 1000000, 1000001, 1 + x * y, 1 + z]).toArray 3) = W3 at *
  generalize ([-1, 0, 1, 12, 18, 35, 1000000, 1000001, 1 + x * y, 1 + z] : List Int) = zs at *
  refine (among w.heap.size w.heap.size _ (some ⟨w3.heap.size, 0, none⟩) 10 10 zs (w3.heap.size + 1) W3 (by omega) (by omega) (by omega) HR.out (by rintro b ⟨rfl⟩; dsimp only; omega) HZ.out HC3.out).mono ?_
  rintro e w4 ⟨a, rfl, ha, hc4, hu4⟩
  have HR4 := Lib.hid (rd_upd HR.out hu4 (by rintro b ⟨rfl⟩; dsimp only; omega) HZ.out)
  have HZ4 := Lib.hid (Nat.le_trans HZ.out hu4.size)
  have HC4 := Lib.hid hc4
  have HU4 := Lib.hid (HU.out.trans hu4)
  clear ha hc4 hu4 HR HZ HC3 HU
  go_wp2_with fail
  refine (among w.heap.size w.heap.size _ (some ⟨w3.heap.size, 0, none⟩) 10 10 zs (w3.heap.size + 1) w4 (by omega) (by omega) (by omega) HR4.out (by rintro b ⟨rfl⟩; dsimp only; omega) HZ4.out HC4.out).mono ?_
  rintro e w5 ⟨b, rfl, hb, hc5, hu5⟩
  have B := box_bel (HU4.out.trans hu5)
  clear hb hc5 hu5 HR4 HZ4 HC4 HU4
  go_wp2
  go_ret2
  exact ⟨a, b, rfl, B⟩
/-- Powers: both sides give one answer. -/
theorem powBoth (a k p : Int) : ∃ (n : Int) (ok : Bool), (∀ W, Calls Try.prog 5 #[.int .i64 a, .int .i64 k, .int .i64 p] W fun e w' => e = .returned (.tuple #[.int .i64 n, .bool ok]) ∧ W = w') ∧ (∀ W, Calls Try.prog 6 #[.int .i64 a, .int .i64 k, .int .i64 p] W fun e w' => e = .returned (.tuple #[.int .i64 n, .bool ok]) ∧ W = w') ∧
    (ok = true → ∃ A K Q : Nat, a = A ∧ k = K ∧ p = Q ∧ Pr Q ∧ A < Q ∧ K ≤ 1000000000 ∧ n = ((A ^ K % Q : Nat) : Int)) := by
  by_cases h : okR a p = false ∨ k < 0 ∨ 1000000000 < k
  · exact ⟨0, false, fun W => implPowerNo a k p W h, fun W => specPowerNo a k p W h, by simp⟩
  · have hr : okR a p = true := by cases e : okR a p <;> simp_all
    obtain ⟨A, Q, rfl, rfl, hA, hQ⟩ := okR_yes hr
    obtain ⟨K, rfl⟩ : ∃ K : Nat, k = K := ⟨k.toNat, by omega⟩
    exact ⟨_, true, fun W => implPower A K Q W hQ hA (by omega), fun W => specPower A K Q W hQ hA (by omega), fun _ => ⟨A, K, Q, rfl, rfl, rfl, hQ, hA, by omega, rfl⟩⟩
theorem powOk (A K Q : Nat) (hQ : Pr Q) (hA : A < Q) (hK : K ≤ 1000000000) : ∃ f : Nat,
    (∀ W, Calls Try.prog 5 #[.int .i64 A, .int .i64 ((Q : Int) - 1), .int .i64 Q] W fun e w' => e = .returned (.tuple #[.int .i64 f, .bool true]) ∧ W = w') ∧ ((A = 0 ∧ f = 0) ∨ (A ≠ 0 ∧ f = 1)) ∧
    ∀ m : Nat, m ≤ 1000 → ∃ (x y : Nat) (two : Bool), x < Q ∧ (∀ W, Calls Try.prog 5 #[.int .i64 A, .int .i64 m, .int .i64 Q] W fun e w' => e = .returned (.tuple #[.int .i64 x, .bool true]) ∧ W = w') ∧
      (∀ W, Calls Try.prog 5 #[.int .i64 A, .int .i64 ((K : Int) + (m : Int)), .int .i64 Q] W fun e w' => e = .returned (.tuple #[.int .i64 y, .bool two]) ∧ W = w') ∧ (two = true → y = A ^ K % Q * x % Q) := by
  have h3 := hQ.ge; have h4 := hQ.le
  refine ⟨A ^ (Q - 1) % Q, fun W => ?_, ?_, fun m hm => ?_⟩
  · have := implPower A (Q - 1) Q W hQ hA (by omega)
    rwa [show ((Q - 1 : Nat) : Int) = (Q : Int) - 1 by omega] at this
  · by_cases h0 : A = 0
    · subst h0
      refine .inl ⟨rfl, ?_⟩
      rw [Nat.zero_pow (by omega)]; exact Nat.zero_mod _
    · exact .inr ⟨h0, fermat hQ A (by omega) hA⟩
  · by_cases h : K + m ≤ 1000000000
    · refine ⟨A ^ m % Q, A ^ (K + m) % Q, true, Nat.mod_lt _ (by omega), fun W => implPower A m Q W hQ hA (by omega), fun W => ?_, fun _ => ?_⟩
      · have := implPower A (K + m) Q W hQ hA h
        rwa [show ((K + m : Nat) : Int) = (K : Int) + (m : Int) by omega] at this
      · rw [Nat.pow_add, Nat.mul_mod]
    · exact ⟨A ^ m % Q, 0, false, Nat.mod_lt _ (by omega), fun W => implPower A m Q W hQ hA (by omega), fun W => implPowerNo A _ Q W (.inr (.inr (by omega))), by simp⟩
/-- Powers: both sides, and what the further calls answer. -/
theorem powAll (a k p : Int) : ∃ (n : Int) (ok : Bool), (∀ W, Calls Try.prog 5 #[.int .i64 a, .int .i64 k, .int .i64 p] W fun e w' => e = .returned (.tuple #[.int .i64 n, .bool ok]) ∧ W = w') ∧ (∀ W, Calls Try.prog 6 #[.int .i64 a, .int .i64 k, .int .i64 p] W fun e w' => e = .returned (.tuple #[.int .i64 n, .bool ok]) ∧ W = w') ∧
    (ok = true → ∃ A K Q N f : Nat, a = A ∧ k = K ∧ p = Q ∧ n = N ∧ A < Q ∧ N < Q ∧ 3 ≤ Q ∧ Q ≤ 10007 ∧ K ≤ 1000000000 ∧
      (∀ W, Calls Try.prog 5 #[.int .i64 A, .int .i64 ((Q : Int) - 1), .int .i64 Q] W fun e w' => e = .returned (.tuple #[.int .i64 f, .bool true]) ∧ W = w') ∧ ((A = 0 ∧ f = 0) ∨ (A ≠ 0 ∧ f = 1)) ∧
      ∀ m : Nat, m ≤ 1000 → ∃ (x y : Nat) (two : Bool), x < Q ∧ (∀ W, Calls Try.prog 5 #[.int .i64 A, .int .i64 m, .int .i64 Q] W fun e w' => e = .returned (.tuple #[.int .i64 x, .bool true]) ∧ W = w') ∧
        (∀ W, Calls Try.prog 5 #[.int .i64 A, .int .i64 ((K : Int) + (m : Int)), .int .i64 Q] W fun e w' => e = .returned (.tuple #[.int .i64 y, .bool two]) ∧ W = w') ∧ (two = true → y = N * x % Q)) := by
  obtain ⟨n, ok, I, S, H⟩ := powBoth a k p
  refine ⟨n, ok, I, S, fun h => ?_⟩
  obtain ⟨A, K, Q, e1, e2, e3, hQ, hA, hK, e4⟩ := H h
  obtain ⟨f, P1, P2, P3⟩ := powOk A K Q hQ hA hK
  have h3 := hQ.ge
  exact ⟨A, K, Q, A ^ K % Q, f, e1, e2, e3, e4, hA, Nat.mod_lt _ (by omega), h3, hQ.le, hK, P1, P2, P3⟩
theorem mbd (x : Int) (n : Nat) (h : -1000000 ≤ x ∧ x ≤ 1000000) (hn : n ≤ 1000000) : -1000000000000 ≤ x * (n : Int) ∧ x * (n : Int) ≤ 1000000000000 := by
  have h1 : x * (n : Int) ≤ 1000000 * (n : Int) := Int.mul_le_mul_of_nonneg_right h.2 (by omega)
  have h2 : -1000000 * (n : Int) ≤ x * (n : Int) := Int.mul_le_mul_of_nonneg_right h.1 (by omega)
  omega
/-- Inverses: both sides give one answer. -/
theorem invBoth (b q : Int) : ∃ (i : Int) (ok : Bool), (∀ W, Calls Try.prog 9 #[.int .i64 b, .int .i64 q] W fun e w' => e = .returned (.tuple #[.int .i64 i, .bool ok]) ∧ W = w') ∧ (∀ W, Calls Try.prog 10 #[.int .i64 b, .int .i64 q] W fun e w' => e = .returned (.tuple #[.int .i64 i, .bool ok]) ∧ W = w') ∧
    (ok = true → ∃ B I Q : Nat, b = B ∧ i = I ∧ q = Q ∧ B < Q ∧ I < Q ∧ 3 ≤ Q ∧ Q ≤ 10007 ∧ B * I % Q = 1) := by
  by_cases h : okR b q = false ∨ b = 0
  · exact ⟨0, false, fun W => implInverseNo b q W h, fun W => specInverseNo b q W h, by simp⟩
  · have hr : okR b q = true := by cases e : okR b q <;> simp_all
    obtain ⟨B, Q, rfl, rfl, hB, hQ⟩ := okR_yes hr
    have h3 := hQ.ge; have h4 := hQ.le
    have hB0 : 0 < B := by
      rcases Nat.eq_zero_or_pos B with h0 | h0
      · exact absurd (Or.inr (by omega)) h
      · exact h0
    refine ⟨_, true, fun W => implInverse B Q W hQ hB hB0, fun W => specInverse B Q W hQ hB hB0, fun _ => ⟨B, B ^ (Q - 2) % Q, Q, rfl, rfl, rfl, hB, Nat.mod_lt _ (by omega), h3, h4, ?_⟩⟩
    have := fermat hQ B hB0 hB
    rw [Nat.mul_mod, Nat.mod_mod, ← Nat.mul_mod, Nat.mul_comm, ← Nat.pow_succ, show (Q - 2).succ = Q - 1 by omega]
    exact this
/-- Primes: both sides give one answer. -/
theorem prBoth (z : Int) : ∃ (r ok : Bool), (∀ W, Calls Try.prog 15 #[.int .i64 z] W fun e w' => e = .returned (.tuple #[.bool r, .bool ok]) ∧ W = w') ∧ (∀ W, Calls Try.prog 16 #[.int .i64 z] W fun e w' => e = .returned (.tuple #[.bool r, .bool ok]) ∧ W = w') := by
  by_cases h : z < 0 ∨ 10007 < z
  · exact ⟨false, false, fun W => implPrimeNo z W h, fun W => specPrimeNo z W h⟩
  · obtain ⟨n, rfl⟩ : ∃ n : Nat, z = n := ⟨z.toNat, by omega⟩
    exact ⟨_, true, fun W => implPrime n W (by omega), fun W => specPrime n W (by omega)⟩
/-- What the algorithm's answer has. -/
theorem eu_facts (n m : Nat) (hn : n ≤ 1000000) (hm : m ≤ 1000000) (h0 : 0 < n ∨ 0 < m) : ∃ g x y : Int, eu m (n : Int) 1 0 m 0 1 = (g, x, y) ∧ 1 ≤ g ∧ g ≤ 1000000 ∧ (-1000000 ≤ x ∧ x ≤ 1000000) ∧ (-1000000 ≤ y ∧ y ≤ 1000000) ∧ x * n + y * m = g ∧ (n : Int) % g = 0 ∧ (m : Int) % g = 0 := by
  suffices H : ∀ (f : Nat) (r0 x0 y0 r1 x1 y1 : Int), r1.toNat ≤ f → Num.Rows n m r0 x0 y0 r1 x1 y1 → ∃ g x y : Int, eu f r0 x0 y0 r1 x1 y1 = (g, x, y) ∧ 1 ≤ g ∧ g ≤ 1000000 ∧ (-1000000 ≤ x ∧ x ≤ 1000000) ∧ (-1000000 ≤ y ∧ y ≤ 1000000) ∧ x * n + y * m = g ∧ (n : Int) % g = 0 ∧ (m : Int) % g = 0 from
    H m _ _ _ _ _ _ (by omega) (rows_start n m hn hm h0)
  intro f
  induction f with
  | zero =>
    intro r0 x0 y0 r1 x1 y1 hf hR
    by_cases hz : r1 = 0
    · subst hz
      exact ⟨r0, x0, y0, eu_end .., rows_end hR⟩
    · obtain ⟨⟨a1, a2, a3, a4, a5, a6, a7, a8⟩, _⟩ := rows_step hn hm hR hz
      omega
  | succ f ih =>
    intro r0 x0 y0 r1 x1 y1 hf hR
    by_cases hz : r1 = 0
    · subst hz
      exact ⟨r0, x0, y0, eu_end .., rows_end hR⟩
    · obtain ⟨⟨a1, a2, a3, a4, a5, a6, a7, a8⟩, ⟨q1, q2⟩, ⟨m1, m2⟩, ⟨m3, m4⟩, ⟨m5, m6⟩, ⟨d1, d2⟩, NR⟩ := rows_step hn hm hR hz
      rw [eu_step _ _ _ _ _ _ _ (by omega)]
      exact ih _ _ _ _ _ _ (by omega) NR
end Go.Proofs.Ytbljmgmpmmajeab.DrawE
