/-
  The powers of 2 of which a number is the sum, and its bits: how many there are, by adding in parallel; which there are, by testing each.
-/
import Derived.Test.YtmnihigackilkaaDoorEdg
import Derived.Lib.BitFns
namespace Go.Proofs.YtmnihigackilkaaDoor.Pop
open Go.Proofs.YtmnihigackilkaaDoor.Mkl Go.Proofs.YtmnihigackilkaaDoor.Edg
set_option linter.unusedVariables false

theorem and_base (k a b c d : Nat) (hb : b < 2 ^ k) (hd : d < 2 ^ k) : (2 ^ k * a + b) &&& (2 ^ k * c + d) = 2 ^ k * (a &&& c) + (b &&& d) := by
  apply Nat.eq_of_testBit_eq
  intro j
  have h1 : b &&& d < 2 ^ k := Nat.and_lt_two_pow _ hd
  rw [Nat.testBit_and, Nat.testBit_two_pow_mul_add _ hb, Nat.testBit_two_pow_mul_add _ hd, Nat.testBit_two_pow_mul_add _ h1]
  by_cases h : j < k
  · simp [h]
  · simp [h]
theorem and_low (k b c d : Nat) (hb : b < 2 ^ k) (hd : d < 2 ^ k) : b &&& (2 ^ k * c + d) = b &&& d := by
  have := and_base k 0 b c d hb hd
  simpa using this
theorem and3 (a b c p q r : Nat) (hb : b < 256) (hc : c < 256) (hq : q < 256) (hr : r < 256) : (65536 * a + 256 * b + c) &&& (65536 * p + 256 * q + r) = 65536 * (a &&& p) + 256 * (b &&& q) + (c &&& r) := by
  have h1 := and_base 8 (256 * a + b) c (256 * p + q) r hc hr
  have h2 := and_base 8 a b p q hb hq
  rw [show 65536 * a + 256 * b + c = 2 ^ 8 * (256 * a + b) + c from by omega, show 65536 * p + 256 * q + r = 2 ^ 8 * (256 * p + q) + r from by omega, h1, show 256 * a + b = 2 ^ 8 * a + b from by omega, show 256 * p + q = 2 ^ 8 * p + q from by omega, h2]
  omega
theorem pc_two : ∀ (b m : Nat), m ≤ b → pc (2 * m) = pc m ∧ pc (2 * m + 1) = pc m + 1 := by
  have h1 : pc 1 = 1 := by
    have e1 : top 1 = 1 := by have := top_lt (n := 1) (by omega); omega
    rw [pc_pos (by omega), e1, Nat.sub_self, pc_zero]
  intro b
  induction b with
  | zero => intro m h; have : m = 0 := by omega
            subst this; exact ⟨rfl, by rw [show pc (2 * 0 + 1) = pc 1 from rfl, h1, pc_zero]⟩
  | succ b ih =>
    intro m h
    by_cases h0 : m = 0
    · subst h0; exact ⟨rfl, by rw [show pc (2 * 0 + 1) = pc 1 from rfl, h1, pc_zero]⟩
    · obtain ⟨j, e, a1, a2⟩ := top_spec (show 1 ≤ m by omega)
      have hp : 1 ≤ 2 ^ j := Nat.one_le_two_pow
      have hj : 2 ^ (j + 1) = 2 * 2 ^ j := by rw [Nat.pow_succ]; omega
      have t0 : top (2 * m) = 2 * top m := by rw [e, ← hj]; exact top_of (by omega) (by omega)
      have t1 : top (2 * m + 1) = 2 * top m := by rw [e, ← hj]; exact top_of (by omega) (by omega)
      obtain ⟨i0, i1⟩ := ih (m - top m) (by omega)
      rw [pc_pos (n := 2 * m) (by omega), pc_pos (n := 2 * m + 1) (by omega), pc_pos (n := m) (by omega), t0, t1, show 2 * m - 2 * top m = 2 * (m - top m) from by omega, show 2 * m + 1 - 2 * top m = 2 * (m - top m) + 1 from by omega, i0, i1]
      omega
theorem pc_half (m : Nat) : pc m = m % 2 + pc (m / 2) := by
  obtain ⟨h0, h1⟩ := pc_two (m / 2) (m / 2) (Nat.le_refl _)
  rcases Nat.mod_two_eq_zero_or_one m with h | h
  · rw [show m = 2 * (m / 2) from by omega, h0, show 2 * (m / 2) % 2 = 0 from by omega, show 2 * (m / 2) / 2 = m / 2 from by omega]; omega
  · rw [show m = 2 * (m / 2) + 1 from by omega, h1, show (2 * (m / 2) + 1) % 2 = 1 from by omega, show (2 * (m / 2) + 1) / 2 = m / 2 from by omega]; omega
def oc (b : Nat) : Nat := Lib.popAux 8 b
theorem pc_byte (m : Nat) : pc m = oc (m % 256) + pc (m / 256) := by
  have e : oc (m % 256) = m % 2 + (m / 2 % 2 + (m / 2 / 2 % 2 + (m / 2 / 2 / 2 % 2 + (m / 2 / 2 / 2 / 2 % 2 + (m / 2 / 2 / 2 / 2 / 2 % 2 + (m / 2 / 2 / 2 / 2 / 2 / 2 % 2 + m / 2 / 2 / 2 / 2 / 2 / 2 / 2 % 2)))))) := by
    simp only [oc, Lib.popAux]; omega
  rw [pc_half m, pc_half (m / 2), pc_half (m / 2 / 2), pc_half (m / 2 / 2 / 2), pc_half (m / 2 / 2 / 2 / 2), pc_half (m / 2 / 2 / 2 / 2 / 2), pc_half (m / 2 / 2 / 2 / 2 / 2 / 2), pc_half (m / 2 / 2 / 2 / 2 / 2 / 2 / 2), e,
    show m / 2 / 2 / 2 / 2 / 2 / 2 / 2 / 2 = m / 256 from by omega]
  omega
def M0 : Nat := 6148914691236517205
def M1 : Nat := 3689348814741910323
def M2 : Nat := 1085102592571150095
/-- The first two steps, on a byte. -/
def byA (c : Nat) : Nat := (c / 2 &&& 85) + (c &&& 85)
def byB (c : Nat) : Nat := (c / 4 &&& 51) + (c &&& 51)
theorem by1 : ∀ b : Fin 256, ∀ q : Fin 2, ((q.val * 128 + b.val / 2) &&& 85) = (b.val / 2 &&& 85) := by decide +kernel
theorem by2 : ∀ b : Fin 256, ∀ q : Fin 4, ((q.val * 64 + b.val / 4) &&& 51) = (b.val / 4 &&& 51) := by decide +kernel
theorem by3 : ∀ b : Fin 256, byA b.val < 256 ∧ byB (byA b.val) % 16 ≤ 4 ∧ byB (byA b.val) ≤ 68 ∧ oc b.val ≤ 8 := by decide +kernel
theorem by4 : ∀ b : Fin 256, ∀ q : Fin 5, ((byB (byA b.val) + byB (byA b.val) / 16 + 16 * q.val) &&& 15) = oc b.val := by decide +kernel
theorem s1_eq (x : Nat) (h : x < 16777216) : (x / 2 &&& M0) + (x &&& M0) = 65536 * byA (x / 65536) + 256 * byA (x / 256 % 256) + byA (x % 256) := by
  have e : M0 = 2 ^ 24 * 366503875925 + 5592405 := by decide
  have f : (5592405 : Nat) = 65536 * 85 + 256 * 85 + 85 := by decide
  rw [e, and_low 24 (x / 2) _ _ (by omega) (by decide), and_low 24 x _ _ (by omega) (by decide), f]
  have hx : x = 65536 * (x / 65536) + 256 * (x / 256 % 256) + x % 256 := by omega
  have hx2 : x / 2 = 65536 * (x / 65536 / 2) + 256 * ((x / 65536 % 2) * 128 + x / 256 % 256 / 2) + ((x / 256 % 256 % 2) * 128 + x % 256 / 2) := by omega
  have a1 := by1 ⟨x / 256 % 256, by omega⟩ ⟨x / 65536 % 2, by omega⟩
  have a2 := by1 ⟨x % 256, by omega⟩ ⟨x / 256 % 256 % 2, by omega⟩
  simp only at a1 a2
  have r1 : (x / 2 &&& (65536 * 85 + 256 * 85 + 85)) = 65536 * (x / 65536 / 2 &&& 85) + 256 * (x / 256 % 256 / 2 &&& 85) + (x % 256 / 2 &&& 85) := by
    rw [← a1, ← a2]
    conv => lhs; rw [hx2]
    exact and3 _ _ _ _ _ _ (by omega) (by omega) (by omega) (by omega)
  have r2 : (x &&& (65536 * 85 + 256 * 85 + 85)) = 65536 * (x / 65536 &&& 85) + 256 * (x / 256 % 256 &&& 85) + (x % 256 &&& 85) := by
    conv => lhs; rw [hx]
    exact and3 _ _ _ _ _ _ (by omega) (by omega) (by omega) (by omega)
  rw [r1, r2]
  unfold byA
  omega
theorem s2_eq (a b c : Nat) (ha : a < 256) (hb : b < 256) (hc : c < 256) : ((65536 * a + 256 * b + c) / 4 &&& M1) + ((65536 * a + 256 * b + c) &&& M1) = 65536 * byB a + 256 * byB b + byB c := by
  have e : M1 = 2 ^ 24 * 219902325555 + 3355443 := by decide
  have f : (3355443 : Nat) = 65536 * 51 + 256 * 51 + 51 := by decide
  rw [e, and_low 24 ((65536 * a + 256 * b + c) / 4) _ _ (by omega) (by decide), and_low 24 (65536 * a + 256 * b + c) _ _ (by omega) (by decide), f]
  have hx2 : (65536 * a + 256 * b + c) / 4 = 65536 * (a / 4) + 256 * ((a % 4) * 64 + b / 4) + ((b % 4) * 64 + c / 4) := by omega
  have a1 := by2 ⟨b, hb⟩ ⟨a % 4, by omega⟩
  have a2 := by2 ⟨c, hc⟩ ⟨b % 4, by omega⟩
  simp only at a1 a2
  have r1 : ((65536 * a + 256 * b + c) / 4 &&& (65536 * 51 + 256 * 51 + 51)) = 65536 * (a / 4 &&& 51) + 256 * (b / 4 &&& 51) + (c / 4 &&& 51) := by
    rw [← a1, ← a2, hx2]
    exact and3 _ _ _ _ _ _ (by omega) (by omega) (by omega) (by omega)
  rw [r1, and3 _ _ _ _ _ _ hb hc (by omega) (by omega)]
  unfold byB
  omega
theorem s3_eq (x y z : Nat) (hx : x < 256) (hy : y < 256) (hz : z < 256) (a b c : Nat) (ha : a = byB (byA x)) (hb : b = byB (byA y)) (hc : c = byB (byA z)) :
    ((65536 * a + 256 * b + c) / 16 + (65536 * a + 256 * b + c)) &&& M2 = 65536 * oc x + 256 * oc y + oc z := by
  have p1 := by3 ⟨x, hx⟩
  have p2 := by3 ⟨y, hy⟩
  have p3 := by3 ⟨z, hz⟩
  have q1 := by4 ⟨x, hx⟩ ⟨0, by omega⟩
  have q2 := by4 ⟨y, hy⟩ ⟨a % 16, by simp only at p1; omega⟩
  have q3 := by4 ⟨z, hz⟩ ⟨b % 16, by simp only at p2; omega⟩
  simp only at p1 p2 p3 q1 q2 q3
  rw [← ha] at p1 q1
  rw [← hb] at p2 q2
  rw [← hc] at p3 q3
  have e : M2 = 2 ^ 24 * 64677154575 + 986895 := by decide
  have f : (986895 : Nat) = 65536 * 15 + 256 * 15 + 15 := by decide
  have hs : (65536 * a + 256 * b + c) / 16 + (65536 * a + 256 * b + c) = 65536 * (a + a / 16 + 16 * 0) + 256 * (b + b / 16 + 16 * (a % 16)) + (c + c / 16 + 16 * (b % 16)) := by omega
  rw [hs, e, and_low 24 _ _ _ (by omega) (by decide), f, and3 _ _ _ _ _ _ (by omega) (by omega) (by omega) (by omega), q1, q2, q3]
theorem s4_eq (a b c : Nat) (ha : a ≤ 8) (hb : b ≤ 8) (hc : c ≤ 8) (u v w : Nat) (hu : u = (65536 * a + 256 * b + c) + (65536 * a + 256 * b + c) / 256) (hv : v = u + u / 65536) (hw : w = v + v / 4294967296) : w % 128 = a + b + c := by
  have h1 : u = 65536 * a + 256 * (a + b) + (b + c) := by omega
  have h2 : v = 65536 * a + 256 * (a + b) + (a + b + c) := by clear hu; omega
  have h3 : w = v := by clear hu hv; omega
  clear hu hv hw
  omega
theorem pop_eq (x y z u v w t : Nat) (h : x < 16777216) (hy : y = (x / 2 &&& M0) + (x &&& M0)) (hz : z = (y / 4 &&& M1) + (y &&& M1)) (hu : u = (z / 16 + z) &&& M2) (hv : v = u + u / 256) (hw : w = v + v / 65536) (ht : t = w + w / 4294967296) :
    t % 128 = pc x ∧ y < 16777216 ∧ z < 16777216 ∧ u < 16777216 ∧ pc x ≤ 24 := by
  have p1 := by3 ⟨x / 65536, by omega⟩
  have p2 := by3 ⟨x / 256 % 256, by omega⟩
  have p3 := by3 ⟨x % 256, by omega⟩
  simp only at p1 p2 p3
  rw [s1_eq x h] at hy
  have hy' := hy
  rw [hy, s2_eq _ _ _ p1.1 p2.1 p3.1] at hz
  have hz' := hz
  rw [hz, s3_eq (x / 65536) (x / 256 % 256) (x % 256) (by omega) (by omega) (by omega) _ _ _ rfl rfl rfl] at hu
  have e : pc x = oc (x / 65536) + oc (x / 256 % 256) + oc (x % 256) := by
    rw [pc_byte x, pc_byte (x / 256), show x / 256 / 256 = x / 65536 from by omega, pc_byte (x / 65536), show x / 65536 / 256 = 0 from by omega, pc_zero, show x / 65536 % 256 = x / 65536 from by omega]
    omega
  rw [hu] at hv
  exact ⟨by rw [e]; exact s4_eq _ _ _ p1.2.2.2 p2.2.2.2 p3.2.2.2 v w t hv hw ht, by omega, by omega, by omega, by omega⟩
theorem and_bit (m k : Nat) : m &&& 2 ^ k = 0 ↔ m.testBit k = false := by
  constructor
  · intro h
    have h1 : (m &&& 2 ^ k).testBit k = m.testBit k := by rw [Nat.testBit_and, Nat.testBit_two_pow]; simp
    rw [← h1, h]; simp
  · intro h
    apply Nat.eq_of_testBit_eq
    intro j
    rw [Nat.testBit_and, Nat.testBit_two_pow, Nat.zero_testBit]
    by_cases e : k = j
    · subst e; rw [h]; rfl
    · simp [e]
/-- Which powers there are: each tested, from the greatest down. -/
theorem pts_bit (k m : Nat) (h : m &&& 2 ^ k ≠ 0) : pts (m % 2 ^ (k + 1)) = 2 ^ k :: pts (m % 2 ^ k) := by
  have hp : 1 ≤ 2 ^ k := Nat.one_le_two_pow
  have hb : m.testBit k = true := by
    cases hh : m.testBit k
    · exact absurd ((and_bit m k).2 hh) h
    · rfl
  have e : m % 2 ^ (k + 1) = 2 ^ k + m % 2 ^ k := by
    rw [Nat.testBit_eq_decide_div_mod_eq, decide_eq_true_eq] at hb
    rw [Nat.mod_pow_succ, hb]; omega
  have hl : m % 2 ^ k < 2 ^ k := Nat.mod_lt _ (by omega)
  rw [e, pts_pos (by omega), top_of (j := k) (by omega) (by omega), Nat.add_sub_cancel_left]
theorem pts_nobit (k m : Nat) (h : m &&& 2 ^ k = 0) : pts (m % 2 ^ (k + 1)) = pts (m % 2 ^ k) := by
  have hp : 1 ≤ 2 ^ k := Nat.one_le_two_pow
  have hb : m.testBit k = false := (and_bit m k).1 h
  rw [Nat.testBit_eq_decide_div_mod_eq, decide_eq_false_iff_not] at hb
  rw [Nat.mod_pow_succ, show m / 2 ^ k % 2 = 0 from by omega]; simp
/-- A power of 2: one bit. -/
theorem pow_and : ∀ (b m : Nat), m ≤ b → 1 ≤ m → (m &&& (m - 1) = 0 ↔ top m = m) := by
  intro b m _ h
  obtain ⟨j, e, a1, a2⟩ := top_spec h
  have hp : 1 ≤ 2 ^ j := Nat.one_le_two_pow
  by_cases hm : 2 ^ j = m
  · refine iff_of_true ?_ (by rw [e, hm])
    rw [← hm, Nat.and_two_pow_sub_one_eq_mod, Nat.mod_self]
  · refine iff_of_false ?_ (by rw [e]; exact hm)
    have h1 := and_base j 1 (m - 2 ^ j) 1 (m - 2 ^ j - 1) (by omega) (by omega)
    rw [show 2 ^ j * 1 + (m - 2 ^ j) = m from by omega, show 2 ^ j * 1 + (m - 2 ^ j - 1) = m - 1 from by omega] at h1
    rw [h1, show (1 &&& 1 : Nat) = 1 from rfl]
    omega
theorem pc_one {m : Nat} (h : 1 ≤ m) : pc m ≤ 1 ↔ top m = m := by
  have ht := top_lt h
  rw [pc_pos h]
  constructor
  · intro q
    by_cases h0 : m - top m = 0
    · omega
    · have := pc_ge (n := m - top m) (by omega); omega
  · intro q
    rw [q, Nat.sub_self, pc_zero]; omega
/-- The number of bits tells the greatest power of 2. -/
theorem len_top : ∀ (b m : Nat), m ≤ b → 1 ≤ m → m < 2 ^ 64 → 1 ≤ Lib.bitLen m ∧ 2 ^ (Lib.bitLen m - 1) = top m := by
  intro b
  induction b with
  | zero => intro m h h1; omega
  | succ b ih =>
    intro m h h1 h2
    rw [Lib.bitLen_half m (by omega) h2]
    refine ⟨by omega, ?_⟩
    by_cases h0 : m = 1
    · subst h0
      have e1 : top 1 = 1 := by have := top_lt (n := 1) (by omega); omega
      rw [e1]; decide
    · obtain ⟨i1, i2⟩ := ih (m / 2) (by omega) (by omega) (by omega)
      obtain ⟨j, e, a1, a2⟩ := top_spec (show 1 ≤ m / 2 by omega)
      have hp : 1 ≤ 2 ^ j := Nat.one_le_two_pow
      have hj : 2 ^ (j + 1) = 2 * 2 ^ j := by rw [Nat.pow_succ]; omega
      have t0 : top m = 2 ^ (j + 1) := top_of (by omega) (by omega)
      rw [t0, hj, ← e, ← i2, show 1 + Lib.bitLen (m / 2) - 1 = (Lib.bitLen (m / 2) - 1) + 1 from by omega, Nat.pow_succ]
      omega
end Go.Proofs.YtmnihigackilkaaDoor.Pop
