/-
  Arithmetic modulo a prime, further plain facts: Legendre symbols, least roots, orders, the first generator, and the rows of the extended Euclidean algorithm.
-/
import Derived.Test.YtbljmgmpmmajeabNum
namespace Go.Proofs.Ytbljmgmpmmajeab.Num
set_option linter.unusedVariables false

/-- The Legendre symbol. -/
def kind (a p : Nat) : Int := if a ^ ((p - 1) / 2) % p = 0 then 0 else if a ^ ((p - 1) / 2) % p = 1 then 1 else -1
theorem zero_half {p : Nat} (hp : Pr p) : 0 ^ ((p - 1) / 2) % p = 0 := by
  have := hp.ge
  rw [Nat.zero_pow (by omega)]; exact Nat.zero_mod _
theorem half_cases {p : Nat} (hp : Pr p) (a : Nat) (hap : a < p) : (a = 0 ∧ a ^ ((p - 1) / 2) % p = 0 ∧ kind a p = 0) ∨ (0 < a ∧ a ^ ((p - 1) / 2) % p = 1 ∧ kind a p = 1) ∨ (0 < a ∧ a ^ ((p - 1) / 2) % p = p - 1 ∧ kind a p = -1) := by
  have h3 := hp.ge
  rcases Nat.eq_zero_or_pos a with h0 | h0
  · subst h0
    have := zero_half hp
    exact .inl ⟨rfl, this, by unfold kind; rw [if_pos this]⟩
  · rcases half_sq hp a h0 hap with h | h
    · exact .inr (.inl ⟨h0, h, by unfold kind; rw [h]; rfl⟩)
    · refine .inr (.inr ⟨h0, h, ?_⟩)
      unfold kind; rw [h, if_neg (by omega), if_neg (by omega)]
theorem kind_mul {p : Nat} (hp : Pr p) (a b : Nat) (hap : a < p) (hbp : b < p) : kind (a * b % p) p = kind a p * kind b p := by
  have h3 := hp.ge
  have hab := half_cases hp (a * b % p) (Nat.mod_lt _ (by omega))
  have hm : (a * b % p) ^ ((p - 1) / 2) % p = (a ^ ((p - 1) / 2) % p) * (b ^ ((p - 1) / 2) % p) % p := by
    rw [pow_mod', Nat.mul_pow, Nat.mul_mod]
  have one : 1 % p = 1 := Nat.mod_eq_of_lt (by omega)
  have lt : (p - 1) % p = p - 1 := Nat.mod_eq_of_lt (by omega)
  rcases half_cases hp a hap with ⟨_, ha, ka⟩ | ⟨_, ha, ka⟩ | ⟨_, ha, ka⟩ <;> rcases half_cases hp b hbp with ⟨_, hb, kb⟩ | ⟨_, hb, kb⟩ | ⟨_, hb, kb⟩ <;>
    rw [ha, hb] at hm <;> simp only [Nat.zero_mul, Nat.mul_zero, Nat.zero_mod, Nat.one_mul, Nat.mul_one, one, lt, sq_minus hp] at hm <;> rw [ka, kb] <;>
    rcases hab with ⟨_, h, k⟩ | ⟨_, h, k⟩ | ⟨_, h, k⟩ <;> first | (rw [k]; rfl) | omega

/-- The least root of a, if there is one. -/
def isRoot (a p x : Nat) : Prop := x * x % p = a
theorem other_root (p x : Nat) (hx : x < p) : (p - x) * (p - x) % p = x * x % p := by
  obtain ⟨y, rfl⟩ : ∃ y, p = x + y := ⟨p - x, by omega⟩
  have e : x + y - x = y := by omega
  rw [e]
  have h1 : y * y + x * (x + y) = x * x + y * (x + y) := by
    rw [Nat.mul_add, Nat.mul_add, Nat.mul_comm y x]; omega
  have h2 := congrArg (· % (x + y)) h1
  simpa [Nat.add_mul_mod_self_right] using h2
theorem root_low {p : Nat} (hp : Pr p) (a : Nat) (h : ∃ x, x < p ∧ x * x % p = a) : ∃ x, x < (p + 1) / 2 ∧ x * x % p = a ∧ ∀ y, y < x → y * y % p ≠ a := by
  have h3 := hp.ge; have ho := odd hp
  obtain ⟨x, hx, e⟩ := h
  obtain ⟨m, hm, he, hl⟩ := least_of (Q := fun x => x * x % p = a) x e
  refine ⟨m, ?_, he, hl⟩
  rcases Nat.lt_or_ge m ((p + 1) / 2) with h | h
  · exact h
  · exfalso
    exact hl (p - m) (by omega) (by rw [other_root p m (by omega)]; exact he)
theorem kind_root {p : Nat} (hp : Pr p) (a : Nat) (hap : a < p) : 0 ≤ kind a p ↔ ∃ x, x < p ∧ x * x % p = a := by
  have h3 := hp.ge
  rcases half_cases hp a hap with ⟨h0, ha, ka⟩ | ⟨h0, ha, ka⟩ | ⟨h0, ha, ka⟩
  · rw [ka]; subst h0; exact ⟨fun _ => ⟨0, by omega, Nat.zero_mod _⟩, fun _ => by omega⟩
  · rw [ka]; exact ⟨fun _ => (euler hp a h0 hap).1 ha, fun _ => by omega⟩
  · rw [ka]; exact ⟨fun h => by omega, fun h => by have := (euler hp a h0 hap).2 h; omega⟩

/-- o is the order of a modulo p. -/
structure Ord (a p o : Nat) : Prop where
  pos : 0 < o
  one : a ^ o % p = 1
  least : ∀ j, 0 < j → j < o → a ^ j % p ≠ 1
theorem ord_ex {p : Nat} (hp : Pr p) (a : Nat) (ha : 0 < a) (hap : a < p) : ∃ o, Ord a p o ∧ o ≤ p - 1 ∧ (p - 1) % o = 0 := by
  have h3 := hp.ge
  obtain ⟨o, h1, h2, h4, h5⟩ := order_ex a (p - 1) p (by omega) (fermat hp a ha hap)
  exact ⟨o, ⟨h1, h4, h5⟩, h2, order_dvd a o (p - 1) p (by omega) h1 h4 h5 (fermat hp a ha hap)⟩
theorem Ord.uniq {a p o o' : Nat} (h : Ord a p o) (k : Ord a p o') : o = o' := by
  rcases Nat.lt_trichotomy o o' with q | q | q
  · exact absurd h.one (k.least o h.pos q)
  · exact q
  · exact absurd k.one (h.least o' k.pos q)
/-- A number whose power is 1, and no proper part of it, is the order. -/
theorem ord_of_parts {p : Nat} (hp : 2 ≤ p) (a n : Nat) (hn : 0 < n) (h1 : a ^ n % p = 1) (h : ∀ d, 2 ≤ d → d ≤ n → n % d = 0 → a ^ (n / d) % p ≠ 1) : Ord a p n := by
  obtain ⟨o, h2, h3, h4, h5⟩ := order_ex a n p hn h1
  have hd := order_dvd a o n p hp h2 h4 h5 h1
  have hob : o * (n / o) = n := by have := Nat.div_add_mod n o; omega
  by_cases he : n / o = 1
  · rw [he, Nat.mul_one] at hob; subst hob; exact ⟨h2, h4, h5⟩
  · exfalso
    have h0 : n / o ≠ 0 := by intro hc; rw [hc] at hob; omega
    have hle : n / o ≤ n := Nat.div_le_self _ _
    have hm0 : n % (n / o) = 0 := by
      have : n = n / o * o := by rw [Nat.mul_comm]; exact hob.symm
      conv => lhs; lhs; rw [this]
      exact Nat.mul_mod_right _ _
    have hq : n / (n / o) = o := by
      have : n = o * (n / o) := hob.symm
      conv => lhs; lhs; rw [this]
      exact Nat.mul_div_cancel _ (Nat.pos_of_ne_zero h0)
    have h2 : 2 ≤ n / o := by
      have key : ∀ z : Nat, z ≠ 0 → ¬ z = 1 → 2 ≤ z := by intro z h1 h2; omega
      exact key _ h0 he
    have := h (n / o) h2 hle hm0
    rw [hq] at this
    exact this h4
/-- The first generator. -/
theorem first_ex {p : Nat} (hp : Pr p) : ∃ g, 1 ≤ g ∧ g < p ∧ Ord g p (p - 1) ∧ ∀ j, 1 ≤ j → j < g → ¬ Ord j p (p - 1) := by
  have h3 := hp.ge
  obtain ⟨g, hg⟩ := gen_ex p hp.pr hp.ge hp.le
  have ho : Ord g p (p - 1) := ⟨by omega, hg.full, hg.least⟩
  obtain ⟨m, h1, ⟨h2, h4⟩, h5⟩ := least_of (Q := fun x => 1 ≤ x ∧ Ord x p (p - 1)) g ⟨hg.one, ho⟩
  exact ⟨m, h2, by have := hg.lt; omega, h4, fun j hj hjm hc => h5 j hjm ⟨hj, hc⟩⟩

/-- A row of the Euclidean algorithm and the algorithm itself, with fuel. -/
def eu : Nat → Int → Int → Int → Int → Int → Int → Int × Int × Int
  | 0, r0, x0, y0, _, _, _ => (r0, x0, y0)
  | n + 1, r0, x0, y0, r1, x1, y1 => if r1 = 0 then (r0, x0, y0) else eu n r1 x1 y1 (r0 - r0 / r1 * r1) (x0 - r0 / r1 * x1) (y0 - r0 / r1 * y1)
theorem eu_end (n : Nat) (r0 x0 y0 x1 y1 : Int) : eu n r0 x0 y0 0 x1 y1 = (r0, x0, y0) := by cases n <;> simp [eu]
theorem eu_step (n : Nat) (r0 x0 y0 r1 x1 y1 : Int) (h : r1 ≠ 0) : eu (n + 1) r0 x0 y0 r1 x1 y1 = eu n r1 x1 y1 (r0 - r0 / r1 * r1) (x0 - r0 / r1 * x1) (y0 - r0 / r1 * y1) := by simp [eu, h]
/-- What the rows keep: the sums, the bounds and the common divisors. -/
def Rows (a b : Nat) (r0 x0 y0 r1 x1 y1 : Int) : Prop :=
  ∃ (s : Int) (X0 X1 Y0 Y1 R0 R1 : Nat), (s = 1 ∨ s = -1) ∧ r0 = R0 ∧ r1 = R1 ∧ x0 = s * X0 ∧ x1 = -(s * X1) ∧ y0 = -(s * Y0) ∧ y1 = s * Y1 ∧ R0 * X1 + R1 * X0 = b ∧ R0 * Y1 + R1 * Y0 = a ∧ (0 < R0 ∨ 0 < R1) ∧ R0 ≤ 1000000 ∧ R1 ≤ 1000000 ∧
    X0 ≤ 1000000 ∧ X1 ≤ 1000000 ∧ Y0 ≤ 1000000 ∧ Y1 ≤ 1000000 ∧ (x0 * a + y0 * b = r0) ∧ (x1 * a + y1 * b = r1) ∧ ∀ d : Nat, d ∣ R0 → d ∣ R1 → d ∣ a ∧ d ∣ b
theorem rows_start (a b : Nat) (ha : a ≤ 1000000) (hb : b ≤ 1000000) (h : 0 < a ∨ 0 < b) : Rows a b a 1 0 b 0 1 :=
  ⟨1, 1, 0, 0, 1, a, b, .inl rfl, rfl, rfl, rfl, rfl, rfl, rfl, by omega, by omega, h, ha, hb, by omega, by omega, by omega, by omega, by omega, by omega, fun d h1 h2 => ⟨h1, h2⟩⟩
theorem sgn_bd (s : Int) (X : Nat) (h : s = 1 ∨ s = -1) (hX : X ≤ 1000000) : -1000000 ≤ s * X ∧ s * X ≤ 1000000 := by rcases h with rfl | rfl <;> omega
/-- The numbers that a round reckons with are small, and the round keeps the rows. -/
theorem rows_step {a b : Nat} {r0 x0 y0 r1 x1 y1 : Int} (ha : a ≤ 1000000) (hb : b ≤ 1000000) (h : Rows a b r0 x0 y0 r1 x1 y1) (hr : r1 ≠ 0) :
    (0 ≤ r0 ∧ r0 ≤ 1000000 ∧ 0 < r1 ∧ r1 ≤ 1000000 ∧ -1000000 ≤ x0 ∧ x0 ≤ 1000000 ∧ -1000000 ≤ y0 ∧ y0 ≤ 1000000) ∧ (0 ≤ r0 / r1 ∧ r0 / r1 ≤ 1000000) ∧ (0 ≤ r0 / r1 * r1 ∧ r0 / r1 * r1 ≤ 1000000) ∧ (-1000000 ≤ r0 / r1 * x1 ∧ r0 / r1 * x1 ≤ 1000000) ∧ (-1000000 ≤ r0 / r1 * y1 ∧ r0 / r1 * y1 ≤ 1000000)
    ∧ (0 ≤ r0 - r0 / r1 * r1 ∧ r0 - r0 / r1 * r1 < r1) ∧ Rows a b r1 x1 y1 (r0 - r0 / r1 * r1) (x0 - r0 / r1 * x1) (y0 - r0 / r1 * y1) := by
  obtain ⟨s, X0, X1, Y0, Y1, R0, R1, hs, rfl, rfl, rfl, rfl, rfl, rfl, hX, hY, hpos, l0, l1, b0, b1, b2, b3, e0, e1, hd⟩ := h
  have hR1 : 0 < R1 := by omega
  have hq : ((R0 : Int) / (R1 : Int)) = ((R0 / R1 : Nat) : Int) := rfl
  have hdm := Nat.div_add_mod R0 R1
  have hml := Nat.mod_lt R0 hR1
  generalize hQ : R0 / R1 = q at *
  generalize hM : R0 % R1 = m at *
  rw [hq]
  have hqR : q * R1 ≤ R0 := by rw [Nat.mul_comm]; omega
  have hq1 : q ≤ R0 := Nat.le_trans (by have := Nat.mul_le_mul_left q hR1; omega) hqR
  have hX2 : R1 * (X0 + q * X1) + m * X1 = b := by
    rw [← hX, ← hdm]; rw [Nat.mul_add, Nat.add_mul, ← Nat.mul_assoc]; omega
  have hY2 : R1 * (Y0 + q * Y1) + m * Y1 = a := by
    rw [← hY, ← hdm]; rw [Nat.mul_add, Nat.add_mul, ← Nat.mul_assoc]; omega
  have hXb : X0 + q * X1 ≤ 1000000 := by have := Nat.mul_le_mul_right (X0 + q * X1) hR1; omega
  have hYb : Y0 + q * Y1 ≤ 1000000 := by have := Nat.mul_le_mul_right (Y0 + q * Y1) hR1; omega
  have hm : (R0 : Int) - (q : Int) * (R1 : Int) = (m : Int) := by rw [← hdm, Nat.mul_comm R1 q]; push_cast; omega
  have c0 := sgn_bd s X0 hs b0
  have c1 := sgn_bd s Y0 hs b2
  have c2 := sgn_bd s (q * X1) hs (by omega)
  have c3 := sgn_bd s (q * Y1) hs (by omega)
  have f1 : (q : Int) * -(s * (X1 : Int)) = -(s * ((q * X1 : Nat) : Int)) := by push_cast; rw [Int.mul_neg, Int.mul_left_comm]
  have f2 : (q : Int) * (s * (Y1 : Int)) = s * ((q * Y1 : Nat) : Int) := by push_cast; rw [Int.mul_left_comm]
  have f3 : ((q * R1 : Nat) : Int) = (q : Int) * (R1 : Int) := by push_cast; rfl
  refine ⟨⟨by omega, by omega, by omega, by omega, by omega, by omega, by omega, by omega⟩, ⟨by omega, by omega⟩, ⟨by omega, by omega⟩, ⟨by omega, by omega⟩, ⟨by omega, by omega⟩, ⟨by omega, by omega⟩, ?_⟩
  refine ⟨-s, X1, X0 + q * X1, Y1, Y0 + q * Y1, R1, m, by omega, rfl, hm, by rw [Int.neg_mul], ?_, by rw [Int.neg_mul, Int.neg_neg], ?_, hX2, hY2, .inl hR1, l1, by omega, b1, hXb, b3, hYb, e1, ?_, fun d h1 h2 => hd d ?_ h1⟩
  · rw [f1]; push_cast; rw [Int.neg_mul, Int.neg_neg, Int.mul_add]; omega
  · rw [f2]; push_cast; rw [Int.neg_mul, Int.mul_add, Int.neg_add]; omega
  · rw [← e0, ← e1]; grind
  · rw [← hdm]; exact (Nat.dvd_add_right (Nat.dvd_mul_right_of_dvd h1 q)).2 h2
theorem rows_end {a b : Nat} {r0 x0 y0 x1 y1 : Int} (h : Rows a b r0 x0 y0 0 x1 y1) : 1 ≤ r0 ∧ r0 ≤ 1000000 ∧ (-1000000 ≤ x0 ∧ x0 ≤ 1000000) ∧ (-1000000 ≤ y0 ∧ y0 ≤ 1000000) ∧ x0 * a + y0 * b = r0 ∧ (a : Int) % r0 = 0 ∧ (b : Int) % r0 = 0 := by
  obtain ⟨s, X0, X1, Y0, Y1, R0, R1, hs, rfl, h1, rfl, rfl, rfl, rfl, hX, hY, hpos, l0, l1, b0, b1, b2, b3, e0, e1, hd⟩ := h
  obtain rfl : R1 = 0 := by omega
  have c0 := sgn_bd s X0 hs b0
  have c1 := sgn_bd s Y0 hs b2
  have := hd R0 (Nat.dvd_refl _) (Nat.dvd_zero _)
  refine ⟨by omega, by omega, by omega, by omega, e0, ?_, ?_⟩
  · have := Nat.mod_eq_zero_of_dvd this.1; omega
  · have := Nat.mod_eq_zero_of_dvd this.2; omega
end Go.Proofs.Ytbljmgmpmmajeab.Num
