/-
  Arithmetic modulo a prime, further plain facts: Legendre symbols, least roots, orders, the first generator, and the rows of the extended Euclidean algorithm.
-/

namespace Go.Proofs.YtfoclgijhkibeabDoor.Num
set_option linter.unusedVariables false
theorem beq_no (a b : Nat) : (Nat.beq a b = false) = (a ≠ b) := by
  apply propext; constructor
  · intro h e; have k : Nat.beq a b = true := by rw [Nat.beq_eq]; exact e
    rw [k] at h; cases h
  · intro h; cases e : Nat.beq a b with
    | false => rfl
    | true => rw [Nat.beq_eq] at e; exact absurd e h

/-- n is a prime: no number from 2 to 100 whose square is at most n divides it (for n to 10200). -/
def prB (n : Nat) : Bool := Nat.ble 2 n && (List.range 101).all fun d => Nat.ble d 1 || Nat.blt n (d * d) || !Nat.beq (n % d) 0
theorem prB_iff (n : Nat) (hn : n ≤ 10200) : prB n = true ↔ 2 ≤ n ∧ ∀ d, 2 ≤ d → d * d ≤ n → n % d ≠ 0 := by
  unfold prB
  simp only [Bool.and_eq_true, Nat.ble_eq, List.all_eq_true, List.mem_range, Bool.or_eq_true, Bool.not_eq_true', beq_no, Nat.blt_eq]
  constructor
  · rintro ⟨h2, h⟩
    refine ⟨h2, fun d hd hdd => ?_⟩
    have : d < 101 := by
      rcases Nat.lt_or_ge d 101 with h | h
      · exact h
      · have := Nat.mul_le_mul h h; omega
    rcases h d this with (h' | h') | h'
    · omega
    · omega
    · exact h'
  · rintro ⟨h2, h⟩
    refine ⟨h2, fun d hd => ?_⟩
    by_cases h1 : d ≤ 1
    · exact .inl (.inl h1)
    by_cases h3 : n < d * d
    · exact .inl (.inr h3)
    · exact .inr (h d (by omega) (by omega))

/-- g has the order p - 1: no lesser divisor of p - 1 has the power 1. -/
def genB (p g : Nat) : Bool := Nat.beq (Nat.pow g (p - 1) % p) 1 && (List.range 101).all fun d => Nat.beq d 0 || !Nat.beq ((p - 1) % d) 0 || ((Nat.ble d 1 || !Nat.beq (Nat.pow g ((p - 1) / d) % p) 1) && (Nat.ble (p - 1) d || !Nat.beq (Nat.pow g d % p) 1))
def allB (n : Nat) : Bool := (List.range n).all fun p => Nat.ble p 2 || !prB p || (List.range 32).any fun g => Nat.ble 1 g && Nat.blt g p && genB p g
set_option maxRecDepth 1000000 in
theorem all_gen : allB 10008 = true := by decide +kernel
theorem gen_of (p : Nat) (hp : prB p = true) (h3 : 3 ≤ p) (hm : p ≤ 10007) : ∃ g, 1 ≤ g ∧ g < p ∧ genB p g = true := by
  have h := all_gen
  unfold allB at h
  rw [List.all_eq_true] at h
  have h := h p (List.mem_range.2 (by omega))
  simp only [Bool.or_eq_true, Nat.ble_eq, Bool.not_eq_true', List.any_eq_true, Bool.and_eq_true, Nat.blt_eq] at h
  rcases h with (h | h) | ⟨g, _, ⟨h1, h2⟩, h4⟩
  · omega
  · rw [hp] at h; cases h
  · exact ⟨g, h1, h2, h4⟩

theorem pow_mod' (a k p : Nat) : (a % p) ^ k % p = a ^ k % p := (Nat.pow_mod a k p).symm
/-- The powers of a number that is a unit: the least exponent above 0 with the power 1 divides every other. -/
theorem least_of {Q : Nat → Prop} (n : Nat) (h : Q n) : ∃ m, m ≤ n ∧ Q m ∧ ∀ j, j < m → ¬ Q j := by
  induction n using Nat.strongRecOn with
  | _ n ih =>
    by_cases hx : ∃ j, j < n ∧ Q j
    · obtain ⟨j, hj, hq⟩ := hx
      obtain ⟨m, h1, h2, h3⟩ := ih j hj hq
      exact ⟨m, by omega, h2, h3⟩
    · exact ⟨n, Nat.le_refl _, h, fun j hj hq => hx ⟨j, hj, hq⟩⟩
theorem pow_mul_one (a o q p : Nat) (hp : 2 ≤ p) (h : a ^ o % p = 1) : a ^ (o * q) % p = 1 := by
  rw [Nat.pow_mul, Nat.pow_mod, h, Nat.one_pow]
  exact Nat.mod_eq_of_lt (by omega)
theorem pow_rem (a o k p : Nat) (hp : 2 ≤ p) (h : a ^ o % p = 1) : a ^ k % p = a ^ (k % o) % p := by
  have e : k = o * (k / o) + k % o := (Nat.div_add_mod k o).symm
  have e2 : a ^ k = a ^ (o * (k / o)) * a ^ (k % o) := by rw [← Nat.pow_add, ← e]
  rw [e2, Nat.mul_mod, pow_mul_one a o _ p hp h, Nat.one_mul, Nat.mod_mod]
theorem order_dvd (a o k p : Nat) (hp : 2 ≤ p) (ho : 0 < o) (h : a ^ o % p = 1) (hl : ∀ j, 0 < j → j < o → a ^ j % p ≠ 1) (hk : a ^ k % p = 1) : k % o = 0 := by
  rw [pow_rem a o k p hp h] at hk
  rcases Nat.eq_zero_or_pos (k % o) with h0 | h0
  · exact h0
  · exact absurd hk (hl _ h0 (Nat.mod_lt _ ho))
/-- The least exponent above 0. -/
theorem order_ex (a k p : Nat) (hk : 0 < k) (h : a ^ k % p = 1) : ∃ o, 0 < o ∧ o ≤ k ∧ a ^ o % p = 1 ∧ ∀ j, 0 < j → j < o → a ^ j % p ≠ 1 := by
  obtain ⟨o, h1, ⟨h2, h3⟩, h4⟩ := least_of (Q := fun j => 0 < j ∧ a ^ j % p = 1) k ⟨hk, h⟩
  exact ⟨o, h2, h1, h3, fun j hj hjo hc => h4 j hjo ⟨hj, hc⟩⟩

structure Gen (p g : Nat) : Prop where
  one : 1 ≤ g
  lt : g < p
  full : g ^ (p - 1) % p = 1
  least : ∀ k, 0 < k → k < p - 1 → g ^ k % p ≠ 1
theorem gen_full (p g : Nat) (h3 : 3 ≤ p) (hm : p ≤ 10007) (h1 : 1 ≤ g) (h2 : g < p) (h : genB p g = true) : Gen p g := by
  unfold genB at h
  simp only [Bool.and_eq_true, Nat.beq_eq, List.all_eq_true, List.mem_range, Bool.or_eq_true, Bool.not_eq_true', beq_no, Nat.ble_eq] at h
  obtain ⟨hf, hd⟩ := h
  have hf : g ^ (p - 1) % p = 1 := hf
  refine ⟨h1, h2, hf, fun k hk hkp hc => ?_⟩
  obtain ⟨o, ho, hok, h1o, hlo⟩ := order_ex g k p hk hc
  have hdv := order_dvd g o (p - 1) p (by omega) ho h1o hlo hf
  have hob : o * ((p - 1) / o) = p - 1 := by have := Nat.div_add_mod (p - 1) o; omega
  by_cases hs : o < 101
  · rcases hd o hs with (h | h) | ⟨_, h⟩
    · omega
    · omega
    · rcases h with h | h
      · omega
      · exact h h1o
  · have hc1 : (p - 1) / o < 101 := by
      rcases Nat.lt_or_ge ((p - 1) / o) 101 with h | h
      · exact h
      · have := Nat.mul_le_mul (Nat.le_of_not_lt hs) h; omega
    have hc2 : 2 ≤ (p - 1) / o := by
      rcases Nat.lt_or_ge ((p - 1) / o) 2 with h | h
      · have : o * ((p - 1) / o) ≤ o * 1 := Nat.mul_le_mul_left _ (by omega)
        omega
      · exact h
    have hm0 : (p - 1) % ((p - 1) / o) = 0 := by
      have : p - 1 = (p - 1) / o * o := by rw [Nat.mul_comm]; exact hob.symm
      conv => lhs; lhs; rw [this]
      exact Nat.mul_mod_right _ _
    have hq : (p - 1) / ((p - 1) / o) = o := by
      have : p - 1 = o * ((p - 1) / o) := hob.symm
      conv => lhs; lhs; rw [this]
      exact Nat.mul_div_cancel _ (by omega)
    rcases hd _ hc1 with (h | h) | ⟨h, _⟩
    · omega
    · exact h hm0
    · rcases h with h | h
      · omega
      · rw [hq] at h; exact h h1o
theorem gen_ex (p : Nat) (hp : prB p = true) (h3 : 3 ≤ p) (hm : p ≤ 10007) : ∃ g, Gen p g := by
  obtain ⟨g, h1, h2, h⟩ := gen_of p hp h3 hm
  exact ⟨g, gen_full p g h3 hm h1 h2 h⟩

/-- n different values below n are all of them. -/
theorem pigeon : ∀ (n : Nat) (f : Nat → Nat), (∀ i, i < n → f i < n) → (∀ i j, i < n → j < n → f i = f j → i = j) → ∀ y, y < n → ∃ i, i < n ∧ f i = y := by
  intro n
  induction n with
  | zero => intro f _ _ y hy; omega
  | succ n ih =>
    intro f hf hi y hy
    -- swap so that the last value is n
    by_cases hx : ∃ i, i < n + 1 ∧ f i = n
    · obtain ⟨i0, hi0, e0⟩ := hx
      let g : Nat → Nat := fun i => if i = i0 then f n else f i
      have hg : ∀ i, i < n → g i < n := by
        intro i hin
        have h1 : g i < n + 1 := by
          dsimp [g]; split
          · exact hf n (by omega)
          · exact hf i (by omega)
        have h2 : g i ≠ n := by
          dsimp [g]; split
          · rename_i h; intro hc
            have := hi n i0 (by omega) hi0 (by rw [hc, e0]); omega
          · rename_i h; intro hc
            exact h (hi i i0 (by omega) hi0 (by rw [hc, e0]))
        omega
      have hgi : ∀ i j, i < n → j < n → g i = g j → i = j := by
        intro i j hin hjn hij
        dsimp [g] at hij
        split at hij <;> split at hij
        · omega
        · have := hi n j (by omega) (by omega) hij; omega
        · have := hi i n (by omega) (by omega) hij; omega
        · exact hi i j (by omega) (by omega) hij
      rcases Nat.lt_or_ge y n with h | h
      · obtain ⟨i, hin, hiy⟩ := ih g hg hgi y h
        dsimp [g] at hiy
        split at hiy
        · exact ⟨n, by omega, hiy⟩
        · exact ⟨i, by omega, hiy⟩
      · exact ⟨i0, hi0, by omega⟩
    · exfalso
      have hg : ∀ i, i < n + 1 → f i < n := by
        intro i h
        have := hf i h
        have h2 : f i ≠ n := fun hc => hx ⟨i, h, hc⟩
        omega
      obtain ⟨i, hin, hfi⟩ := ih f (fun i h => hg i (by omega)) (fun i j a b c => hi i j (by omega) (by omega) c) (f n) (hg n (by omega))
      have := hi i n (by omega) (by omega) hfi
      omega

section
variable {p g : Nat}
theorem Gen.inv (h : Gen p g) (h3 : 3 ≤ p) (i : Nat) (hi : i ≤ p - 1) : g ^ i % p * (g ^ (p - 1 - i) % p) % p = 1 := by
  rw [← Nat.mul_mod, ← Nat.pow_add, show i + (p - 1 - i) = p - 1 by omega]; exact h.full
theorem Gen.ne0 (h : Gen p g) (h3 : 3 ≤ p) (i : Nat) : g ^ i % p ≠ 0 := by
  intro hc
  rw [pow_rem g (p - 1) i p (by omega) h.full] at hc
  have := h.inv h3 (i % (p - 1)) (Nat.le_of_lt (Nat.mod_lt _ (by omega)))
  rw [hc, Nat.zero_mul, Nat.zero_mod] at this
  omega
theorem Gen.inj (h : Gen p g) (h3 : 3 ≤ p) (i j : Nat) (hij : i < j) (hj : j < p - 1) : g ^ i % p ≠ g ^ j % p := by
  intro hc
  have h1 := h.inv h3 i (by omega)
  rw [hc, ← Nat.mul_mod, ← Nat.pow_add, show j + (p - 1 - i) = (p - 1) * 1 + (j - i) by omega, Nat.pow_add, Nat.mul_mod, pow_mul_one g (p - 1) 1 p (by omega) h.full, Nat.one_mul, Nat.mod_mod] at h1
  exact h.least (j - i) (by omega) (by omega) h1
/-- Every number but 0 is a power of the generator. -/
theorem Gen.log (h : Gen p g) (h3 : 3 ≤ p) (a : Nat) (ha : 0 < a) (hap : a < p) : ∃ i, i < p - 1 ∧ g ^ i % p = a := by
  obtain ⟨i, hi, he⟩ := pigeon (p - 1) (fun i => g ^ i % p - 1)
    (fun i hi => by have := h.ne0 h3 i; have := Nat.mod_lt (g ^ i) (show p > 0 by omega); omega)
    (fun i j hi hj e => by
      have h1 := h.ne0 h3 i; have h2 := h.ne0 h3 j
      have e : g ^ i % p = g ^ j % p := by omega
      rcases Nat.lt_trichotomy i j with k | k | k
      · exact absurd e (h.inj h3 i j k hj)
      · exact k
      · exact absurd e.symm (h.inj h3 j i k hi))
    (a - 1) (by omega)
  exact ⟨i, hi, by have := h.ne0 h3 i; omega⟩
theorem Gen.dvd (h : Gen p g) (h3 : 3 ≤ p) (k : Nat) (hk : g ^ k % p = 1) : k % (p - 1) = 0 := order_dvd g (p - 1) k p (by omega) (by omega) h.full h.least hk
end

/-- A prime from 3 to 10007. -/
structure Pr (p : Nat) : Prop where
  pr : prB p = true
  ge : 3 ≤ p
  le : p ≤ 10007

section
variable {p : Nat} (hp : Pr p)
include hp
theorem fermat (a : Nat) (ha : 0 < a) (hap : a < p) : a ^ (p - 1) % p = 1 := by
  obtain ⟨g, hg⟩ := gen_ex p hp.pr hp.ge hp.le
  obtain ⟨i, hi, rfl⟩ := hg.log hp.ge a ha hap
  have := hp.ge
  rw [pow_mod', ← Nat.pow_mul, Nat.mul_comm]
  exact pow_mul_one g (p - 1) i p (by omega) hg.full
theorem prod_ne0 (a b : Nat) (ha : 0 < a) (hap : a < p) (hb : 0 < b) (hbp : b < p) : a * b % p ≠ 0 := by
  obtain ⟨g, hg⟩ := gen_ex p hp.pr hp.ge hp.le
  obtain ⟨i, hi, rfl⟩ := hg.log hp.ge a ha hap
  obtain ⟨j, hj, rfl⟩ := hg.log hp.ge b hb hbp
  rw [← Nat.mul_mod, ← Nat.pow_add]
  exact hg.ne0 hp.ge _
theorem sq_minus : (p - 1) * (p - 1) % p = 1 := by
  have := hp.ge
  obtain ⟨q, rfl⟩ : ∃ q, p = q + 1 := ⟨p - 1, by omega⟩
  obtain ⟨r, rfl⟩ : ∃ r, q = r + 1 := ⟨q - 1, by omega⟩
  have e : (r + 1 + 1 - 1) * (r + 1 + 1 - 1) = (r + 1 + 1) * r + 1 := by
    show (r + 1) * (r + 1) = _
    rw [Nat.add_mul, Nat.mul_add]; rw [Nat.add_mul, Nat.add_mul]; omega
  rw [e, Nat.mul_add_mod]
  exact Nat.mod_eq_of_lt (by omega)
theorem odd : p % 2 = 1 := by
  have h3 := hp.ge
  have := (prB_iff p (by have := hp.le; omega)).1 hp.pr
  have h2 := this.2 2 (Nat.le_refl _)
  by_cases h4 : 4 ≤ p
  · have := h2 (by omega); omega
  · have : p = 3 := by omega
    subst this; rfl
/-- A square root of 1 is 1 or -1. -/
theorem sq_one (x : Nat) (hx : x < p) (h : x * x % p = 1) : x = 1 ∨ x = p - 1 := by
  have h3 := hp.ge
  obtain ⟨g, hg⟩ := gen_ex p hp.pr hp.ge hp.le
  have root : ∀ y, y < p → y * y % p = 1 → y = 1 ∨ y = g ^ ((p - 1) / 2) % p := by
    intro y hy hyy
    have hy0 : 0 < y := by
      rcases Nat.eq_zero_or_pos y with h0 | h0
      · subst h0; simp at hyy
      · exact h0
    obtain ⟨i, hi, rfl⟩ := hg.log h3 y hy0 hy
    rw [← Nat.mul_mod, ← Nat.pow_add] at hyy
    have hd := hg.dvd h3 _ hyy
    by_cases hz : i = 0
    · left; subst hz; simp; exact Nat.mod_eq_of_lt (by omega)
    · right
      have : i + i = p - 1 := by
        by_cases hlt : i + i < p - 1
        · rw [Nat.mod_eq_of_lt hlt] at hd; omega
        · have e : (i + i) % (p - 1) = i + i - (p - 1) := by
            rw [Nat.mod_eq_sub_mod (by omega)]; exact Nat.mod_eq_of_lt (by omega)
          omega
      rw [show (p - 1) / 2 = i by omega]
  rcases root x hx h with h1 | h1
  · exact .inl h1
  · rcases root (p - 1) (by omega) (sq_minus hp) with h2 | h2
    · omega
    · exact .inr (h1.trans h2.symm)
theorem half_sq (a : Nat) (ha : 0 < a) (hap : a < p) : a ^ ((p - 1) / 2) % p = 1 ∨ a ^ ((p - 1) / 2) % p = p - 1 := by
  have h3 := hp.ge; have ho := odd hp
  refine sq_one hp _ (Nat.mod_lt _ (by omega)) ?_
  rw [← Nat.mul_mod, ← Nat.pow_add, show (p - 1) / 2 + (p - 1) / 2 = p - 1 by omega]
  exact fermat hp a ha hap
/-- Euler: the half power is 1 just where there is a root. -/
theorem euler (a : Nat) (ha : 0 < a) (hap : a < p) : a ^ ((p - 1) / 2) % p = 1 ↔ ∃ x, x < p ∧ x * x % p = a := by
  have h3 := hp.ge; have ho := odd hp
  constructor
  · intro h
    obtain ⟨g, hg⟩ := gen_ex p hp.pr hp.ge hp.le
    obtain ⟨i, hi, rfl⟩ := hg.log h3 a ha hap
    rw [pow_mod', ← Nat.pow_mul] at h
    have hd := hg.dvd h3 _ h
    have he : i % 2 = 0 := by
      obtain ⟨m, hm⟩ : ∃ m, p - 1 = 2 * m := ⟨(p - 1) / 2, by omega⟩
      rw [hm] at hd
      have hm2 : 2 * m / 2 = m := by omega
      rw [hm2, Nat.mul_mod_mul_right] at hd
      rcases Nat.eq_zero_or_pos (i % 2) with q | q
      · exact q
      · have : i % 2 = 1 := by omega
        rw [this] at hd; omega
    refine ⟨g ^ (i / 2) % p, Nat.mod_lt _ (by omega), ?_⟩
    rw [← Nat.mul_mod, ← Nat.pow_add, show i / 2 + i / 2 = i by omega]
  · rintro ⟨x, hx, rfl⟩
    have hx0 : 0 < x := by
      rcases Nat.eq_zero_or_pos x with h0 | h0
      · subst h0; simp at ha
      · exact h0
    rw [pow_mod', ← Nat.pow_two, ← Nat.pow_mul, show 2 * ((p - 1) / 2) = p - 1 by omega]
    exact fermat hp x hx0 hx
end
end Go.Proofs.YtfoclgijhkibeabDoor.Num

namespace Go.Proofs.YtfoclgijhkibeabDoor.Num
set_option linter.unusedVariables false

/-- The Legendre symbol. -/
def kind (a p : Nat) : Int := if a ^ ((p - 1) / 2) % p = 0 then 0 else if a ^ ((p - 1) / 2) % p = 1 then 1 else -1
theorem zero_half {p : Nat} (hp : Pr p) : 0 ^ ((p - 1) / 2) % p = 0 := by
  have := hp.ge
  rw [Nat.zero_pow (by omega)]; exact Nat.zero_mod _
theorem half_cases {p : Nat} (hp : Pr p) (a : Nat) (hap : a < p) : (a = 0 ∧ a ^ ((p - 1) / 2) % p = 0 ∧ kind a p = 0) ∨ (0 < a ∧ a ^ ((p - 1) / 2) % p = 1 ∧ kind a p = 1) ∨ (0 < a ∧ a ^ ((p - 1) / 2) % p = p - 1 ∧ kind a p = -1) := by
  have h3 := hp.ge
  rcases Nat.eq_zero_or_pos a with h0 | h0
  · subst h0
    have := zero_half hp
    exact .inl ⟨rfl, this, by unfold kind; rw [if_pos this]⟩
  · rcases half_sq hp a h0 hap with h | h
    · exact .inr (.inl ⟨h0, h, by unfold kind; rw [h]; rfl⟩)
    · refine .inr (.inr ⟨h0, h, ?_⟩)
      unfold kind; rw [h, if_neg (by omega), if_neg (by omega)]
theorem kind_mul {p : Nat} (hp : Pr p) (a b : Nat) (hap : a < p) (hbp : b < p) : kind (a * b % p) p = kind a p * kind b p := by
  have h3 := hp.ge
  have hab := half_cases hp (a * b % p) (Nat.mod_lt _ (by omega))
  have hm : (a * b % p) ^ ((p - 1) / 2) % p = (a ^ ((p - 1) / 2) % p) * (b ^ ((p - 1) / 2) % p) % p := by
    rw [pow_mod', Nat.mul_pow, Nat.mul_mod]
  have one : 1 % p = 1 := Nat.mod_eq_of_lt (by omega)
  have lt : (p - 1) % p = p - 1 := Nat.mod_eq_of_lt (by omega)
  rcases half_cases hp a hap with ⟨_, ha, ka⟩ | ⟨_, ha, ka⟩ | ⟨_, ha, ka⟩ <;> rcases half_cases hp b hbp with ⟨_, hb, kb⟩ | ⟨_, hb, kb⟩ | ⟨_, hb, kb⟩ <;>
    rw [ha, hb] at hm <;> simp only [Nat.zero_mul, Nat.mul_zero, Nat.zero_mod, Nat.one_mul, Nat.mul_one, one, lt, sq_minus hp] at hm <;> rw [ka, kb] <;>
    rcases hab with ⟨_, h, k⟩ | ⟨_, h, k⟩ | ⟨_, h, k⟩ <;> first | (rw [k]; rfl) | omega

/-- The least root of a, if there is one. -/
def isRoot (a p x : Nat) : Prop := x * x % p = a
theorem other_root (p x : Nat) (hx : x < p) : (p - x) * (p - x) % p = x * x % p := by
  obtain ⟨y, rfl⟩ : ∃ y, p = x + y := ⟨p - x, by omega⟩
  have e : x + y - x = y := by omega
  rw [e]
  have h1 : y * y + x * (x + y) = x * x + y * (x + y) := by
    rw [Nat.mul_add, Nat.mul_add, Nat.mul_comm y x]; omega
  have h2 := congrArg (· % (x + y)) h1
  simpa [Nat.add_mul_mod_self_right] using h2
theorem root_low {p : Nat} (hp : Pr p) (a : Nat) (h : ∃ x, x < p ∧ x * x % p = a) : ∃ x, x < (p + 1) / 2 ∧ x * x % p = a ∧ ∀ y, y < x → y * y % p ≠ a := by
  have h3 := hp.ge; have ho := odd hp
  obtain ⟨x, hx, e⟩ := h
  obtain ⟨m, hm, he, hl⟩ := least_of (Q := fun x => x * x % p = a) x e
  refine ⟨m, ?_, he, hl⟩
  rcases Nat.lt_or_ge m ((p + 1) / 2) with h | h
  · exact h
  · exfalso
    exact hl (p - m) (by omega) (by rw [other_root p m (by omega)]; exact he)
theorem kind_root {p : Nat} (hp : Pr p) (a : Nat) (hap : a < p) : 0 ≤ kind a p ↔ ∃ x, x < p ∧ x * x % p = a := by
  have h3 := hp.ge
  rcases half_cases hp a hap with ⟨h0, ha, ka⟩ | ⟨h0, ha, ka⟩ | ⟨h0, ha, ka⟩
  · rw [ka]; subst h0; exact ⟨fun _ => ⟨0, by omega, Nat.zero_mod _⟩, fun _ => by omega⟩
  · rw [ka]; exact ⟨fun _ => (euler hp a h0 hap).1 ha, fun _ => by omega⟩
  · rw [ka]; exact ⟨fun h => by omega, fun h => by have := (euler hp a h0 hap).2 h; omega⟩

/-- o is the order of a modulo p. -/
structure Ord (a p o : Nat) : Prop where
  pos : 0 < o
  one : a ^ o % p = 1
  least : ∀ j, 0 < j → j < o → a ^ j % p ≠ 1
theorem ord_ex {p : Nat} (hp : Pr p) (a : Nat) (ha : 0 < a) (hap : a < p) : ∃ o, Ord a p o ∧ o ≤ p - 1 ∧ (p - 1) % o = 0 := by
  have h3 := hp.ge
  obtain ⟨o, h1, h2, h4, h5⟩ := order_ex a (p - 1) p (by omega) (fermat hp a ha hap)
  exact ⟨o, ⟨h1, h4, h5⟩, h2, order_dvd a o (p - 1) p (by omega) h1 h4 h5 (fermat hp a ha hap)⟩
theorem Ord.uniq {a p o o' : Nat} (h : Ord a p o) (k : Ord a p o') : o = o' := by
  rcases Nat.lt_trichotomy o o' with q | q | q
  · exact absurd h.one (k.least o h.pos q)
  · exact q
  · exact absurd k.one (h.least o' k.pos q)
/-- A number whose power is 1, and no proper part of it, is the order. -/
theorem ord_of_parts {p : Nat} (hp : 2 ≤ p) (a n : Nat) (hn : 0 < n) (h1 : a ^ n % p = 1) (h : ∀ d, 2 ≤ d → d ≤ n → n % d = 0 → a ^ (n / d) % p ≠ 1) : Ord a p n := by
  obtain ⟨o, h2, h3, h4, h5⟩ := order_ex a n p hn h1
  have hd := order_dvd a o n p hp h2 h4 h5 h1
  have hob : o * (n / o) = n := by have := Nat.div_add_mod n o; omega
  by_cases he : n / o = 1
  · rw [he, Nat.mul_one] at hob; subst hob; exact ⟨h2, h4, h5⟩
  · exfalso
    have h0 : n / o ≠ 0 := by intro hc; rw [hc] at hob; omega
    have hle : n / o ≤ n := Nat.div_le_self _ _
    have hm0 : n % (n / o) = 0 := by
      have : n = n / o * o := by rw [Nat.mul_comm]; exact hob.symm
      conv => lhs; lhs; rw [this]
      exact Nat.mul_mod_right _ _
    have hq : n / (n / o) = o := by
      have : n = o * (n / o) := hob.symm
      conv => lhs; lhs; rw [this]
      exact Nat.mul_div_cancel _ (Nat.pos_of_ne_zero h0)
    have h2 : 2 ≤ n / o := by
      have key : ∀ z : Nat, z ≠ 0 → ¬ z = 1 → 2 ≤ z := by intro z h1 h2; omega
      exact key _ h0 he
    have := h (n / o) h2 hle hm0
    rw [hq] at this
    exact this h4
/-- The first generator. -/
theorem first_ex {p : Nat} (hp : Pr p) : ∃ g, 1 ≤ g ∧ g < p ∧ Ord g p (p - 1) ∧ ∀ j, 1 ≤ j → j < g → ¬ Ord j p (p - 1) := by
  have h3 := hp.ge
  obtain ⟨g, hg⟩ := gen_ex p hp.pr hp.ge hp.le
  have ho : Ord g p (p - 1) := ⟨by omega, hg.full, hg.least⟩
  obtain ⟨m, h1, ⟨h2, h4⟩, h5⟩ := least_of (Q := fun x => 1 ≤ x ∧ Ord x p (p - 1)) g ⟨hg.one, ho⟩
  exact ⟨m, h2, by have := hg.lt; omega, h4, fun j hj hjm hc => h5 j hjm ⟨hj, hc⟩⟩

/-- A row of the Euclidean algorithm and the algorithm itself, with fuel. -/
def eu : Nat → Int → Int → Int → Int → Int → Int → Int × Int × Int
  | 0, r0, x0, y0, _, _, _ => (r0, x0, y0)
  | n + 1, r0, x0, y0, r1, x1, y1 => if r1 = 0 then (r0, x0, y0) else eu n r1 x1 y1 (r0 - r0 / r1 * r1) (x0 - r0 / r1 * x1) (y0 - r0 / r1 * y1)
theorem eu_end (n : Nat) (r0 x0 y0 x1 y1 : Int) : eu n r0 x0 y0 0 x1 y1 = (r0, x0, y0) := by cases n <;> simp [eu]
theorem eu_step (n : Nat) (r0 x0 y0 r1 x1 y1 : Int) (h : r1 ≠ 0) : eu (n + 1) r0 x0 y0 r1 x1 y1 = eu n r1 x1 y1 (r0 - r0 / r1 * r1) (x0 - r0 / r1 * x1) (y0 - r0 / r1 * y1) := by simp [eu, h]
/-- What the rows keep: the sums, the bounds and the common divisors. -/
def Rows (a b : Nat) (r0 x0 y0 r1 x1 y1 : Int) : Prop :=
  ∃ (s : Int) (X0 X1 Y0 Y1 R0 R1 : Nat), (s = 1 ∨ s = -1) ∧ r0 = R0 ∧ r1 = R1 ∧ x0 = s * X0 ∧ x1 = -(s * X1) ∧ y0 = -(s * Y0) ∧ y1 = s * Y1 ∧ R0 * X1 + R1 * X0 = b ∧ R0 * Y1 + R1 * Y0 = a ∧ (0 < R0 ∨ 0 < R1) ∧ R0 ≤ 1000000 ∧ R1 ≤ 1000000 ∧
    X0 ≤ 1000000 ∧ X1 ≤ 1000000 ∧ Y0 ≤ 1000000 ∧ Y1 ≤ 1000000 ∧ (x0 * a + y0 * b = r0) ∧ (x1 * a + y1 * b = r1) ∧ ∀ d : Nat, d ∣ R0 → d ∣ R1 → d ∣ a ∧ d ∣ b
theorem rows_start (a b : Nat) (ha : a ≤ 1000000) (hb : b ≤ 1000000) (h : 0 < a ∨ 0 < b) : Rows a b a 1 0 b 0 1 :=
  ⟨1, 1, 0, 0, 1, a, b, .inl rfl, rfl, rfl, rfl, rfl, rfl, rfl, by omega, by omega, h, ha, hb, by omega, by omega, by omega, by omega, by omega, by omega, fun d h1 h2 => ⟨h1, h2⟩⟩
theorem sgn_bd (s : Int) (X : Nat) (h : s = 1 ∨ s = -1) (hX : X ≤ 1000000) : -1000000 ≤ s * X ∧ s * X ≤ 1000000 := by rcases h with rfl | rfl <;> omega
/-- The numbers that a round reckons with are small, and the round keeps the rows. -/
theorem rows_step {a b : Nat} {r0 x0 y0 r1 x1 y1 : Int} (ha : a ≤ 1000000) (hb : b ≤ 1000000) (h : Rows a b r0 x0 y0 r1 x1 y1) (hr : r1 ≠ 0) :
    (0 ≤ r0 ∧ r0 ≤ 1000000 ∧ 0 < r1 ∧ r1 ≤ 1000000 ∧ -1000000 ≤ x0 ∧ x0 ≤ 1000000 ∧ -1000000 ≤ y0 ∧ y0 ≤ 1000000) ∧ (0 ≤ r0 / r1 ∧ r0 / r1 ≤ 1000000) ∧ (0 ≤ r0 / r1 * r1 ∧ r0 / r1 * r1 ≤ 1000000) ∧ (-1000000 ≤ r0 / r1 * x1 ∧ r0 / r1 * x1 ≤ 1000000) ∧ (-1000000 ≤ r0 / r1 * y1 ∧ r0 / r1 * y1 ≤ 1000000)
    ∧ (0 ≤ r0 - r0 / r1 * r1 ∧ r0 - r0 / r1 * r1 < r1) ∧ Rows a b r1 x1 y1 (r0 - r0 / r1 * r1) (x0 - r0 / r1 * x1) (y0 - r0 / r1 * y1) := by
  obtain ⟨s, X0, X1, Y0, Y1, R0, R1, hs, rfl, rfl, rfl, rfl, rfl, rfl, hX, hY, hpos, l0, l1, b0, b1, b2, b3, e0, e1, hd⟩ := h
  have hR1 : 0 < R1 := by omega
  have hq : ((R0 : Int) / (R1 : Int)) = ((R0 / R1 : Nat) : Int) := rfl
  have hdm := Nat.div_add_mod R0 R1
  have hml := Nat.mod_lt R0 hR1
  generalize hQ : R0 / R1 = q at *
  generalize hM : R0 % R1 = m at *
  rw [hq]
  have hqR : q * R1 ≤ R0 := by rw [Nat.mul_comm]; omega
  have hq1 : q ≤ R0 := Nat.le_trans (by have := Nat.mul_le_mul_left q hR1; omega) hqR
  have hX2 : R1 * (X0 + q * X1) + m * X1 = b := by
    rw [← hX, ← hdm]; rw [Nat.mul_add, Nat.add_mul, ← Nat.mul_assoc]; omega
  have hY2 : R1 * (Y0 + q * Y1) + m * Y1 = a := by
    rw [← hY, ← hdm]; rw [Nat.mul_add, Nat.add_mul, ← Nat.mul_assoc]; omega
  have hXb : X0 + q * X1 ≤ 1000000 := by have := Nat.mul_le_mul_right (X0 + q * X1) hR1; omega
  have hYb : Y0 + q * Y1 ≤ 1000000 := by have := Nat.mul_le_mul_right (Y0 + q * Y1) hR1; omega
  have hm : (R0 : Int) - (q : Int) * (R1 : Int) = (m : Int) := by rw [← hdm, Nat.mul_comm R1 q]; push_cast; omega
  have c0 := sgn_bd s X0 hs b0
  have c1 := sgn_bd s Y0 hs b2
  have c2 := sgn_bd s (q * X1) hs (by omega)
  have c3 := sgn_bd s (q * Y1) hs (by omega)
  have f1 : (q : Int) * -(s * (X1 : Int)) = -(s * ((q * X1 : Nat) : Int)) := by push_cast; rw [Int.mul_neg, Int.mul_left_comm]
  have f2 : (q : Int) * (s * (Y1 : Int)) = s * ((q * Y1 : Nat) : Int) := by push_cast; rw [Int.mul_left_comm]
  have f3 : ((q * R1 : Nat) : Int) = (q : Int) * (R1 : Int) := by push_cast; rfl
  refine ⟨⟨by omega, by omega, by omega, by omega, by omega, by omega, by omega, by omega⟩, ⟨by omega, by omega⟩, ⟨by omega, by omega⟩, ⟨by omega, by omega⟩, ⟨by omega, by omega⟩, ⟨by omega, by omega⟩, ?_⟩
  refine ⟨-s, X1, X0 + q * X1, Y1, Y0 + q * Y1, R1, m, by omega, rfl, hm, by rw [Int.neg_mul], ?_, by rw [Int.neg_mul, Int.neg_neg], ?_, hX2, hY2, .inl hR1, l1, by omega, b1, hXb, b3, hYb, e1, ?_, fun d h1 h2 => hd d ?_ h1⟩
  · rw [f1]; push_cast; rw [Int.neg_mul, Int.neg_neg, Int.mul_add]; omega
  · rw [f2]; push_cast; rw [Int.neg_mul, Int.mul_add, Int.neg_add]; omega
  · rw [← e0, ← e1]; grind
  · rw [← hdm]; exact (Nat.dvd_add_right (Nat.dvd_mul_right_of_dvd h1 q)).2 h2
theorem rows_end {a b : Nat} {r0 x0 y0 x1 y1 : Int} (h : Rows a b r0 x0 y0 0 x1 y1) : 1 ≤ r0 ∧ r0 ≤ 1000000 ∧ (-1000000 ≤ x0 ∧ x0 ≤ 1000000) ∧ (-1000000 ≤ y0 ∧ y0 ≤ 1000000) ∧ x0 * a + y0 * b = r0 ∧ (a : Int) % r0 = 0 ∧ (b : Int) % r0 = 0 := by
  obtain ⟨s, X0, X1, Y0, Y1, R0, R1, hs, rfl, h1, rfl, rfl, rfl, rfl, hX, hY, hpos, l0, l1, b0, b1, b2, b3, e0, e1, hd⟩ := h
  obtain rfl : R1 = 0 := by omega
  have c0 := sgn_bd s X0 hs b0
  have c1 := sgn_bd s Y0 hs b2
  have := hd R0 (Nat.dvd_refl _) (Nat.dvd_zero _)
  refine ⟨by omega, by omega, by omega, by omega, e0, ?_, ?_⟩
  · have := Nat.mod_eq_zero_of_dvd this.1; omega
  · have := Nat.mod_eq_zero_of_dvd this.2; omega
end Go.Proofs.YtfoclgijhkibeabDoor.Num
