/-
  Multiples and orders of points of an Edwards curve, the number of its points, and the points with a given Y: plain facts, with no program in them.
-/
import Derived.Test.YtapdecmaaciaaaaEd
namespace Go.Proofs.Ytapdecmaaciaaaa.Grp
open Go.Proofs.Ytapdecmaaciaaaa.Num Go.Proofs.Ytapdecmaaciaaaa.Ed
set_option linter.unusedVariables false
set_option linter.unusedSectionVars false
set_option linter.unusedSimpArgs false
section
variable {p : Nat} [NeZero p]
/-- Multiples of a point. -/
def mu (d : Fin p) (a : Fin p × Fin p) : Nat → Fin p × Fin p
  | 0 => ze
  | k + 1 => ad d (mu d a k) a
theorem mu_on {d : Fin p} (hc : Cv p d) {a : Fin p × Fin p} (ha : onP d a) : ∀ k, onP d (mu d a k)
  | 0 => ze_on d
  | k + 1 => ad_on hc (mu_on hc ha k) ha
theorem ze_ad {d : Fin p} (hp : Pr p) (a : Fin p × Fin p) : ad d ze a = a := by rw [ad_comm, ad_ze hp]
theorem mu_one {d : Fin p} (hp : Pr p) (a : Fin p × Fin p) : mu d a 1 = a := ze_ad hp a
theorem mu_add {d : Fin p} (hc : Cv p d) {a : Fin p × Fin p} (ha : onP d a) (i : Nat) : ∀ j, mu d a (i + j) = ad d (mu d a i) (mu d a j)
  | 0 => (ad_ze hc.pr _).symm
  | j + 1 => by
    show ad d (mu d a (i + j)) a = ad d (mu d a i) (ad d (mu d a j) a)
    rw [mu_add hc ha i j, ad_assoc hc (mu_on hc ha i) (mu_on hc ha j) ha]
theorem ng_ad {d : Fin p} (hc : Cv p d) {a : Fin p × Fin p} (ha : onP d a) : ad d (ng a) a = ze := by rw [ad_comm, ad_ng hc ha]
theorem ad_left {d : Fin p} (hc : Cv p d) {a b c : Fin p × Fin p} (ha : onP d a) (hb : onP d b) (hk : onP d c) (h : ad d a b = ad d a c) : b = c := by
  have e := congrArg (ad d (ng a)) h
  rw [← ad_assoc hc (ng_on ha) ha hb, ← ad_assoc hc (ng_on ha) ha hk, ng_ad hc ha, ze_ad hc.pr, ze_ad hc.pr] at e
  exact e
theorem mu_cancel {d : Fin p} (hc : Cv p d) {a : Fin p × Fin p} (ha : onP d a) (i k : Nat) (h : mu d a (i + k) = mu d a i) : mu d a k = ze := by
  rw [mu_add hc ha] at h
  refine ad_left hc (mu_on hc ha i) (mu_on hc ha k) (ze_on d) ?_
  rw [h, ad_ze hc.pr]
theorem zero_off (h3 : 3 ≤ p) (d : Fin p) : ¬ onP d ((0 : Fin p), (0 : Fin p)) := by
  intro h
  unfold onP On at h
  exact one_ne h3 (by grind)
/-- The order of a point. -/
structure OrdP (d : Fin p) (a : Fin p × Fin p) (o : Nat) : Prop where
  pos : 0 < o
  eq : mu d a o = ze
  low : ∀ j, 0 < j → j < o → mu d a j ≠ ze
theorem ordP_ex {d : Fin p} (hc : Cv p d) {a : Fin p × Fin p} (ha : onP d a) : ∃ o, OrdP d a o ∧ o ≤ p * p := by
  have h3 := hc.pr.ge
  have hlt : ∀ i, i < p * p → (mu d a i).1.val * p + (mu d a i).2.val < p * p := by
    intro i _
    have h1 := (mu d a i).1.isLt
    have h2 := (mu d a i).2.isLt
    have : ((mu d a i).1.val + 1) * p ≤ p * p := Nat.mul_le_mul_right p h1
    rw [Nat.add_mul] at this
    omega
  have key : ∃ i j, i < j ∧ j < p * p ∧ mu d a j = mu d a i := by
    refine Classical.byContradiction fun hno => ?_
    have code : ∀ x y : Fin p × Fin p, x.1.val * p + x.2.val = y.1.val * p + y.2.val → x = y := by
      intro x y h
      have hx := x.2.isLt
      have hy := y.2.isLt
      have e2 : x.2.val = y.2.val := by
        have := congrArg (· % p) h
        simp only [Nat.mul_add_mod_self_right, Nat.add_comm, Nat.add_mul_mod_self_right] at this
        rwa [Nat.mod_eq_of_lt hx, Nat.mod_eq_of_lt hy] at this
      have e1 : x.1.val = y.1.val := by
        rw [e2] at h
        exact Nat.eq_of_mul_eq_mul_right (by omega) (Nat.add_right_cancel h)
      exact Prod.ext (Fin.ext e1) (Fin.ext e2)
    have inj : ∀ i j, i < p * p → j < p * p → (mu d a i).1.val * p + (mu d a i).2.val = (mu d a j).1.val * p + (mu d a j).2.val → i = j := by
      intro i j hi hj h
      have e := code _ _ h
      rcases Nat.lt_trichotomy i j with hl | hl | hl
      · exact absurd ⟨i, j, hl, hj, e.symm⟩ hno
      · exact hl
      · exact absurd ⟨j, i, hl, hi, e⟩ hno
    obtain ⟨i, _, hi⟩ := pigeon (p * p) (fun i => (mu d a i).1.val * p + (mu d a i).2.val) hlt inj 0 (Nat.mul_pos (by omega) (by omega))
    have h0 : mu d a i = ((0 : Fin p), (0 : Fin p)) := code _ _ (by rw [hi]; simp)
    exact zero_off h3 d (h0 ▸ mu_on hc ha i)
  obtain ⟨i, j, hij, hj, e⟩ := key
  obtain ⟨k, rfl⟩ : ∃ k, j = i + k := ⟨j - i, by omega⟩
  have hk := mu_cancel hc ha i k e
  obtain ⟨o, hle, ho, hlow⟩ := least_of (Q := fun n => 0 < n ∧ mu d a n = ze) k ⟨by omega, hk⟩
  exact ⟨o, ⟨ho.1, ho.2, fun j h0 hj e => hlow j hj ⟨h0, e⟩⟩, by omega⟩
theorem OrdP.uniq {d : Fin p} {a : Fin p × Fin p} {o o' : Nat} (h : OrdP d a o) (k : OrdP d a o') : o = o' := by
  rcases Nat.lt_trichotomy o o' with hl | hl | hl
  · exact absurd h.eq (k.low o h.pos hl)
  · exact hl
  · exact absurd k.eq (h.low o' k.pos hl)
theorem mu_mul {d : Fin p} (hc : Cv p d) {a : Fin p × Fin p} (ha : onP d a) {o : Nat} (h : mu d a o = ze) : ∀ q, mu d a (o * q) = ze
  | 0 => rfl
  | q + 1 => by rw [Nat.mul_succ, mu_add hc ha, mu_mul hc ha h q, h, ze_ad hc.pr]
theorem ordP_dvd {d : Fin p} (hc : Cv p d) {a : Fin p × Fin p} (ha : onP d a) {o n : Nat} (h : OrdP d a o) (hn : mu d a n = ze) : n % o = 0 := by
  have e : mu d a (o * (n / o) + n % o) = mu d a n := by rw [Nat.div_add_mod]
  rw [mu_add hc ha, mu_mul hc ha h.eq, ze_ad hc.pr, hn] at e
  rcases Nat.eq_zero_or_pos (n % o) with h0 | h0
  · exact h0
  · exact absurd e (h.low _ h0 (Nat.mod_lt _ h.pos))
theorem mu_two {d : Fin p} (hc : Cv p d) {a : Fin p × Fin p} (ha : onP d a) : ∀ m, mu d (ad d a a) m = mu d a (2 * m)
  | 0 => rfl
  | m + 1 => by
    show ad d (mu d (ad d a a) m) (ad d a a) = ad d (ad d (mu d a (2 * m)) a) a
    rw [mu_two hc ha m, ad_assoc hc (mu_on hc ha _) ha ha]
theorem half_even {d : Fin p} (hc : Cv p d) {t a : Fin p × Fin p} (ha : onP d a) (k : Nat) (h : k % 2 = 0) : ad d t (mu d (ad d a a) (k / 2)) = ad d t (mu d a k) := by
  rw [mu_two hc ha, show 2 * (k / 2) = k by omega]
theorem half_odd {d : Fin p} (hc : Cv p d) {t a : Fin p × Fin p} (ht : onP d t) (ha : onP d a) (k : Nat) (h : k % 2 = 1) : ad d (ad d t a) (mu d (ad d a a) (k / 2)) = ad d t (mu d a k) := by
  rw [mu_two hc ha, ad_assoc hc ht ha (mu_on hc ha _)]
  have e : mu d a k = ad d (mu d a 1) (mu d a (2 * (k / 2))) := by rw [← mu_add hc ha, show 1 + 2 * (k / 2) = k by omega]
  rw [e, mu_one hc.pr]
/-- X squared, by Y. -/
def sqX (d y : Fin p) : Fin p := (1 - y * y) * fi (1 - d * y * y)
theorem den_ne {d : Fin p} (hc : Cv p d) (y : Fin p) : 1 - d * y * y ≠ 0 := by
  intro h
  have hy : y ≠ 0 := by intro h0; rw [h0] at h; exact one_ne hc.pr.ge (by grind)
  exact hc.nsq _ (root_of hc.pr d y 1 hy (by grind))
theorem on_sq {d : Fin p} (hc : Cv p d) (x y : Fin p) : On d x y ↔ x * x = sqX d y := by
  have u := fi_mul hc.pr _ (den_ne hc y)
  unfold On sqX
  generalize fi (1 - d * y * y) = s at *
  constructor
  · intro h
    have e : x * x * (1 - d * y * y) = 1 - y * y := by grind
    have : x * x = x * x * ((1 - d * y * y) * s) := by rw [u]; grind
    rw [this, ← e]; grind
  · intro h
    have : x * x * (1 - d * y * y) = 1 - y * y := by
      rw [h]
      have : (1 - y * y) * s * (1 - d * y * y) = (1 - y * y) * ((1 - d * y * y) * s) := by grind
      rw [this, u]; grind
    grind
theorem root_two {x z : Fin p} (hp : Pr p) (h : x * x = z * z) : x = z ∨ x = - z := by
  by_cases h1 : x - z = 0
  · left; grind
  · by_cases h2 : x + z = 0
    · right; grind
    · exact absurd (by grind) (mul_ne hp h1 h2)
end
/-- A sum over the numbers below n. -/
def tot (f : Nat → Int) : Nat → Int
  | 0 => 0
  | k + 1 => tot f k + f k
theorem tot_congr {f g : Nat → Int} : ∀ n, (∀ k, k < n → f k = g k) → tot f n = tot g n
  | 0, _ => rfl
  | n + 1, h => by show tot f n + f n = tot g n + g n; rw [tot_congr n fun k hk => h k (by omega), h n (by omega)]
theorem tot_add (f g : Nat → Int) : ∀ n, tot (fun k => f k + g k) n = tot f n + tot g n
  | 0 => rfl
  | n + 1 => by show tot (fun k => f k + g k) n + (f n + g n) = tot f n + f n + (tot g n + g n); rw [tot_add f g n]; omega
theorem tot_zero : ∀ n, tot (fun _ => 0) n = 0
  | 0 => rfl
  | n + 1 => by show tot (fun _ => 0) n + 0 = 0; rw [tot_zero n]; rfl
theorem tot_swap (g : Nat → Nat → Int) (m : Nat) : ∀ n, tot (fun x => tot (fun y => g x y) m) n = tot (fun y => tot (fun x => g x y) n) m
  | 0 => (tot_zero m).symm
  | n + 1 => by
    show tot (fun x => tot (fun y => g x y) m) n + tot (fun y => g n y) m = tot (fun y => tot (fun x => g x y) n + g n y) m
    rw [tot_swap g m n, tot_add]
theorem tot_bd (f : Nat → Int) (lo hi : Int) : ∀ n, (∀ k, k < n → lo ≤ f k ∧ f k ≤ hi) → lo * n ≤ tot f n ∧ tot f n ≤ hi * n
  | 0, _ => by simp [tot]
  | n + 1, h => by
    have h1 := tot_bd f lo hi n fun k hk => h k (by omega)
    have h2 := h n (by omega)
    show lo * ((n + 1 : Nat) : Int) ≤ tot f n + f n ∧ tot f n + f n ≤ hi * ((n + 1 : Nat) : Int)
    rw [show ((n + 1 : Nat) : Int) = (n : Int) + 1 by omega, Int.mul_add, Int.mul_add]; omega
/-- How many roots: reckoned by the kernel for every prime to 199. -/
def roots (p c : Nat) : Nat → Nat
  | 0 => 0
  | k + 1 => Nat.add (roots p c k) (bif Nat.beq (k * k % p) c then 1 else 0)
def rootsB : Bool := (List.range 200).all fun p => Nat.ble p 2 || !prB p || (List.range p).all fun c => Nat.beq (roots p c p) (bif Nat.beq (Nat.pow c ((p - 1) / 2) % p) 0 then 1 else bif Nat.beq (Nat.pow c ((p - 1) / 2) % p) 1 then 2 else 0)
set_option maxRecDepth 100000 in
theorem all_roots : rootsB = true := by decide +kernel
theorem roots_tot (p c : Nat) : ∀ n, tot (fun x => if x * x % p = c then 1 else 0) n = (roots p c n : Int)
  | 0 => rfl
  | n + 1 => by
    show tot (fun x => if x * x % p = c then 1 else 0) n + (if n * n % p = c then 1 else 0) = ((roots p c n + (bif Nat.beq (n * n % p) c then 1 else 0) : Nat) : Int)
    rw [roots_tot p c n]
    by_cases h : n * n % p = c
    · have : Nat.beq (n * n % p) c = true := by rw [Nat.beq_eq]; exact h
      rw [if_pos h, this]; rfl
    · have : Nat.beq (n * n % p) c = false := by rw [beq_no]; exact h
      rw [if_neg h, this]; simp
theorem roots_kind {p c : Nat} (hp : Pr p) (h9 : p ≤ 199) (hcp : c < p) : (roots p c p : Int) = 1 + kind c p := by
  have h := all_roots
  unfold rootsB at h
  rw [List.all_eq_true] at h
  have h1 := h p (by simp; omega)
  have h3 := hp.ge
  have e1 : Nat.ble p 2 = false := by rw [← Bool.not_eq_true, Nat.ble_eq]; omega
  rw [e1, hp.pr] at h1
  simp only [Bool.false_or, Bool.not_true] at h1
  rw [List.all_eq_true] at h1
  have h2 := h1 c (by simp; omega)
  rw [Nat.beq_eq] at h2
  rw [h2]
  show (((bif Nat.beq (c ^ ((p - 1) / 2) % p) 0 then 1 else bif Nat.beq (c ^ ((p - 1) / 2) % p) 1 then 2 else 0 : Nat)) : Int) = 1 + kind c p
  unfold kind
  by_cases k0 : c ^ ((p - 1) / 2) % p = 0
  · rw [if_pos k0, k0]; rfl
  · have : Nat.beq (c ^ ((p - 1) / 2) % p) 0 = false := by rw [beq_no]; exact k0
    rw [if_neg k0, this]
    by_cases k1 : c ^ ((p - 1) / 2) % p = 1
    · rw [if_pos k1, k1]; rfl
    · have : Nat.beq (c ^ ((p - 1) / 2) % p) 1 = false := by rw [beq_no]; exact k1
      rw [if_neg k1, this]; rfl
section
variable {p : Nat} [NeZero p]
/-- Whether two numbers are the coordinates of a point. -/
def onN (d : Fin p) (x y : Nat) : Int := if On d (rs p x) (rs p y) then 1 else 0
theorem count_eq {d : Fin p} (hc : Cv p d) (h9 : p ≤ 199) : tot (fun x => tot (fun y => onN d x y) p) p = tot (fun y => 1 + kind (sqX d (rs p y)).val p) p := by
  rw [tot_swap]
  refine tot_congr p fun y hy => ?_
  rw [← roots_kind hc.pr h9 (sqX d (rs p y)).isLt, ← roots_tot]
  refine tot_congr p fun x hx => ?_
  unfold onN
  have e : On d (rs p (x : Int)) (rs p (y : Int)) ↔ x * x % p = (sqX d (rs p y)).val := by
    rw [on_sq hc]
    have v : (rs p (x : Int)).val = x := by
      have := vl_rs (p := p) (x : Int)
      rw [Int.emod_eq_of_lt (by omega) (by omega)] at this
      simp only [vl] at this; omega
    constructor
    · intro h; rw [← h, Fin.val_mul, v]
    · intro h; apply Fin.ext; rw [Fin.val_mul, v, h]
  by_cases h : On d (rs p (x : Int)) (rs p (y : Int))
  · rw [if_pos h, if_pos (e.1 h)]
  · rw [if_neg h, if_neg (fun k => h (e.2 k))]
end
end Go.Proofs.Ytapdecmaaciaaaa.Grp
