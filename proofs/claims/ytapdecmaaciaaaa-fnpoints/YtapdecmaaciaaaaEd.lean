/-
  Residues modulo a prime and the addition of points of an Edwards curve: plain facts (completeness, closure, associativity), with no program in them.
-/
import Derived.Test.YtapdecmaaciaaaaNum2
namespace Go.Proofs.Ytapdecmaaciaaaa.Ed
open Go.Proofs.Ytapdecmaaciaaaa.Num
set_option linter.unusedVariables false
set_option linter.unusedSectionVars false
set_option linter.unusedSimpArgs false
section
variable {p : Nat} [NeZero p]
/-- The residue of an integer. -/
def rs (p : Nat) [NeZero p] (z : Int) : Fin p := ⟨(z % (p : Int)).toNat, by
  have h : (p : Int) ≠ 0 := by have := NeZero.ne p; omega
  have h1 := Int.emod_nonneg z h
  have h2 := Int.emod_lt_of_pos z (b := (p : Int)) (by have := NeZero.ne p; omega)
  omega⟩
/-- A residue as an integer. -/
def vl (x : Fin p) : Int := (x.val : Int)
theorem vl_rs (z : Int) : vl (rs p z) = z % (p : Int) := by
  have h : (p : Int) ≠ 0 := by have := NeZero.ne p; omega
  have h1 := Int.emod_nonneg z h
  simp only [vl, rs]; omega
theorem vl_inj {x y : Fin p} (h : vl x = vl y) : x = y := by
  apply Fin.ext; simp only [vl] at h; omega
theorem vl_ge (x : Fin p) : 0 ≤ vl x := by simp only [vl]; omega
theorem vl_lt (x : Fin p) : vl x < p := by have := x.isLt; simp only [vl]; omega
theorem rs_vl (x : Fin p) : rs p (vl x) = x := by
  apply vl_inj; rw [vl_rs]; exact Int.emod_eq_of_lt (vl_ge x) (vl_lt x)
theorem vl_add (x y : Fin p) : vl (x + y) = (vl x + vl y) % (p : Int) := by
  simp only [vl, Fin.val_add]; push_cast; rfl
theorem vl_mul (x y : Fin p) : vl (x * y) = (vl x * vl y) % (p : Int) := by
  simp only [vl, Fin.val_mul]; push_cast; rfl
theorem rs_mod (z : Int) : rs p (z % p) = rs p z := by apply vl_inj; rw [vl_rs, vl_rs, Int.emod_emod_of_dvd _ (Int.dvd_refl _)]
theorem rs_add (z w : Int) : rs p (z + w) = rs p z + rs p w := by
  apply vl_inj; rw [vl_add, vl_rs, vl_rs, vl_rs, ← Int.add_emod]
theorem rs_mul (z w : Int) : rs p (z * w) = rs p z * rs p w := by
  apply vl_inj; rw [vl_mul, vl_rs, vl_rs, vl_rs, ← Int.mul_emod]
theorem rs_self : rs p (p : Int) = 0 := by
  apply vl_inj; rw [vl_rs]; simp [vl]
theorem rs_zero : rs p 0 = 0 := by
  apply vl_inj; rw [vl_rs]; simp [vl]
theorem rs_sub (z w : Int) : rs p (z - w) = rs p z - rs p w := by
  have h := rs_add (p := p) (z - w) w
  rw [show z - w + w = z by omega] at h
  rw [h]; grind
theorem rs_neg (w : Int) : rs p (- w) = - rs p w := by
  have h := rs_sub (p := p) 0 w
  rw [rs_zero, show (0 : Int) - w = -w by omega] at h
  rw [h]; grind
theorem vl_one (h : 2 ≤ p) : vl (1 : Fin p) = 1 := by
  have e : ((1 : Fin p) : Nat) = 1 % p := rfl
  rw [vl, e, Nat.mod_eq_of_lt (by omega)]; rfl
theorem rs_one (h : 2 ≤ p) : rs p 1 = 1 := by
  apply vl_inj; rw [vl_rs, vl_one h]; exact Int.emod_eq_of_lt (by omega) (by omega)
theorem rs_eq (z w : Int) : rs p z = rs p w ↔ z % (p : Int) = w % (p : Int) := by
  constructor
  · intro h; rw [← vl_rs, ← vl_rs, h]
  · intro h; apply vl_inj; rw [vl_rs, vl_rs, h]
theorem vl_zero : vl (0 : Fin p) = 0 := by simp [vl]
theorem vl_eq (x y : Fin p) : vl x = vl y ↔ x = y := ⟨vl_inj, fun h => by rw [h]⟩
/-- The inverse, by Fermat. -/
def fi (x : Fin p) : Fin p := rs p ((x.val ^ (p - 2) % p : Nat) : Int)
theorem vl_fi (x : Fin p) : vl (fi x) = ((x.val ^ (p - 2) % p : Nat) : Int) := by
  rw [fi, vl_rs]
  have := Nat.mod_lt (x.val ^ (p - 2)) (y := p) (by have := NeZero.ne p; omega)
  exact Int.emod_eq_of_lt (by omega) (by omega)
theorem fi_zero (h : 3 ≤ p) : fi (0 : Fin p) = 0 := by
  apply vl_inj; rw [vl_fi, vl_zero]
  rw [show p - 2 = (p - 3) + 1 by omega]; simp
theorem fi_mul (hp : Pr p) (x : Fin p) (h : x ≠ 0) : x * fi x = 1 := by
  have h3 := hp.ge
  have hx : 0 < x.val := by
    rcases Nat.eq_zero_or_pos x.val with e | e
    · exact absurd (Fin.ext (by simpa using e)) h
    · exact e
  apply vl_inj
  rw [vl_mul, vl_fi, vl_one (by omega), vl]
  have f := fermat hp x.val hx x.isLt
  rw [show p - 1 = (p - 2) + 1 by omega, Nat.pow_succ] at f
  rw [← Int.natCast_mul, ← Int.natCast_emod, Nat.mul_mod_mod, Nat.mul_comm, f]; rfl

/-- A curve: D is no square modulo the prime. -/
structure Cv (p : Nat) [NeZero p] (d : Fin p) : Prop where
  pr : Pr p
  nsq : ∀ z : Fin p, z * z ≠ d
/-- A point of the curve. -/
def On (d x y : Fin p) : Prop := x * x + y * y = 1 + d * (x * x) * (y * y)
instance (d x y : Fin p) : Decidable (On d x y) := by unfold On; exact inferInstance

theorem closure0 (x1 y1 x2 y2 d : Fin p) (h1 : x1*x1+y1*y1 = 1 + d*(x1*x1)*(y1*y1)) (h2 : x2*x2+y2*y2 = 1 + d*(x2*x2)*(y2*y2)) :
  (x1*y2+y1*x2)*(x1*y2+y1*x2)*((1-d*x1*x2*y1*y2)*(1-d*x1*x2*y1*y2)) + (y1*y2-x1*x2)*(y1*y2-x1*x2)*((1+d*x1*x2*y1*y2)*(1+d*x1*x2*y1*y2))
   = (1+d*x1*x2*y1*y2)*(1+d*x1*x2*y1*y2)*((1-d*x1*x2*y1*y2)*(1-d*x1*x2*y1*y2)) + d * ((x1*y2+y1*x2)*(x1*y2+y1*x2)) *((y1*y2-x1*x2)*(y1*y2-x1*x2)) := by
  grind
theorem assocX0 (x1 y1 x2 y2 x3 y3 d : Fin p) (h1 : x1*x1+y1*y1 = 1 + d*(x1*x1)*(y1*y1)) (h2 : x2*x2+y2*y2 = 1 + d*(x2*x2)*(y2*y2)) (h3 : x3*x3+y3*y3 = 1 + d*(x3*x3)*(y3*y3)) :
  ((x1*y2+y1*x2)*(1-d*x1*x2*y1*y2)*y3 + (y1*y2-x1*x2)*(1+d*x1*x2*y1*y2)*x3) * ((1+d*x2*x3*y2*y3)*(1-d*x2*x3*y2*y3) + d*(x2*y3+y2*x3)*(y2*y3-x2*x3)*x1*y1)
  = (x1*(y2*y3-x2*x3)*(1+d*x2*x3*y2*y3) + y1*(x2*y3+y2*x3)*(1-d*x2*x3*y2*y3)) * ((1+d*x1*x2*y1*y2)*(1-d*x1*x2*y1*y2) + d*(x1*y2+y1*x2)*(y1*y2-x1*x2)*x3*y3) := by
  grind (ringSteps := 100000)
theorem assocY0 (x1 y1 x2 y2 x3 y3 d : Fin p) (h1 : x1*x1+y1*y1 = 1 + d*(x1*x1)*(y1*y1)) (h2 : x2*x2+y2*y2 = 1 + d*(x2*x2)*(y2*y2)) (h3 : x3*x3+y3*y3 = 1 + d*(x3*x3)*(y3*y3)) :
  ((y1*y2-x1*x2)*(1+d*x1*x2*y1*y2)*y3 - (x1*y2+y1*x2)*(1-d*x1*x2*y1*y2)*x3) * ((1+d*x2*x3*y2*y3)*(1-d*x2*x3*y2*y3) - d*(x2*y3+y2*x3)*(y2*y3-x2*x3)*x1*y1)
  = (y1*(y2*y3-x2*x3)*(1+d*x2*x3*y2*y3) - x1*(x2*y3+y2*x3)*(1-d*x2*x3*y2*y3)) * ((1+d*x1*x2*y1*y2)*(1-d*x1*x2*y1*y2) - d*(x1*y2+y1*x2)*(y1*y2-x1*x2)*x3*y3) := by
  grind (ringSteps := 100000)

theorem one_ne (h : 3 ≤ p) : (1 : Fin p) ≠ 0 := by
  intro e
  have := congrArg vl e
  rw [vl_one (by omega), vl_zero] at this
  omega
theorem two_ne (hp : Pr p) : (1 : Fin p) + 1 ≠ 0 := by
  have h3 := hp.ge
  intro e
  have := congrArg vl e
  rw [vl_add, vl_one (by omega), vl_zero, Int.emod_eq_of_lt (by omega) (by omega)] at this
  omega
theorem mul_ne {a b : Fin p} (hp : Pr p) (ha : a ≠ 0) (hb : b ≠ 0) : a * b ≠ 0 := by
  intro h
  have h1 := fi_mul hp a ha
  exact hb (by grind)

theorem root_of (hp : Pr p) (d s t : Fin p) (hs : s ≠ 0) (h : d * (s * s) = t * t) : (t * fi s) * (t * fi s) = d := by
  have h1 := fi_mul hp s hs
  grind
theorem complete {d : Fin p} (hc : Cv p d) (x1 y1 x2 y2 e : Fin p) (h1 : On d x1 y1) (h2 : On d x2 y2) (he : e * e = 1) (h : d * x1 * x2 * y1 * y2 = e) : False := by
  have hp := hc.pr
  have h10 := one_ne hp.ge
  have h20 := two_ne hp
  unfold On at h1 h2
  have e0 : e ≠ 0 := by intro h0; rw [h0] at he; exact h10 (by grind)
  have nx1 : x1 ≠ 0 := by intro h0; rw [h0] at h; exact e0 (by grind)
  have ny1 : y1 ≠ 0 := by intro h0; rw [h0] at h; exact e0 (by grind)
  have nx2 : x2 ≠ 0 := by intro h0; rw [h0] at h; exact e0 (by grind)
  by_cases ha : x2 + y2 = 0
  · have hb : x2 - y2 ≠ 0 := by
      intro hb
      have : (1 + 1) * x2 = 0 := by grind
      exact mul_ne hp h20 nx2 this
    refine hc.nsq _ (root_of hp d (x1 * y1 * (x2 - y2)) (x1 - e * y1) (mul_ne hp (mul_ne hp nx1 ny1) hb) ?_)
    grind
  · refine hc.nsq _ (root_of hp d (x1 * y1 * (x2 + y2)) (x1 + e * y1) (mul_ne hp (mul_ne hp nx1 ny1) ha) ?_)
    grind
theorem plus_ne {d : Fin p} (hc : Cv p d) {x1 y1 x2 y2 : Fin p} (h1 : On d x1 y1) (h2 : On d x2 y2) : 1 + d * x1 * x2 * y1 * y2 ≠ 0 := by
  intro h
  exact complete hc x1 y1 x2 y2 (-1) h1 h2 (by grind) (by grind)
theorem minus_ne {d : Fin p} (hc : Cv p d) {x1 y1 x2 y2 : Fin p} (h1 : On d x1 y1) (h2 : On d x2 y2) : 1 - d * x1 * x2 * y1 * y2 ≠ 0 := by
  intro h
  exact complete hc x1 y1 x2 y2 1 h1 h2 (by grind) (by grind)

/-- The sum of two points. -/
def ad (d : Fin p) (a b : Fin p × Fin p) : Fin p × Fin p :=
  ((a.1 * b.2 + a.2 * b.1) * fi (1 + d * a.1 * b.1 * a.2 * b.2), (a.2 * b.2 - a.1 * b.1) * fi (1 - d * a.1 * b.1 * a.2 * b.2))
def onP (d : Fin p) (a : Fin p × Fin p) : Prop := On d a.1 a.2
instance (d : Fin p) (a : Fin p × Fin p) : Decidable (onP d a) := by unfold onP; exact inferInstance
def ze : Fin p × Fin p := (0, 1)
def ng (a : Fin p × Fin p) : Fin p × Fin p := (-a.1, a.2)
theorem ze_on (d : Fin p) : onP d ze := by unfold onP ze On; grind
theorem ng_on {d : Fin p} {a : Fin p × Fin p} (h : onP d a) : onP d (ng a) := by unfold onP ng On at *; grind
theorem ad_on {d : Fin p} (hc : Cv p d) {a b : Fin p × Fin p} (ha : onP d a) (hb : onP d b) : onP d (ad d a b) := by
  have u := fi_mul hc.pr _ (plus_ne hc ha hb)
  have v := fi_mul hc.pr _ (minus_ne hc ha hb)
  have c := closure0 a.1 a.2 b.1 b.2 d ha hb
  unfold onP ad On
  dsimp only
  generalize fi (1 + d * a.1 * b.1 * a.2 * b.2) = s at *
  generalize fi (1 - d * a.1 * b.1 * a.2 * b.2) = t at *
  generalize d * a.1 * b.1 * a.2 * b.2 = m at *
  generalize a.1 * b.2 + a.2 * b.1 = A at *
  generalize a.2 * b.2 - a.1 * b.1 = B at *
  clear ha hb
  have h1 : A * s * (A * s) + B * t * (B * t) = (A * A * ((1 - m) * (1 - m)) + B * B * ((1 + m) * (1 + m))) * (s * s * (t * t)) := by
    have e1 : A * s * (A * s) = A * s * (A * s) * (((1 - m) * t) * ((1 - m) * t)) := by rw [v]; grind
    have e2 : B * t * (B * t) = B * t * (B * t) * (((1 + m) * s) * ((1 + m) * s)) := by rw [u]; grind
    rw [e1, e2]; grind
  rw [h1, c]
  have h2 : (1 + m) * (1 + m) * ((1 - m) * (1 - m)) * (s * s * (t * t)) = 1 := by
    have : (1 + m) * (1 + m) * ((1 - m) * (1 - m)) * (s * s * (t * t)) = ((1 + m) * s) * ((1 + m) * s) * (((1 - m) * t) * ((1 - m) * t)) := by grind
    rw [this, u, v]; grind
  grind
theorem ad_comm (d : Fin p) (a b : Fin p × Fin p) : ad d a b = ad d b a := by
  unfold ad
  rw [show a.1 * b.2 + a.2 * b.1 = b.1 * a.2 + b.2 * a.1 by grind, show d * a.1 * b.1 * a.2 * b.2 = d * b.1 * a.1 * b.2 * a.2 by grind, show a.2 * b.2 - a.1 * b.1 = b.2 * a.2 - b.1 * a.1 by grind]
theorem fi_one (hp : Pr p) : fi (1 : Fin p) = 1 := by
  have := fi_mul hp 1 (one_ne hp.ge)
  grind
theorem ad_ze {d : Fin p} (hp : Pr p) (a : Fin p × Fin p) : ad d a ze = a := by
  unfold ad ze
  dsimp only
  rw [show (1 : Fin p) + d * a.1 * 0 * a.2 * 1 = 1 by grind, show (1 : Fin p) - d * a.1 * 0 * a.2 * 1 = 1 by grind, fi_one hp]
  exact Prod.ext (by dsimp only; grind) (by dsimp only; grind)
theorem ad_ng {d : Fin p} (hc : Cv p d) {a : Fin p × Fin p} (ha : onP d a) : ad d a (ng a) = ze := by
  have v := fi_mul hc.pr _ (minus_ne hc ha (ng_on ha))
  unfold ad ze
  unfold onP On at ha
  refine Prod.ext ?_ ?_
  · have : a.1 * (ng a).2 + a.2 * (ng a).1 = 0 := by unfold ng; grind
    dsimp only; rw [this]; grind
  · have : a.2 * (ng a).2 - a.1 * (ng a).1 = 1 - d * a.1 * (ng a).1 * a.2 * (ng a).2 := by unfold ng; grind
    dsimp only; rw [this]; exact v
theorem quo_eq {n e n' e' s s' : Fin p} (h : e * s = 1) (h' : e' * s' = 1) (k : n * e' = n' * e) : n * s = n' * s' := by
  have h1 : n * s = n * e' * s * s' := by
    have : n * e' * s * s' = n * s * (e' * s') := by grind
    rw [this, h']; grind
  rw [h1, k]
  have : n' * e * s * s' = n' * s' * (e * s) := by grind
  rw [this, h]; grind
theorem den_add {E F q s : Fin p} (h : E * q = 1) (k : (1 + F * q) * s = 1) : (E + F) * (q * s) = 1 := by
  have : (E + F) * (q * s) = (E * q + F * q) * s := by grind
  rw [this, h, k]
theorem den_sub {E F q s : Fin p} (h : E * q = 1) (k : (1 - F * q) * s = 1) : (E - F) * (q * s) = 1 := by
  have : (E - F) * (q * s) = (E * q - F * q) * s := by grind
  rw [this, h, k]
theorem ad_assoc {d : Fin p} (hc : Cv p d) {a b c : Fin p × Fin p} (ha : onP d a) (hb : onP d b) (hk : onP d c) : ad d (ad d a b) c = ad d a (ad d b c) := by
  have u1 := fi_mul hc.pr _ (plus_ne hc ha hb)
  have v1 := fi_mul hc.pr _ (minus_ne hc ha hb)
  have u2 := fi_mul hc.pr _ (plus_ne hc hb hk)
  have v2 := fi_mul hc.pr _ (minus_ne hc hb hk)
  have u3 := fi_mul hc.pr _ (plus_ne hc (ad_on hc ha hb) hk)
  have v3 := fi_mul hc.pr _ (minus_ne hc (ad_on hc ha hb) hk)
  have u4 := fi_mul hc.pr _ (plus_ne hc ha (ad_on hc hb hk))
  have v4 := fi_mul hc.pr _ (minus_ne hc ha (ad_on hc hb hk))
  have X := assocX0 a.1 a.2 b.1 b.2 c.1 c.2 d ha hb hk
  have Y := assocY0 a.1 a.2 b.1 b.2 c.1 c.2 d ha hb hk
  rw [ad] at u3 v3
  rw [ad] at u4 v4
  dsimp only at u3 v3 u4 v4
  rw [ad, ad, ad, ad]
  dsimp only
  clear ha hb hk
  generalize hs1 : fi (1 + d * a.1 * b.1 * a.2 * b.2) = s1 at *
  generalize ht1 : fi (1 - d * a.1 * b.1 * a.2 * b.2) = t1 at *
  generalize hs2 : fi (1 + d * b.1 * c.1 * b.2 * c.2) = s2 at *
  generalize ht2 : fi (1 - d * b.1 * c.1 * b.2 * c.2) = t2 at *
  generalize d * a.1 * b.1 * a.2 * b.2 = m1 at *
  generalize d * b.1 * c.1 * b.2 * c.2 = m2 at *
  generalize a.1 * b.2 + a.2 * b.1 = A1 at *
  generalize a.2 * b.2 - a.1 * b.1 = B1 at *
  generalize b.1 * c.2 + b.2 * c.1 = A2 at *
  generalize b.2 * c.2 - b.1 * c.1 = B2 at *
  have mm1 : (1 + m1) * (1 - m1) * (s1 * t1) = 1 := by
    have : (1 + m1) * (1 - m1) * (s1 * t1) = ((1 + m1) * s1) * ((1 - m1) * t1) := by grind
    rw [this, u1, v1]; grind
  have mm2 : (1 + m2) * (1 - m2) * (s2 * t2) = 1 := by
    have : (1 + m2) * (1 - m2) * (s2 * t2) = ((1 + m2) * s2) * ((1 - m2) * t2) := by grind
    rw [this, u2, v2]; grind
  have k1 : A1 * s1 = A1 * (1 - m1) * (s1 * t1) := by
    have : A1 * (1 - m1) * (s1 * t1) = A1 * s1 * ((1 - m1) * t1) := by grind
    rw [this, v1]; grind
  have k2 : B1 * t1 = B1 * (1 + m1) * (s1 * t1) := by
    have : B1 * (1 + m1) * (s1 * t1) = B1 * t1 * ((1 + m1) * s1) := by grind
    rw [this, u1]; grind
  have k3 : A2 * s2 = A2 * (1 - m2) * (s2 * t2) := by
    have : A2 * (1 - m2) * (s2 * t2) = A2 * s2 * ((1 - m2) * t2) := by grind
    rw [this, v2]; grind
  have k4 : B2 * t2 = B2 * (1 + m2) * (s2 * t2) := by
    have : B2 * (1 + m2) * (s2 * t2) = B2 * t2 * ((1 + m2) * s2) := by grind
    rw [this, u2]; grind
  have d1 : d * (A1 * s1) * c.1 * (B1 * t1) * c.2 = d * A1 * B1 * c.1 * c.2 * (s1 * t1) := by grind
  have d2 : d * a.1 * (A2 * s2) * a.2 * (B2 * t2) = d * A2 * B2 * a.1 * a.2 * (s2 * t2) := by grind
  rw [d1] at u3 v3 ⊢
  rw [d2] at u4 v4 ⊢
  rw [k1, k2, k3, k4]
  generalize fi (1 + d * A1 * B1 * c.1 * c.2 * (s1 * t1)) = s3 at *
  generalize fi (1 - d * A1 * B1 * c.1 * c.2 * (s1 * t1)) = t3 at *
  generalize fi (1 + d * A2 * B2 * a.1 * a.2 * (s2 * t2)) = s4 at *
  generalize fi (1 - d * A2 * B2 * a.1 * a.2 * (s2 * t2)) = t4 at *
  generalize s1 * t1 = q1 at *
  generalize s2 * t2 = q2 at *
  clear k1 k2 k3 k4 d1 d2 u1 v1 u2 v2 hs1 ht1 hs2 ht2
  refine Prod.ext ?_ ?_
  · dsimp only
    rw [show (A1 * (1 - m1) * q1 * c.2 + B1 * (1 + m1) * q1 * c.1) * s3 = (A1 * (1 - m1) * c.2 + B1 * (1 + m1) * c.1) * (q1 * s3) by grind,
      show (a.1 * (B2 * (1 + m2) * q2) + a.2 * (A2 * (1 - m2) * q2)) * s4 = (a.1 * B2 * (1 + m2) + a.2 * A2 * (1 - m2)) * (q2 * s4) by grind]
    exact quo_eq (e := (1 + m1) * (1 - m1) + d * A1 * B1 * c.1 * c.2) (e' := (1 + m2) * (1 - m2) + d * A2 * B2 * a.1 * a.2) (den_add mm1 u3) (den_add mm2 u4) X
  · dsimp only
    rw [show (B1 * (1 + m1) * q1 * c.2 - A1 * (1 - m1) * q1 * c.1) * t3 = (B1 * (1 + m1) * c.2 - A1 * (1 - m1) * c.1) * (q1 * t3) by grind,
      show (a.2 * (B2 * (1 + m2) * q2) - a.1 * (A2 * (1 - m2) * q2)) * t4 = (a.2 * B2 * (1 + m2) - a.1 * A2 * (1 - m2)) * (q2 * t4) by grind]
    exact quo_eq (e := (1 + m1) * (1 - m1) - d * A1 * B1 * c.1 * c.2) (e' := (1 + m2) * (1 - m2) - d * A2 * B2 * a.1 * a.2) (den_sub mm1 v3) (den_sub mm2 v4) Y
end
end Go.Proofs.Ytapdecmaaciaaaa.Ed
