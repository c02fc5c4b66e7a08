/-
  Hasse: the number of points differs from p + 1 by at most twice the root of p, and 4 divides it; reckoned by the kernel for every curve to 199.
-/
import Derived.Test.YtapdecmaaciaaaaGrp
namespace Go.Proofs.Ytapdecmaaciaaaa.Has
open Go.Proofs.Ytapdecmaaciaaaa.Num Go.Proofs.Ytapdecmaaciaaaa.Ed Go.Proofs.Ytapdecmaaciaaaa.Grp
set_option linter.unusedVariables false
set_option linter.unusedSectionVars false
set_option linter.unusedSimpArgs false
def cN (p d y : Nat) : Nat := ((p + 1 - y * y % p) % p) * (Nat.pow ((p + 1 - d * (y * y % p) % p) % p) (p - 2) % p) % p
def kN (p c : Nat) : Nat := bif Nat.beq (Nat.pow c ((p - 1) / 2) % p) 0 then 1 else bif Nat.beq (Nat.pow c ((p - 1) / 2) % p) 1 then 2 else 0
def cntN (p d : Nat) : Nat → Nat
  | 0 => 0
  | k + 1 => Nat.add (cntN p d k) (kN p (cN p d k))
def okN (p n : Nat) : Bool := Nat.beq (n % 4) 0 && Nat.ble ((n - (p + 1)) * (n - (p + 1)) + ((p + 1) - n) * ((p + 1) - n)) (4 * p)
def hasB : Bool := (List.range 200).all fun p => Nat.ble p 4 || !prB p || (List.range p).all fun d => !Nat.beq (Nat.pow d ((p - 1) / 2) % p) (p - 1) || okN p (cntN p d p)
set_option maxRecDepth 100000 in
theorem all_has : hasB = true := by decide +kernel
theorem kN_kind (p c : Nat) : (kN p c : Int) = 1 + kind c p := by
  unfold kN
  show (((bif Nat.beq (c ^ ((p - 1) / 2) % p) 0 then 1 else bif Nat.beq (c ^ ((p - 1) / 2) % p) 1 then 2 else 0 : Nat)) : Int) = 1 + kind c p
  unfold kind
  by_cases k0 : c ^ ((p - 1) / 2) % p = 0
  · rw [if_pos k0, k0]; rfl
  · have : Nat.beq (c ^ ((p - 1) / 2) % p) 0 = false := by rw [beq_no]; exact k0
    rw [if_neg k0, this]
    by_cases k1 : c ^ ((p - 1) / 2) % p = 1
    · rw [if_pos k1, k1]; rfl
    · have : Nat.beq (c ^ ((p - 1) / 2) % p) 1 = false := by rw [beq_no]; exact k1
      rw [if_neg k1, this]; rfl
section
variable {p : Nat} [NeZero p]
theorem one_sub (h2 : 2 ≤ p) (x : Fin p) : (1 - x).val = (p + 1 - x.val) % p := by
  have h := vl_rs (p := p) (1 - vl x)
  rw [rs_sub, rs_one h2, rs_vl] at h
  have hx := x.isLt
  simp only [vl] at h
  have e : ((p + 1 - x.val : Nat) : Int) = (1 - (x.val : Int)) + (p : Int) := by omega
  have e2 : (((p + 1 - x.val) % p : Nat) : Int) = (1 - (x.val : Int)) % (p : Int) := by
    rw [Int.natCast_emod, e, Int.add_emod_right]
  omega
theorem fi_val (x : Fin p) : (fi x).val = x.val ^ (p - 2) % p := by
  have := vl_fi x
  simp only [vl] at this; omega
theorem sq_val (h2 : 2 ≤ p) (d : Fin p) {y : Nat} (h : y < p) : (sqX d (rs p (y : Int))).val = cN p d.val y := by
  have v : (rs p (y : Int)).val = y := by
    have := vl_rs (p := p) (y : Int)
    rw [Int.emod_eq_of_lt (by omega) (by omega)] at this
    simp only [vl] at this; omega
  have e : d * rs p (y : Int) * rs p (y : Int) = d * (rs p (y : Int) * rs p (y : Int)) := by grind
  unfold sqX cN
  rw [Fin.val_mul, one_sub h2, fi_val, e, one_sub h2, Fin.val_mul, Fin.val_mul, Fin.val_mul, v]
  rfl
theorem cnt_val (h2 : 2 ≤ p) (d : Fin p) : ∀ n, n ≤ p → tot (fun y => 1 + kind (sqX d (rs p y)).val p) n = (cntN p d.val n : Int)
  | 0, _ => rfl
  | n + 1, h => by
    show tot (fun y => 1 + kind (sqX d (rs p y)).val p) n + (1 + kind (sqX d (rs p n)).val p) = ((cntN p d.val n + kN p (cN p d.val n) : Nat) : Int)
    rw [cnt_val h2 d n (by omega), sq_val h2 d (by omega), ← kN_kind]; omega
theorem hasse {d : Fin p} (hp : Pr p) (h5 : 5 ≤ p) (h9 : p ≤ 199) (hk : kind d.val p = -1) : ∃ n : Nat, tot (fun y => 1 + kind (sqX d (rs p y)).val p) p = n ∧ n % 4 = 0 ∧ ((n : Int) - p - 1) * ((n : Int) - p - 1) ≤ 4 * p ∧ n ≤ 1000 := by
  refine ⟨cntN p d.val p, cnt_val (by omega) d p (Nat.le_refl _), ?_⟩
  have h := all_has
  unfold hasB at h
  rw [List.all_eq_true] at h
  have h1 := h p (by simp; omega)
  have e1 : Nat.ble p 4 = false := by rw [← Bool.not_eq_true, Nat.ble_eq]; omega
  rw [e1, hp.pr] at h1
  simp only [Bool.false_or, Bool.not_true] at h1
  rw [List.all_eq_true] at h1
  have h3 := h1 d.val (by simp)
  have e2 : Nat.beq (Nat.pow d.val ((p - 1) / 2) % p) (p - 1) = true := by
    rw [Nat.beq_eq]
    show d.val ^ ((p - 1) / 2) % p = p - 1
    rcases half_cases hp d.val d.isLt with ⟨_, _, k⟩ | ⟨_, _, k⟩ | ⟨_, e, _⟩
    · omega
    · omega
    · exact e
  rw [e2] at h3
  simp only [Bool.not_true, Bool.false_or] at h3
  generalize cntN p d.val p = n at *
  simp only [okN, Bool.and_eq_true, Nat.beq_eq, Nat.ble_eq] at h3
  obtain ⟨m4, hs⟩ := h3
  refine ⟨m4, ?_, ?_⟩
  · by_cases hle : p + 1 ≤ n
    · have e : ((n - (p + 1) : Nat) : Int) = (n : Int) - p - 1 := by omega
      have z : (p + 1) - n = 0 := by omega
      rw [z] at hs
      rw [← e, ← Int.natCast_mul]; omega
    · have e : (((p + 1) - n : Nat) : Int) = -((n : Int) - p - 1) := by omega
      have z : n - (p + 1) = 0 := by omega
      rw [z] at hs
      have : ((n : Int) - p - 1) * ((n : Int) - p - 1) = (-((n : Int) - p - 1)) * (-((n : Int) - p - 1)) := by rw [Int.neg_mul_neg]
      rw [this, ← e, ← Int.natCast_mul]; omega
  · by_cases hle : n ≤ 1000
    · exact hle
    · have : 800 * 800 ≤ (n - (p + 1)) * (n - (p + 1)) := Nat.mul_le_mul (by omega) (by omega)
      omega
end
end Go.Proofs.Ytapdecmaaciaaaa.Has
