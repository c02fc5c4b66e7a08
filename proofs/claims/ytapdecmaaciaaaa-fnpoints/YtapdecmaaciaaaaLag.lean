/-
  Lagrange: the number of points times a point is the neutral point. Plain facts, with no program in them.
-/
import Derived.Test.YtapdecmaaciaaaaGrp
namespace Go.Proofs.Ytapdecmaaciaaaa.Lag
open Go.Proofs.Ytapdecmaaciaaaa.Num Go.Proofs.Ytapdecmaaciaaaa.Ed Go.Proofs.Ytapdecmaaciaaaa.Grp
set_option linter.unusedVariables false
set_option linter.unusedSectionVars false
set_option linter.unusedSimpArgs false
theorem tot_split (f : Nat → Int) (a : Nat) : ∀ b, tot f (a + b) = tot f a + tot (fun j => f (a + j)) b
  | 0 => by simp [tot]
  | b + 1 => by
    show tot f (a + b) + f (a + b) = tot f a + (tot (fun j => f (a + j)) b + f (a + b))
    rw [tot_split f a b]; omega
theorem tot_mul (g : Nat → Nat → Int) (p : Nat) (hp : 0 < p) : ∀ m, tot (fun i => g (i / p) (i % p)) (m * p) = tot (fun x => tot (fun y => g x y) p) m
  | 0 => by simp [tot]
  | m + 1 => by
    show _ = tot (fun x => tot (fun y => g x y) p) m + tot (fun y => g m y) p
    rw [Nat.succ_mul, tot_split, tot_mul g p hp m]
    congr 1
    refine tot_congr p fun j hj => ?_
    have e1 : (m * p + j) / p = m := by rw [Nat.mul_comm, Nat.mul_add_div hp, Nat.div_eq_of_lt hj]; rfl
    have e2 : (m * p + j) % p = j := by rw [Nat.mul_comm, Nat.mul_add_mod, Nat.mod_eq_of_lt hj]
    rw [e1, e2]
section
variable {p : Nat} [NeZero p]
def pt (p : Nat) [NeZero p] (i : Nat) : Fin p × Fin p := (rs p ((i / p : Nat) : Int), rs p ((i % p : Nat) : Int))
def pts (d : Fin p) : List (Fin p × Fin p) := ((List.range (p * p)).map (pt p)).filter fun q => decide (onP d q)
theorem rs_val {y : Nat} (h : y < p) : (rs p (y : Int)).val = y := by
  have := vl_rs (p := p) (y : Int)
  rw [Int.emod_eq_of_lt (by omega) (by omega)] at this
  simp only [vl] at this; omega
theorem pt_code {i : Nat} (h : i < p * p) : (pt p i).1.val = i / p ∧ (pt p i).2.val = i % p := by
  have hp : 0 < p := by have := NeZero.ne p; omega
  have h1 : i / p < p := Nat.div_lt_of_lt_mul h
  have h2 : i % p < p := Nat.mod_lt _ hp
  exact ⟨rs_val h1, rs_val h2⟩
theorem pts_mem (d : Fin p) (q : Fin p × Fin p) : q ∈ pts d ↔ onP d q := by
  have hp : 0 < p := by have := NeZero.ne p; omega
  unfold pts
  rw [List.mem_filter, decide_eq_true_eq]
  refine ⟨fun h => h.2, fun h => ⟨?_, h⟩⟩
  rw [List.mem_map]
  have hq1 := q.1.isLt
  have hq2 := q.2.isLt
  have hlt : q.1.val * p + q.2.val < p * p := by
    have : (q.1.val + 1) * p ≤ p * p := Nat.mul_le_mul_right p hq1
    rw [Nat.add_mul] at this; omega
  refine ⟨q.1.val * p + q.2.val, List.mem_range.2 hlt, ?_⟩
  obtain ⟨e1, e2⟩ := pt_code (p := p) hlt
  refine Prod.ext (Fin.ext ?_) (Fin.ext ?_)
  · rw [e1, Nat.mul_comm, Nat.mul_add_div hp, Nat.div_eq_of_lt hq2]; rfl
  · rw [e2, Nat.mul_comm, Nat.mul_add_mod, Nat.mod_eq_of_lt hq2]
theorem pts_nodup (d : Fin p) : (pts d).Nodup := by
  unfold pts List.Nodup
  refine List.Pairwise.filter _ ?_
  rw [List.pairwise_map]
  refine List.Pairwise.imp_of_mem ?_ List.nodup_range
  intro i j hi hj hne e
  have hi' := List.mem_range.1 hi
  have hj' := List.mem_range.1 hj
  obtain ⟨a1, a2⟩ := pt_code (p := p) hi'
  obtain ⟨b1, b2⟩ := pt_code (p := p) hj'
  rw [e] at a1 a2
  apply hne
  have h1 : i / p = j / p := a1.symm.trans b1
  have h2 : i % p = j % p := a2.symm.trans b2
  have := Nat.div_add_mod i p
  have := Nat.div_add_mod j p
  rw [h1, h2] at *; omega
theorem len_tot (d : Fin p) : ∀ n, ((((List.range n).map (pt p)).filter fun q => decide (onP d q)).length : Int) = tot (fun i => onN d (i / p) (i % p)) n
  | 0 => rfl
  | n + 1 => by
    rw [List.range_succ, List.map_append, List.filter_append, List.length_append]
    show _ = tot (fun i => onN d (i / p) (i % p)) n + onN d (n / p) (n % p)
    rw [← len_tot d n]
    have : (((List.map (pt p) [n]).filter fun q => decide (onP d q)).length : Int) = onN d (n / p) (n % p) := by
      unfold onN
      by_cases h : On d (rs p ((n / p : Nat) : Int)) (rs p ((n % p : Nat) : Int))
      · rw [if_pos h]
        have : decide (onP d (pt p n)) = true := decide_eq_true (show onP d (pt p n) from h)
        simp [List.filter_cons, this]
      · rw [if_neg h]
        have : decide (onP d (pt p n)) = false := decide_eq_false (show ¬ onP d (pt p n) from h)
        simp [List.filter_cons, this]
    omega
theorem pts_len (d : Fin p) : ((pts d).length : Int) = tot (fun x => tot (fun y => onN d x y) p) p := by
  have hp : 0 < p := by have := NeZero.ne p; omega
  rw [← tot_mul (fun x y => onN d x y) p hp p]
  exact len_tot d (p * p)
/-- A sum that stands still off the curve. -/
def fd (d : Fin p) (q z : Fin p × Fin p) : Fin p × Fin p := if onP d z then ad d q z else z
theorem fd_on {d : Fin p} {q z : Fin p × Fin p} (h : onP d z) : fd d q z = ad d q z := if_pos h
theorem fold_on {d : Fin p} (hc : Cv p d) : ∀ l : List (Fin p × Fin p), (∀ q ∈ l, onP d q) → onP d (l.foldr (fd d) ze)
  | [], _ => ze_on d
  | q :: l, h => by
    have hl := fold_on hc l fun x hx => h x (List.mem_cons_of_mem _ hx)
    show onP d (fd d q (l.foldr (fd d) ze))
    rw [fd_on hl]; exact ad_on hc (h q (List.mem_cons_self ..)) hl
theorem fold_map {d : Fin p} (hc : Cv p d) {a : Fin p × Fin p} (ha : onP d a) : ∀ l : List (Fin p × Fin p), (∀ q ∈ l, onP d q) → (l.map (ad d a)).foldr (fd d) ze = ad d (mu d a l.length) (l.foldr (fd d) ze)
  | [], _ => (ze_ad hc.pr _).symm
  | q :: l, h => by
    have hq := h q (List.mem_cons_self ..)
    have hl' : ∀ x ∈ l, onP d x := fun x hx => h x (List.mem_cons_of_mem _ hx)
    have hl := fold_on hc l hl'
    have hm := mu_on hc ha l.length
    show fd d (ad d a q) ((l.map (ad d a)).foldr (fd d) ze) = ad d (ad d (mu d a l.length) a) (fd d q (l.foldr (fd d) ze))
    rw [fold_map hc ha l hl', fd_on (ad_on hc hm hl), fd_on hl]
    generalize l.foldr (fd d) ze = z at *
    generalize mu d a l.length = m at *
    have haq := ad_on hc ha hq
    rw [← ad_assoc hc haq hm hl, ← ad_assoc hc (ad_on hc hm ha) hq hl, ad_comm d (ad d a q) m, ad_assoc hc hm ha hq]
theorem lagrange {d : Fin p} (hc : Cv p d) {a : Fin p × Fin p} (ha : onP d a) : mu d a (pts d).length = ze := by
  have hon : ∀ q ∈ pts d, onP d q := fun q hq => (pts_mem d q).1 hq
  have hperm : ((pts d).map (ad d a)).Perm (pts d) := by
    refine (List.perm_ext_iff_of_nodup ?_ (pts_nodup d)).2 fun q => ?_
    · unfold List.Nodup
      rw [List.pairwise_map]
      exact List.Pairwise.imp_of_mem (fun {x y} hx hy hne e => hne (ad_left hc ha (hon x hx) (hon y hy) e)) (pts_nodup d)
    · rw [List.mem_map, pts_mem]
      constructor
      · rintro ⟨x, hx, rfl⟩; exact ad_on hc ha (hon x hx)
      · intro hq
        refine ⟨ad d (ng a) q, (pts_mem d _).2 (ad_on hc (ng_on ha) hq), ?_⟩
        rw [← ad_assoc hc ha (ng_on ha) hq, ad_ng hc ha, ze_ad hc.pr]
  have e := hperm.foldr_eq' (f := fd d) (fun x hx y hy z => by
    obtain ⟨x', hx', rfl⟩ := List.mem_map.1 hx
    obtain ⟨y', hy', rfl⟩ := List.mem_map.1 hy
    have ox := ad_on hc ha (hon x' hx')
    have oy := ad_on hc ha (hon y' hy')
    generalize ad d a x' = u at *
    generalize ad d a y' = v at *
    by_cases hz : onP d z
    · rw [fd_on hz, fd_on hz, fd_on (ad_on hc ox hz), fd_on (ad_on hc oy hz), ← ad_assoc hc oy ox hz, ← ad_assoc hc ox oy hz, ad_comm d u v]
    · simp [fd, hz]) ze
  rw [fold_map hc ha _ hon] at e
  have hS := fold_on hc (pts d) hon
  refine ad_left hc hS (mu_on hc ha _) (ze_on d) ?_
  rw [ad_comm, e, ad_ze hc.pr]
end
end Go.Proofs.Ytapdecmaaciaaaa.Lag
