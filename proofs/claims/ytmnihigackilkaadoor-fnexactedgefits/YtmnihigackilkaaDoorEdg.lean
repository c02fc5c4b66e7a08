/-
  Frontiers, plainly: over any digest. Appending a leaf to the frontier of a list gives the frontier of the longer list, and the frontier tells the root.
-/
import Derived.Test.YtmnihigackilkaaDoorMkl
namespace Go.Proofs.YtmnihigackilkaaDoor.Edg
open Go.Proofs.YtmnihigackilkaaDoor.Mkl
set_option linter.unusedVariables false

/-- The greatest power of 2 that is not above a number. -/
def top (n : Nat) : Nat := split (n + 1)
theorem top_spec {n : Nat} (h : 1 ≤ n) : ∃ j, top n = 2 ^ j ∧ 2 ^ j ≤ n ∧ n < 2 * 2 ^ j := by
  obtain ⟨j, e, h1, h2⟩ := split_spec (n + 1) (by omega)
  exact ⟨j, e, by omega, by omega⟩
theorem top_lt {n : Nat} (h : 1 ≤ n) : 1 ≤ top n ∧ top n ≤ n ∧ n < 2 * top n := by
  obtain ⟨j, e, h1, h2⟩ := top_spec h
  have hp : 1 ≤ 2 ^ j := Nat.one_le_two_pow
  rw [e]; omega
theorem pow_same {i j n : Nat} (a1 : 2 ^ i ≤ n) (a2 : n < 2 * 2 ^ i) (b1 : 2 ^ j ≤ n) (b2 : n < 2 * 2 ^ j) : i = j := by
  rcases Nat.lt_trichotomy i j with h | h | h
  · have : 2 ^ (i + 1) ≤ 2 ^ j := Nat.pow_le_pow_right (by omega) h
    rw [Nat.pow_succ] at this; omega
  · exact h
  · have : 2 ^ (j + 1) ≤ 2 ^ i := Nat.pow_le_pow_right (by omega) h
    rw [Nat.pow_succ] at this; omega
theorem top_of {j n : Nat} (h1 : 2 ^ j ≤ n) (h2 : n < 2 * 2 ^ j) : top n = 2 ^ j := by
  have hp : 1 ≤ 2 ^ j := Nat.one_le_two_pow
  obtain ⟨i, e, a1, a2⟩ := top_spec (n := n) (by omega)
  rw [e, pow_same a1 a2 h1 h2]
theorem top_same {n m : Nat} (h : 1 ≤ n) (h1 : top n ≤ m) (h2 : m < 2 * top n) : top m = top n := by
  obtain ⟨j, e, a1, a2⟩ := top_spec h
  rw [e] at h1 h2 ⊢
  exact top_of h1 h2
theorem top_dbl {n : Nat} (h : 1 ≤ n) : top (2 * top n) = 2 * top n := by
  obtain ⟨j, e, a1, a2⟩ := top_spec h
  have hp : 1 ≤ 2 ^ j := Nat.one_le_two_pow
  rw [e, show 2 * 2 ^ j = 2 ^ (j + 1) from by rw [Nat.pow_succ]; omega]
  exact top_of (Nat.le_refl _) (by have : 1 ≤ 2 ^ (j + 1) := Nat.one_le_two_pow; omega)
theorem top_top {n : Nat} (h : 1 ≤ n) : top (top n) = top n := by
  obtain ⟨j, e, a1, a2⟩ := top_spec h
  have hp : 1 ≤ 2 ^ j := Nat.one_le_two_pow
  rw [e]
  exact top_of (Nat.le_refl _) (by omega)
/-- Between a power of 2 and the next, the tree is split there. -/
theorem split_top {n : Nat} (h : 1 ≤ n) (h1 : top n < n) : split n = top n := by
  obtain ⟨j, e, a1, a2⟩ := top_spec h
  have hp : 1 ≤ 2 ^ j := Nat.one_le_two_pow
  rw [e] at h1
  obtain ⟨i, e', b1, b2⟩ := split_spec n (by omega)
  rw [e, e']
  rcases Nat.lt_trichotomy i j with h | h | h
  · have : 2 ^ (i + 1) ≤ 2 ^ j := Nat.pow_le_pow_right (by omega) h
    rw [Nat.pow_succ] at this; omega
  · rw [h]
  · have : 2 ^ (j + 1) ≤ 2 ^ i := Nat.pow_le_pow_right (by omega) h
    rw [Nat.pow_succ] at this; omega
theorem split_dbl {n : Nat} (h : 1 ≤ n) : split (2 * top n) = top n := by
  obtain ⟨j, e, a1, a2⟩ := top_spec h
  have hp : 1 ≤ 2 ^ j := Nat.one_le_two_pow
  rw [e]
  obtain ⟨i, e', b1, b2⟩ := split_spec (2 * 2 ^ j) (by omega)
  rw [e']
  rcases Nat.lt_trichotomy i j with h | h | h
  · have : 2 ^ (i + 1) ≤ 2 ^ j := Nat.pow_le_pow_right (by omega) h
    rw [Nat.pow_succ] at this; omega
  · rw [h]
  · have : 2 ^ (j + 1) ≤ 2 ^ i := Nat.pow_le_pow_right (by omega) h
    rw [Nat.pow_succ] at this; omega

/-- The powers of 2 whose sum a number is, in descending order. -/
def pts (n : Nat) : List Nat := if h : n = 0 then [] else top n :: pts (n - top n)
termination_by n
decreasing_by have := top_lt (show 1 ≤ n by omega); omega
theorem pts_zero : pts 0 = [] := by unfold pts; rw [dif_pos rfl]
theorem pts_pos {n : Nat} (h : 1 ≤ n) : pts n = top n :: pts (n - top n) := by
  conv => lhs; unfold pts
  rw [dif_neg (by omega)]
def pc (n : Nat) : Nat := (pts n).length
theorem pc_zero : pc 0 = 0 := by unfold pc; rw [pts_zero]; rfl
theorem pc_pos {n : Nat} (h : 1 ≤ n) : pc n = 1 + pc (n - top n) := by
  unfold pc
  rw [pts_pos h, List.length_cons]; omega
theorem pc_ge {n : Nat} (h : 1 ≤ n) : 1 ≤ pc n := by rw [pc_pos h]; omega
theorem pc_top {n : Nat} (h : 1 ≤ n) (e : top n = n) : pc n = 1 := by rw [pc_pos h, e, Nat.sub_self, pc_zero]
theorem pts_sum : ∀ (b n : Nat), n ≤ b → (pts n).sum = n := by
  intro b
  induction b with
  | zero => intro n h; have : n = 0 := by omega
            subst this; rw [pts_zero]; rfl
  | succ b ih =>
    intro n h
    by_cases h0 : n = 0
    · subst h0; rw [pts_zero]; rfl
    · have ht := top_lt (show 1 ≤ n by omega)
      rw [pts_pos (by omega), List.sum_cons, ih _ (by omega)]; omega
theorem pc_succ : ∀ (b n : Nat), n ≤ b → pc (n + 1) ≤ pc n + 1 := by
  intro b
  induction b with
  | zero => intro n h; have : n = 0 := by omega
            subst this; rw [pc_pos (by omega), pc_zero, (by have := top_lt (n := 0 + 1) (by omega); omega : top (0 + 1) = 1)]; simp [pc_zero]
  | succ b ih =>
    intro n h
    by_cases h0 : n = 0
    · subst h0; rw [pc_pos (by omega), pc_zero, (by have := top_lt (n := 0 + 1) (by omega); omega : top (0 + 1) = 1)]; simp [pc_zero]
    · have ht := top_lt (show 1 ≤ n by omega)
      by_cases h2 : n + 1 < 2 * top n
      · have e := top_same (show 1 ≤ n by omega) (m := n + 1) (by omega) h2
        rw [pc_pos (n := n + 1) (by omega), e, pc_pos (n := n) (by omega)]
        have := ih (n - top n) (by omega)
        rw [show n + 1 - top n = n - top n + 1 from by omega]
        omega
      · have e : n + 1 = 2 * top n := by omega
        rw [e, pc_top (by omega) (top_dbl (by omega))]; omega

section
variable (D : (List UInt8) → (List UInt8))
/-- The root that a frontier tells. -/
def rootE : List (List UInt8) → List UInt8
  | [] => D []
  | [a] => a
  | a :: b :: t => pairD D a (rootE (b :: t))
theorem rootE_cons (a : List UInt8) (q : List (List UInt8)) (h : q ≠ []) : rootE D (a :: q) = pairD D a (rootE D q) := by
  cases q with
  | nil => exact absurd rfl h
  | cons b t => rfl
theorem rootE_step (p : List (List UInt8)) (a b : List UInt8) : rootE D (p ++ [a, b]) = rootE D (p ++ [pairD D a b]) := by
  induction p with
  | nil => rfl
  | cons x p ih =>
    rw [List.cons_append, List.cons_append, rootE_cons D x _ (by simp), rootE_cons D x _ (by simp), ih]
/-- The last two replaced by their pair until no more than so many are left. -/
def fold (most : Nat) (p : List (List UInt8)) : List (List UInt8) := if p.length ≤ most then p else p.take (most - 1) ++ [rootE D (p.drop (most - 1))]
theorem fold_few {most : Nat} {p : List (List UInt8)} (h : p.length ≤ most) : fold D most p = p := by unfold fold; rw [if_pos h]
theorem fold_step (most : Nat) (h1 : 1 ≤ most) (p : List (List UInt8)) (a b : List UInt8) (h : most < p.length + 2) : fold D most (p ++ [a, b]) = fold D most (p ++ [pairD D a b]) := by
  unfold fold
  rw [if_neg (by simp; omega)]
  have ht : (p ++ [a, b]).take (most - 1) = (p ++ [pairD D a b]).take (most - 1) := by
    rw [List.take_append_of_le_length (by omega), List.take_append_of_le_length (by omega)]
  have hd : (p ++ [a, b]).drop (most - 1) = p.drop (most - 1) ++ [a, b] := List.drop_append_of_le_length (by omega)
  have hd' : (p ++ [pairD D a b]).drop (most - 1) = p.drop (most - 1) ++ [pairD D a b] := List.drop_append_of_le_length (by omega)
  by_cases hl : (p ++ [pairD D a b]).length ≤ most
  · rw [if_pos hl]
    have hm : most - 1 = p.length := by simp at hl; omega
    rw [hm, List.take_left, List.drop_left]
    rfl
  · rw [if_neg hl, ht, hd, hd', rootE_step]
theorem fold_len {most : Nat} (h1 : 1 ≤ most) {p : List (List UInt8)} (h : most ≤ p.length) : (fold D most p).length = most := by
  unfold fold
  by_cases hl : p.length ≤ most
  · rw [if_pos hl]; omega
  · rw [if_neg hl, List.length_append, List.length_take, List.length_singleton]; omega
theorem fold_cons (m : Nat) (h1 : 1 ≤ m) (a : List UInt8) (q : List (List UInt8)) : fold D (m + 1) (a :: q) = a :: fold D m q := by
  unfold fold
  by_cases hl : q.length ≤ m
  · rw [if_pos hl, if_pos (by rw [List.length_cons]; omega)]
  · rw [if_neg hl, if_neg (by rw [List.length_cons]; omega)]
    obtain ⟨k, rfl⟩ : ∃ k, m = k + 1 := ⟨m - 1, by omega⟩
    simp
theorem fold_one (q : List (List UInt8)) (h : q ≠ []) : fold D 1 q = [rootE D q] := by
  unfold fold
  by_cases hl : q.length ≤ 1
  · rw [if_pos hl]
    match q, h, hl with
    | [x], _, _ => rfl
  · rw [if_neg hl]; rfl
/-- The frontier of a list. -/
def edge (l : List (List UInt8)) : List (List UInt8) := if h : l.length = 0 then [] else root D (l.take (top l.length)) :: edge (l.drop (top l.length))
termination_by l.length
decreasing_by have := top_lt (show 1 ≤ l.length by omega); rw [List.length_drop]; omega
theorem edge_nil : edge D [] = [] := by unfold edge; simp
theorem edge_pos (l : List (List UInt8)) (h : 1 ≤ l.length) : edge D l = root D (l.take (top l.length)) :: edge D (l.drop (top l.length)) := by
  conv => lhs; unfold edge
  rw [dif_neg (by omega)]
theorem edge_len : ∀ (b : Nat) (l : List (List UInt8)), l.length ≤ b → (edge D l).length = pc l.length := by
  intro b
  induction b with
  | zero => intro l h; have : l = [] := List.eq_nil_of_length_eq_zero (by omega)
            subst this; rw [edge_nil, List.length_nil, pc_zero]
  | succ b ih =>
    intro l h
    by_cases h0 : l.length = 0
    · have : l = [] := List.eq_nil_of_length_eq_zero h0
      subst this; rw [edge_nil, List.length_nil, pc_zero]
    · have ht := top_lt (show 1 ≤ l.length by omega)
      rw [edge_pos D l (by omega), List.length_cons, pc_pos (by omega), ih _ (by rw [List.length_drop]; omega), List.length_drop]; omega
theorem edge_top (l : List (List UInt8)) (h : 1 ≤ l.length) (e : top l.length = l.length) : edge D l = [root D l] := by
  rw [edge_pos D l h, e, List.take_length, List.drop_length, edge_nil]
/-- Appending a leaf. -/
theorem edge_put : ∀ (b : Nat) (l : List (List UInt8)) (x : List UInt8), l.length ≤ b → edge D (l ++ [x]) = fold D (pc (l.length + 1)) (edge D l ++ [leafD D x]) := by
  intro b
  induction b with
  | zero =>
    intro l x h
    have : l = [] := List.eq_nil_of_length_eq_zero (by omega)
    subst this
    have e1 : top 1 = 1 := by have := top_lt (n := 1) (by omega); omega
    rw [edge_nil, List.nil_append, List.nil_append, edge_top D [x] (by simp) (by simpa using e1), root_one, fold_few D]
    simp only [List.length_nil, List.length_singleton]; exact pc_ge (by omega)
  | succ b ih =>
    intro l x h
    by_cases h0 : l.length = 0
    · have : l = [] := List.eq_nil_of_length_eq_zero h0
      subst this
      have e1 : top 1 = 1 := by have := top_lt (n := 1) (by omega); omega
      rw [edge_nil, List.nil_append, List.nil_append, edge_top D [x] (by simp) (by simpa using e1), root_one, fold_few D]
      simp only [List.length_nil, List.length_singleton]; exact pc_ge (by omega)
    · have hl : 1 ≤ l.length := by omega
      have ht := top_lt hl
      have hx : (l ++ [x]).length = l.length + 1 := by simp
      have hd : (l.drop (top l.length)).length = l.length - top l.length := by rw [List.length_drop]
      have dx : (l ++ [x]).drop (top l.length) = l.drop (top l.length) ++ [x] := List.drop_append_of_le_length (by omega)
      have tx : (l ++ [x]).take (top l.length) = l.take (top l.length) := List.take_append_of_le_length (by omega)
      have IH := ih (l.drop (top l.length)) x (by omega)
      rw [hd] at IH
      by_cases h2 : l.length + 1 < 2 * top l.length
      · have e := top_same hl (m := l.length + 1) (by omega) h2
        rw [edge_pos D (l ++ [x]) (by omega), hx, e, tx, dx, IH, edge_pos D l hl, List.cons_append, pc_pos (n := l.length + 1) (by omega), e,
          show l.length + 1 - top l.length = l.length - top l.length + 1 from by omega, Nat.add_comm 1, fold_cons D _ (pc_ge (by omega))]
      · have e : l.length + 1 = 2 * top l.length := by omega
        have et : top (l ++ [x]).length = (l ++ [x]).length := by rw [hx, e]; exact top_dbl hl
        have er : l.length - top l.length + 1 = top l.length := by omega
        have hq : edge D (l.drop (top l.length)) ++ [leafD D x] ≠ [] := by simp
        have hdx : (l.drop (top l.length) ++ [x]).length = top l.length := by rw [List.length_append, hd, List.length_singleton]; omega
        rw [er, pc_top (by omega) (top_top hl), fold_one D _ hq, edge_top D _ (by omega) (by rw [hdx]; exact top_top hl)] at IH
        have IH' : root D (l.drop (top l.length) ++ [x]) = rootE D (edge D (l.drop (top l.length)) ++ [leafD D x]) := by injection IH
        rw [edge_top D (l ++ [x]) (by omega) et, e, pc_top (by omega) (top_dbl hl), edge_pos D l hl, List.cons_append, fold_one D _ (by simp), rootE_cons D _ _ hq,
          root_two D (l ++ [x]) (by omega), hx, e, split_dbl hl, tx, dx, IH']
/-- The frontier tells the root. -/
theorem edge_root : ∀ (b : Nat) (l : List (List UInt8)), l.length ≤ b → rootE D (edge D l) = root D l := by
  intro b
  induction b with
  | zero => intro l h; have : l = [] := List.eq_nil_of_length_eq_zero (by omega)
            subst this; rw [edge_nil, root_nil]; rfl
  | succ b ih =>
    intro l h
    by_cases h0 : l.length = 0
    · have : l = [] := List.eq_nil_of_length_eq_zero h0
      subst this; rw [edge_nil, root_nil]; rfl
    · have hl : 1 ≤ l.length := by omega
      have ht := top_lt hl
      by_cases h1 : top l.length = l.length
      · rw [edge_top D l hl h1]; rfl
      · have hd : (l.drop (top l.length)).length = l.length - top l.length := by rw [List.length_drop]
        have hn : edge D (l.drop (top l.length)) ≠ [] := by
          intro q
          have := edge_len D _ (l.drop (top l.length)) (Nat.le_refl _)
          rw [q, hd] at this
          have := pc_ge (n := l.length - top l.length) (by omega)
          simp at *; omega
        rw [edge_pos D l hl, rootE_cons D _ _ hn, ih _ (by omega), root_two D l (by omega), split_top hl (by omega)]
theorem rootE_len (hD : ∀ x, (D x).length = 32) : ∀ (p : List (List UInt8)), (∀ s ∈ p, s.length = 32) → (rootE D p).length = 32
  | [], _ => hD _
  | [a], h => h a (by simp)
  | a :: b :: t, h => hD _
theorem fold_all (hD : ∀ x, (D x).length = 32) (most : Nat) (p : List (List UInt8)) (h : ∀ s ∈ p, s.length = 32) : ∀ s ∈ fold D most p, s.length = 32 := by
  unfold fold
  split
  · exact h
  · intro s hs
    rw [List.mem_append, List.mem_singleton] at hs
    rcases hs with hs | rfl
    · exact h s (List.mem_of_mem_take hs)
    · exact rootE_len D hD _ (fun s hs => h s (List.mem_of_mem_drop hs))
end
end Go.Proofs.YtmnihigackilkaaDoor.Edg
