/-
  Merkle trees, plainly: over any digest of 32 bytes. Proofs of inclusion and of growth hold; a proof of another leaf holds a collision.
-/
import Derived.WalkKit
namespace Go.Proofs.YtmnihigackilkaaDoor.Mkl
set_option linter.unusedVariables false

def splF : Nat → Nat → Nat → Nat
  | 0, n, _ => n
  | f + 1, n, many => if 2 * n < many then splF f (2 * n) many else n
/-- The greatest power of 2 below a number. -/
def split (many : Nat) : Nat := splF many 1 many
theorem splF_spec (f : Nat) : ∀ (i many : Nat), 2 ^ i < many → many ≤ 2 ^ i + f → ∃ j, splF f (2 ^ i) many = 2 ^ j ∧ 2 ^ j < many ∧ many ≤ 2 * 2 ^ j := by
  induction f with
  | zero => intro i many h1 h2; omega
  | succ f ih =>
    intro i many h1 h2
    have hp : 1 ≤ 2 ^ i := Nat.one_le_two_pow
    unfold splF
    by_cases h : 2 * 2 ^ i < many
    · rw [if_pos h]
      have e : 2 * 2 ^ i = 2 ^ (i + 1) := by rw [Nat.pow_succ]; omega
      rw [e] at h ⊢
      exact ih (i + 1) many h (by rw [← e]; omega)
    · rw [if_neg h]
      exact ⟨i, rfl, h1, by omega⟩
theorem split_spec (many : Nat) (h : 2 ≤ many) : ∃ j, split many = 2 ^ j ∧ 2 ^ j < many ∧ many ≤ 2 * 2 ^ j := splF_spec many 0 many (by omega) (by omega)
theorem split_lt {many : Nat} (h : 2 ≤ many) : 1 ≤ split many ∧ split many < many ∧ many ≤ 2 * split many := by
  obtain ⟨j, e, h1, h2⟩ := split_spec many h
  have hp : 1 ≤ 2 ^ j := Nat.one_le_two_pow
  rw [e]; omega
theorem split_same {many first : Nat} (h : 2 ≤ many) (h1 : split many < first) (h2 : first ≤ many) : split first = split many := by
  obtain ⟨j, e, a1, a2⟩ := split_spec many h
  rw [e] at h1
  have hp : 1 ≤ 2 ^ j := Nat.one_le_two_pow
  obtain ⟨i, e', b1, b2⟩ := split_spec first (by omega)
  rw [e, e']
  rcases Nat.lt_trichotomy i j with h | h | h
  · have : 2 ^ (i + 1) ≤ 2 ^ j := Nat.pow_le_pow_right (by omega) h
    rw [Nat.pow_succ] at this; omega
  · rw [h]
  · have : 2 ^ (j + 1) ≤ 2 ^ i := Nat.pow_le_pow_right (by omega) h
    rw [Nat.pow_succ] at this; omega

section
variable (D : (List UInt8) → (List UInt8))
def leafD (x : (List UInt8)) : (List UInt8) := D (0 :: x)
def pairD (a b : (List UInt8)) : (List UInt8) := D (1 :: (a ++ b))
def root (l : List (List UInt8)) : (List UInt8) :=
  if h0 : l.length = 0 then D [] else if h1 : l.length = 1 then leafD D (l[0]'(by omega)) else
    pairD D (root (l.take (split l.length))) (root (l.drop (split l.length)))
termination_by l.length
decreasing_by
  · have := split_lt (show 2 ≤ l.length by omega); rw [List.length_take]; omega
  · have := split_lt (show 2 ≤ l.length by omega); rw [List.length_drop]; omega
theorem root_nil : root D [] = D [] := by unfold root; simp
theorem root_one (x : (List UInt8)) : root D [x] = leafD D x := by unfold root; simp
theorem root_two (l : List (List UInt8)) (h : 2 ≤ l.length) : root D l = pairD D (root D (l.take (split l.length))) (root D (l.drop (split l.length))) := by
  conv => lhs; unfold root
  rw [dif_neg (by omega), dif_neg (by omega)]
def proof (l : List (List UInt8)) (k : Nat) : List (List UInt8) :=
  if h : l.length ≤ 1 then [] else
    if k < split l.length then proof (l.take (split l.length)) k ++ [root D (l.drop (split l.length))]
    else proof (l.drop (split l.length)) (k - split l.length) ++ [root D (l.take (split l.length))]
termination_by l.length
decreasing_by
  · have := split_lt (show 2 ≤ l.length by omega); rw [List.length_take]; omega
  · have := split_lt (show 2 ≤ l.length by omega); rw [List.length_drop]; omega
theorem proof_one (l : List (List UInt8)) (k : Nat) (h : l.length ≤ 1) : proof D l k = [] := by unfold proof; rw [dif_pos h]
theorem proof_two (l : List (List UInt8)) (k : Nat) (h : 2 ≤ l.length) : proof D l k = if k < split l.length then proof D (l.take (split l.length)) k ++ [root D (l.drop (split l.length))] else proof D (l.drop (split l.length)) (k - split l.length) ++ [root D (l.take (split l.length))] := by
  conv => lhs; unfold proof
  rw [dif_neg (by omega)]
/-- The root that a proof tells, and whether it has as many digests as are needed. -/
def up (many k : Nat) (leaf : (List UInt8)) (p : List (List UInt8)) : (List UInt8) × Bool :=
  if h : many ≤ 1 then (leafD D leaf, decide (p.length = 0)) else if p.length = 0 then ([], false) else
    if k < split many then let r := up (split many) k leaf p.dropLast; (pairD D r.1 (p.getLastD []), r.2)
    else let r := up (many - split many) (k - split many) leaf p.dropLast; (pairD D (p.getLastD []) r.1, r.2)
termination_by many
decreasing_by
  · have := split_lt (show 2 ≤ many by omega); omega
  · have := split_lt (show 2 ≤ many by omega); omega
theorem up_one (many k : Nat) (leaf : (List UInt8)) (p : List (List UInt8)) (h : many ≤ 1) : up D many k leaf p = (leafD D leaf, decide (p.length = 0)) := by unfold up; rw [dif_pos h]
theorem up_nil (many k : Nat) (leaf : (List UInt8)) (h : 2 ≤ many) : up D many k leaf [] = ([], false) := by unfold up; rw [dif_neg (by omega), if_pos (show ([] : List (List UInt8)).length = 0 from rfl)]
theorem up_two (many k : Nat) (leaf : (List UInt8)) (p : List (List UInt8)) (x : (List UInt8)) (h : 2 ≤ many) : up D many k leaf (p ++ [x]) = if k < split many then (pairD D (up D (split many) k leaf p).1 x, (up D (split many) k leaf p).2) else (pairD D x (up D (many - split many) (k - split many) leaf p).1, (up D (many - split many) (k - split many) leaf p).2) := by
  conv => lhs; unfold up
  rw [dif_neg (by omega), if_neg (by simp)]
  simp
/-- Every proof of inclusion holds. -/
theorem up_proof (n : Nat) : ∀ (l : List (List UInt8)) (k : Nat) (leaf : (List UInt8)), l[k]? = some leaf → l.length ≤ n → up D l.length k leaf (proof D l k) = (root D l, true) := by
  induction n with
  | zero => intro l k leaf hk h; have : l = [] := List.eq_nil_of_length_eq_zero (by omega); subst this; simp at hk
  | succ n ih =>
    intro l k leaf hk h
    have hkl : k < l.length := by
      apply Classical.byContradiction
      intro hn; rw [List.getElem?_eq_none (by omega)] at hk; cases hk
    by_cases h1 : l.length ≤ 1
    · rw [proof_one D l k h1, up_one D _ _ _ _ h1]
      match l, hk, h1, hkl with
      | [x], hk, _, hkl =>
        obtain rfl : k = 0 := by simpa using hkl
        obtain rfl : x = leaf := by simpa using hk
        rw [root_one]; rfl
    · have h2 : 2 ≤ l.length := by omega
      obtain ⟨s1, s2, s3⟩ := split_lt h2
      rw [proof_two D l k h2, root_two D l h2]
      have lt : (l.take (split l.length)).length = split l.length := by rw [List.length_take]; omega
      have ld : (l.drop (split l.length)).length = l.length - split l.length := by rw [List.length_drop]
      by_cases hs : k < split l.length
      · rw [if_pos hs, up_two D _ _ _ _ _ h2, if_pos hs]
        have := ih (l.take (split l.length)) k leaf (by rw [List.getElem?_take_of_lt hs]; exact hk) (by omega)
        rw [lt] at this
        rw [this]
      · rw [if_neg hs, up_two D _ _ _ _ _ h2, if_neg hs]
        have e : split l.length + (k - split l.length) = k := by omega
        have := ih (l.drop (split l.length)) (k - split l.length) leaf (by rw [List.getElem?_drop, e]; exact hk) (by omega)
        rw [ld] at this
        rw [this]
def growth (l : List (List UInt8)) (first : Nat) (begin : Bool) : List (List UInt8) :=
  if h0 : l.length ≤ 1 ∨ first = l.length then (if begin then [] else [root D l]) else
    if first ≤ split l.length then growth (l.take (split l.length)) first begin ++ [root D (l.drop (split l.length))]
    else growth (l.drop (split l.length)) (first - split l.length) false ++ [root D (l.take (split l.length))]
termination_by l.length
decreasing_by
  · have := split_lt (show 2 ≤ l.length by omega); rw [List.length_take]; omega
  · have := split_lt (show 2 ≤ l.length by omega); rw [List.length_drop]; omega
theorem growth_all (l : List (List UInt8)) (first : Nat) (begin : Bool) (h : first = l.length) : growth D l first begin = if begin then [] else [root D l] := by unfold growth; rw [dif_pos (.inr h)]
theorem growth_two (l : List (List UInt8)) (first : Nat) (begin : Bool) (h1 : 1 ≤ first) (h : first < l.length) : growth D l first begin = if first ≤ split l.length then growth D (l.take (split l.length)) first begin ++ [root D (l.drop (split l.length))] else growth D (l.drop (split l.length)) (first - split l.length) false ++ [root D (l.take (split l.length))] := by
  conv => lhs; unfold growth
  rw [dif_neg (by omega)]
/-- Both roots that a proof of growth tells. -/
def grown (first many : Nat) (one : (List UInt8)) (begin : Bool) (p : List (List UInt8)) : (List UInt8) × (List UInt8) × Bool :=
  if h0 : many ≤ 1 ∨ first = many then (if begin then (one, one, decide (p.length = 0)) else if p.length = 1 then (p.headD [], p.headD [], true) else ([], [], false)) else
    if p.length = 0 then ([], [], false) else
      if first ≤ split many then let r := grown first (split many) one begin p.dropLast; (r.1, pairD D r.2.1 (p.getLastD []), r.2.2)
      else let r := grown (first - split many) (many - split many) one false p.dropLast; (pairD D (p.getLastD []) r.1, pairD D (p.getLastD []) r.2.1, r.2.2)
termination_by many
decreasing_by
  · have := split_lt (show 2 ≤ many by omega); omega
  · have := split_lt (show 2 ≤ many by omega); omega
theorem grown_all (first many : Nat) (one : (List UInt8)) (begin : Bool) (p : List (List UInt8)) (h : first = many) : grown D first many one begin p = if begin then (one, one, decide (p.length = 0)) else if p.length = 1 then (p.headD [], p.headD [], true) else ([], [], false) := by unfold grown; rw [dif_pos (.inr h)]
theorem grown_nil (first many : Nat) (one : (List UInt8)) (begin : Bool) (h1 : 1 ≤ first) (h : first < many) : grown D first many one begin [] = ([], [], false) := by unfold grown; rw [dif_neg (by omega), if_pos (show ([] : List (List UInt8)).length = 0 from rfl)]
theorem grown_two (first many : Nat) (one : (List UInt8)) (begin : Bool) (p : List (List UInt8)) (x : (List UInt8)) (h1 : 1 ≤ first) (h : first < many) : grown D first many one begin (p ++ [x]) = if first ≤ split many then ((grown D first (split many) one begin p).1, pairD D (grown D first (split many) one begin p).2.1 x, (grown D first (split many) one begin p).2.2) else (pairD D x (grown D (first - split many) (many - split many) one false p).1, pairD D x (grown D (first - split many) (many - split many) one false p).2.1, (grown D (first - split many) (many - split many) one false p).2.2) := by
  conv => lhs; unfold grown
  rw [dif_neg (by omega), if_neg (by simp)]
  simp
/-- Every proof of growth holds. -/
theorem grown_growth (n : Nat) : ∀ (l : List (List UInt8)) (first : Nat) (one : (List UInt8)) (begin : Bool), 1 ≤ first → first ≤ l.length → l.length ≤ n → (begin = true → one = root D (l.take first)) → grown D first l.length one begin (growth D l first begin) = (root D (l.take first), root D l, true) := by
  induction n with
  | zero => intro l first one begin h1 h2 h3; omega
  | succ n ih =>
    intro l first one begin h1 h2 h3 hone
    by_cases he : first = l.length
    · rw [growth_all D l first begin he, grown_all D _ _ _ _ _ he]
      have ht : l.take first = l := List.take_of_length_le (by omega)
      rw [ht] at hone ⊢
      cases begin
      · rfl
      · simp [hone rfl]
    · have hlt : first < l.length := by omega
      have h2' : 2 ≤ l.length := by omega
      obtain ⟨s1, s2, s3⟩ := split_lt h2'
      have lt : (l.take (split l.length)).length = split l.length := by rw [List.length_take]; omega
      have ld : (l.drop (split l.length)).length = l.length - split l.length := by rw [List.length_drop]
      rw [growth_two D l first begin h1 hlt, root_two D l h2']
      by_cases hs : first ≤ split l.length
      · rw [if_pos hs, grown_two D _ _ _ _ _ _ h1 hlt, if_pos hs]
        have e : (l.take (split l.length)).take first = l.take first := by rw [List.take_take, Nat.min_eq_left hs]
        have := ih (l.take (split l.length)) first one begin h1 (by omega) (by omega) (by rw [e]; exact hone)
        rw [lt, e] at this
        rw [this]
      · rw [if_neg hs, grown_two D _ _ _ _ _ _ h1 hlt, if_neg hs]
        have := ih (l.drop (split l.length)) (first - split l.length) one false (by omega) (by omega) (by omega) (fun h => by cases h)
        rw [ld] at this
        rw [this]
        have hf : (l.take first).length = first := by rw [List.length_take]; omega
        have hsp : split (l.take first).length = split l.length := by rw [hf]; exact split_same h2' (by omega) h2
        rw [root_two D (l.take first) (by omega), hsp, List.take_take, Nat.min_eq_left (by omega), List.drop_take]
theorem up_many (many k : Nat) (leaf : (List UInt8)) (p : List (List UInt8)) (h : 2 ≤ many) (hu : (up D many k leaf p).2 = true) : p ≠ [] := by
  rintro rfl
  rw [up_nil D many k leaf h] at hu
  cases hu
/-- A clash of a pair, where there was none below. -/
def above (a b mine theirs : (List UInt8)) : (List UInt8) × (List UInt8) × (List UInt8) :=
  if a = [] ∧ mine ≠ theirs ∧ D (1 :: mine) = D (1 :: theirs) then (1 :: mine, 1 :: theirs, D (1 :: mine)) else (a, b, D (1 :: mine))
/-- The first clash of a proof with a list, from the leaf up, and the digest that the proof tells. -/
def clash (l : List (List UInt8)) (k : Nat) (leaf : (List UInt8)) (p : List (List UInt8)) : (List UInt8) × (List UInt8) × (List UInt8) :=
  if h : l.length ≤ 1 then (if leaf ≠ l.headD [] ∧ leafD D leaf = leafD D (l.headD []) then (0 :: leaf, 0 :: l.headD [], leafD D leaf) else ([], [], leafD D leaf)) else
    if k < split l.length then let r := clash (l.take (split l.length)) k leaf p.dropLast; above D r.1 r.2.1 (r.2.2 ++ p.getLastD []) (root D (l.take (split l.length)) ++ root D (l.drop (split l.length)))
    else let r := clash (l.drop (split l.length)) (k - split l.length) leaf p.dropLast; above D r.1 r.2.1 (p.getLastD [] ++ r.2.2) (root D (l.take (split l.length)) ++ root D (l.drop (split l.length)))
termination_by l.length
decreasing_by
  · have := split_lt (show 2 ≤ l.length by omega); rw [List.length_take]; omega
  · have := split_lt (show 2 ≤ l.length by omega); rw [List.length_drop]; omega
theorem clash_one (x : (List UInt8)) (k : Nat) (leaf : (List UInt8)) (p : List (List UInt8)) : clash D [x] k leaf p = if leaf ≠ x ∧ leafD D leaf = leafD D x then (0 :: leaf, 0 :: x, leafD D leaf) else ([], [], leafD D leaf) := by
  conv => lhs; unfold clash
  rw [dif_pos (by simp)]
  rfl
theorem clash_two (l : List (List UInt8)) (k : Nat) (leaf : (List UInt8)) (p : List (List UInt8)) (x : (List UInt8)) (h : 2 ≤ l.length) : clash D l k leaf (p ++ [x]) =
    if k < split l.length then above D (clash D (l.take (split l.length)) k leaf p).1 (clash D (l.take (split l.length)) k leaf p).2.1 ((clash D (l.take (split l.length)) k leaf p).2.2 ++ x) (root D (l.take (split l.length)) ++ root D (l.drop (split l.length)))
    else above D (clash D (l.drop (split l.length)) (k - split l.length) leaf p).1 (clash D (l.drop (split l.length)) (k - split l.length) leaf p).2.1 (x ++ (clash D (l.drop (split l.length)) (k - split l.length) leaf p).2.2) (root D (l.take (split l.length)) ++ root D (l.drop (split l.length))) := by
  conv => lhs; unfold clash
  rw [dif_neg (by omega)]
  simp
def Hit (a b : (List UInt8)) : Prop := a ≠ [] ∧ a ≠ b ∧ D a = D b
theorem above_or (a b mine theirs : (List UInt8)) (h : Hit D a b ∨ (a = [] ∧ mine ≠ theirs)) : (above D a b mine theirs).2.2 = D (1 :: mine) ∧ (Hit D (above D a b mine theirs).1 (above D a b mine theirs).2.1 ∨ ((above D a b mine theirs).1 = [] ∧ D (1 :: mine) ≠ D (1 :: theirs))) := by
  unfold above
  rcases h with h | ⟨h1, h2⟩
  · rw [if_neg (fun q => h.1 q.1)]
    exact ⟨rfl, .inl h⟩
  · by_cases he : D (1 :: mine) = D (1 :: theirs)
    · rw [if_pos ⟨h1, h2, he⟩]
      exact ⟨rfl, .inl ⟨by simp, by simpa using h2, he⟩⟩
    · rw [if_neg (fun q => he q.2.2)]
      exact ⟨rfl, .inr ⟨h1, he⟩⟩
theorem root_len (hD : ∀ x, (D x).length = 32) (l : List (List UInt8)) : (root D l).length = 32 := by
  unfold root
  split
  · exact hD _
  · split
    · exact hD _
    · exact hD _
theorem up_len (hD : ∀ x, (D x).length = 32) (many k : Nat) (leaf : (List UInt8)) (p : List (List UInt8)) (h : (up D many k leaf p).2 = true) : (up D many k leaf p).1.length = 32 := by
  unfold up at h ⊢
  split
  · exact hD _
  · rename_i hm
    rw [dif_neg hm] at h
    split
    · rename_i h0
      rw [if_pos h0] at h; cases h
    · split <;> exact hD _
/-- A proof of another leaf that is right in form: there is a clash, or it tells another root. -/
theorem clash_spec (hD : ∀ x, (D x).length = 32) (n : Nat) : ∀ (l : List (List UInt8)) (k : Nat) (leaf x : (List UInt8)) (p : List (List UInt8)), l[k]? = some x → leaf ≠ x → l.length ≤ n → (up D l.length k leaf p).2 = true →
    (clash D l k leaf p).2.2 = (up D l.length k leaf p).1 ∧ (Hit D (clash D l k leaf p).1 (clash D l k leaf p).2.1 ∨ ((clash D l k leaf p).1 = [] ∧ (up D l.length k leaf p).1 ≠ root D l)) := by
  induction n with
  | zero => intro l k leaf x p hk hx h hu; have : l = [] := List.eq_nil_of_length_eq_zero (by omega); subst this; simp at hk
  | succ n ih =>
    intro l k leaf x p hk hx h hu
    have hkl : k < l.length := by
      apply Classical.byContradiction
      intro hn; rw [List.getElem?_eq_none (by omega)] at hk; cases hk
    by_cases h1 : l.length ≤ 1
    · match l, hk, h1, hkl with
      | [y], hk, _, hkl =>
        obtain rfl : k = 0 := by simpa using hkl
        obtain rfl : y = x := by simpa using hk
        rw [clash_one, up_one D _ _ _ _ (by simp), root_one]
        by_cases he : leafD D leaf = leafD D y
        · rw [if_pos ⟨hx, he⟩]
          exact ⟨rfl, .inl ⟨by simp, by simpa using hx, he⟩⟩
        · rw [if_neg (fun q => he q.2)]
          exact ⟨rfl, .inr ⟨rfl, he⟩⟩
    · have h2 : 2 ≤ l.length := by omega
      obtain ⟨s1, s2, s3⟩ := split_lt h2
      have lt : (l.take (split l.length)).length = split l.length := by rw [List.length_take]; omega
      have ld : (l.drop (split l.length)).length = l.length - split l.length := by rw [List.length_drop]
      have hp := up_many D _ _ _ _ h2 hu
      obtain ⟨q, z, rfl⟩ : ∃ q z, p = q ++ [z] := ⟨p.dropLast, p.getLast hp, (List.dropLast_concat_getLast hp).symm⟩
      rw [up_two D _ _ _ _ _ h2] at hu ⊢
      rw [clash_two D _ _ _ _ _ h2, root_two D l h2]
      by_cases hs : k < split l.length
      · rw [if_pos hs] at hu
        rw [if_pos hs, if_pos hs]
        have hu' : (up D (l.take (split l.length)).length k leaf q).2 = true := by rw [lt]; exact hu
        obtain ⟨i1, i2⟩ := ih (l.take (split l.length)) k leaf x q (by rw [List.getElem?_take_of_lt hs]; exact hk) hx (by omega) hu'
        rw [lt] at i1 i2 hu'
        have hl := up_len D hD _ _ _ _ hu'
        rw [i1]
        refine above_or D _ _ _ _ ?_
        rcases i2 with i2 | ⟨i2, i3⟩
        · exact .inl i2
        · refine .inr ⟨i2, fun e => i3 ?_⟩
          exact (List.append_inj e (by rw [hl, root_len D hD])).1
      · rw [if_neg hs] at hu
        rw [if_neg hs, if_neg hs]
        have hu' : (up D (l.drop (split l.length)).length (k - split l.length) leaf q).2 = true := by rw [ld]; exact hu
        have e : split l.length + (k - split l.length) = k := by omega
        obtain ⟨i1, i2⟩ := ih (l.drop (split l.length)) (k - split l.length) leaf x q (by rw [List.getElem?_drop, e]; exact hk) hx (by omega) hu'
        rw [ld] at i1 i2 hu'
        have hl := up_len D hD _ _ _ _ hu'
        rw [i1]
        refine above_or D _ _ _ _ ?_
        rcases i2 with i2 | ⟨i2, i3⟩
        · exact .inl i2
        · refine .inr ⟨i2, fun e => i3 ?_⟩
          exact (List.append_inj' e (by rw [hl, root_len D hD])).2
end
end Go.Proofs.YtmnihigackilkaaDoor.Mkl
