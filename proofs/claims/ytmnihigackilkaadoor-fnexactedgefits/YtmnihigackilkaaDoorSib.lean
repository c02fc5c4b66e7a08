/-
  Merkle trees by parts of a list: the parts beside a path, the steps up, the inputs of the digests on the way. What the recursive words (Mkl) say, said in these.
-/
import Derived.Test.YtmnihigackilkaaDoorMkl
namespace Go.Proofs.YtmnihigackilkaaDoor.Sib
open Go.Proofs.YtmnihigackilkaaDoor.Mkl
set_option linter.unusedVariables false

/-- Halving leads from the part f..t to the part b..e. -/
inductive Rch : Nat → Nat → Nat → Nat → Prop
  | here (f t : Nat) (h : f < t) : Rch f t f t
  | left (f t b e : Nat) (h : 2 ≤ t - f) (r : Rch f (f + split (t - f)) b e) : Rch f t b e
  | right (f t b e : Nat) (h : 2 ≤ t - f) (r : Rch (f + split (t - f)) t b e) : Rch f t b e
theorem Rch.in {f t b e : Nat} (h : Rch f t b e) : f ≤ b ∧ b < e ∧ e ≤ t := by
  induction h with
  | here f t h => omega
  | left f t b e h r ih => have := split_lt h; omega
  | right f t b e h r ih => have := split_lt h; omega
/-- The parts beside the path from b..e up to f..t. -/
def sib (f t b e : Nat) : List (Nat × Nat) :=
  if h : t - f ≤ 1 ∨ (f = b ∧ t = e) then [] else
    if f + split (t - f) ≤ b then sib (f + split (t - f)) t b e ++ [(f, f + split (t - f))] else sib f (f + split (t - f)) b e ++ [(f + split (t - f), t)]
termination_by t - f
decreasing_by
  · have := split_lt (show 2 ≤ t - f by omega); omega
  · have := split_lt (show 2 ≤ t - f by omega); omega
theorem sib_here (f t : Nat) : sib f t f t = [] := by unfold sib; rw [dif_pos (.inr ⟨rfl, rfl⟩)]
theorem sib_right {f t b e : Nat} (h : 2 ≤ t - f) (r : Rch (f + split (t - f)) t b e) : sib f t b e = sib (f + split (t - f)) t b e ++ [(f, f + split (t - f))] := by
  have := split_lt h; have := r.in
  conv => lhs; unfold sib
  rw [dif_neg (by omega), if_pos (by omega)]
theorem sib_left {f t b e : Nat} (h : 2 ≤ t - f) (r : Rch f (f + split (t - f)) b e) : sib f t b e = sib f (f + split (t - f)) b e ++ [(f + split (t - f), t)] := by
  have := split_lt h; have := r.in
  conv => lhs; unfold sib
  rw [dif_neg (by omega), if_neg (by omega)]
theorem rch_leaf (n : Nat) : ∀ f t k : Nat, t - f ≤ n → f ≤ k → k < t → Rch f t k (k + 1) := by
  induction n with
  | zero => intro f t k h h1 h2; omega
  | succ n ih =>
    intro f t k h h1 h2
    by_cases h3 : t - f ≤ 1
    · obtain rfl : f = k := by omega
      obtain rfl : t = f + 1 := by omega
      exact .here _ _ h2
    · have h4 : 2 ≤ t - f := by omega
      have := split_lt h4
      by_cases hk : k < f + split (t - f)
      · exact .left f t k (k + 1) h4 (ih _ _ _ (by omega) h1 hk)
      · exact .right f t k (k + 1) h4 (ih _ _ _ (by omega) (by omega) h2)
/-- The greatest part that ends where the older tree ends. -/
def last (f t first : Nat) : Nat × Nat :=
  if h : t - f ≤ 1 ∨ t = first then (f, t) else
    if first ≤ f + split (t - f) then last f (f + split (t - f)) first else last (f + split (t - f)) t first
termination_by t - f
decreasing_by
  · have := split_lt (show 2 ≤ t - f by omega); omega
  · have := split_lt (show 2 ≤ t - f by omega); omega
theorem last_here (f t : Nat) : last f t t = (f, t) := by unfold last; rw [dif_pos (.inr rfl)]
theorem last_two {f t first : Nat} (h1 : f < first) (h2 : first < t) : last f t first = if first ≤ f + split (t - f) then last f (f + split (t - f)) first else last (f + split (t - f)) t first := by
  conv => lhs; unfold last
  rw [dif_neg (by omega)]
theorem last_rch (n : Nat) : ∀ f t first : Nat, t - f ≤ n → f < first → first ≤ t → Rch f t (last f t first).1 (last f t first).2 ∧ (last f t first).2 = first := by
  induction n with
  | zero => intro f t first h h1 h2; omega
  | succ n ih =>
    intro f t first h h1 h2
    by_cases he : first = t
    · subst he; rw [last_here]; exact ⟨.here _ _ h1, rfl⟩
    · rw [last_two h1 (by omega)]
      have h4 : 2 ≤ t - f := by omega
      have := split_lt h4
      by_cases hk : first ≤ f + split (t - f)
      · rw [if_pos hk]
        obtain ⟨i1, i2⟩ := ih f (f + split (t - f)) first (by omega) h1 hk
        exact ⟨.left _ _ _ _ h4 i1, i2⟩
      · rw [if_neg hk]
        obtain ⟨i1, i2⟩ := ih (f + split (t - f)) t first (by omega) (by omega) h2
        exact ⟨.right _ _ _ _ h4 i1, i2⟩

def sub (l : List (List UInt8)) (f t : Nat) : List (List UInt8) := (l.drop f).take (t - f)
theorem sub_len (l : List (List UInt8)) {f t : Nat} (h : t ≤ l.length) : (sub l f t).length = t - f := by simp [sub]; omega
theorem sub_all (l : List (List UInt8)) : sub l 0 l.length = l := by simp [sub]
theorem sub_take (l : List (List UInt8)) {f t m : Nat} (h : m ≤ t - f) : (sub l f t).take m = sub l f (f + m) := by
  simp only [sub, List.take_take]; rw [Nat.min_eq_left h, show f + m - f = m by omega]
theorem sub_drop (l : List (List UInt8)) {f t m : Nat} (h : m ≤ t - f) : (sub l f t).drop m = sub l (f + m) t := by
  simp only [sub, List.drop_take, List.drop_drop]; rw [show t - f - m = t - (f + m) by omega]
theorem sub_at (l : List (List UInt8)) {f t k : Nat} (h1 : f ≤ k) (h2 : k < t) : (sub l f t)[k - f]? = l[k]? := by
  simp only [sub]; rw [List.getElem?_take_of_lt (by omega), List.getElem?_drop, show f + (k - f) = k by omega]

section
variable (D : (List UInt8) → (List UInt8)) (l : List (List UInt8))
/-- The root of a part. -/
def prt (p : Nat × Nat) : List UInt8 := root D (sub l p.1 p.2)
theorem proof_sib (n : Nat) : ∀ f t k : Nat, t - f ≤ n → t ≤ l.length → f ≤ k → k < t → proof D (sub l f t) (k - f) = (sib f t k (k + 1)).map (prt D l) := by
  induction n with
  | zero => intro f t k h h0 h1 h2; omega
  | succ n ih =>
    intro f t k h h0 h1 h2
    have hl := sub_len l (f := f) h0
    by_cases h3 : t - f ≤ 1
    · obtain rfl : f = k := by omega
      obtain rfl : t = f + 1 := by omega
      rw [sib_here, proof_one D _ _ (by omega)]; rfl
    · have h4 : 2 ≤ t - f := by omega
      have hs := split_lt h4
      rw [proof_two D _ _ (by omega), hl, sub_take l (by omega), sub_drop l (by omega)]
      by_cases hk : k < f + split (t - f)
      · rw [if_pos (by omega), ih f (f + split (t - f)) k (by omega) (by omega) h1 hk, sib_left h4 (rch_leaf _ _ _ _ (Nat.le_refl _) h1 hk)]
        simp [prt]
      · rw [if_neg (by omega), show k - f - split (t - f) = k - (f + split (t - f)) by omega, ih (f + split (t - f)) t k (by omega) h0 (by omega) h2, sib_right h4 (rch_leaf _ _ _ _ (Nat.le_refl _) (by omega) h2)]
        simp [prt]
theorem growth_sib (n : Nat) : ∀ f t first : Nat, t - f ≤ n → t ≤ l.length → f < first → first ≤ t →
    growth D (sub l f t) (first - f) (decide (f = 0)) = (if (last f t first).1 = 0 then [] else [prt D l (last f t first)]) ++ (sib f t (last f t first).1 (last f t first).2).map (prt D l) := by
  induction n with
  | zero => intro f t first h h0 h1 h2; omega
  | succ n ih =>
    intro f t first h h0 h1 h2
    have hl := sub_len l (f := f) h0
    by_cases he : first = t
    · subst he
      rw [growth_all D _ _ _ (by omega), last_here, sib_here]
      by_cases hf : f = 0
      · simp [hf]
      · simp [hf, prt]
    · have h4 : 2 ≤ t - f := by omega
      have hs := split_lt h4
      rw [growth_two D _ _ _ (by omega) (by omega), hl, sub_take l (by omega), sub_drop l (by omega), last_two h1 (by omega)]
      by_cases hk : first ≤ f + split (t - f)
      · rw [if_pos (by omega), if_pos hk, ih f (f + split (t - f)) first (by omega) (by omega) h1 hk]
        have hr := (last_rch _ f (f + split (t - f)) first (Nat.le_refl _) h1 hk).1
        rw [sib_left h4 hr]
        simp [prt]
      · rw [if_neg (by omega), if_neg hk, show first - f - split (t - f) = first - (f + split (t - f)) by omega]
        have := ih (f + split (t - f)) t first (by omega) h0 (by omega) h2
        rw [show decide (f + split (t - f) = 0) = false by rw [decide_eq_false]; omega] at this
        rw [this]
        have hr := (last_rch _ (f + split (t - f)) t first (Nat.le_refl _) (by omega) h2).1
        rw [sib_right h4 hr]
        simp [prt]

/-- The input of a step up: the sibling's digest, whether it is ahead, and the own digest. -/
def inp (s : List UInt8 × Bool) (own : List UInt8) : List UInt8 := 1 :: (if s.2 then s.1 ++ own else own ++ s.1)
def run (st : List (List UInt8 × Bool)) (x : List UInt8) : List (List UInt8) := st.foldl (fun acc s => acc ++ [inp s (D (acc.getLastD []))]) [x]
def top (st : List (List UInt8 × Bool)) (d : List UInt8) : List UInt8 := st.foldl (fun d s => D (inp s d)) d
def old (st : List (List UInt8 × Bool)) (d : List UInt8) : List UInt8 := st.foldl (fun d s => if s.2 then D (inp s d) else d) d
theorem run_snoc (st : List (List UInt8 × Bool)) (s : List UInt8 × Bool) (x : List UInt8) : run D (st ++ [s]) x = run D st x ++ [inp s (D ((run D st x).getLastD []))] := by simp [run]
theorem top_snoc (st : List (List UInt8 × Bool)) (s : List UInt8 × Bool) (x : List UInt8) : top D (st ++ [s]) x = D (inp s (top D st x)) := by simp [top]
theorem old_snoc (st : List (List UInt8 × Bool)) (s : List UInt8 × Bool) (x : List UInt8) : old D (st ++ [s]) x = if s.2 then D (inp s (old D st x)) else old D st x := by simp [old]
theorem rev {α : Type} {Q : List α → Prop} (h0 : Q []) (h1 : ∀ l x, Q l → Q (l ++ [x])) : ∀ l, Q l := by
  intro l
  have : ∀ n, ∀ l : List α, l.length = n → Q l := by
    intro n
    induction n with
    | zero => intro l h; rw [List.eq_nil_of_length_eq_zero h]; exact h0
    | succ n ih =>
      intro l h
      have hne : l ≠ [] := by rintro rfl; cases h
      rw [← List.dropLast_concat_getLast hne]
      exact h1 _ _ (ih _ (by simp; omega))
  exact this _ _ rfl
theorem run_len (st : List (List UInt8 × Bool)) (x : List UInt8) : (run D st x).length = st.length + 1 := by
  induction st using rev with
  | h0 => rfl
  | h1 l s ih => rw [run_snoc]; simp; omega
theorem run_top (st : List (List UInt8 × Bool)) (x : List UInt8) : D ((run D st x).getLastD []) = top D st (D x) := by
  induction st using rev with
  | h0 => rfl
  | h1 l s ih => rw [run_snoc, top_snoc, ← ih]; simp
/-- The steps from b up. -/
def stp (b : Nat) (parts : List (Nat × Nat)) (p : List (List UInt8)) : List (List UInt8 × Bool) := parts.zipWith (fun q d => (d, decide (q.1 < b))) p
theorem stp_snoc (b : Nat) (parts : List (Nat × Nat)) (p : List (List UInt8)) (q : Nat × Nat) (d : List UInt8) (h : parts.length = p.length) : stp b (parts ++ [q]) (p ++ [d]) = stp b parts p ++ [(d, decide (q.1 < b))] := by
  simp [stp, List.zipWith_append h]
theorem stp_len (b : Nat) (parts : List (Nat × Nat)) (p : List (List UInt8)) (h : parts.length = p.length) : (stp b parts p).length = p.length := by simp [stp, h]
theorem snoc_of {α : Type} (p : List α) (n : Nat) (h : p.length = n + 1) : ∃ q z, p = q ++ [z] ∧ q.length = n := by
  have hne : p ≠ [] := by rintro rfl; cases h
  exact ⟨p.dropLast, p.getLast hne, (List.dropLast_concat_getLast hne).symm, by simp; omega⟩
/-- The root that a proof tells, by steps. -/
theorem up_stp (n : Nat) : ∀ (f t k : Nat) (leaf : List UInt8) (p : List (List UInt8)), t - f ≤ n → f ≤ k → k < t →
    (p.length = (sib f t k (k + 1)).length → up D (t - f) (k - f) leaf p = (top D (stp k (sib f t k (k + 1)) p) (leafD D leaf), true)) ∧
    (p.length ≠ (sib f t k (k + 1)).length → (up D (t - f) (k - f) leaf p).2 = false) := by
  induction n with
  | zero => intro f t k leaf p h h1 h2; omega
  | succ n ih =>
    intro f t k leaf p h h1 h2
    by_cases h3 : t - f ≤ 1
    · obtain rfl : f = k := by omega
      obtain rfl : t = f + 1 := by omega
      rw [sib_here, up_one D _ _ _ _ (by omega)]
      constructor
      · intro hp; obtain rfl := List.eq_nil_of_length_eq_zero hp; rfl
      · intro hp; simp at hp ⊢; exact hp
    · have h4 : 2 ≤ t - f := by omega
      have hs := split_lt h4
      by_cases hk : k < f + split (t - f)
      · have hr := rch_leaf _ f (f + split (t - f)) k (Nat.le_refl _) h1 hk
        rw [sib_left h4 hr]
        have i := ih f (f + split (t - f)) k leaf
        rw [show f + split (t - f) - f = split (t - f) by omega] at i
        constructor
        · intro hp
          rw [List.length_append] at hp
          obtain ⟨q, z, rfl, hq⟩ := snoc_of p _ hp
          rw [up_two D _ _ _ _ _ h4, if_pos (by omega), stp_snoc _ _ _ _ _ hq.symm, top_snoc, (i q (by omega) h1 hk).1 hq]
          simp [pairD, inp, show ¬ (f + split (t - f) < k) by omega]
        · intro hp
          match p with
          | [] => rw [up_nil D _ _ _ h4]
          | y :: ys =>
            obtain ⟨q, z, e, hq⟩ := snoc_of (y :: ys) _ rfl
            rw [e] at hp ⊢
            rw [up_two D _ _ _ _ _ h4, if_pos (by omega)]
            exact (i q (by omega) h1 hk).2 (by simpa using hp)
      · have hr := rch_leaf _ (f + split (t - f)) t k (Nat.le_refl _) (by omega) h2
        rw [sib_right h4 hr]
        have i := ih (f + split (t - f)) t k leaf
        rw [show t - (f + split (t - f)) = t - f - split (t - f) by omega, show k - (f + split (t - f)) = k - f - split (t - f) by omega] at i
        constructor
        · intro hp
          rw [List.length_append] at hp
          obtain ⟨q, z, rfl, hq⟩ := snoc_of p _ hp
          rw [up_two D _ _ _ _ _ h4, if_neg (by omega), stp_snoc _ _ _ _ _ hq.symm, top_snoc, (i q (by omega) (by omega) h2).1 hq]
          simp [pairD, inp, show f < k by omega]
        · intro hp
          match p with
          | [] => rw [up_nil D _ _ _ h4]
          | y :: ys =>
            obtain ⟨q, z, e, hq⟩ := snoc_of (y :: ys) _ rfl
            rw [e] at hp ⊢
            rw [up_two D _ _ _ _ _ h4, if_neg (by omega)]
            exact (i q (by omega) (by omega) h2).2 (by simpa using hp)
/-- What is ahead of the steps: the digest that the older tree's greatest part has, and the rest of the proof. -/
def hd (b : Nat) (one : List UInt8) (p : List (List UInt8)) : Option (List UInt8 × List (List UInt8)) := if b = 0 then some (one, p) else match p with | [] => none | x :: r => some (x, r)
def Tells (r : List UInt8 × List UInt8 × Bool) (b : Nat) (parts : List (Nat × Nat)) : Option (List UInt8 × List (List UInt8)) → Prop
  | none => r.2.2 = false
  | some (x, q) => (q.length = parts.length → r = (old D (stp b parts q) x, top D (stp b parts q) x, true)) ∧ (q.length ≠ parts.length → r.2.2 = false)
theorem grown_stp (n : Nat) : ∀ (f t first : Nat) (one : List UInt8) (p : List (List UInt8)), t - f ≤ n → f < first → first ≤ t →
    Tells D (grown D (first - f) (t - f) one (decide (f = 0)) p) (last f t first).1 (sib f t (last f t first).1 first) (hd (last f t first).1 one p) := by
  induction n with
  | zero => intro f t first one p h h1 h2; omega
  | succ n ih =>
    intro f t first one p h h1 h2
    by_cases he : first = t
    · subst he
      rw [last_here, sib_here, grown_all D _ _ _ _ _ rfl]
      by_cases hf : f = 0
      · subst hf
        simp only [hd, if_pos, Tells, decide_true]
        constructor
        · intro hp; obtain rfl := List.eq_nil_of_length_eq_zero hp; rfl
        · intro hp; simpa using hp
      · simp only [hd, if_neg hf, decide_eq_false hf]
        match p with
        | [] => simp [Tells]
        | [x] => simp [Tells, stp, old, top]
        | x :: y :: r => simp [Tells]
    · have h4 : 2 ≤ t - f := by omega
      have hs := split_lt h4
      rw [last_two h1 (by omega)]
      by_cases hk : first ≤ f + split (t - f)
      · rw [if_pos hk]
        obtain ⟨hr, hr2⟩ := last_rch _ f (f + split (t - f)) first (Nat.le_refl _) h1 hk
        have i := ih f (f + split (t - f)) first one
        rw [show f + split (t - f) - f = split (t - f) by omega] at i
        generalize hB : last f (f + split (t - f)) first = B at hr hr2 i ⊢
        have hin := hr.in
        have hS := sib_left h4 hr
        rw [hr2] at hS
        rw [hS]
        match p with
        | [] =>
          rw [grown_nil D _ _ _ _ (by omega) (by omega)]
          by_cases hb : B.1 = 0
          · simp [hd, hb, Tells]
          · simp [hd, hb, Tells]
        | w :: ws =>
          obtain ⟨q, z, e, hq⟩ := snoc_of (w :: ws) _ rfl
          rw [e, grown_two D _ _ _ _ _ _ (by omega) (by omega), if_pos (by omega)]
          have j := i q (by omega) h1 hk
          have hah : decide (f + split (t - f) < B.1) = false := by rw [decide_eq_false]; omega
          by_cases hb : B.1 = 0
          · simp only [hd, if_pos hb, Tells] at j ⊢
            constructor
            · intro hp
              have hp' : q.length = (sib f (f + split (t - f)) B.1 first).length := by simpa using hp
              rw [stp_snoc _ _ _ _ _ hp'.symm, top_snoc, old_snoc, hah, j.1 hp']
              simp [pairD, inp]
            · intro hp; exact j.2 (by simpa using hp)
          · simp only [hd, if_neg hb] at j ⊢
            match q with
            | [] =>
              simp only [List.nil_append, Tells] at j ⊢
              refine ⟨fun hp => by simp at hp, fun _ => j⟩
            | y :: ys =>
              simp only [List.cons_append, Tells] at j ⊢
              constructor
              · intro hp
                have hp' : ys.length = (sib f (f + split (t - f)) B.1 first).length := by simpa using hp
                rw [stp_snoc _ _ _ _ _ hp'.symm, top_snoc, old_snoc, hah, j.1 hp']
                simp [pairD, inp]
              · intro hp; exact j.2 (by simpa using hp)
      · rw [if_neg hk]
        obtain ⟨hr, hr2⟩ := last_rch _ (f + split (t - f)) t first (Nat.le_refl _) (by omega) h2
        have i := ih (f + split (t - f)) t first one
        rw [show t - (f + split (t - f)) = t - f - split (t - f) by omega, show first - (f + split (t - f)) = first - f - split (t - f) by omega, show decide (f + split (t - f) = 0) = false by rw [decide_eq_false]; omega] at i
        generalize hB : last (f + split (t - f)) t first = B at hr hr2 i ⊢
        have hin := hr.in
        have hS := sib_right h4 hr
        rw [hr2] at hS
        rw [hS]
        have hb : ¬ B.1 = 0 := by omega
        match p with
        | [] =>
          rw [grown_nil D _ _ _ _ (by omega) (by omega)]
          simp [hd, hb, Tells]
        | w :: ws =>
          obtain ⟨q, z, e, hq⟩ := snoc_of (w :: ws) _ rfl
          rw [e, grown_two D _ _ _ _ _ _ (by omega) (by omega), if_neg (by omega)]
          have j := i q (by omega) (by omega) h2
          have hah : decide (f < B.1) = true := by rw [decide_eq_true]; omega
          simp only [hd, if_neg hb] at j ⊢
          match q with
          | [] =>
            simp only [List.nil_append, Tells] at j ⊢
            refine ⟨fun hp => by simp at hp, fun _ => j⟩
          | y :: ys =>
            simp only [List.cons_append, Tells] at j ⊢
            constructor
            · intro hp
              have hp' : ys.length = (sib (f + split (t - f)) t B.1 first).length := by simpa using hp
              rw [stp_snoc _ _ _ _ _ hp'.symm, top_snoc, old_snoc, hah, j.1 hp']
              simp [pairD, inp]
            · intro hp; exact j.2 (by simpa using hp)

/-- The path of the leaf that the list has leads to the root. -/
theorem top_list (f t k : Nat) (x : List UInt8) (h0 : t ≤ l.length) (h1 : f ≤ k) (h2 : k < t) (hk : l[k]? = some x) :
    top D (stp k (sib f t k (k + 1)) ((sib f t k (k + 1)).map (prt D l))) (leafD D x) = root D (sub l f t) := by
  have a := up_proof D _ (sub l f t) (k - f) x (by rw [sub_at l h1 h2]; exact hk) (Nat.le_refl _)
  rw [sub_len l h0, proof_sib D l _ f t k (Nat.le_refl _) h0 h1 h2, (up_stp D _ f t k x _ (Nat.le_refl _) h1 h2).1 (by simp)] at a
  exact congrArg Prod.fst a
theorem above_keep {a b m t : List UInt8} (h : a ≠ []) : above D a b m t = (a, b, D (1 :: m)) := by unfold above; rw [if_neg (fun q => h q.1)]
theorem above_new {b m t : List UInt8} (h : m ≠ t) (e : D (1 :: m) = D (1 :: t)) : above D [] b m t = (1 :: m, 1 :: t, D (1 :: m)) := by unfold above; rw [if_pos ⟨rfl, h, e⟩]
theorem above_not {b m t : List UInt8} (e : ¬ D (1 :: m) = D (1 :: t)) : above D [] b m t = ([], b, D (1 :: m)) := by unfold above; rw [if_neg (fun q => e q.2.2)]
/-- The first place where both have one digest. -/
def hit (a b : List (List UInt8)) : Option (List UInt8 × List UInt8) := (a.zip b).find? (fun q => D q.1 == D q.2)
def tell (r : Option (List UInt8 × List UInt8)) (d : List UInt8) : List UInt8 × List UInt8 × List UInt8 := match r with | some q => (q.1, q.2, d) | none => ([], [], d)
theorem clash_run (hD : ∀ x, (D x).length = 32) (n : Nat) : ∀ (f t k : Nat) (leaf x : List UInt8) (p : List (List UInt8)), t - f ≤ n → t ≤ l.length → f ≤ k → k < t → l[k]? = some x → leaf ≠ x → p.length = (sib f t k (k + 1)).length →
    clash D (sub l f t) (k - f) leaf p = tell (hit D (run D (stp k (sib f t k (k + 1)) p) (0 :: leaf)) (run D (stp k (sib f t k (k + 1)) ((sib f t k (k + 1)).map (prt D l))) (0 :: x))) (top D (stp k (sib f t k (k + 1)) p) (leafD D leaf)) ∧
    (∀ q, hit D (run D (stp k (sib f t k (k + 1)) p) (0 :: leaf)) (run D (stp k (sib f t k (k + 1)) ((sib f t k (k + 1)).map (prt D l))) (0 :: x)) = some q → q.1 ≠ []) ∧
    (hit D (run D (stp k (sib f t k (k + 1)) p) (0 :: leaf)) (run D (stp k (sib f t k (k + 1)) ((sib f t k (k + 1)).map (prt D l))) (0 :: x)) = none → top D (stp k (sib f t k (k + 1)) p) (leafD D leaf) ≠ root D (sub l f t)) := by
  induction n with
  | zero => intro f t k leaf x p h h0 h1 h2; omega
  | succ n ih =>
    intro f t k leaf x p h h0 h1 h2 hk hx hp
    have hl := sub_len l (f := f) h0
    have hroot := top_list D l f t k x h0 h1 h2 hk
    by_cases h3 : t - f ≤ 1
    · obtain rfl : f = k := by omega
      obtain rfl : t = f + 1 := by omega
      rw [sib_here] at hp ⊢
      obtain rfl := List.eq_nil_of_length_eq_zero hp
      have e1 : sub l f (f + 1) = [x] := by
        have a := sub_at l (f := f) (t := f + 1) (Nat.le_refl f) (by omega)
        rw [hk, Nat.sub_self] at a
        rw [show f + 1 - f = 1 by omega] at hl
        match hs : sub l f (f + 1), a, hl with
        | [y], a, _ => simp at a; rw [a]
        | [], a, _ => simp at a
        | y :: z :: r, _, hl => simp at hl
      rw [e1, Nat.sub_self, clash_one]
      by_cases he : leafD D leaf = leafD D x
      · have he' : (D (0 :: leaf) == D (0 :: x)) = true := by simpa [leafD] using he
        rw [if_pos ⟨hx, he⟩]
        simp [hit, tell, run, stp, top, he']
      · have he' : (D (0 :: leaf) == D (0 :: x)) = false := by simpa [leafD] using he
        rw [if_neg (fun q => he q.2), root_one]
        simp only [hit, tell, run, stp, top, he', List.zipWith_nil_left, List.foldl_nil, List.zip_cons_cons, List.zip_nil_right, List.find?_cons, List.find?_nil]
        exact ⟨trivial, (fun q h => by cases h), fun _ => he⟩
    · have h4 : 2 ≤ t - f := by omega
      have hs := split_lt h4
      obtain ⟨q, z, e, hq⟩ : ∃ q z, p = q ++ [z] ∧ True := by
        have hne : p ≠ [] := by
          rintro rfl
          by_cases hm : k < f + split (t - f)
          · rw [sib_left h4 (rch_leaf _ f (f + split (t - f)) k (Nat.le_refl _) h1 hm)] at hp; simp at hp
          · rw [sib_right h4 (rch_leaf _ (f + split (t - f)) t k (Nat.le_refl _) (by omega) h2)] at hp; simp at hp
        exact ⟨p.dropLast, p.getLast hne, (List.dropLast_concat_getLast hne).symm, trivial⟩
      subst e
      have key : ∀ (f' t' : Nat) (pt : Nat × Nat), t' ≤ l.length → f' ≤ k → k < t' → t' - f' ≤ n → q.length = (sib f' t' k (k + 1)).length → sib f t k (k + 1) = sib f' t' k (k + 1) ++ [pt] →
          (clash D (sub l f t) (k - f) leaf (q ++ [z]) = above D (clash D (sub l f' t') (k - f') leaf q).1 (clash D (sub l f' t') (k - f') leaf q).2.1 (if pt.1 < k then z ++ (clash D (sub l f' t') (k - f') leaf q).2.2 else (clash D (sub l f' t') (k - f') leaf q).2.2 ++ z) (if pt.1 < k then prt D l pt ++ root D (sub l f' t') else root D (sub l f' t') ++ prt D l pt)) →
          clash D (sub l f t) (k - f) leaf (q ++ [z]) = tell (hit D (run D (stp k (sib f t k (k + 1)) (q ++ [z])) (0 :: leaf)) (run D (stp k (sib f t k (k + 1)) ((sib f t k (k + 1)).map (prt D l))) (0 :: x))) (top D (stp k (sib f t k (k + 1)) (q ++ [z])) (leafD D leaf)) ∧
          (∀ r, hit D (run D (stp k (sib f t k (k + 1)) (q ++ [z])) (0 :: leaf)) (run D (stp k (sib f t k (k + 1)) ((sib f t k (k + 1)).map (prt D l))) (0 :: x)) = some r → r.1 ≠ []) ∧
          (hit D (run D (stp k (sib f t k (k + 1)) (q ++ [z])) (0 :: leaf)) (run D (stp k (sib f t k (k + 1)) ((sib f t k (k + 1)).map (prt D l))) (0 :: x)) = none → top D (stp k (sib f t k (k + 1)) (q ++ [z])) (leafD D leaf) ≠ root D (sub l f t)) := by
        intro f' t' pt b0 b1 b2 b3 hq' hsib hcl
        obtain ⟨i1, i2, i3⟩ := ih f' t' k leaf x q b3 b0 b1 b2 hk hx hq'
        have hr' := top_list D l f' t' k x b0 b1 b2 hk
        rw [hsib, List.map_append] at hroot ⊢
        rw [List.map_cons, List.map_nil] at hroot ⊢
        rw [stp_snoc k (sib f' t' k (k + 1)) ((sib f' t' k (k + 1)).map (prt D l)) pt (prt D l pt) (by simp)] at hroot ⊢
        rw [stp_snoc k (sib f' t' k (k + 1)) q pt z hq'.symm]
        rw [run_snoc, run_snoc, top_snoc]
        rw [top_snoc] at hroot
        have l1 := run_len D (stp k (sib f' t' k (k + 1)) q) (0 :: leaf)
        have l2 := run_len D (stp k (sib f' t' k (k + 1)) ((sib f' t' k (k + 1)).map (prt D l))) (0 :: x)
        rw [stp_len _ _ _ hq'.symm] at l1
        rw [stp_len _ _ _ (by simp), List.length_map] at l2
        have t1 := run_top D (stp k (sib f' t' k (k + 1)) q) (0 :: leaf)
        have t2 := run_top D (stp k (sib f' t' k (k + 1)) ((sib f' t' k (k + 1)).map (prt D l))) (0 :: x)
        rw [show D (0 :: x) = leafD D x from rfl, hr'] at t2
        rw [show D (0 :: leaf) = leafD D leaf from rfl] at t1
        rw [show top D (stp k (sib f' t' k (k + 1)) ((sib f' t' k (k + 1)).map (prt D l))) (leafD D x) = root D (sub l f' t') from hr'] at hroot
        rw [t1, t2, hcl, i1]
        generalize hA : run D (stp k (sib f' t' k (k + 1)) q) (0 :: leaf) = A at *
        generalize hB : run D (stp k (sib f' t' k (k + 1)) ((sib f' t' k (k + 1)).map (prt D l))) (0 :: x) = B at *
        generalize hT : top D (stp k (sib f' t' k (k + 1)) q) (leafD D leaf) = T at *
        have hz : (A ++ [inp (z, decide (pt.1 < k)) T]).zip (B ++ [inp (prt D l pt, decide (pt.1 < k)) (root D (sub l f' t'))]) = A.zip B ++ [(inp (z, decide (pt.1 < k)) T, inp (prt D l pt, decide (pt.1 < k)) (root D (sub l f' t')))] := by
          rw [List.zip_append (by omega)]; rfl
        have hmine : (1 : UInt8) :: (if pt.1 < k then z ++ T else T ++ z) = inp (z, decide (pt.1 < k)) T := by simp [inp]
        have htheirs : (1 : UInt8) :: (if pt.1 < k then prt D l pt ++ root D (sub l f' t') else root D (sub l f' t') ++ prt D l pt) = inp (prt D l pt, decide (pt.1 < k)) (root D (sub l f' t')) := by simp [inp]
        simp only [hit] at i2 i3 ⊢
        rw [hz, List.find?_append]
        rw [← hroot]
        cases hf : (A.zip B).find? (fun q => D q.1 == D q.2) with
        | some r =>
          have hne := i2 r hf
          simp only [tell, Option.some_or]
          rw [above_keep D hne, hmine]
          exact ⟨rfl, fun r' h => by cases h; exact hne, fun h => by cases h⟩
        | none =>
          have hT' := i3 hf
          have hTl : T.length = 32 := by rw [← t1]; exact hD _
          have hne : (if pt.1 < k then z ++ T else T ++ z) ≠ (if pt.1 < k then prt D l pt ++ root D (sub l f' t') else root D (sub l f' t') ++ prt D l pt) := by
            intro h
            by_cases hp : pt.1 < k
            · rw [if_pos hp, if_pos hp] at h
              exact hT' (List.append_inj' h (by rw [hTl, root_len D hD])).2
            · rw [if_neg hp, if_neg hp] at h
              exact hT' (List.append_inj h (by rw [hTl, root_len D hD])).1
          simp only [tell, Option.none_or, List.find?_cons, List.find?_nil]
          by_cases he : D (inp (z, decide (pt.1 < k)) T) = D (inp (prt D l pt, decide (pt.1 < k)) (root D (sub l f' t')))
          · rw [above_new D hne (by rw [hmine, htheirs]; exact he), hmine, htheirs]
            rw [show (D (inp (z, decide (pt.1 < k)) T) == D (inp (prt D l pt, decide (pt.1 < k)) (root D (sub l f' t')))) = true by simpa using he]
            exact ⟨rfl, fun r' h => by cases h; simp [inp], fun h => by cases h⟩
          · rw [above_not D (by rw [hmine, htheirs]; exact he), hmine]
            rw [show (D (inp (z, decide (pt.1 < k)) T) == D (inp (prt D l pt, decide (pt.1 < k)) (root D (sub l f' t')))) = false by simpa using he]
            exact ⟨rfl, fun r' h => (by cases h), fun _ => he⟩
      by_cases hm : k < f + split (t - f)
      · have hS := sib_left h4 (rch_leaf _ f (f + split (t - f)) k (Nat.le_refl _) h1 hm)
        refine key f (f + split (t - f)) (f + split (t - f), t) (by omega) h1 hm (by omega) ?_ hS ?_
        · rw [hS] at hp; simpa using hp
        · rw [clash_two D _ _ _ _ _ (by omega), hl, if_pos (by omega), sub_take l (by omega), sub_drop l (by omega), if_neg (by simp; omega), if_neg (by simp; omega)]
          rfl
      · have hS := sib_right h4 (rch_leaf _ (f + split (t - f)) t k (Nat.le_refl _) (by omega) h2)
        refine key (f + split (t - f)) t (f, f + split (t - f)) h0 (by omega) h2 (by omega) ?_ hS ?_
        · rw [hS] at hp; simpa using hp
        · rw [clash_two D _ _ _ _ _ (by omega), hl, if_neg (by omega), sub_take l (by omega), sub_drop l (by omega), if_pos (by simp; omega), if_pos (by simp; omega), show k - f - split (t - f) = k - (f + split (t - f)) by omega]
          rfl
end
end Go.Proofs.YtmnihigackilkaaDoor.Sib
