/-
  Runes of UTF-16 units: contracts of the reference and of the program. For every list of numbers both answer alike; the answer's row is the call's own.
-/
import Derived.Test.YtehmlkcnhccjmabDoorPairs
import Derived.Test.YtehmlkcnhccjmabDoorMark
namespace Go.Proofs.YtehmlkcnhccjmabDoor.OfPairs
open Go.ChangeShapes Go.WideShapes Go.ChangeAt Go.RowKit
open Go.Proofs.YtehmlkcnhccjmabDoor.Mem Go.Proofs.YtehmlkcnhccjmabDoor.Rune Go.Proofs.YtehmlkcnhccjmabDoor.Ints Go.Proofs.YtehmlkcnhccjmabDoor.Mark Go.Proofs.YtehmlkcnhccjmabDoor.Pairs
set_option linter.unusedVariables false

def isHi (a : Int) : Bool := decide (55296 ≤ a ∧ a ≤ 56319)
def isLo (a : Int) : Bool := decide (56320 ≤ a ∧ a ≤ 57343)
def comb (a b : Int) : Int := 65536 + (a - 55296) * 1024 + (b - 56320)
/-- What the reference reads: a lone half stays as it is. -/
def loose : List Int → Option (List Int)
  | [] => some []
  | [a] => if 0 ≤ a ∧ a ≤ 65535 then some [a] else none
  | a :: b :: r => if isHi a && isLo b then (loose r).map (comb a b :: ·) else if 0 ≤ a ∧ a ≤ 65535 then (loose (b :: r)).map (a :: ·) else none
/-- What the program reads at the front. -/
def front : List Int → Option (Int × Nat)
  | [] => none
  | a :: r => if a < 65536 ∧ goodR a = true then some (a, 1) else
    match r with
    | [] => none
    | b :: _ => if isHi a && isLo b then some (comb a b, 2) else none
theorem loose_single (a : Int) : loose [a] = if 0 ≤ a ∧ a ≤ 65535 then some [a] else none := by simp only [loose]
theorem loose_two (a b : Int) (r : List Int) : loose (a :: b :: r) = if (isHi a && isLo b) = true then (loose r).map (comb a b :: ·) else if 0 ≤ a ∧ a ≤ 65535 then (loose (b :: r)).map (a :: ·) else none := by simp only [loose]
theorem front_single (a : Int) : front [a] = if a < 65536 ∧ goodR a = true then some (a, 1) else none := rfl
theorem front_two (a b : Int) (r : List Int) : front (a :: b :: r) = if a < 65536 ∧ goodR a = true then some (a, 1) else if (isHi a && isLo b) = true then some (comb a b, 2) else none := rfl
def resO (l : List Int) : List Int := if l.length ≤ 120 then (match loose l with | some o => if okL o then o else [] | none => []) else []
def okO (l : List Int) : Bool := if l.length ≤ 120 then (match loose l with | some o => okL o | none => false) else false
theorem resO_len (l : List Int) : (resO l).length ≤ 120 := by
  unfold resO
  split
  · split
    · split
      · rename_i h
        unfold okL at h
        have h2 := of_decide_eq_true (Bool.and_eq_true_iff.1 h).2
        omega
      · simp
    · simp
  · simp
theorem long_no {l : List Int} (h : 120 < l.length) : resO l = [] ∧ okO l = false := by
  unfold resO okO; rw [if_neg (by omega), if_neg (by omega)]; exact ⟨rfl, rfl⟩
theorem none_no {l : List Int} (h : loose l = none) : resO l = [] ∧ okO l = false := by
  unfold resO okO; rw [h]; constructor <;> split <;> rfl
theorem bad_no {l o : List Int} (h : loose l = some o) (hb : okL o = false) : resO l = [] ∧ okO l = false := by
  unfold resO okO; rw [h]; simp only [hb]; constructor <;> split <;> rfl
theorem good_yes {l o : List Int} (hl : l.length ≤ 120) (h : loose l = some o) (hb : okL o = true) : resO l = o ∧ okO l = true := by
  unfold resO okO; rw [h, if_pos hl, if_pos hl]; simp only [hb, if_true, and_self]
theorem isHi_bd {a : Int} : isHi a = true ↔ (55296 ≤ a ∧ a ≤ 56319) := by unfold isHi; exact decide_eq_true_iff
theorem isLo_bd {a : Int} : isLo a = true ↔ (56320 ≤ a ∧ a ≤ 57343) := by unfold isLo; exact decide_eq_true_iff
theorem comb_good {a b : Int} (h : (isHi a && isLo b) = true) : goodR (comb a b) = true := by
  obtain ⟨h1, h2⟩ := Bool.and_eq_true_iff.1 h
  have := isHi_bd.1 h1
  have := isLo_bd.1 h2
  exact goodR_yes (.inr (by unfold comb; omega))
theorem hi_bad {a : Int} (h : isHi a = true) : goodR a = false := goodR_no (by have := isHi_bd.1 h; omega)
/-- The front by the reference. -/
theorem loose_pair {a b : Int} {r : List Int} (h : (isHi a && isLo b) = true) : loose (a :: b :: r) = (loose r).map (comb a b :: ·) := by
  rw [loose_two, if_pos h]
theorem loose_one {a : Int} {r : List Int} (h : ∀ b t, r = b :: t → (isHi a && isLo b) = false) (ha : 0 ≤ a ∧ a ≤ 65535) : loose (a :: r) = (loose r).map (a :: ·) := by
  cases r with
  | nil => rw [loose_single, if_pos ha]; rfl
  | cons b t => rw [loose_two, h b t rfl, if_neg (by decide), if_pos ha]
theorem loose_no {a : Int} {r : List Int} (h : ∀ b t, r = b :: t → (isHi a && isLo b) = false) (ha : ¬ (0 ≤ a ∧ a ≤ 65535)) : loose (a :: r) = none := by
  cases r with
  | nil => rw [loose_single, if_neg ha]
  | cons b t => rw [loose_two, h b t rfl, if_neg (by decide), if_neg ha]
/-- The front by the program. -/
theorem front_good {a : Int} (r : List Int) (h : a < 65536 ∧ goodR a = true) : front (a :: r) = some (a, 1) := by
  cases r with
  | nil => rw [front_single, if_pos h]
  | cons b t => rw [front_two, if_pos h]
theorem front_pair {a b : Int} (r : List Int) (h : ¬ (a < 65536 ∧ goodR a = true)) (hp : (isHi a && isLo b) = true) : front (a :: b :: r) = some (comb a b, 2) := by rw [front_two, if_neg h, if_pos hp]
theorem front_fail {a : Int} {r : List Int} (h : ¬ (a < 65536 ∧ goodR a = true)) (hp : ∀ b t, r = b :: t → (isHi a && isLo b) = false) : front (a :: r) = none := by
  cases r with
  | nil => rw [front_single, if_neg h]
  | cons b t => rw [front_two, if_neg h, hp b t rfl, if_neg (by decide)]
theorem good_key {a : Int} (h : a < 65536 ∧ goodR a = true) (r : List Int) : ∀ b t, r = b :: t → (isHi a && isLo b) = false := fun b t _ => by
  rcases hh : isHi a with _ | _
  · rfl
  · rw [hi_bad hh] at h; cases h.2
theorem loose_good {a : Int} (r : List Int) (h : a < 65536 ∧ goodR a = true) : loose (a :: r) = (loose r).map (a :: ·) := by
  have hb := goodR_bd h.2
  exact loose_one (good_key h r) ⟨hb.1, by omega⟩
/-- Where the program finds no rune at the front, the reference's list has a number that is none. -/
theorem fail_bad {a : Int} {r : List Int} (h : ¬ (a < 65536 ∧ goodR a = true)) (hp : ∀ b t, r = b :: t → (isHi a && isLo b) = false) : ∀ o, loose (a :: r) = some o → o.all goodR = false := by
  intro o ho
  by_cases ha : 0 ≤ a ∧ a ≤ 65535
  · rw [loose_one hp ha] at ho
    cases hr : loose r with
    | none => rw [hr] at ho; cases ho
    | some o' =>
      rw [hr] at ho
      obtain rfl : a :: o' = o := by simpa using ho
      have : goodR a = false := by
        rcases hg : goodR a with _ | _
        · rfl
        · exact absurd ⟨by omega, hg⟩ h
      simp [this]
  · rw [loose_no hp ha] at ho; cases ho
theorem map_snoc {o : Option (List Int)} {rs : List Int} {x : Int} : (o.map (x :: ·)).map (rs ++ ·) = o.map ((rs ++ [x]) ++ ·) := by
  cases o <;> simp
theorem drop_cons {zs : List Int} {k : Nat} (h : k < zs.length) : zs.drop k = zs[k] :: zs.drop (k + 1) := List.drop_eq_getElem_cons h
def frontV : Option (Int × Nat) → Value
  | some (x, k) => .tuple #[.int .i64 x, .int .i64 k, .bool true]
  | none => .tuple #[.int .i64 0, .int .i64 0, .bool false]
theorem rd_cell {w : World} {B n : Nat} {b off : Nat} {zs : List Int} (h : Rd w B 1 (some ⟨b, off, none⟩) n (ints zs)) (k : Nat) (hk : k < zs.length) : w.cell? ⟨b, off + k, none⟩ = some (.int .i64 zs[k]) := by
  have lx := h.len
  obtain ⟨b', off', hl, e, _, hc⟩ := h.int (k := k) (by omega)
  obtain ⟨rfl, rfl⟩ : b = b' ∧ off = off' := by simpa using e
  exact hc
theorem ints_snoc (rs : List Int) (x : Int) : ints rs ++ [.int .i64 x] = ints (rs ++ [x]) := by simp [ints]
theorem len_snoc (rs : List Int) (x : Int) : rs.length + 1 = (rs ++ [x]).length := by simp
theorem all_end {rs : List Int} {x : Int} (h : rs.all goodR = true) (hx : goodR x = true) : (rs ++ [x]).all goodR = true := by rw [List.all_append, h]; simp [hx]
theorem bad_end {zs rs l : List Int} (he : loose zs = (loose l).map (rs ++ ·)) (hb : ∀ o, loose l = some o → o.all goodR = false) : resO zs = [] ∧ okO zs = false := by
  cases h : loose l with
  | none => rw [h] at he; exact none_no he
  | some o =>
    rw [h] at he
    refine bad_no he ?_
    unfold okL
    have : (rs ++ o).all goodR = false := by rw [List.all_append, hb o h]; simp
    rw [this]; rfl
theorem rd_drop {w : World} {B n k j : Nat} {b off : Nat} {zs : List Int} (h : Rd w B 1 (some ⟨b, off, none⟩) (zs.length - k) (ints (zs.drop k))) (hj : k + j ≤ zs.length) : Rd w B 1 (some ⟨b, off + j, none⟩) (zs.length - (k + j)) (ints (zs.drop (k + j))) := by
  refine ⟨by simp [ints], fun hn => ?_⟩
  obtain ⟨b', off', e, hb, hc⟩ := h.2 (by omega)
  obtain ⟨rfl, rfl⟩ : b = b' ∧ off = off' := by simpa using e
  refine ⟨b, off + j, rfl, hb, fun i u hu => ?_⟩
  have := hc (j + i) u (by rw [← hu]; simp [ints, Nat.add_assoc])
  rw [Nat.add_assoc]; exact this
theorem rd_dropIf {w : World} {B k j c : Nat} {b off : Nat} {zs : List Int} (h : Rd w B 1 (some ⟨b, off, none⟩) (zs.length - k) (ints (zs.drop k))) (hj : k + j ≤ zs.length) (hc : zs.length - k ≤ c) : Rd w B 1 (if c = j then some ⟨b, off, none⟩ else some ⟨b, off + j, none⟩) (zs.length - k - j) (ints (zs.drop (k + j))) := by
  rw [Nat.sub_sub]
  split
  · exact ⟨by simp [ints], fun hn => by omega⟩
  · exact rd_drop (n := 0) h hj
theorem front_len {l : List Int} {x : Int} {k : Nat} (h : front l = some (x, k)) : goodR x = true ∧ (k = 1 ∨ k = 2) ∧ k ≤ l.length ∧ loose l = (loose (l.drop k)).map (x :: ·) := by
  cases l with
  | nil => cases h
  | cons a r =>
    by_cases hg : a < 65536 ∧ goodR a = true
    · rw [front_good r hg] at h
      obtain ⟨rfl, rfl⟩ : a = x ∧ 1 = k := by simpa using h
      exact ⟨hg.2, .inl rfl, by simp, loose_good r hg⟩
    · cases r with
      | nil => rw [front_fail hg (fun b t h => by cases h)] at h; cases h
      | cons d t =>
        rcases hp : (isHi a && isLo d) with _ | _
        · rw [front_fail hg (fun b t h => by obtain ⟨rfl, _⟩ := List.cons.inj h; exact hp)] at h; cases h
        · rw [front_pair t hg hp] at h
          obtain ⟨rfl, rfl⟩ : comb a d = x ∧ 2 = k := by simpa using h
          exact ⟨comb_good hp, .inr rfl, by simp, loose_pair hp⟩
theorem front_no {l : List Int} (hne : l ≠ []) (h : front l = none) : ∀ o, loose l = some o → o.all goodR = false := by
  cases l with
  | nil => exact absurd rfl hne
  | cons a r =>
    by_cases hg : a < 65536 ∧ goodR a = true
    · rw [front_good r hg] at h; cases h
    · refine fail_bad hg ?_
      intro d t hr
      subst hr
      rcases hp : (isHi a && isLo d) with _ | _
      · rfl
      · rw [front_pair t hg hp] at h; cases h
end Go.Proofs.YtehmlkcnhccjmabDoor.OfPairs
