/-
  Plain facts: pairs read back are the runes, runes written again are the pairs, the order of units is strict and total, and a string is determined by its units.
-/
import Derived.Test.YtehmlkcnhccjmabDoorOfPairs
import Derived.Test.YtehmlkcnhccjmabDoorLess
import Derived.Test.YtehmlkcnhccjmabDoorText
namespace Go.Proofs.YtehmlkcnhccjmabDoor.PairLaws
open Go.ChangeShapes Go.WideShapes Go.ChangeAt Go.RowKit
open Go.Proofs.YtehmlkcnhccjmabDoor.Mem Go.Proofs.YtehmlkcnhccjmabDoor.Rune Go.Proofs.YtehmlkcnhccjmabDoor.Ints Go.Proofs.YtehmlkcnhccjmabDoor.Text Go.Proofs.YtehmlkcnhccjmabDoor.Pairs Go.Proofs.YtehmlkcnhccjmabDoor.OfPairs Go.Proofs.YtehmlkcnhccjmabDoor.Runes Go.Proofs.YtehmlkcnhccjmabDoor.Less Go.Proofs.YtehmlkcnhccjmabDoor.Utf Go.Proofs.YtehmlkcnhccjmabDoor.At
set_option linter.unusedVariables false

theorem loose_pairs : ∀ l : List Int, (∀ z ∈ l, goodR z = true) → loose (pairs l) = some l
  | [], _ => by simp [pairs, loose]
  | a :: l, h => by
    have ih := loose_pairs l (fun z hz => h z (by simp [hz]))
    have hg := h a (by simp)
    have hb := goodR_bd hg
    have e : pairs (a :: l) = units a ++ pairs l := by simp [pairs]
    rw [e]
    by_cases hlo : a < 65536
    · rw [units_lo hlo, List.cons_append, List.nil_append, loose_good _ ⟨hlo, hg⟩, ih]; rfl
    · rw [units_hi (by omega), List.cons_append, List.cons_append, List.nil_append, loose_pair, ih]
      · simp only [Option.map_some, comb]
        congr 2
        omega
      · have h1 : isHi (55296 + (a - 65536) / 1024) = true := isHi_bd.2 (by omega)
        have h2 : isLo (56320 + (a - 65536) % 1024) = true := isLo_bd.2 (by omega)
        rw [h1, h2]; rfl
theorem okL_all {l : List Int} (h : okL l = true) : (∀ z ∈ l, goodR z = true) ∧ l.length ≤ 60 := by
  unfold okL at h
  obtain ⟨h1, h2⟩ := Bool.and_eq_true_iff.1 h
  exact ⟨List.all_eq_true.1 h1, of_decide_eq_true h2⟩
theorem back_pairs {l : List Int} (h : okL l = true) : resO (pairs l) = l ∧ okO (pairs l) = true := by
  obtain ⟨h1, h2⟩ := okL_all h
  have := pairs_len l
  exact good_yes (by omega) (loose_pairs l h1) h
theorem pairs_ge (l : List Int) : l.length ≤ (pairs l).length := by
  induction l with
  | nil => simp
  | cons a l ih =>
    have : 1 ≤ (units a).length := by unfold units; split <;> simp
    simp only [pairs, List.flatMap_cons, List.length_append, List.length_cons] at ih ⊢
    omega
theorem units_comb {a b : Int} (h : (isHi a && isLo b) = true) : units (comb a b) = [a, b] := by
  obtain ⟨h1, h2⟩ := Bool.and_eq_true_iff.1 h
  have := isHi_bd.1 h1
  have := isLo_bd.1 h2
  rw [units_hi (by unfold comb; omega)]
  unfold comb
  congr 1
  · omega
  · congr 1
    omega
theorem pairs_loose (n : Nat) : ∀ (m o : List Int), m.length ≤ n → loose m = some o → o.all goodR = true → pairs o = m := by
  induction n with
  | zero =>
    intro m o hl h ha
    obtain rfl : m = [] := List.eq_nil_of_length_eq_zero (by omega)
    simp only [loose, Option.some.injEq] at h
    subst h
    rfl
  | succ n ih =>
    intro m o hl h ha
    cases m with
    | nil =>
      simp only [loose, Option.some.injEq] at h
      subst h
      rfl
    | cons a r =>
      by_cases hp : ∃ b t, r = b :: t ∧ (isHi a && isLo b) = true
      · obtain ⟨b, t, rfl, hp⟩ := hp
        rw [loose_pair hp] at h
        cases hr : loose t with
        | none => rw [hr] at h; cases h
        | some o' =>
          rw [hr] at h
          obtain rfl : comb a b :: o' = o := by simpa using h
          have ha' : o'.all goodR = true := by simp only [List.all_cons, Bool.and_eq_true] at ha; exact ha.2
          have := ih t o' (by simp only [List.length_cons] at hl; omega) hr ha'
          have e : pairs (comb a b :: o') = units (comb a b) ++ pairs o' := by simp [pairs]
          rw [e, units_comb hp, this]; rfl
      · have key : ∀ b t, r = b :: t → (isHi a && isLo b) = false := by
          intro b t hr
          rcases hq : (isHi a && isLo b) with _ | _
          · rfl
          · exact absurd ⟨b, t, hr, hq⟩ hp
        by_cases hr0 : 0 ≤ a ∧ a ≤ 65535
        · rw [loose_one key hr0] at h
          cases hr : loose r with
          | none => rw [hr] at h; cases h
          | some o' =>
            rw [hr] at h
            obtain rfl : a :: o' = o := by simpa using h
            have ha' : o'.all goodR = true := by simp only [List.all_cons, Bool.and_eq_true] at ha; exact ha.2
            have := ih r o' (by simp only [List.length_cons] at hl; omega) hr ha'
            have e : pairs (a :: o') = units a ++ pairs o' := by simp [pairs]
            rw [e, units_lo (by omega), this]; rfl
        · rw [loose_no key hr0] at h; cases h
theorem again_pairs {m : List Int} (h : okO m = true) : okL (resO m) = true ∧ pairs (resO m) = m := by
  unfold okO at h
  split at h
  · rename_i hl
    split at h
    · rename_i o ho
      obtain ⟨h1, h2⟩ := good_yes hl ho h
      rw [h1]
      exact ⟨h, pairs_loose m.length m o (Nat.le_refl _) ho (List.all_eq_true.2 (okL_all h).1)⟩
    · cases h
  · cases h
theorem cmpL_neg : ∀ x y : List Int, cmpL y x = - cmpL x y
  | [], [] => rfl
  | [], _ :: _ => rfl
  | _ :: _, [] => rfl
  | a :: x, b :: y => by
    have ih := cmpL_neg x y
    unfold cmpL
    by_cases h1 : a < b
    · rw [if_neg (show ¬ b < a by omega), if_pos h1, if_pos h1]; rfl
    · by_cases h2 : b < a
      · rw [if_pos h2, if_neg h1, if_pos h2]
      · rw [if_neg h2, if_neg h1, if_neg h1, if_neg h2, ih]
theorem cmpL_zero : ∀ x y : List Int, cmpL x y = 0 → x = y
  | [], [], _ => rfl
  | [], _ :: _, h => by simp [cmpL] at h
  | _ :: _, [], h => by simp [cmpL] at h
  | a :: x, b :: y, h => by
    unfold cmpL at h
    by_cases h1 : a < b
    · rw [if_pos h1] at h; cases h
    · by_cases h2 : b < a
      · rw [if_neg h1, if_pos h2] at h; cases h
      · rw [if_neg h1, if_neg h2] at h
        rw [cmpL_zero x y h, show a = b from by omega]
theorem text_runes (f : Nat) : ∀ (l : List UInt8) (rs : List Int), l.length ≤ f → runesG f l = some rs → textL rs = l := by
  induction f with
  | zero =>
    intro l rs hl h
    obtain rfl : l = [] := List.eq_nil_of_length_eq_zero (by omega)
    obtain rfl := Option.some.inj h
    rfl
  | succ f ih =>
    intro l rs hl h
    unfold runesG at h
    split at h
    · rename_i hn
      obtain rfl := Option.some.inj h
      rw [hn]; rfl
    · split at h
      · cases h
      · rename_i hne hb
        obtain ⟨_, e2, e3, _⟩ := enc_decode hne hb
        cases hr : runesG f (List.drop (Lib.decodeL l).2 l) with
        | none => rw [hr] at h; cases h
        | some r2 =>
          rw [hr] at h
          obtain rfl := Option.some.inj h
          have := ih _ r2 (by rw [List.length_drop]; omega) hr
          have e : textL (((Lib.decodeL l).1 : Int) :: r2) = Text.encL ((Lib.decodeL l).1 : Int) ++ textL r2 := by simp [textL]
          rw [e, e2, this, List.take_append_drop]
theorem okR_text {s : ByteArray} (h : okR s = true) : textL (resR s) = s.data.toList := by
  unfold okR at h
  unfold resR
  split at h
  · rename_i hs
    rw [if_pos hs]
    split at h
    · rename_i o ho
      simp only [of_decide_eq_true h, if_true]
      exact text_runes _ _ o (Nat.le_refl _) ho
    · cases h
  · cases h
theorem units_inj {a b : ByteArray} (ha : okR a = true) (hb : okR b = true) (h : pairs (resR a) = pairs (resR b)) : a = b := by
  have e : some (resR a) = some (resR b) := by rw [← loose_pairs _ (resR_good a), h, loose_pairs _ (resR_good b)]
  have e' := Option.some.inj e
  exact eq_of_data (by rw [← okR_text ha, ← okR_text hb, e'])
end Go.Proofs.YtehmlkcnhccjmabDoor.PairLaws
