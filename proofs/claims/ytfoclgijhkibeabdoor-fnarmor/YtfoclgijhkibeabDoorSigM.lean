/-
  Plain facts on base64 over lists of bytes: the encoding group by group, what it is made of, and that each of two decoders takes it back.
-/
import Derived.Test.YtfoclgijhkibeabDoorMem
namespace Go.Proofs.YtfoclgijhkibeabDoor.SigM
set_option linter.unusedVariables false

def alpha : List UInt8 := [65, 66, 67, 68, 69, 70, 71, 72, 73, 74, 75, 76, 77, 78, 79, 80, 81, 82, 83, 84, 85, 86, 87, 88, 89, 90, 97, 98, 99, 100, 101, 102, 103, 104, 105, 106, 107, 108, 109, 110, 111, 112, 113, 114, 115, 116, 117, 118, 119, 120, 121, 122, 48, 49, 50, 51, 52, 53, 54, 55, 56, 57, 43, 47]
def al (n : Nat) : UInt8 := alpha.getD n 0
/-- The number that the first three bytes make, missing ones taken as zero. -/
def trip (l : List UInt8) : Nat := (l.getD 0 0).toNat * 65536 + (l.getD 1 0).toNat * 256 + (l.getD 2 0).toNat
def sgn (many n i : Nat) : UInt8 := if i ≤ many then al (n / 2 ^ (18 - 6 * i) % 64) else 61
def grp (l : List UInt8) : List UInt8 := [sgn l.length (trip l) 0, sgn l.length (trip l) 1, sgn l.length (trip l) 2, sgn l.length (trip l) 3]
def encB : List UInt8 → List UInt8
  | [] => []
  | [a] => grp [a]
  | [a, b] => grp [a, b]
  | a :: b :: c :: r => grp [a, b, c] ++ encB r

theorem trip_lt (l : List UInt8) : trip l < 16777216 := by
  unfold trip
  have h0 := (l.getD 0 0).toNat_lt
  have h1 := (l.getD 1 0).toNat_lt
  have h2 := (l.getD 2 0).toNat_lt
  omega
theorem enc_append (k : Nat) : ∀ (a b : List UInt8), a.length = 3 * k → encB (a ++ b) = encB a ++ encB b := by
  induction k with
  | zero => intro a b h; have : a = [] := List.eq_nil_of_length_eq_zero (by omega); subst this; rfl
  | succ k ih =>
    intro a b h
    match a, h with
    | x :: y :: z :: r, h =>
      simp only [List.length_cons] at h
      simp only [List.cons_append, encB, ih r b (by omega), List.append_assoc]
    | [], h => simp at h
    | [_], h => simp at h; omega
    | [_, _], h => simp at h; omega
theorem enc_small (l : List UInt8) (h0 : 0 < l.length) (h1 : l.length ≤ 3) : encB l = grp l := by
  match l, h0, h1 with
  | [a], _, _ => rfl
  | [a, b], _, _ => rfl
  | [a, b, c], _, _ => simp [encB]
  | a :: b :: c :: d :: r, _, h => simp at h
theorem enc_step (l : List UInt8) (m : Nat) (h3 : m % 3 = 0) (hm : m < l.length) : encB (l.take (m + 3)) = encB (l.take m) ++ grp ((l.drop m).take 3) := by
  have e : l.take (m + 3) = l.take m ++ (l.drop m).take 3 := List.take_add
  rw [e, enc_append (m / 3) _ _ (by rw [List.length_take]; omega), enc_small ((l.drop m).take 3) (by simp; omega) (by simp; omega)]
theorem grp_len (l : List UInt8) : (grp l).length = 4 := rfl
theorem enc_len_aux (n : Nat) : ∀ l : List UInt8, l.length ≤ n → (encB l).length = (l.length + 2) / 3 * 4 := by
  induction n with
  | zero => intro l h; have : l = [] := List.eq_nil_of_length_eq_zero (by omega); subst this; rfl
  | succ n ih =>
    intro l h
    match l, h with
    | [], _ => rfl
    | [a], _ => simp [encB, grp_len]
    | [a, b], _ => simp [encB, grp_len]
    | a :: b :: c :: r, h =>
      simp only [List.length_cons] at h
      simp only [encB, List.length_append, grp_len, ih r (by omega), List.length_cons]
      omega
theorem enc_len (l : List UInt8) : (encB l).length = (l.length + 2) / 3 * 4 := enc_len_aux l.length l (Nat.le_refl _)

/-- The number of a sign, none for other bytes. -/
def idx (c : UInt8) : Option Nat := alpha.findIdx? (· == c)
def val (c : UInt8) : Nat := (idx c).getD 0
theorem val_al : ∀ n : Fin 64, val (al n.1) = n.1 ∧ (idx (al n.1)).isSome = true ∧ al n.1 ≠ 61 := by decide +kernel
theorem idx_pad : idx 61 = none := by decide +kernel
theorem idx_lt (c : UInt8) (n : Nat) (h : idx c = some n) : n < 64 := by
  unfold idx at h
  have := List.findIdx?_eq_some_iff_getElem.1 h
  obtain ⟨h1, _⟩ := this
  exact h1
theorem val_lt (c : UInt8) : val c < 64 := by
  unfold val
  cases h : idx c with
  | none => simp
  | some n => exact idx_lt c n h
theorem val_sg (n : Nat) (h : n < 64) : val (al n) = n := (val_al ⟨n, h⟩).1
theorem some_sg (n : Nat) (h : n < 64) : (idx (al n)).isSome = true := (val_al ⟨n, h⟩).2.1
theorem ne_sg (n : Nat) (h : n < 64) : al n ≠ 61 := (val_al ⟨n, h⟩).2.2

/-- The number of four signs, others taken as zero; its bytes. -/
def num (a b c d : UInt8) : Nat := ((val a * 64 + val b) * 64 + val c) * 64 + val d
def byt (n i : Nat) : UInt8 := UInt8.ofNat (n / 2 ^ (16 - 8 * i))
def prt (n k : Nat) : List UInt8 := [byt n 0, byt n 1, byt n 2].take k
def many (a b c d : UInt8) : Nat := (if (idx a).isSome then 1 else 0) + (if (idx b).isSome then 1 else 0) + (if (idx c).isSome then 1 else 0) + (if (idx d).isSome then 1 else 0)
def grpS (a b c d : UInt8) : List UInt8 := prt (num a b c d) (many a b c d - 1)
def grpI (a b c d : UInt8) : List UInt8 := prt (num a b c d) (if c = 61 then 1 else if d = 61 then 2 else 3)
def decS : List UInt8 → List UInt8
  | a :: b :: c :: d :: r => grpS a b c d ++ decS r
  | _ => []
def decI : List UInt8 → List UInt8
  | a :: b :: c :: d :: r => grpI a b c d ++ decI r
  | _ => []

theorem of_byte (c : UInt8) (n : Nat) (h : n % 256 = c.toNat) : UInt8.ofNat n = c := by
  apply UInt8.toNat_inj.1
  rw [UInt8.toNat_ofNat']
  exact h
theorem num3 (n : Nat) (h : n < 16777216) : num (sgn 3 n 0) (sgn 3 n 1) (sgn 3 n 2) (sgn 3 n 3) = n := by
  simp only [num, sgn, if_pos (show 0 ≤ 3 by omega), if_pos (show 1 ≤ 3 by omega), if_pos (show 2 ≤ 3 by omega), if_pos (show 3 ≤ 3 by omega)]
  rw [val_sg _ (by omega), val_sg _ (by omega), val_sg _ (by omega), val_sg _ (by omega)]
  omega
theorem val_pad : val 61 = 0 := by decide +kernel
theorem num2 (n : Nat) (h : n < 16777216) (h0 : n % 256 = 0) : num (sgn 2 n 0) (sgn 2 n 1) (sgn 2 n 2) (sgn 2 n 3) = n := by
  simp only [num, sgn, if_pos (show 0 ≤ 2 by omega), if_pos (show 1 ≤ 2 by omega), if_pos (show 2 ≤ 2 by omega), if_neg (show ¬ 3 ≤ 2 by omega)]
  rw [val_sg _ (by omega), val_sg _ (by omega), val_sg _ (by omega), val_pad]
  omega
theorem num1 (n : Nat) (h : n < 16777216) (h0 : n % 65536 = 0) : num (sgn 1 n 0) (sgn 1 n 1) (sgn 1 n 2) (sgn 1 n 3) = n := by
  simp only [num, sgn, if_pos (show 0 ≤ 1 by omega), if_pos (show 1 ≤ 1 by omega), if_neg (show ¬ 2 ≤ 1 by omega), if_neg (show ¬ 3 ≤ 1 by omega)]
  rw [val_sg _ (by omega), val_sg _ (by omega), val_pad]
  omega
theorem grpS3 (a b c : UInt8) : grpS (sgn 3 (trip [a, b, c]) 0) (sgn 3 (trip [a, b, c]) 1) (sgn 3 (trip [a, b, c]) 2) (sgn 3 (trip [a, b, c]) 3) = [a, b, c] ∧
    grpI (sgn 3 (trip [a, b, c]) 0) (sgn 3 (trip [a, b, c]) 1) (sgn 3 (trip [a, b, c]) 2) (sgn 3 (trip [a, b, c]) 3) = [a, b, c] := by
  have hn := num3 _ (trip_lt [a, b, c])
  have e : prt (trip [a, b, c]) 3 = [a, b, c] := by
    have ha := a.toNat_lt; have hb := b.toNat_lt; have hc := c.toNat_lt
    simp only [prt, byt, trip, List.getD_cons_zero, List.getD_cons_succ, List.take]
    rw [of_byte a _ (by omega), of_byte b _ (by omega), of_byte c _ (by omega)]
  unfold grpS grpI
  rw [hn]
  constructor
  · have : many (sgn 3 (trip [a, b, c]) 0) (sgn 3 (trip [a, b, c]) 1) (sgn 3 (trip [a, b, c]) 2) (sgn 3 (trip [a, b, c]) 3) = 4 := by
      simp only [many, sgn, if_pos (show 0 ≤ 3 by omega), if_pos (show 1 ≤ 3 by omega), if_pos (show 2 ≤ 3 by omega), if_pos (show 3 ≤ 3 by omega)]
      rw [some_sg _ (by omega), some_sg _ (by omega), some_sg _ (by omega), some_sg _ (by omega)]; rfl
    rw [this]; exact e
  · rw [if_neg, if_neg]
    · exact e
    · simp only [sgn, if_pos (show 3 ≤ 3 by omega)]; exact ne_sg _ (by omega)
    · simp only [sgn, if_pos (show 2 ≤ 3 by omega)]; exact ne_sg _ (by omega)
theorem grpS2 (a b : UInt8) : grpS (sgn 2 (trip [a, b]) 0) (sgn 2 (trip [a, b]) 1) (sgn 2 (trip [a, b]) 2) (sgn 2 (trip [a, b]) 3) = [a, b] ∧
    grpI (sgn 2 (trip [a, b]) 0) (sgn 2 (trip [a, b]) 1) (sgn 2 (trip [a, b]) 2) (sgn 2 (trip [a, b]) 3) = [a, b] := by
  have hn := num2 _ (trip_lt [a, b]) (by simp [trip]; omega)
  have e : prt (trip [a, b]) 2 = [a, b] := by
    have ha := a.toNat_lt; have hb := b.toNat_lt
    simp only [prt, byt, trip, List.getD_cons_zero, List.getD_cons_succ, List.getD_nil, List.take]
    rw [of_byte a _ (by simp; omega), of_byte b _ (by simp; omega)]
  unfold grpS grpI
  rw [hn]
  constructor
  · have : many (sgn 2 (trip [a, b]) 0) (sgn 2 (trip [a, b]) 1) (sgn 2 (trip [a, b]) 2) (sgn 2 (trip [a, b]) 3) = 3 := by
      simp only [many, sgn, if_pos (show 0 ≤ 2 by omega), if_pos (show 1 ≤ 2 by omega), if_pos (show 2 ≤ 2 by omega), if_neg (show ¬ 3 ≤ 2 by omega)]
      rw [some_sg _ (by omega), some_sg _ (by omega), some_sg _ (by omega), idx_pad]; rfl
    rw [this]; exact e
  · rw [if_neg, if_pos]
    · exact e
    · simp only [sgn, if_neg (show ¬ 3 ≤ 2 by omega)]
    · simp only [sgn, if_pos (show 2 ≤ 2 by omega)]; exact ne_sg _ (by omega)
theorem grpS1 (a : UInt8) : grpS (sgn 1 (trip [a]) 0) (sgn 1 (trip [a]) 1) (sgn 1 (trip [a]) 2) (sgn 1 (trip [a]) 3) = [a] ∧
    grpI (sgn 1 (trip [a]) 0) (sgn 1 (trip [a]) 1) (sgn 1 (trip [a]) 2) (sgn 1 (trip [a]) 3) = [a] := by
  have hn := num1 _ (trip_lt [a]) (by simp [trip])
  have e : prt (trip [a]) 1 = [a] := by
    have ha := a.toNat_lt
    simp only [prt, byt, trip, List.getD_cons_zero, List.getD_cons_succ, List.getD_nil, List.take]
    rw [of_byte a _ (by simp)]
  unfold grpS grpI
  rw [hn]
  constructor
  · have : many (sgn 1 (trip [a]) 0) (sgn 1 (trip [a]) 1) (sgn 1 (trip [a]) 2) (sgn 1 (trip [a]) 3) = 2 := by
      simp only [many, sgn, if_pos (show 0 ≤ 1 by omega), if_pos (show 1 ≤ 1 by omega), if_neg (show ¬ 2 ≤ 1 by omega), if_neg (show ¬ 3 ≤ 1 by omega)]
      rw [some_sg _ (by omega), some_sg _ (by omega), idx_pad]; rfl
    rw [this]; exact e
  · rw [if_pos]
    · exact e
    · simp only [sgn, if_neg (show ¬ 2 ≤ 1 by omega)]

theorem dec_enc_aux (n : Nat) : ∀ l : List UInt8, l.length ≤ n → decS (encB l) = l ∧ decI (encB l) = l := by
  induction n with
  | zero => intro l h; have : l = [] := List.eq_nil_of_length_eq_zero (by omega); subst this; exact ⟨rfl, rfl⟩
  | succ n ih =>
    intro l h
    match l, h with
    | [], _ => exact ⟨rfl, rfl⟩
    | [a], _ => exact ⟨by simp only [encB, grp, decS, List.length_cons, List.length_nil]; rw [(grpS1 a).1]; rfl, by simp only [encB, grp, decI, List.length_cons, List.length_nil]; rw [(grpS1 a).2]; rfl⟩
    | [a, b], _ => exact ⟨by simp only [encB, grp, decS, List.length_cons, List.length_nil]; rw [(grpS2 a b).1]; rfl, by simp only [encB, grp, decI, List.length_cons, List.length_nil]; rw [(grpS2 a b).2]; rfl⟩
    | a :: b :: c :: r, h =>
      simp only [List.length_cons] at h
      have := ih r (by omega)
      exact ⟨by simp only [encB, grp, decS, List.length_cons, List.length_nil, List.cons_append, List.nil_append]; rw [(grpS3 a b c).1, this.1]; rfl, by simp only [encB, grp, decI, List.length_cons, List.length_nil, List.cons_append, List.nil_append]; rw [(grpS3 a b c).2, this.2]; rfl⟩
theorem decS_enc (l : List UInt8) : decS (encB l) = l := (dec_enc_aux l.length l (Nat.le_refl _)).1
theorem decI_enc (l : List UInt8) : decI (encB l) = l := (dec_enc_aux l.length l (Nat.le_refl _)).2
/-- Both decoders with their check accept the same texts, and give the same. -/
theorem dec_same (t : List UInt8) : (encB (decI t) = t ↔ encB (decS t) = t) ∧ (encB (decI t) = t → decI t = decS t) := by
  have h1 : encB (decI t) = t → decI t = decS t := fun h => by rw [← h, decI_enc, decS_enc]
  have h2 : encB (decS t) = t → decI t = decS t := fun h => by rw [← h, decI_enc, decS_enc]
  exact ⟨⟨fun h => by rw [← h1 h]; exact h, fun h => by rw [h2 h]; exact h⟩, h1⟩

end Go.Proofs.YtfoclgijhkibeabDoor.SigM
