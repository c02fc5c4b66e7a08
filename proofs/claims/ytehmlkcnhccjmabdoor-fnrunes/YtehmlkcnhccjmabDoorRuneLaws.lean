/-
  Plain facts on UTF-8: a text of runes is read back, every start byte of a valid string starts a rune, and the order of bytes is the order of runes.
-/
import Derived.Test.YtehmlkcnhccjmabDoorPairLaws
namespace Go.Proofs.YtehmlkcnhccjmabDoor.RuneLaws
open Go.Lib
open Go.Proofs.YtehmlkcnhccjmabDoor.Mem Go.Proofs.YtehmlkcnhccjmabDoor.Rune Go.Proofs.YtehmlkcnhccjmabDoor.Enc Go.Proofs.YtehmlkcnhccjmabDoor.Text Go.Proofs.YtehmlkcnhccjmabDoor.Pairs Go.Proofs.YtehmlkcnhccjmabDoor.Runes Go.Proofs.YtehmlkcnhccjmabDoor.Less Go.Proofs.YtehmlkcnhccjmabDoor.Utf Go.Proofs.YtehmlkcnhccjmabDoor.At Go.Proofs.YtehmlkcnhccjmabDoor.PairLaws
set_option linter.unusedVariables false

theorem encL_ne {n : Int} (h : goodR n = true) : encL n ≠ [] := by
  intro e
  have h1 := decode_enc h []
  rw [e] at h1
  have h2 := decodeL_width ([] ++ [] : List UInt8)
  rw [h1.1] at h2
  simp at h2
theorem runes_text : ∀ l : List Int, (∀ z ∈ l, goodR z = true) → runesD (textL l) = some l
  | [], _ => rfl
  | a :: l, h => by
    have ih := runes_text l (fun z hz => h z (by simp [hz]))
    have hg := h a (by simp)
    have hb := goodR_bd hg
    have e : textL (a :: l) = encL a ++ textL l := by simp [textL]
    obtain ⟨h1, h2⟩ := decode_enc hg (textL l)
    have hne : encL a ++ textL l ≠ [] := fun h => encL_ne hg (List.append_eq_nil_iff.1 h).1
    rw [e, runesD_good hne h2, h1]
    simp only [List.drop_left, ih, Option.map_some]
    rw [show ((a.toNat : Nat) : Int) = a from by omega]
theorem cont {l : List UInt8} (hne : l ≠ []) (hb : ¬ bad l) (j : Nat) (h0 : 0 < j) (h1 : j < (decodeL l).2) : by4 l j / 64 = 2 := by
  unfold bad at hb
  rw [decodeL_N] at hb h1
  change ¬ ((decodeN l.length (by4 l 0) (by4 l 1) (by4 l 2) (by4 l 3)).1 = 65533 ∧ (decodeN l.length (by4 l 0) (by4 l 1) (by4 l 2) (by4 l 3)).2 = 1) at hb
  change j < (decodeN l.length (by4 l 0) (by4 l 1) (by4 l 2) (by4 l 3)).2 at h1
  rcases decodeN_shape l.length (by4 l 0) (by4 l 1) (by4 l 2) (by4 l 3) with ⟨c, e⟩ | ⟨c1, c2, c3, cv, e⟩ | ⟨c1, c2, c3, c4, cv, cs, e⟩ | ⟨c1, c2, c3, c4, c5, cv, cw, e⟩ | e
  · rw [e] at h1; simp only at h1; omega
  · rw [e] at h1; simp only at h1
    obtain rfl : j = 1 := by omega
    exact c3
  · rw [e] at h1; simp only at h1
    rcases (show j = 1 ∨ j = 2 by omega) with rfl | rfl
    · exact c3
    · exact c4
  · rw [e] at h1; simp only at h1
    rcases (show j = 1 ∨ j = 2 ∨ j = 3 by omega) with rfl | rfl | rfl
    · exact c3
    · exact c4
    · exact c5
  · rw [e] at hb; exact absurd ⟨rfl, rfl⟩ hb
theorem by4_get {l : List UInt8} {j : Nat} (h : j < l.length) : by4 l j = (l[j]).toNat := by
  unfold by4
  simp [List.getD, List.getElem?_eq_getElem h]
theorem start_good (f : Nat) : ∀ (l : List UInt8) (rs : List Int), l.length ≤ f → runesG f l = some rs → ∀ (j : Nat) (h : j < l.length), isSt l[j] = true → ¬ bad (l.drop j) := by
  induction f with
  | zero => intro l rs hl h j hj; omega
  | succ f ih =>
    intro l rs hl h j hj hst
    unfold runesG at h
    have hne : l ≠ [] := fun e => by subst e; simp at hj
    rw [if_neg hne] at h
    split at h
    · cases h
    · rename_i hb
      obtain ⟨_, _, e3, e4⟩ := enc_decode hne hb
      cases hr : runesG f (List.drop (decodeL l).2 l) with
      | none => rw [hr] at h; cases h
      | some r2 =>
        by_cases hj0 : j = 0
        · subst hj0; exact hb
        · by_cases hjw : j < (decodeL l).2
          · exfalso
            have hc := cont hne hb j (by omega) hjw
            rw [by4_get hj] at hc
            unfold isSt at hst
            have := of_decide_eq_true hst
            omega
          · have := ih (l.drop (decodeL l).2) r2 (by rw [List.length_drop]; omega) hr (j - (decodeL l).2) (by rw [List.length_drop]; omega) (by
              rw [List.getElem_drop]
              simp only [show (decodeL l).2 + (j - (decodeL l).2) = j from by omega]
              exact hst)
            rw [List.drop_drop, show (decodeL l).2 + (j - (decodeL l).2) = j from by omega] at this
            exact this
theorem nx_start : ∀ (l : List UInt8) (h : nx l < l.length), isSt (l[nx l]) = true
  | [], h => by simp at h
  | a :: l, h => by
    by_cases ha : isSt a = true
    · have e : nx (a :: l) = 0 := by simp [nx, ha]
      simp only [e, List.getElem_cons_zero]
      exact ha
    · have e : nx (a :: l) = nx l + 1 := by simp [nx, ha]
      have h' : nx l < l.length := by rw [e] at h; simpa using h
      have := nx_start l h'
      simp only [e, List.getElem_cons_succ]
      exact this
/-- Behind a search for the next start in a valid string a rune stands. -/
theorem next_good {s : ByteArray} (hok : okR s = true) (k : Nat) (h : k + nx (tl s k) < s.size) : ¬ bad (tl s (k + nx (tl s k))) := by
  unfold okR at hok
  split at hok
  · split at hok
    · rename_i o ho
      have hl : k + nx (tl s k) < s.data.toList.length := by rw [data_len]; exact h
      refine start_good _ _ o (Nat.le_refl _) ho (k + nx (tl s k)) hl ?_
      have hlt : nx (tl s k) < (tl s k).length := by rw [tl_len]; omega
      have e : s.data.toList[k + nx (tl s k)] = (tl s k)[nx (tl s k)] := (List.getElem_drop ..).symm
      rw [e]
      exact nx_start (tl s k) hlt
    · cases hok
  · cases hok
/-- The order of bytes, as a number. -/
def lexB : List UInt8 → List UInt8 → Int
  | [], [] => 0
  | [], _ :: _ => -1
  | _ :: _, [] => 1
  | a :: x, b :: y => if a.toNat < b.toNat then -1 else if b.toNat < a.toNat then 1 else lexB x y
theorem lexB_lt {a b : UInt8} {x y : List UInt8} (h : a.toNat < b.toNat) : lexB (a :: x) (b :: y) = -1 := by rw [lexB, if_pos h]
theorem lexB_eq {a b : UInt8} {x y : List UInt8} (h : a.toNat = b.toNat) : lexB (a :: x) (b :: y) = lexB x y := by rw [lexB, if_neg (by omega), if_neg (by omega)]
theorem lexB_pre (p x y : List UInt8) : lexB (p ++ x) (p ++ y) = lexB x y := by
  induction p with
  | nil => rfl
  | cons a p ih => rw [List.cons_append, List.cons_append, lexB_eq rfl, ih]
/-- A lesser rune has lesser bytes, whatever follows. -/
theorem enc_less {a b : Int} (ha : goodR a = true) (hb : goodR b = true) (h : a < b) (x y : List UInt8) : lexB (encL a ++ x) (encL b ++ y) = -1 := by
  obtain ⟨a0, a1, a2⟩ := goodR_bd ha
  obtain ⟨b0, b1, b2⟩ := goodR_bd hb
  unfold encL
  by_cases p1 : a < 128
  · rw [enc1 ha p1]
    have q0 := of8 a.toNat (by omega)
    by_cases r1 : b < 128
    · rw [enc1 hb r1]
      have s0 := of8 b.toNat (by omega)
      exact lexB_lt (by rw [q0, s0]; omega)
    by_cases r2 : b < 2048
    · rw [enc2 hb (by omega) r2]
      have s0 := of8 (192 + b.toNat / 64) (by omega)
      exact lexB_lt (by rw [q0, s0]; omega)
    by_cases r3 : b < 65536
    · rw [enc3 hb (by omega) r3]
      have s0 := of8 (224 + b.toNat / 4096) (by omega)
      exact lexB_lt (by rw [q0, s0]; omega)
    · rw [enc4 hb (by omega)]
      have s0 := of8 (240 + b.toNat / 262144) (by omega)
      exact lexB_lt (by rw [q0, s0]; omega)
  by_cases p2 : a < 2048
  · rw [enc2 ha (by omega) p2]
    have q0 := of8 (192 + a.toNat / 64) (by omega)
    have q1 := of8 (128 + a.toNat % 64) (by omega)
    by_cases r2 : b < 2048
    · rw [enc2 hb (by omega) r2]
      have s0 := of8 (192 + b.toNat / 64) (by omega)
      have s1 := of8 (128 + b.toNat % 64) (by omega)
      by_cases t : a.toNat / 64 < b.toNat / 64
      · exact lexB_lt (by rw [q0, s0]; omega)
      · exact (lexB_eq (by rw [q0, s0]; omega)).trans (lexB_lt (by rw [q1, s1]; omega))
    by_cases r3 : b < 65536
    · rw [enc3 hb (by omega) r3]
      have s0 := of8 (224 + b.toNat / 4096) (by omega)
      exact lexB_lt (by rw [q0, s0]; omega)
    · rw [enc4 hb (by omega)]
      have s0 := of8 (240 + b.toNat / 262144) (by omega)
      exact lexB_lt (by rw [q0, s0]; omega)
  by_cases p3 : a < 65536
  · rw [enc3 ha (by omega) p3]
    have q0 := of8 (224 + a.toNat / 4096) (by omega)
    have q1 := of8 (128 + a.toNat / 64 % 64) (by omega)
    have q2 := of8 (128 + a.toNat % 64) (by omega)
    by_cases r3 : b < 65536
    · rw [enc3 hb (by omega) r3]
      have s0 := of8 (224 + b.toNat / 4096) (by omega)
      have s1 := of8 (128 + b.toNat / 64 % 64) (by omega)
      have s2 := of8 (128 + b.toNat % 64) (by omega)
      by_cases t : a.toNat / 4096 < b.toNat / 4096
      · exact lexB_lt (by rw [q0, s0]; omega)
      by_cases t1 : a.toNat / 64 % 64 < b.toNat / 64 % 64
      · exact (lexB_eq (by rw [q0, s0]; omega)).trans (lexB_lt (by rw [q1, s1]; omega))
      · exact (lexB_eq (by rw [q0, s0]; omega)).trans ((lexB_eq (by rw [q1, s1]; omega)).trans (lexB_lt (by rw [q2, s2]; omega)))
    · rw [enc4 hb (by omega)]
      have s0 := of8 (240 + b.toNat / 262144) (by omega)
      exact lexB_lt (by rw [q0, s0]; omega)
  · rw [enc4 ha (by omega), enc4 hb (by omega)]
    have q0 := of8 (240 + a.toNat / 262144) (by omega)
    have q1 := of8 (128 + a.toNat / 4096 % 64) (by omega)
    have q2 := of8 (128 + a.toNat / 64 % 64) (by omega)
    have q3 := of8 (128 + a.toNat % 64) (by omega)
    have s0 := of8 (240 + b.toNat / 262144) (by omega)
    have s1 := of8 (128 + b.toNat / 4096 % 64) (by omega)
    have s2 := of8 (128 + b.toNat / 64 % 64) (by omega)
    have s3 := of8 (128 + b.toNat % 64) (by omega)
    by_cases t : a.toNat / 262144 < b.toNat / 262144
    · exact lexB_lt (by rw [q0, s0]; omega)
    by_cases t1 : a.toNat / 4096 % 64 < b.toNat / 4096 % 64
    · exact (lexB_eq (by rw [q0, s0]; omega)).trans (lexB_lt (by rw [q1, s1]; omega))
    by_cases t2 : a.toNat / 64 % 64 < b.toNat / 64 % 64
    · exact (lexB_eq (by rw [q0, s0]; omega)).trans ((lexB_eq (by rw [q1, s1]; omega)).trans (lexB_lt (by rw [q2, s2]; omega)))
    · exact (lexB_eq (by rw [q0, s0]; omega)).trans ((lexB_eq (by rw [q1, s1]; omega)).trans ((lexB_eq (by rw [q2, s2]; omega)).trans (lexB_lt (by rw [q3, s3]; omega))))
theorem lexB_neg : ∀ x y : List UInt8, lexB y x = - lexB x y
  | [], [] => rfl
  | [], _ :: _ => rfl
  | _ :: _, [] => rfl
  | a :: x, b :: y => by
    have ih := lexB_neg x y
    unfold lexB
    by_cases h1 : a.toNat < b.toNat
    · rw [if_neg (show ¬ b.toNat < a.toNat by omega), if_pos h1, if_pos h1]; rfl
    · by_cases h2 : b.toNat < a.toNat
      · rw [if_pos h2, if_neg h1, if_pos h2]
      · rw [if_neg h2, if_neg h1, if_neg h1, if_neg h2, ih]
/-- Thompson and Pike: the order of the bytes is the order of the runes. -/
theorem order : ∀ l m : List Int, (∀ z ∈ l, goodR z = true) → (∀ z ∈ m, goodR z = true) → lexB (textL l) (textL m) = cmpL l m
  | [], [], _, _ => rfl
  | [], b :: m, _, hm => by
    have e : textL (b :: m) = encL b ++ textL m := by simp [textL]
    have hne := encL_ne (hm b (by simp))
    rw [e]
    cases hb : encL b with
    | nil => exact absurd hb hne
    | cons x r => rfl
  | a :: l, [], hl, _ => by
    have e : textL (a :: l) = encL a ++ textL l := by simp [textL]
    have hne := encL_ne (hl a (by simp))
    rw [e]
    cases hb : encL a with
    | nil => exact absurd hb hne
    | cons x r => rfl
  | a :: l, b :: m, hl, hm => by
    have e : textL (a :: l) = encL a ++ textL l := by simp [textL]
    have e' : textL (b :: m) = encL b ++ textL m := by simp [textL]
    rw [e, e']
    by_cases h1 : a < b
    · rw [enc_less (hl a (by simp)) (hm b (by simp)) h1, cmpL_lt _ _ h1]
    · by_cases h2 : b < a
      · rw [lexB_neg, enc_less (hm b (by simp)) (hl a (by simp)) h2, cmpL_gt _ _ h2]; rfl
      · obtain rfl : a = b := by omega
        rw [lexB_pre, Less.cmpL_eq, order l m (fun z hz => hl z (by simp [hz])) (fun z hz => hm z (by simp [hz]))]
theorem okR_of_text {m : List Int} (h : okL m = true) : okR (resT m) = true ∧ resR (resT m) = m := by
  obtain ⟨h1, h2⟩ := okL_all h
  have e : (resT m).data.toList = textL m := by rw [resT_yes h]
  have hs : (resT m).size ≤ 240 := by
    have := textL_len m
    rw [← data_len, e]; omega
  have hr : runesD (resT m).data.toList = some m := by rw [e]; exact runes_text m h1
  obtain ⟨r1, r2⟩ := r_yes hs hr h2
  exact ⟨r2, r1⟩
theorem text_of_runes {s : ByteArray} (h : okR s = true) : resT (resR s) = s := by
  rw [resT_yes (resR_ok s)]
  exact eq_of_data (okR_text h)
theorem bytesLess_lex : ∀ x y : List UInt8, Op.bytesLess x y = decide (lexB x y < 0)
  | [], [] => rfl
  | _ :: _, [] => rfl
  | [], _ :: _ => rfl
  | a :: x, b :: y => by
    have ih := bytesLess_lex x y
    unfold Op.bytesLess lexB
    by_cases h1 : a.toNat < b.toNat
    · rw [if_pos h1, decide_eq_true (UInt8.lt_iff_toNat_lt.2 h1)]; rfl
    · have e1 : decide (a < b) = false := decide_eq_false (fun h => h1 (UInt8.lt_iff_toNat_lt.1 h))
      rw [if_neg h1, e1]
      by_cases h2 : b.toNat < a.toNat
      · have e2 : (a == b) = false := by rw [beq_eq_false_iff_ne]; intro e; subst e; omega
        rw [if_pos h2, e2]; rfl
      · have e2 : (a == b) = true := by rw [beq_iff_eq]; exact UInt8.toNat_inj.1 (by omega)
        rw [if_neg h2, e2, ih]; simp
/-- The order of two texts of runes. -/
theorem less_text {s t : ByteArray} {l m : List Int} (hs : s.data.toList = textL l) (ht : t.data.toList = textL m) (hl : ∀ z ∈ l, goodR z = true) (hm : ∀ z ∈ m, goodR z = true) : Op.bytesLess s.toList t.toList = decide (Less.cmpL l m < 0) := by
  rw [ByteArray.toList_eq, ByteArray.toList_eq, hs, ht, bytesLess_lex, order l m hl hm]
theorem resT_size (l : List Int) (h : l.length ≤ 61) : (resT l).size ≤ 244 := by
  rcases hk : okL l with _ | _
  · rw [resT_no hk]; exact Nat.zero_le _
  · have e : (resT l).data.toList = textL l := by rw [resT_yes hk]
    have := textL_len l
    rw [← data_len, e]; omega
theorem okR_240 {s : ByteArray} (h : okR s = true) : s.size ≤ 240 := by
  unfold okR at h
  split at h
  · assumption
  · cases h
end Go.Proofs.YtehmlkcnhccjmabDoor.RuneLaws
