/-
  The hexadecimal form and base64 go back and forth.
-/
import Derived.Test.YtehmlkcnhccjmaaHex
import Derived.Test.YtehmlkcnhccjmaaUnhex
import Derived.Test.YtehmlkcnhccjmaaOfSig
namespace Go.Proofs.Ytehmlkcnhccjmaa.HexLaws
open Go.Proofs.Ytehmlkcnhccjmaa.Mem Go.Proofs.Ytehmlkcnhccjmaa.Hex Go.Proofs.Ytehmlkcnhccjmaa.Unhex Go.Proofs.Ytehmlkcnhccjmaa.SigM Go.Proofs.Ytehmlkcnhccjmaa.OfSig
set_option linter.unusedVariables false

theorem two_all : ∀ n : Fin 256, two (dig (((UInt8.ofNat n.1).toNat : Int) / 16).toNat) (dig (((UInt8.ofNat n.1).toNat : Int) % 16).toNat) = UInt8.ofNat n.1 ∧ 0 ≤ hx (dig (((UInt8.ofNat n.1).toNat : Int) / 16).toNat) ∧ 0 ≤ hx (dig (((UInt8.ofNat n.1).toNat : Int) % 16).toNat) := by decide +kernel
theorem two_dig (c : UInt8) : two (dig ((c.toNat : Int) / 16).toNat) (dig ((c.toNat : Int) % 16).toNat) = c ∧ 0 ≤ hx (dig ((c.toNat : Int) / 16).toNat) ∧ 0 ≤ hx (dig ((c.toNat : Int) % 16).toNat) := by
  have := two_all ⟨c.toNat, c.toNat_lt⟩
  simpa using this
theorem dig_all : ∀ n : Fin 256, 0 ≤ hx (UInt8.ofNat n.1) → dig (hx (UInt8.ofNat n.1)).toNat = UInt8.ofNat n.1 := by decide +kernel
theorem dig_hx (c : UInt8) (h : 0 ≤ hx c) : dig (hx c).toNat = c := by
  have := dig_all ⟨c.toNat, c.toNat_lt⟩
  simp at this
  exact this h
theorem unh_hex (l : List UInt8) : unh (hexL l) = l := by
  induction l with
  | nil => rfl
  | cons c r ih => simp only [hexL, List.flatMap_cons, List.cons_append, List.nil_append, unh] at ih ⊢; rw [ih, (two_dig c).1]
theorem ok_hex (l : List UInt8) : okH (hexL l) := by
  intro c hc
  obtain ⟨d, _, hd⟩ := List.mem_flatMap.1 hc
  simp at hd
  rcases hd with rfl | rfl
  · exact (two_dig d).2.1
  · exact (two_dig d).2.2
theorem two_nat (a b : UInt8) (ha : 0 ≤ hx a) (hb : 0 ≤ hx b) : ((two a b).toNat : Int) = hx a * 16 + hx b := by
  have h1 := hx_ge a; have h2 := hx_ge b
  unfold two
  rw [UInt8.toNat_ofNat']
  omega
theorem hex_unh (n : Nat) : ∀ l : List UInt8, l.length = 2 * n → okH l → hexL (unh l) = l := by
  induction n with
  | zero => intro l h _; have : l = [] := List.eq_nil_of_length_eq_zero (by omega); subst this; rfl
  | succ n ih =>
    intro l h ho
    match l, h, ho with
    | a :: b :: r, h, ho =>
      simp only [List.length_cons] at h
      have ha := ho a (by simp)
      have hb := ho b (by simp)
      have h1 := hx_ge a; have h2 := hx_ge b
      have hr := ih r (by omega) (fun c hc => ho c (by simp [hc]))
      have e1 : ((two a b).toNat : Int) / 16 = hx a := by rw [two_nat a b ha hb]; omega
      have e2 : ((two a b).toNat : Int) % 16 = hx b := by rw [two_nat a b ha hb]; omega
      simp only [unh, hexL, List.flatMap_cons, List.cons_append, List.nil_append] at hr ⊢
      rw [e1, e2, dig_hx a ha, dig_hx b hb, hr]
    | [], h, _ => simp at h
    | [_], h, _ => simp at h; omega
theorem unh_len (n : Nat) : ∀ l : List UInt8, l.length = 2 * n → (unh l).length = n := by
  induction n with
  | zero => intro l h; have : l = [] := List.eq_nil_of_length_eq_zero (by omega); subst this; rfl
  | succ n ih =>
    intro l h
    match l, h with
    | a :: b :: r, h => simp only [List.length_cons] at h; simp only [unh, List.length_cons, ih r (by omega)]
    | [], h => simp at h
    | [_], h => simp at h; omega
/-- The hexadecimal form of a text is read back. -/
theorem hexOK (s : ByteArray) : okT ⟨(hexL s.data.toList).toArray⟩ := ⟨by rw [mk_size, hexL_len]; omega, by simpa using ok_hex _⟩
theorem hexSize (s : ByteArray) : (ByteArray.mk (hexL s.data.toList).toArray).size = 2 * s.size := by rw [mk_size, hexL_len]; simp
theorem hexBack (s : ByteArray) : (ByteArray.mk (unh (ByteArray.mk (hexL s.data.toList).toArray).data.toList).toArray) = s := by
  apply ByteArray.ext; apply Array.toList_inj.1; simp [unh_hex]
theorem unhSize (v : ByteArray) (h : okT v) : (ByteArray.mk (unh v.data.toList).toArray).size = v.size / 2 := by
  have h1 := h.1
  rw [mk_size, unh_len (v.size / 2) _ (by simp; omega)]
theorem unhBack (v : ByteArray) (h : okT v) : (ByteArray.mk (hexL (ByteArray.mk (unh v.data.toList).toArray).data.toList).toArray) = v := by
  have h1 := h.1
  apply ByteArray.ext; apply Array.toList_inj.1
  show (hexL (unh v.data.toList).toArray.toList).toArray.toList = _
  simpa using hex_unh (v.size / 2) v.data.toList (by simp; omega) h.2
/-- The base64 form of a text is read back. -/
theorem signOK (s : ByteArray) : okS ⟨(encB s.data.toList).toArray⟩ := ⟨by rw [mk_size, enc_len]; omega, by simp [decS_enc]⟩
theorem signSize (s : ByteArray) : (ByteArray.mk (encB s.data.toList).toArray).size = (s.size + 2) / 3 * 4 := by rw [mk_size, enc_len]; simp
theorem signBack (s : ByteArray) : (ByteArray.mk (decS (ByteArray.mk (encB s.data.toList).toArray).data.toList).toArray) = s := by
  apply ByteArray.ext; apply Array.toList_inj.1; simp [decS_enc]
theorem ofSize (u : ByteArray) (h : u.size ≤ 800) : (ByteArray.mk (decS u.data.toList).toArray).size ≤ 600 := by
  rw [mk_size]; exact decS_len 200 u.data.toList (by simp; omega)
theorem ofBack (u : ByteArray) (h : okS u) : (ByteArray.mk (encB (ByteArray.mk (decS u.data.toList).toArray).data.toList).toArray) = u := by
  apply ByteArray.ext; apply Array.toList_inj.1
  simpa using h.2
end Go.Proofs.Ytehmlkcnhccjmaa.HexLaws
