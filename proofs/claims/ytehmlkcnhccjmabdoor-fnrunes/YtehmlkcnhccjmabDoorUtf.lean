/-
  Plain facts on UTF-8, over the model's own decoder and encoder: a string's runes, and what stands at a place.
-/
import Derived.Test.YtehmlkcnhccjmabDoorText
import Derived.Lib.MapLaws
import Derived.Lib.ValidAsc
import Derived.Lib.RuneCount
namespace Go.Proofs.YtehmlkcnhccjmabDoor.Utf
open Go.Lib
open Go.Proofs.YtehmlkcnhccjmabDoor.Mem Go.Proofs.YtehmlkcnhccjmabDoor.Rune Go.Proofs.YtehmlkcnhccjmabDoor.Enc Go.Proofs.YtehmlkcnhccjmabDoor.Text
set_option linter.unusedVariables false

def bad (l : List UInt8) : Prop := (decodeL l).1 = 65533 ∧ (decodeL l).2 = 1
instance (l : List UInt8) : Decidable (bad l) := by unfold bad; infer_instance
def decL (l : List UInt8) : Nat × Nat := if bad l then (0, 0) else decodeL l
def cls (b : Nat) : Nat := if b < 128 then 1 else if b < 192 then 0 else if b < 224 then 2 else if b < 240 then 3 else if b < 248 then 4 else 0
theorem cls1 {b : Nat} (h : b < 128) : cls b = 1 := by unfold cls; rw [if_pos h]
theorem cls2 {b : Nat} (h : 192 ≤ b) (k : b < 224) : cls b = 2 := by unfold cls; rw [if_neg (by omega), if_neg (by omega), if_pos k]
theorem cls3 {b : Nat} (h : 224 ≤ b) (k : b < 240) : cls b = 3 := by unfold cls; rw [if_neg (by omega), if_neg (by omega), if_neg (by omega), if_pos k]
theorem cls4 {b : Nat} (h : 240 ≤ b) (k : b < 248) : cls b = 4 := by unfold cls; rw [if_neg (by omega), if_neg (by omega), if_neg (by omega), if_neg (by omega), if_pos k]
theorem cls0 {b : Nat} (h : (128 ≤ b ∧ b < 192) ∨ 248 ≤ b) : cls b = 0 := by
  unfold cls
  rcases h with h | h
  · rw [if_neg (by omega), if_pos (by omega)]
  · rw [if_neg (by omega), if_neg (by omega), if_neg (by omega), if_neg (by omega), if_neg (by omega)]
def nOf (m : Nat) (b0 b1 b2 b3 : Int) : Int :=
  if m = 1 then b0 else if m = 2 then (b0 - 192) * 64 + b1 % 64 else if m = 3 then ((b0 - 224) * 64 + b1 % 64) * 64 + b2 % 64 else (((b0 - 240) * 64 + b1 % 64) * 64 + b2 % 64) * 64 + b3 % 64
def by4 (T : List UInt8) (i : Nat) : Nat := (T.getD i 0).toNat
theorem by4_lt (T : List UInt8) (i : Nat) : by4 T i < 256 := (T.getD i 0).toNat_lt
/-- Where a rune stands, its lead byte tells the width, and its bytes the number. -/
theorem shape {T : List UInt8} (hne : T ≠ []) (hb : ¬ bad T) :
    decodeL T = ((nOf (cls (by4 T 0)) (by4 T 0) (by4 T 1) (by4 T 2) (by4 T 3)).toNat, cls (by4 T 0)) ∧ cls (by4 T 0) ≤ T.length ∧ cls (by4 T 0) ≠ 0 ∧ goodR (nOf (cls (by4 T 0)) (by4 T 0) (by4 T 1) (by4 T 2) (by4 T 3)) = true := by
  have hl : 0 < T.length := List.length_pos_iff.2 hne
  unfold bad at hb
  rw [decodeL_N] at hb ⊢
  have k0 := by4_lt T 0
  have k1 := by4_lt T 1
  have k2 := by4_lt T 2
  have k3 := by4_lt T 3
  change ¬ ((decodeN T.length (by4 T 0) (by4 T 1) (by4 T 2) (by4 T 3)).1 = 65533 ∧ (decodeN T.length (by4 T 0) (by4 T 1) (by4 T 2) (by4 T 3)).2 = 1) at hb
  change decodeN T.length (by4 T 0) (by4 T 1) (by4 T 2) (by4 T 3) = _ ∧ _
  generalize by4 T 0 = b0 at *
  generalize by4 T 1 = b1 at *
  generalize by4 T 2 = b2 at *
  generalize by4 T 3 = b3 at *
  rcases decodeN_shape T.length b0 b1 b2 b3 with ⟨c, e⟩ | ⟨c1, c2, c3, cv, e⟩ | ⟨c1, c2, c3, c4, cv, cs, e⟩ | ⟨c1, c2, c3, c4, c5, cv, cw, e⟩ | e
  · rw [e, cls1 c]
    refine ⟨Prod.ext ?_ rfl, by omega, by omega, goodR_yes (.inl ?_)⟩
    · simp [nOf]
    · simp [nOf]; omega
  · rw [e, cls2 (by omega) (by omega)]
    refine ⟨Prod.ext ?_ rfl, by omega, by omega, goodR_yes (.inl ?_)⟩
    · simp [nOf]; omega
    · simp [nOf]; omega
  · rw [e, cls3 (by omega) (by omega)]
    refine ⟨Prod.ext ?_ rfl, by omega, by omega, goodR_yes ?_⟩
    · simp [nOf]; omega
    · simp [nOf]; omega
  · rw [e, cls4 (by omega) (by omega)]
    refine ⟨Prod.ext ?_ rfl, by omega, by omega, goodR_yes (.inr ?_)⟩
    · simp [nOf]; omega
    · simp [nOf]; omega
  · rw [e] at hb
    exact absurd ⟨rfl, rfl⟩ hb
theorem of8 (m : Nat) (h : m < 256) : (UInt8.ofNat m).toNat = m := by rw [UInt8.toNat_ofNat']; omega
/-- A rune's bytes, whatever follows, are read as that rune. -/
theorem decode_enc {n : Int} (hg : goodR n = true) (r : List UInt8) : decodeL (encL n ++ r) = (n.toNat, (encL n).length) ∧ ¬ bad (encL n ++ r) := by
  obtain ⟨g0, g1, g2⟩ := goodR_bd hg
  have hn : (n.toNat : Int) = n := by omega
  suffices h : decodeL (encL n ++ r) = (n.toNat, (encL n).length) ∧ ((encL n).length = 1 → n < 128) by
    refine ⟨h.1, fun hb => ?_⟩
    unfold bad at hb
    rw [h.1] at hb
    have := h.2 hb.2
    have := hb.1
    simp only at this
    omega
  rw [decodeL_N]
  by_cases h1 : n < 128
  · unfold encL
    rw [enc1 hg h1]
    have e0 := of8 n.toNat (by omega)
    refine ⟨?_, fun _ => h1⟩
    simp only [List.cons_append, List.nil_append, List.getD_cons_zero, e0, List.length_cons, List.length_nil]
    unfold decodeN
    rw [if_pos (by omega)]
  by_cases h2 : n < 2048
  · unfold encL
    rw [enc2 hg (by omega) h2]
    have e0 := of8 (192 + n.toNat / 64) (by omega)
    have e1 := of8 (128 + n.toNat % 64) (by omega)
    refine ⟨?_, fun h => by simp at h⟩
    simp only [List.cons_append, List.nil_append, List.getD_cons_zero, List.getD_cons_succ, e0, e1, List.length_cons, List.length_nil]
    unfold decodeN
    rw [if_neg (by omega), if_pos (by omega), if_pos (by omega)]
    exact Prod.ext (by simp only; omega) rfl
  by_cases h3 : n < 65536
  · unfold encL
    rw [enc3 hg (by omega) h3]
    have e0 := of8 (224 + n.toNat / 4096) (by omega)
    have e1 := of8 (128 + n.toNat / 64 % 64) (by omega)
    have e2 := of8 (128 + n.toNat % 64) (by omega)
    refine ⟨?_, fun h => by simp at h⟩
    simp only [List.cons_append, List.nil_append, List.getD_cons_zero, List.getD_cons_succ, e0, e1, e2, List.length_cons, List.length_nil]
    unfold decodeN
    rw [if_neg (by omega), if_neg (by omega), if_pos (by omega), if_pos (by omega)]
    exact Prod.ext (by simp only; omega) rfl
  · unfold encL
    rw [enc4 hg (by omega)]
    have e0 := of8 (240 + n.toNat / 262144) (by omega)
    have e1 := of8 (128 + n.toNat / 4096 % 64) (by omega)
    have e2 := of8 (128 + n.toNat / 64 % 64) (by omega)
    have e3 := of8 (128 + n.toNat % 64) (by omega)
    refine ⟨?_, fun h => by simp at h⟩
    simp only [List.cons_append, List.nil_append, List.getD_cons_zero, List.getD_cons_succ, e0, e1, e2, e3, List.length_cons, List.length_nil]
    unfold decodeN
    rw [if_neg (by omega), if_neg (by omega), if_neg (by omega), if_pos (by omega), if_pos (by omega)]
    exact Prod.ext (by simp only; omega) rfl
theorem byte_of (z : Int) (m : Nat) (h : z = (m : Int)) : z.toNat.toUInt8 = UInt8.ofNat m := by subst h; simp
theorem encL_rune {n : Int} (hg : goodR n = true) : encL n = encodeRune n := by
  obtain ⟨g0, g1, g2⟩ := goodR_bd hg
  unfold encodeRune encL
  by_cases h1 : n < 128
  · rw [enc1 hg h1, encodeRuneZ_one g0 (by omega)]
    rfl
  by_cases h2 : n < 2048
  · rw [enc2 hg (by omega) h2, encodeRuneZ_two (by omega) (by omega)]
    simp only [List.map_cons, List.map_nil]
    rw [byte_of (192 + n / 64) (192 + n.toNat / 64) (by omega), byte_of (128 + n % 64) (128 + n.toNat % 64) (by omega)]
  by_cases h3 : n < 65536
  · rw [enc3 hg (by omega) h3, encodeRuneZ_three (by omega)]
    simp only [List.map_cons, List.map_nil]
    rw [byte_of (224 + n / 4096) (224 + n.toNat / 4096) (by omega), byte_of (128 + n / 64 % 64) (128 + n.toNat / 64 % 64) (by omega), byte_of (128 + n % 64) (128 + n.toNat % 64) (by omega)]
  · rw [enc4 hg (by omega), encodeRuneZ_four (by omega) (by omega)]
    simp only [List.map_cons, List.map_nil]
    rw [byte_of (240 + n / 262144) (240 + n.toNat / 262144) (by omega), byte_of (128 + n / 4096 % 64) (128 + n.toNat / 4096 % 64) (by omega), byte_of (128 + n / 64 % 64) (128 + n.toNat / 64 % 64) (by omega), byte_of (128 + n % 64) (128 + n.toNat % 64) (by omega)]
/-- Where a rune stands, its bytes are that rune's. -/
theorem enc_decode {T : List UInt8} (hne : T ≠ []) (hb : ¬ bad T) : goodR ((decodeL T).1 : Int) = true ∧ encL ((decodeL T).1 : Int) = T.take (decodeL T).2 ∧ 1 ≤ (decodeL T).2 ∧ (decodeL T).2 ≤ T.length := by
  obtain ⟨h1, h2, h3, h4⟩ := shape hne hb
  have g := goodR_bd h4
  have hg : goodR ((decodeL T).1 : Int) = true := by
    rw [h1]
    have e : ((nOf (cls (by4 T 0)) (by4 T 0) (by4 T 1) (by4 T 2) (by4 T 3)).toNat : Int) = nOf (cls (by4 T 0)) (by4 T 0) (by4 T 1) (by4 T 2) (by4 T 3) := by omega
    simp only [e]; exact h4
  refine ⟨hg, ?_, ?_, ?_⟩
  · rw [encL_rune hg]; exact encode_decode T hne hb
  · rw [h1]; simp only; omega
  · rw [h1]; exact h2
end Go.Proofs.YtehmlkcnhccjmabDoor.Utf
