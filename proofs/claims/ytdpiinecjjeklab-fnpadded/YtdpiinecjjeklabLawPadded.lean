/-
  The walk of the law FnPadded: padded texts are whole blocks and come back, and words that are turned come back, whatever is drawn.
-/
import Derived.Test.YtdpiinecjjeklabTurn
import Derived.Test.YtdpiinecjjeklabUnpadS
import Derived.Test.YtdpiinecjjeklabDraw1
namespace Go.Proofs.Ytdpiinecjjeklab.LawPadded
open Go.ChangeShapes Go.WideShapes Go.ChangeAt Go.RowKit
open Go.Proofs.Ytdpiinecjjeklab.Mem Go.Proofs.Ytdpiinecjjeklab.Ints Go.Proofs.Ytdpiinecjjeklab.Cur Go.Proofs.Ytdpiinecjjeklab.Pad Go.Proofs.Ytdpiinecjjeklab.Unpad
open Go.Proofs.Ytdpiinecjjeklab.UnpadS (spec_any)
set_option linter.unusedVariables false

/-- Turned on and back. -/
theorem rot_back (x b : Int) (h0 : 0 ≤ x) (h1 : x ≤ 4294967295) (h2 : 0 ≤ b) (h3 : b ≤ 31) : Turn.rotR (Turn.rotR x b) ((32 - b) % 32) = x := by
  obtain ⟨n, rfl⟩ := Int.eq_ofNat_of_zero_le h0
  obtain ⟨k, rfl⟩ := Int.eq_ofNat_of_zero_le h2
  have hn : n < 2 ^ 32 := by omega
  have hk : k < 32 := by omega
  have key : ∀ (m j : Nat), m < 2 ^ 32 → j < 32 → Turn.rotR (m : Int) (j : Int) = (((BitVec.ofNat 32 m).rotateRight j).toNat : Int) := by
    intro m j hm hj
    unfold Turn.rotR
    have e1 : ((m : Int) / 2 ^ ((j : Int)).toNat) = ((m / 2 ^ j : Nat) : Int) := by simp
    have e2 : ((m : Int) * 2 ^ (32 - (j : Int)).toNat % 4294967296) = ((m * 2 ^ (32 - j) % 4294967296 : Nat) : Int) := by
      have : (32 - (j : Int)).toNat = 32 - j := by omega
      rw [this]; simp
    rw [e1, e2]
    have hb := (bits_nat .u32 32 (by decide) (fun n h0 h1 => by rw [IntKind.wrap_u32]; omega) (m / 2 ^ j) (m * 2 ^ (32 - j) % 4294967296) (Nat.lt_of_le_of_lt (Nat.div_le_self _ _) hm) (by omega)).2
    rw [hb]
    congr 1
    rw [BitVec.rotateRight_def, BitVec.toNat_or, Nat.mod_eq_of_lt hj]
    simp [BitVec.toNat_ushiftRight, BitVec.toNat_shiftLeft, Nat.shiftRight_eq_div_pow, Nat.shiftLeft_eq, Nat.mod_eq_of_lt hm]
  rw [key n k hn hk]
  have hlt : ((BitVec.ofNat 32 n).rotateRight k).toNat < 2 ^ 32 := BitVec.isLt _
  have e : ((32 : Int) - (k : Int)) % 32 = (((32 - k) % 32 : Nat) : Int) := by omega
  rw [e, key _ _ hlt (by omega)]
  congr 1
  rw [BitVec.ofNat_toNat, BitVec.setWidth_eq]
  have : ((BitVec.ofNat 32 n).rotateRight k).rotateRight ((32 - k) % 32) = BitVec.ofNat 32 n := by
    apply BitVec.eq_of_getLsbD_eq
    intro i hi
    by_cases h0 : k = 0
    · subst h0; simp [hi]
    · rw [Nat.mod_eq_of_lt (by omega : 32 - k < 32)]
      simp only [BitVec.getLsbD_rotateRight, Nat.mod_eq_of_lt hk, Nat.mod_eq_of_lt (by omega : 32 - k < 32), Bool.cond_decide]
      by_cases hik : i < 32 - (32 - k)
      · rw [if_pos hik, if_neg (by omega), decide_eq_true (by omega : 32 - k + i < 32), Bool.true_and]
        congr 1; omega
      · rw [if_neg hik, decide_eq_true hi, Bool.true_and, if_pos (by omega)]
        congr 1; omega
  rw [this]
  simp; omega
/-- A padded text is read back. -/
theorem pad_good (s : ByteArray) (hs : s.size ≤ 600) : goodB (s ++ ⟨(tailL s.size).toArray⟩) = true ∧ Unpad.part (s ++ ⟨(tailL s.size).toArray⟩) = s ∧ (s ++ (⟨(tailL s.size).toArray⟩ : ByteArray)).size % 64 = 0 ∧ (s ++ (⟨(tailL s.size).toArray⟩ : ByteArray)).size ≤ s.size + 72 := by
  have hz := zeros_lt s.size
  have hsz : (s ++ (⟨(tailL s.size).toArray⟩ : ByteArray)).size = s.size + (9 + zeros s.size) := by
    rw [ByteArray.size_append, mk_size (tailL s.size), tailL_len]
  have hl : last8 (s ++ ⟨(tailL s.size).toArray⟩) = be (8 * s.size) := by
    unfold last8
    rw [hsz]
    have e : (s ++ (⟨(tailL s.size).toArray⟩ : ByteArray)).data.toList = s.data.toList ++ (128 :: List.replicate (zeros s.size) 0 ++ be (8 * s.size)) := by simp [tailL]
    have hsl : s.data.toList.length = s.size := by rw [Array.length_toList]; rfl
    rw [e, ← List.append_assoc, List.drop_append, List.drop_of_length_le (by simp [hsl]; omega), List.nil_append]
    simp only [List.length_append, List.length_cons, List.length_replicate, hsl]
    rw [show s.size + (9 + zeros s.size) - 8 - (s.size + (zeros s.size + 1)) = 0 from by omega, List.drop_zero]
  have hc : cnt (s ++ ⟨(tailL s.size).toArray⟩) = 8 * s.size := by unfold cnt; rw [hl]; exact val_be _ (by omega)
  have hp : Unpad.part (s ++ ⟨(tailL s.size).toArray⟩) = s := by
    unfold Unpad.part
    rw [hc, show 8 * s.size / 8 = s.size from by omega]
    apply ByteArray.ext
    simp
  have hw : whole (s ++ ⟨(tailL s.size).toArray⟩) = s ++ ⟨(tailL s.size).toArray⟩ := by
    unfold whole; rw [hp, hc, show 8 * s.size / 8 = s.size from by omega]
  refine ⟨?_, hp, by rw [hsz]; unfold zeros; omega, by omega⟩
  unfold goodB
  rw [decide_eq_true_iff]
  exact ⟨by omega, by omega, by omega, by omega, hw⟩
/-- A text that was read back is padded again. -/
theorem good_pad (t : ByteArray) (h : goodB t = true) : (Unpad.part t).size ≤ 600 ∧ Unpad.part t ++ ⟨(tailL (Unpad.part t).size).toArray⟩ = t := by
  unfold goodB at h
  rw [decide_eq_true_iff] at h
  have hp := part_size t h.2.2.1
  refine ⟨by omega, ?_⟩
  rw [hp]
  exact h.2.2.2.2
set_option maxRecDepth 100000 in
set_option maxHeartbeats 4000000 in
theorem walk (A : Option Addr) (n c : Nat) (cs : List UInt8) (D : Option Addr) (m d : Nat) (ds : List UInt8) (hn : n ≤ maxLen) (hm : m ≤ maxLen) (w : World) (hx : Rd w w.heap.size 1 A n (Cur.bytes cs)) (hy : Rd w w.heap.size 1 D m (Cur.bytes ds)) :
    Calls Try.prog 3 #[.slice A n c, .slice D m d] w fun e w' => e = .returned (.bool true) ∧ Below w.heap.size w w' := by
  by_cases hbig : 1048576 < wrap64 ((n : Int) + (m : Int))
  · go_enter Try.func3, Try.ntmps3
    go_wp2
    go_ret
    exact ⟨rfl, Below.refl _ _⟩
  have hbig' : decide (1048576 < wrap64 ((n : Int) + (m : Int))) = false := by simpa using hbig
  go_enter Try.func3, Try.ntmps3
  go_wp2_with fail
  with_reducible refine (Draw1.drawPadText A n c cs w hn hx).mono ?_
  rintro e w1 ⟨s, rfl, hs, hb1⟩
  clear hx hbig hbig'
  have z1 := hb1.size
  by_cases h6 : s.size ≤ 600
  · go_wp2_with fail
    with_reducible refine (implPad s _ h6).mono ?_
    rintro e w2 ⟨rfl, hb2⟩
    have hB2 : Below w.heap.size w w2 := hb1.trans (hb2.mono z1)
    clear hb1 hb2
    have z2 := hB2.size
    go_wp2_with fail
    with_reducible refine (specPad s _ h6).mono ?_
    rintro e w3 ⟨rfl, hb3⟩
    have hB3 : Below w.heap.size w w3 := hB2.trans (hb3.mono z2)
    have z3 := hB3.size
    clear hB2 hb3 z2
    obtain ⟨g1, g2, g3, g4⟩ := pad_good s h6
    have hps : (s ++ (⟨(tailL s.size).toArray⟩ : ByteArray)).size ≤ maxLen := by unfold maxLen; omega
    have hres : res (s ++ ⟨(tailL s.size).toArray⟩) = .tuple #[.string s, .bool true] := by unfold res; rw [if_pos g1, g2]
    clear g1 g2
    have e64 : (((s ++ (⟨(tailL s.size).toArray⟩ : ByteArray)).size : Int) % 64 != 0) = false := by rw [bne_eq_false_iff_eq]; omega
    have HR := Lib.hid hres
    clear hres g3
    generalize (s ++ (⟨(tailL s.size).toArray⟩ : ByteArray)) = p at *
    go_wp2_with fail
    with_reducible refine (impl_any p _ hps).mono ?_
    rintro e w4 ⟨rfl, hb4⟩
    rw [HR.out]
    have hB5 : Below w.heap.size w w4 := hB3.trans (hb4.mono z3)
    clear hB3 hb4 z3 HR hps
    go_wp2_with fail
    with_reducible refine (Draw1.drawUnpadText D m d ds w4 hm ((hy.below hB5 (Nat.le_refl _)).mono hB5.size)).mono ?_
    rintro e w5 ⟨t, rfl, ht, hb5⟩
    have hB6 : Below w.heap.size w w5 := hB5.trans (hb5.mono hB5.size)
    clear hB5 hb5
    have htm : t.size ≤ maxLen := by unfold maxLen; omega
    by_cases hg : goodB t = true
    · have hres : res t = .tuple #[.string (Unpad.part t), .bool true] := by unfold res; rw [if_pos hg]
      obtain ⟨q1, q2⟩ := good_pad t hg
      have HR := Lib.hid hres
      have HQ := Lib.hid q2
      clear hres hg q2
      go_wp2_with fail
      with_reducible refine (impl_any t _ htm).mono ?_
      rintro e w6 ⟨rfl, hb6⟩
      rw [HR.out]
      have hB7 : Below w.heap.size w w6 := hB6.trans (hb6.mono hB6.size)
      clear hB6 hb6
      go_wp2_with fail
      with_reducible refine (spec_any t _ htm).mono ?_
      rintro e w7 ⟨rfl, hb7⟩
      rw [HR.out]
      have hB7' : Below w.heap.size w w7 := hB7.trans (hb7.mono hB7.size)
      clear hB7 hb7 HR
      generalize Unpad.part t = u at *
      go_wp2_with fail
      with_reducible refine (implPad u _ q1).mono ?_
      rintro e w8 ⟨rfl, hb8⟩
      rw [HQ.out]
      have hB8 : Below w.heap.size w w8 := hB7'.trans (hb8.mono hB7'.size)
      clear hB7' hb8 HQ
      go_wp2_with fail
      with_reducible refine (Draw1.drawTurnWord D m d ds w8 hm ((hy.below hB8 (Nat.le_refl _)).mono hB8.size)).mono ?_
      rintro e w9 ⟨a, b, rfl, hb9⟩
      have hB9 : Below w.heap.size w w9 := hB8.trans (hb9.mono hB8.size)
      clear hB8 hb9
      by_cases ho : Turn.outside a b
      · go_wp2_with fail
        with_reducible refine (Turn.implNo a b _ ho).mono ?_
        rintro e w' ⟨rfl, rfl⟩
        go_wp2_with fail
        with_reducible refine (Turn.specNo a b _ ho).mono ?_
        rintro e w' ⟨rfl, rfl⟩
        go_wp2
        go_ret
        exact ⟨rfl, hB9⟩
      · have r0 : 0 ≤ a := by unfold Turn.outside at ho; omega
        have r1 : a ≤ 4294967295 := by unfold Turn.outside at ho; omega
        have r2 : 0 ≤ b := by unfold Turn.outside at ho; omega
        have r3 : b ≤ 31 := by unfold Turn.outside at ho; omega
        have hrb := Lib.hid (rot_back a b r0 r1 r2 r3)
        have hbd := Turn.rotR_bd a b
        clear ho
        go_wp2_with fail
        with_reducible refine (Turn.implTurn a b _ r0 r1 r2 r3).mono ?_
        rintro e w' ⟨rfl, rfl⟩
        go_wp2_with fail
        with_reducible refine (Turn.specTurn a b _ r0 r1 r2 r3).mono ?_
        rintro e w' ⟨rfl, rfl⟩
        go_wp2_with fail
        rw [show (-b % 32 : Int) = (32 - b) % 32 from by omega]
        with_reducible refine (Turn.implTurn (Turn.rotR a b) ((32 - b) % 32) _ hbd.1 hbd.2 (by omega) (by omega)).mono ?_
        rintro e w' ⟨rfl, rfl⟩
        rw [hrb.out]
        go_wp2
        go_ret
        exact ⟨rfl, hB9⟩
    · have hres : res t = .tuple #[.string ⟨#[]⟩, .bool false] := by unfold res; rw [if_neg hg]
      have HR := Lib.hid hres
      clear hres hg
      go_wp2_with fail
      with_reducible refine (impl_any t _ htm).mono ?_
      rintro e w6 ⟨rfl, hb6⟩
      rw [HR.out]
      have hB7 : Below w.heap.size w w6 := hB6.trans (hb6.mono hB6.size)
      clear hB6 hb6
      go_wp2_with fail
      with_reducible refine (spec_any t _ htm).mono ?_
      rintro e w8 ⟨rfl, hb8⟩
      rw [HR.out]
      have hB8 : Below w.heap.size w w8 := hB7.trans (hb8.mono hB7.size)
      clear hB7 hb8 HR
      go_wp2_with fail
      with_reducible refine (Draw1.drawTurnWord D m d ds w8 hm ((hy.below hB8 (Nat.le_refl _)).mono hB8.size)).mono ?_
      rintro e w9 ⟨a, b, rfl, hb9⟩
      have hB9 : Below w.heap.size w w9 := hB8.trans (hb9.mono hB8.size)
      clear hB8 hb9
      by_cases ho : Turn.outside a b
      · go_wp2_with fail
        with_reducible refine (Turn.implNo a b _ ho).mono ?_
        rintro e w' ⟨rfl, rfl⟩
        go_wp2_with fail
        with_reducible refine (Turn.specNo a b _ ho).mono ?_
        rintro e w' ⟨rfl, rfl⟩
        go_wp2
        go_ret
        exact ⟨rfl, hB9⟩
      · have r0 : 0 ≤ a := by unfold Turn.outside at ho; omega
        have r1 : a ≤ 4294967295 := by unfold Turn.outside at ho; omega
        have r2 : 0 ≤ b := by unfold Turn.outside at ho; omega
        have r3 : b ≤ 31 := by unfold Turn.outside at ho; omega
        have hrb := Lib.hid (rot_back a b r0 r1 r2 r3)
        have hbd := Turn.rotR_bd a b
        clear ho
        go_wp2_with fail
        with_reducible refine (Turn.implTurn a b _ r0 r1 r2 r3).mono ?_
        rintro e w' ⟨rfl, rfl⟩
        go_wp2_with fail
        with_reducible refine (Turn.specTurn a b _ r0 r1 r2 r3).mono ?_
        rintro e w' ⟨rfl, rfl⟩
        go_wp2_with fail
        rw [show (-b % 32 : Int) = (32 - b) % 32 from by omega]
        with_reducible refine (Turn.implTurn (Turn.rotR a b) ((32 - b) % 32) _ hbd.1 hbd.2 (by omega) (by omega)).mono ?_
        rintro e w' ⟨rfl, rfl⟩
        rw [hrb.out]
        go_wp2
        go_ret
        exact ⟨rfl, hB9⟩
  · have h6' : 600 < s.size := by omega
    have hsm : s.size ≤ maxLen := by unfold maxLen; omega
    go_wp2_with fail
    with_reducible refine (implLong s _ h6' hsm).mono ?_
    rintro e w' ⟨rfl, rfl⟩
    go_wp2_with fail
    with_reducible refine (specLong s _ h6' hsm).mono ?_
    rintro e w4 ⟨rfl, rfl⟩
    have hB5 : Below w.heap.size w w1 := hb1
    clear hb1
    go_wp2_with fail
    with_reducible refine (Draw1.drawUnpadText D m d ds w1 hm ((hy.below hB5 (Nat.le_refl _)).mono hB5.size)).mono ?_
    rintro e w5 ⟨t, rfl, ht, hb5⟩
    have hB6 : Below w.heap.size w w5 := hB5.trans (hb5.mono hB5.size)
    clear hB5 hb5
    have htm : t.size ≤ maxLen := by unfold maxLen; omega
    by_cases hg : goodB t = true
    · have hres : res t = .tuple #[.string (Unpad.part t), .bool true] := by unfold res; rw [if_pos hg]
      obtain ⟨q1, q2⟩ := good_pad t hg
      have HR := Lib.hid hres
      have HQ := Lib.hid q2
      clear hres hg q2
      go_wp2_with fail
      with_reducible refine (impl_any t _ htm).mono ?_
      rintro e w6 ⟨rfl, hb6⟩
      rw [HR.out]
      have hB7 : Below w.heap.size w w6 := hB6.trans (hb6.mono hB6.size)
      clear hB6 hb6
      go_wp2_with fail
      with_reducible refine (spec_any t _ htm).mono ?_
      rintro e w7 ⟨rfl, hb7⟩
      rw [HR.out]
      have hB7' : Below w.heap.size w w7 := hB7.trans (hb7.mono hB7.size)
      clear hB7 hb7 HR
      generalize Unpad.part t = u at *
      go_wp2_with fail
      with_reducible refine (implPad u _ q1).mono ?_
      rintro e w8 ⟨rfl, hb8⟩
      rw [HQ.out]
      have hB8 : Below w.heap.size w w8 := hB7'.trans (hb8.mono hB7'.size)
      clear hB7' hb8 HQ
      go_wp2_with fail
      with_reducible refine (Draw1.drawTurnWord D m d ds w8 hm ((hy.below hB8 (Nat.le_refl _)).mono hB8.size)).mono ?_
      rintro e w9 ⟨a, b, rfl, hb9⟩
      have hB9 : Below w.heap.size w w9 := hB8.trans (hb9.mono hB8.size)
      clear hB8 hb9
      by_cases ho : Turn.outside a b
      · go_wp2_with fail
        with_reducible refine (Turn.implNo a b _ ho).mono ?_
        rintro e w' ⟨rfl, rfl⟩
        go_wp2_with fail
        with_reducible refine (Turn.specNo a b _ ho).mono ?_
        rintro e w' ⟨rfl, rfl⟩
        go_wp2
        go_ret
        exact ⟨rfl, hB9⟩
      · have r0 : 0 ≤ a := by unfold Turn.outside at ho; omega
        have r1 : a ≤ 4294967295 := by unfold Turn.outside at ho; omega
        have r2 : 0 ≤ b := by unfold Turn.outside at ho; omega
        have r3 : b ≤ 31 := by unfold Turn.outside at ho; omega
        have hrb := Lib.hid (rot_back a b r0 r1 r2 r3)
        have hbd := Turn.rotR_bd a b
        clear ho
        go_wp2_with fail
        with_reducible refine (Turn.implTurn a b _ r0 r1 r2 r3).mono ?_
        rintro e w' ⟨rfl, rfl⟩
        go_wp2_with fail
        with_reducible refine (Turn.specTurn a b _ r0 r1 r2 r3).mono ?_
        rintro e w' ⟨rfl, rfl⟩
        go_wp2_with fail
        rw [show (-b % 32 : Int) = (32 - b) % 32 from by omega]
        with_reducible refine (Turn.implTurn (Turn.rotR a b) ((32 - b) % 32) _ hbd.1 hbd.2 (by omega) (by omega)).mono ?_
        rintro e w' ⟨rfl, rfl⟩
        rw [hrb.out]
        go_wp2
        go_ret
        exact ⟨rfl, hB9⟩
    · have hres : res t = .tuple #[.string ⟨#[]⟩, .bool false] := by unfold res; rw [if_neg hg]
      have HR := Lib.hid hres
      clear hres hg
      go_wp2_with fail
      with_reducible refine (impl_any t _ htm).mono ?_
      rintro e w6 ⟨rfl, hb6⟩
      rw [HR.out]
      have hB7 : Below w.heap.size w w6 := hB6.trans (hb6.mono hB6.size)
      clear hB6 hb6
      go_wp2_with fail
      with_reducible refine (spec_any t _ htm).mono ?_
      rintro e w8 ⟨rfl, hb8⟩
      rw [HR.out]
      have hB8 : Below w.heap.size w w8 := hB7.trans (hb8.mono hB7.size)
      clear hB7 hb8 HR
      go_wp2_with fail
      with_reducible refine (Draw1.drawTurnWord D m d ds w8 hm ((hy.below hB8 (Nat.le_refl _)).mono hB8.size)).mono ?_
      rintro e w9 ⟨a, b, rfl, hb9⟩
      have hB9 : Below w.heap.size w w9 := hB8.trans (hb9.mono hB8.size)
      clear hB8 hb9
      by_cases ho : Turn.outside a b
      · go_wp2_with fail
        with_reducible refine (Turn.implNo a b _ ho).mono ?_
        rintro e w' ⟨rfl, rfl⟩
        go_wp2_with fail
        with_reducible refine (Turn.specNo a b _ ho).mono ?_
        rintro e w' ⟨rfl, rfl⟩
        go_wp2
        go_ret
        exact ⟨rfl, hB9⟩
      · have r0 : 0 ≤ a := by unfold Turn.outside at ho; omega
        have r1 : a ≤ 4294967295 := by unfold Turn.outside at ho; omega
        have r2 : 0 ≤ b := by unfold Turn.outside at ho; omega
        have r3 : b ≤ 31 := by unfold Turn.outside at ho; omega
        have hrb := Lib.hid (rot_back a b r0 r1 r2 r3)
        have hbd := Turn.rotR_bd a b
        clear ho
        go_wp2_with fail
        with_reducible refine (Turn.implTurn a b _ r0 r1 r2 r3).mono ?_
        rintro e w' ⟨rfl, rfl⟩
        go_wp2_with fail
        with_reducible refine (Turn.specTurn a b _ r0 r1 r2 r3).mono ?_
        rintro e w' ⟨rfl, rfl⟩
        go_wp2_with fail
        rw [show (-b % 32 : Int) = (32 - b) % 32 from by omega]
        with_reducible refine (Turn.implTurn (Turn.rotR a b) ((32 - b) % 32) _ hbd.1 hbd.2 (by omega) (by omega)).mono ?_
        rintro e w' ⟨rfl, rfl⟩
        rw [hrb.out]
        go_wp2
        go_ret
        exact ⟨rfl, hB9⟩
end Go.Proofs.Ytdpiinecjjeklab.LawPadded
