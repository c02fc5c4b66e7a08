/-
  The rune at a place of a string: contracts of the reference and of the program, and the walk of the law on RuneAt. For every string and number both answer alike.
-/
import Derived.Test.YtehmlkcnhccjmabDoorUtf
import Derived.Test.YtehmlkcnhccjmabDoorShelf
import Derived.LoopN
import Derived.Deep.QuietTactic
import Derived.BigQuiet
import Derived.WalkSmall
import Derived.Lib.SmallJoins
namespace Go.Proofs.YtehmlkcnhccjmabDoor.At
open Go.ChangeShapes Go.WideShapes Go.ChangeAt Go.RowKit Go.Lib
open Go.Proofs.YtehmlkcnhccjmabDoor.Mem Go.Proofs.YtehmlkcnhccjmabDoor.Rune Go.Proofs.YtehmlkcnhccjmabDoor.Enc Go.Proofs.YtehmlkcnhccjmabDoor.Text Go.Proofs.YtehmlkcnhccjmabDoor.Utf
set_option linter.unusedVariables false

def tl (s : ByteArray) (k : Nat) : List UInt8 := s.data.toList.drop k
theorem tl_len (s : ByteArray) (k : Nat) : (tl s k).length = s.size - k := by unfold tl; rw [List.length_drop, data_len]
theorem tl_ne {s : ByteArray} {k : Nat} (h : k < s.size) : tl s k ≠ [] := List.ne_nil_of_length_pos (by rw [tl_len]; omega)
theorem by4_at (s : ByteArray) (k i : Nat) (h : k + i < s.size) : by4 (tl s k) i = (s[k + i]).toNat := by
  unfold by4 tl
  have hl : k + i < s.data.toList.length := by rw [data_len]; exact h
  simp only [List.getD, List.getElem?_drop, List.getElem?_eq_getElem hl, Option.getD_some]
  rfl
theorem ext_take (s : ByteArray) (k m : Nat) : (s.extract k (k + m)).data.toList = (tl s k).take m := by
  rw [extract_data]; unfold tl; congr 1; omega
theorem eq_of_data {a b : ByteArray} (h : a.data.toList = b.data.toList) : a = b := ByteArray.ext (Array.toList_inj.1 h)
/-- The reference's test, passed. -/
theorem test_yes {s : ByteArray} {k m : Nat} {N : Int} (h : k + m ≤ s.size) (hg : goodR N = true) (he : Utf8.encode N = s.extract k (k + m)) : decL (tl s k) = (N.toNat, m) := by
  have e1 : encL N = (tl s k).take m := by unfold encL; rw [he, ext_take]
  have hl : (encL N).length = m := by rw [e1, List.length_take, tl_len]; omega
  obtain ⟨h1, h2⟩ := decode_enc hg ((tl s k).drop m)
  rw [e1, List.take_append_drop] at h1 h2
  unfold decL
  rw [if_neg h2, h1, ← e1, hl]
/-- The reference's test, failed. -/
theorem test_no {s : ByteArray} {k m : Nat} {N : Int} (h : k < s.size) (hm : cls (by4 (tl s k) 0) = m) (hN : nOf m (by4 (tl s k) 0) (by4 (tl s k) 1) (by4 (tl s k) 2) (by4 (tl s k) 3) = N)
    (hf : s.size < k + m ∨ goodR N = false ∨ Utf8.encode N ≠ s.extract k (k + m)) : decL (tl s k) = (0, 0) := by
  unfold decL
  split
  · rfl
  · rename_i hb
    exfalso
    obtain ⟨h1, h2, h3, h4⟩ := Utf.shape (tl_ne h) hb
    have h5 := enc_decode (tl_ne h) hb
    rw [hm, hN] at h1 h4
    rw [hm, tl_len] at h2
    rcases hf with hf | hf | hf
    · omega
    · rw [hf] at h4; cases h4
    · refine hf (eq_of_data ?_)
      rw [ext_take]
      have g := goodR_bd h4
      have := h5.2.1
      rw [h1] at this
      simp only [show ((N.toNat : Nat) : Int) = N from by omega] at this
      exact this
theorem none_at {s : ByteArray} {k : Nat} (h : k < s.size) (hm : cls (by4 (tl s k) 0) = 0) : decL (tl s k) = (0, 0) := by
  unfold decL
  split
  · rfl
  · rename_i hb
    exact absurd hm (Utf.shape (tl_ne h) hb).2.2.1
theorem or64 (x y : Int) (h0 : 0 ≤ x) (h1 : x < 4294967296) (h2 : 0 ≤ y) (h3 : y < 64) : bits .or .i64 (x * 64) y = x * 64 + y :=
  bits_join .i64 62 (by decide) (fun n h0 h1 => by rw [IntKind.wrap_i64]; omega) 6 (x * 64) y (by omega) (by omega) (by omega) h2 (by omega) (by omega)
theorem and63 (c : UInt8) : bits .and .u8 (c.toNat : Int) 63 = (c.toNat : Int) % 64 := u8_and63 _ (by omega) (by have := c.toNat_lt; omega)
theorem goodQ (n : Int) (w : World) : Calls Tryd.prog 50 #[.int .i64 n] w fun e w' => e = .returned (.bool (goodR n)) ∧ w' = w :=
  (specGood n w).mono fun e w' ⟨he, hw⟩ => ⟨he, hw.symm⟩
theorem slice_at (s : ByteArray) (k m : Nat) (W : World) (h : k + m ≤ s.size) :
    (Instr.slice 9 (.string s) (some (.int .i64 (k : Int))) (some (.int .i64 ((k : Int) + m))) none).run Tryd.prog W = .ok (.string (s.extract k (k + m))) W := by
  have := run_slice_string (P := Tryd.prog) W 9 s .i64 .i64 (k : Int) ((k : Int) + m) Tryd.underlying9 (by omega) (by omega) (by omega)
  rw [this]
  congr 3
set_option maxRecDepth 100000 in
set_option maxHeartbeats 4000000 in
theorem l2At (s : ByteArray) (k : Nat) (w : World) (hs : s.size ≤ 240) (hk : k < s.size) :
    Calls Tryd.prog 85 #[.string s, .int .i64 k] w fun e w' => e = .returned (.tuple #[.int .i64 ((decL (tl s k)).1 : Nat), .int .i64 ((decL (tl s k)).2 : Nat)]) ∧ Below w.heap.size w w' := by
  have hi0 : (0 : Int) ≤ (k : Int) := Int.natCast_nonneg _
  have hi1 : (k : Int) < (s.size : Int) := by omega
  have b0 : by4 (tl s k) 0 = (s[k]).toNat := by4_at s k 0 (by omega)
  have h255 : (s[k]).toNat < 256 := (s[k]).toNat_lt
  have L := Lib.hid l2Bytes
  obtain ⟨x, hx⟩ : ∃ x, (s[k]).toNat = x := ⟨_, rfl⟩
  by_cases c1 : x < 128
  · have hg : goodR (x : Int) = true := goodR_yes (.inl (by omega))
    have he : Utf8.encode (x : Int) = s.extract k (k + 1) := by
      refine eq_of_data ?_
      rw [enc1 hg (by omega), ext_take, takeA _ (by rw [tl_len]; omega)]
      simp only [List.cons.injEq, and_true]
      rw [show (x : Int).toNat = x from by omega, ← hx, show (tl s k).getD 0 0 = s[k] from ?_]
      · simp
      · apply UInt8.toNat_inj.1; exact b0
    have R := test_yes (by omega) hg he
    rw [R]
    have L1 := Lib.hid (fun W => L.out (x : Int) W hg)
    have HG := Lib.hid (fun W => goodQ (x : Int) W)
    rw [hg] at HG
    simp only [he] at L1
    have k1 : (k : Int) + 1 ≤ (s.size : Int) := by omega
    have w1 : IntKind.i64.wrap ((k : Int) + 1) = (k : Int) + 1 := by rw [IntKind.wrap_i64]; omega
    have SL : ∀ W, (Instr.slice 9 (.string s) (some (.int .i64 (k : Int))) (some (.int .i64 ((k : Int) + 1))) none).run Tryd.prog W = .ok (.string (s.extract k (k + 1))) W := fun W => slice_at s k 1 W (by omega)
    clear hg he R b0
    go_enter Tryd.func85, Tryd.ntmps85
    go_wp2_with go_in
    refine wp_loop_rounds 1 ?_
    rw [rounds_succ]
    go_wp2_with fail
    go_region_held3 (fun _ => True) (trivial) (first | (go_at_call 50; refine (HG.out _).mono ?_; rintro e' w' ⟨rfl, rfl⟩) | (go_at_call 82; refine (L1.out _).mono ?_; rintro e' w' ⟨rfl, hb⟩))
    go_wp2
    go_ret2
    exact ⟨rfl, (Below.drew (Below.refl _ w)).trans hb⟩
  by_cases c0 : x < 192 ∨ 248 ≤ x
  · rw [none_at hk (cls0 (by rw [b0, hx]; omega))]
    clear b0
    rcases c0 with c0 | c0
    · go_enter Tryd.func85, Tryd.ntmps85
      go_wp2_with go_in
      go_ret2
      exact ⟨rfl, Below.refl _ _⟩
    · have t1 : decide ((x : Int) ≤ 223) = false := by simp; omega
      have t2 : decide ((x : Int) ≤ 239) = false := by simp; omega
      have t3 : decide ((x : Int) ≤ 247) = false := by simp; omega
      go_enter Tryd.func85, Tryd.ntmps85
      go_wp2_with go_in
      go_ret2
      exact ⟨rfl, Below.refl _ _⟩
  by_cases c2 : x < 224
  · have t1 : decide ((x : Int) ≤ 223) = true := by simp; omega
    have hm : cls (by4 (tl s k) 0) = 2 := cls2 (by rw [b0, hx]; omega) (by rw [b0, hx]; omega)
    by_cases hsh : s.size < k + 2
    · rw [test_no hk hm rfl (.inl hsh)]
      have k3 : (s.size : Int) < (k : Int) + 2 := by omega
      clear b0 hm
      go_enter Tryd.func85, Tryd.ntmps85
      go_wp2_with go_in
      go_ret2
      exact ⟨rfl, Below.refl _ _⟩
    have b1 : by4 (tl s k) 1 = (s[k + 1]).toNat := by4_at s k 1 (by omega)
    have y255 : (s[k + 1]).toNat < 256 := (s[k + 1]).toNat_lt
    have ya := and63 s[k + 1]
    obtain ⟨y, hy⟩ : ∃ y, (s[k + 1]).toNat = y := ⟨_, rfl⟩
    rw [hy] at ya
    have yo := or64 ((x : Int) - 192) ((y : Int) % 64) (by omega) (by omega) (by omega) (by omega)
    have hN : nOf 2 (by4 (tl s k) 0) (by4 (tl s k) 1) (by4 (tl s k) 2) (by4 (tl s k) 3) = ((x : Int) - 192) * 64 + (y : Int) % 64 := by rw [b0, b1, hx, hy]; simp [nOf]
    generalize hNN : ((x : Int) - 192) * 64 + (y : Int) % 64 = N at *
    have k1 : (k : Int) + 1 < (s.size : Int) := by omega
    have kk : (k : Int) + 2 ≤ (s.size : Int) := by omega
    have ww : IntKind.i64.wrap ((k : Int) + 2) = (k : Int) + 2 := by rw [IntKind.wrap_i64]; omega
    have SL : ∀ W, (Instr.slice 9 (.string s) (some (.int .i64 (k : Int))) (some (.int .i64 ((k : Int) + 2))) none).run Tryd.prog W = .ok (.string (s.extract k (k + 2))) W := fun W => slice_at s k 2 W (by omega)
    clear b0 b1
    have HG := Lib.hid (fun W => goodQ N W)
    rcases hg : goodR N with _ | _
    · rw [test_no hk hm hN (.inr (.inl hg))]
      rw [hg] at HG
      clear hg hm hN
      go_enter Tryd.func85, Tryd.ntmps85
      go_wp2_with go_in
      refine wp_loop_rounds 2 ?_
      rw [rounds_succ]
      go_wp2_with go_in
      rw [rounds_succ]
      go_wp2_with fail
      go_quiet ((go_at_call 50; exact Calls.quiet_of_same (HG.out _)))
      go_wp2
      go_ret2
      exact ⟨rfl, below_drewN (Below.refl _ _) _⟩
    · have L1 := Lib.hid (fun W => L.out N W hg)
      have nn : (N.toNat : Int) = N := by have := goodR_bd hg; omega
      rw [hg] at HG
      by_cases he : Utf8.encode N = s.extract k (k + 2)
      · rw [test_yes (by omega) hg he]
        simp only [he] at L1
        rw [nn]
        clear hg hm hN he nn
        go_enter Tryd.func85, Tryd.ntmps85
        go_wp2_with go_in
        refine wp_loop_rounds 2 ?_
        rw [rounds_succ]
        go_wp2_with go_in
        rw [rounds_succ]
        go_wp2_with fail
        go_region_held3 (fun _ => True) (trivial) (first | (go_at_call 50; refine (HG.out _).mono ?_; rintro e' w' ⟨rfl, rfl⟩) | (go_at_call 82; refine (L1.out _).mono ?_; rintro e' w' ⟨rfl, hb⟩))
        go_wp2
        go_ret2
        exact ⟨rfl, (Below.drew (Below.refl _ w)).trans hb⟩
      · rw [test_no hk hm hN (.inr (.inr he))]
        have hne : (Utf8.encode N).toList ≠ (s.extract k (k + 2)).toList := fun h => he (str_ext h)
        have hnb := str_ne he
        generalize Utf8.encode N = eb at *
        clear hg hm hN he nn
        go_enter Tryd.func85, Tryd.ntmps85
        go_wp2_with go_in
        refine wp_loop_rounds 2 ?_
        rw [rounds_succ]
        go_wp2_with go_in
        rw [rounds_succ]
        go_wp2_with fail
        go_region_held3 (fun _ => True) (trivial) (first | (go_at_call 50; refine (HG.out _).mono ?_; rintro e' w' ⟨rfl, rfl⟩) | (go_at_call 82; refine (L1.out _).mono ?_; rintro e' w' ⟨rfl, hb⟩))
        go_wp2
        go_ret2
        exact ⟨rfl, (Below.drew (Below.refl _ w)).trans hb⟩
  by_cases c3 : x < 240
  · have t1 : decide ((x : Int) ≤ 223) = false := by simp; omega
    have t2 : decide ((x : Int) ≤ 239) = true := by simp; omega
    have hm : cls (by4 (tl s k) 0) = 3 := cls3 (by rw [b0, hx]; omega) (by rw [b0, hx]; omega)
    by_cases hsh : s.size < k + 3
    · rw [test_no hk hm rfl (.inl hsh)]
      have k3 : (s.size : Int) < (k : Int) + 3 := by omega
      clear b0 hm
      go_enter Tryd.func85, Tryd.ntmps85
      go_wp2_with go_in
      go_ret2
      exact ⟨rfl, Below.refl _ _⟩
    have b1 : by4 (tl s k) 1 = (s[k + 1]).toNat := by4_at s k 1 (by omega)
    have y255 : (s[k + 1]).toNat < 256 := (s[k + 1]).toNat_lt
    have ya := and63 s[k + 1]
    obtain ⟨y, hy⟩ : ∃ y, (s[k + 1]).toNat = y := ⟨_, rfl⟩
    rw [hy] at ya
    have b2 : by4 (tl s k) 2 = (s[k + 2]).toNat := by4_at s k 2 (by omega)
    have z255 : (s[k + 2]).toNat < 256 := (s[k + 2]).toNat_lt
    have za := and63 s[k + 2]
    obtain ⟨z, hz⟩ : ∃ z, (s[k + 2]).toNat = z := ⟨_, rfl⟩
    rw [hz] at za
    have yo := or64 ((x : Int) - 224) ((y : Int) % 64) (by omega) (by omega) (by omega) (by omega)
    have zo := or64 (((x : Int) - 224) * 64 + (y : Int) % 64) ((z : Int) % 64) (by omega) (by omega) (by omega) (by omega)
    have hN : nOf 3 (by4 (tl s k) 0) (by4 (tl s k) 1) (by4 (tl s k) 2) (by4 (tl s k) 3) = (((x : Int) - 224) * 64 + (y : Int) % 64) * 64 + (z : Int) % 64 := by rw [b0, b1, b2, hx, hy, hz]; simp [nOf]
    generalize hNN : (((x : Int) - 224) * 64 + (y : Int) % 64) * 64 + (z : Int) % 64 = N at *
    have k1 : (k : Int) + 1 < (s.size : Int) := by omega
    have k2 : (k : Int) + 2 < (s.size : Int) := by omega
    have kk : (k : Int) + 3 ≤ (s.size : Int) := by omega
    have ww : IntKind.i64.wrap ((k : Int) + 3) = (k : Int) + 3 := by rw [IntKind.wrap_i64]; omega
    have SL : ∀ W, (Instr.slice 9 (.string s) (some (.int .i64 (k : Int))) (some (.int .i64 ((k : Int) + 3))) none).run Tryd.prog W = .ok (.string (s.extract k (k + 3))) W := fun W => slice_at s k 3 W (by omega)
    clear b0 b1 b2
    have HG := Lib.hid (fun W => goodQ N W)
    rcases hg : goodR N with _ | _
    · rw [test_no hk hm hN (.inr (.inl hg))]
      rw [hg] at HG
      clear hg hm hN
      go_enter Tryd.func85, Tryd.ntmps85
      go_wp2_with go_in
      refine wp_loop_rounds 3 ?_
      rw [rounds_succ]
      go_wp2_with go_in
      rw [rounds_succ]
      go_wp2_with go_in
      rw [rounds_succ]
      go_wp2_with fail
      go_quiet ((go_at_call 50; exact Calls.quiet_of_same (HG.out _)))
      go_wp2
      go_ret2
      exact ⟨rfl, below_drewN (Below.refl _ _) _⟩
    · have L1 := Lib.hid (fun W => L.out N W hg)
      have nn : (N.toNat : Int) = N := by have := goodR_bd hg; omega
      rw [hg] at HG
      by_cases he : Utf8.encode N = s.extract k (k + 3)
      · rw [test_yes (by omega) hg he]
        simp only [he] at L1
        rw [nn]
        clear hg hm hN he nn
        go_enter Tryd.func85, Tryd.ntmps85
        go_wp2_with go_in
        refine wp_loop_rounds 3 ?_
        rw [rounds_succ]
        go_wp2_with go_in
        rw [rounds_succ]
        go_wp2_with go_in
        rw [rounds_succ]
        go_wp2_with fail
        go_region_held3 (fun _ => True) (trivial) (first | (go_at_call 50; refine (HG.out _).mono ?_; rintro e' w' ⟨rfl, rfl⟩) | (go_at_call 82; refine (L1.out _).mono ?_; rintro e' w' ⟨rfl, hb⟩))
        go_wp2
        go_ret2
        exact ⟨rfl, (Below.drew (Below.refl _ w)).trans hb⟩
      · rw [test_no hk hm hN (.inr (.inr he))]
        have hne : (Utf8.encode N).toList ≠ (s.extract k (k + 3)).toList := fun h => he (str_ext h)
        have hnb := str_ne he
        generalize Utf8.encode N = eb at *
        clear hg hm hN he nn
        go_enter Tryd.func85, Tryd.ntmps85
        go_wp2_with go_in
        refine wp_loop_rounds 3 ?_
        rw [rounds_succ]
        go_wp2_with go_in
        rw [rounds_succ]
        go_wp2_with go_in
        rw [rounds_succ]
        go_wp2_with fail
        go_region_held3 (fun _ => True) (trivial) (first | (go_at_call 50; refine (HG.out _).mono ?_; rintro e' w' ⟨rfl, rfl⟩) | (go_at_call 82; refine (L1.out _).mono ?_; rintro e' w' ⟨rfl, hb⟩))
        go_wp2
        go_ret2
        exact ⟨rfl, (Below.drew (Below.refl _ w)).trans hb⟩
  by_cases c4 : x < 248
  · have t1 : decide ((x : Int) ≤ 223) = false := by simp; omega
    have t2 : decide ((x : Int) ≤ 239) = false := by simp; omega
    have t3 : decide ((x : Int) ≤ 247) = true := by simp; omega
    have hm : cls (by4 (tl s k) 0) = 4 := cls4 (by rw [b0, hx]; omega) (by rw [b0, hx]; omega)
    by_cases hsh : s.size < k + 4
    · rw [test_no hk hm rfl (.inl hsh)]
      have k3 : (s.size : Int) < (k : Int) + 4 := by omega
      clear b0 hm
      go_enter Tryd.func85, Tryd.ntmps85
      go_wp2_with go_in
      go_ret2
      exact ⟨rfl, Below.refl _ _⟩
    have b1 : by4 (tl s k) 1 = (s[k + 1]).toNat := by4_at s k 1 (by omega)
    have y255 : (s[k + 1]).toNat < 256 := (s[k + 1]).toNat_lt
    have ya := and63 s[k + 1]
    obtain ⟨y, hy⟩ : ∃ y, (s[k + 1]).toNat = y := ⟨_, rfl⟩
    rw [hy] at ya
    have b2 : by4 (tl s k) 2 = (s[k + 2]).toNat := by4_at s k 2 (by omega)
    have z255 : (s[k + 2]).toNat < 256 := (s[k + 2]).toNat_lt
    have za := and63 s[k + 2]
    obtain ⟨z, hz⟩ : ∃ z, (s[k + 2]).toNat = z := ⟨_, rfl⟩
    rw [hz] at za
    have b3 : by4 (tl s k) 3 = (s[k + 3]).toNat := by4_at s k 3 (by omega)
    have u255 : (s[k + 3]).toNat < 256 := (s[k + 3]).toNat_lt
    have ua := and63 s[k + 3]
    obtain ⟨u, hu⟩ : ∃ u, (s[k + 3]).toNat = u := ⟨_, rfl⟩
    rw [hu] at ua
    have yo := or64 ((x : Int) - 240) ((y : Int) % 64) (by omega) (by omega) (by omega) (by omega)
    have zo := or64 (((x : Int) - 240) * 64 + (y : Int) % 64) ((z : Int) % 64) (by omega) (by omega) (by omega) (by omega)
    have uo := or64 ((((x : Int) - 240) * 64 + (y : Int) % 64) * 64 + (z : Int) % 64) ((u : Int) % 64) (by omega) (by omega) (by omega) (by omega)
    have hN : nOf 4 (by4 (tl s k) 0) (by4 (tl s k) 1) (by4 (tl s k) 2) (by4 (tl s k) 3) = ((((x : Int) - 240) * 64 + (y : Int) % 64) * 64 + (z : Int) % 64) * 64 + (u : Int) % 64 := by rw [b0, b1, b2, b3, hx, hy, hz, hu]; simp [nOf]
    generalize hNN : ((((x : Int) - 240) * 64 + (y : Int) % 64) * 64 + (z : Int) % 64) * 64 + (u : Int) % 64 = N at *
    have k1 : (k : Int) + 1 < (s.size : Int) := by omega
    have k2 : (k : Int) + 2 < (s.size : Int) := by omega
    have k3 : (k : Int) + 3 < (s.size : Int) := by omega
    have kk : (k : Int) + 4 ≤ (s.size : Int) := by omega
    have ww : IntKind.i64.wrap ((k : Int) + 4) = (k : Int) + 4 := by rw [IntKind.wrap_i64]; omega
    have SL : ∀ W, (Instr.slice 9 (.string s) (some (.int .i64 (k : Int))) (some (.int .i64 ((k : Int) + 4))) none).run Tryd.prog W = .ok (.string (s.extract k (k + 4))) W := fun W => slice_at s k 4 W (by omega)
    clear b0 b1 b2 b3
    have HG := Lib.hid (fun W => goodQ N W)
    rcases hg : goodR N with _ | _
    · rw [test_no hk hm hN (.inr (.inl hg))]
      rw [hg] at HG
      clear hg hm hN
      go_enter Tryd.func85, Tryd.ntmps85
      go_wp2_with go_in
      refine wp_loop_rounds 4 ?_
      rw [rounds_succ]
      go_wp2_with go_in
      rw [rounds_succ]
      go_wp2_with go_in
      rw [rounds_succ]
      go_wp2_with go_in
      rw [rounds_succ]
      go_wp2_with fail
      go_quiet ((go_at_call 50; exact Calls.quiet_of_same (HG.out _)))
      go_wp2
      go_ret2
      exact ⟨rfl, below_drewN (Below.refl _ _) _⟩
    · have L1 := Lib.hid (fun W => L.out N W hg)
      have nn : (N.toNat : Int) = N := by have := goodR_bd hg; omega
      rw [hg] at HG
      by_cases he : Utf8.encode N = s.extract k (k + 4)
      · rw [test_yes (by omega) hg he]
        simp only [he] at L1
        rw [nn]
        clear hg hm hN he nn
        go_enter Tryd.func85, Tryd.ntmps85
        go_wp2_with go_in
        refine wp_loop_rounds 4 ?_
        rw [rounds_succ]
        go_wp2_with go_in
        rw [rounds_succ]
        go_wp2_with go_in
        rw [rounds_succ]
        go_wp2_with go_in
        rw [rounds_succ]
        go_wp2_with fail
        go_region_held3 (fun _ => True) (trivial) (first | (go_at_call 50; refine (HG.out _).mono ?_; rintro e' w' ⟨rfl, rfl⟩) | (go_at_call 82; refine (L1.out _).mono ?_; rintro e' w' ⟨rfl, hb⟩))
        go_wp2
        go_ret2
        exact ⟨rfl, (Below.drew (Below.refl _ w)).trans hb⟩
      · rw [test_no hk hm hN (.inr (.inr he))]
        have hne : (Utf8.encode N).toList ≠ (s.extract k (k + 4)).toList := fun h => he (str_ext h)
        have hnb := str_ne he
        generalize Utf8.encode N = eb at *
        clear hg hm hN he nn
        go_enter Tryd.func85, Tryd.ntmps85
        go_wp2_with go_in
        refine wp_loop_rounds 4 ?_
        rw [rounds_succ]
        go_wp2_with go_in
        rw [rounds_succ]
        go_wp2_with go_in
        rw [rounds_succ]
        go_wp2_with go_in
        rw [rounds_succ]
        go_wp2_with fail
        go_region_held3 (fun _ => True) (trivial) (first | (go_at_call 50; refine (HG.out _).mono ?_; rintro e' w' ⟨rfl, rfl⟩) | (go_at_call 82; refine (L1.out _).mono ?_; rintro e' w' ⟨rfl, hb⟩))
        go_wp2
        go_ret2
        exact ⟨rfl, (Below.drew (Below.refl _ w)).trans hb⟩
  · omega
end Go.Proofs.YtehmlkcnhccjmabDoor.At
