/-
  The string of which a text is the padding, by the reference: its contract, and the walk of the law on UnpadText.
-/
import Derived.Test.YtdpiinecjjeklabUnpad
import Derived.Deep.QuietTactic
import Derived.BigQuiet
import Derived.WalkSmall
namespace Go.Proofs.Ytdpiinecjjeklab.UnpadS
open Go.ChangeShapes Go.WideShapes Go.ChangeAt Go.RowKit
open Go.Proofs.Ytdpiinecjjeklab.Mem Go.Proofs.Ytdpiinecjjeklab.Pad Go.Proofs.Ytdpiinecjjeklab.Unpad
set_option linter.unusedVariables false

theorem ext8_size (s : ByteArray) (h8 : 8 ≤ s.size) : (s.extract (s.size - 8) s.size).size = 8 := by rw [ByteArray.size_extract]; omega
theorem ext8_at (s : ByteArray) (h8 : 8 ≤ s.size) (k : Nat) (hk : k < 8) : ((s.extract (s.size - 8) s.size)[k]'(by rw [ext8_size s h8]; exact hk)) = s[s.size - 8 + k]'(by omega) := by
  rw [ByteArray.getElem_extract]
set_option maxHeartbeats 1000000 in
theorem specIn (s : ByteArray) (w : World) (h8 : 64 ≤ s.size) (hs : s.size ≤ 672) (h64 : s.size % 64 = 0) :
    Calls Try.prog 9 #[.string s] w fun e w' => e = .returned (res s) ∧ Below w.heap.size w w' := by
  have hl8 := last8_len s (by omega)
  have e8 := ext8_size s (by omega)
  obtain ⟨cap, W, hrun, hcell, hbW⟩ := str_bytes (P := Try.prog) w 9 22 5 (s.extract (s.size - 8) s.size) Try.underlying9 Try.underlying22 Try.underlying5
  rw [e8] at hrun
  have HC : Hid (∀ k (hk : k < 8), W.cell? ⟨w.heap.size, k, none⟩ = some (.int .u8 ((s[s.size - 8 + k]'(by omega)).toNat : Int))) := Lib.hid (fun k hk => by
    rw [hcell k (by rw [e8]; exact hk), ext8_at s (by omega) k hk])
  clear hcell
  have e64 : ((s.size : Int) % 64 != 0) = false := by simp; omega
  have e0 : ((s.size : Int) == 0) = false := by rw [beq_eq_false_iff_ne]; omega
  clear e8
  go_enter Try.func9, Try.ntmps9
  go_wp2
  clear hrun e64 e0
  go_loop [4, 28] (fun n i => ∃ k : Nat, k ≤ 8 ∧ i = .int .i64 k ∧ n = .int .i64 (val ((last8 s).take k) : Int) ∧ val ((last8 s).take k) ≤ 268435711) (fun _ i => 8 - (intOf i).toNat)
  case atStart => exact ⟨0, by omega, rfl, rfl, by simp [val]⟩
  case round =>
    obtain ⟨k, hk, rfl, rfl, hv⟩ := hrel
    by_cases hk8 : k < 8
    · have hc := HC.out k hk8
      have hge := val_take_le (last8 s) k
      have hsn : val ((last8 s).take (k + 1)) = val ((last8 s).take k) * 256 + (s[s.size - 8 + k]'(by omega)).toNat := by
        have := last8_snoc s (s.size - 8 + k) (by omega) (by omega) (by omega)
        rw [show s.size - 8 + k + 1 - (s.size - 8) = k + 1 from by omega, show s.size - 8 + k - (s.size - 8) = k from by omega] at this
        rw [this, val_snoc]
      have HS := Lib.hid hsn
      have hor := or_i64 (val ((last8 s).take k)) (s[s.size - 8 + k]'(by omega))
      clear hsn
      by_cases hbig : 1048576 < val ((last8 s).take k)
      · have R := Lib.hid (res_no s (fun h => by have h1 : cnt s / 8 ≤ 600 := h.2.2.2.1; unfold cnt at h1; omega))
        clear hor HS hge
        generalize val ((last8 s).take k) = x at *
        go_wp2
        go_ret2
        exact ⟨ret_res R.out, hbW⟩
      · have hor' := hor (by omega)
        have hb256 := (s[s.size - 8 + k]'(by omega)).toNat_lt
        clear hor hge
        generalize val ((last8 s).take k) = x at *
        generalize s[s.size - 8 + k]'(by omega) = c at *
        go_wp2
        go_round
        case rel => exact ⟨k + 1, by omega, by go_num, by rw [HS.out]; simp, by rw [HS.out]; omega⟩
        case measure => simp [intOf]; omega
    · obtain rfl : k = 8 := by omega
      have hc : val ((last8 s).take 8) = cnt s := by unfold cnt; rw [List.take_of_length_le (by omega)]
      rw [hc] at hv ⊢
      clear hc HC
      have hp := part_size s
      have hqe : (cnt s : Int) / 8 = ((cnt s / 8 : Nat) : Int) := by omega
      by_cases hm8 : cnt s % 8 = 0
      · have t1 : (((cnt s : Int) % 8) != 0) = false := by rw [bne_eq_false_iff_eq]; omega
        by_cases h6 : 600 < cnt s / 8
        · have R := Lib.hid (res_no s (by omega))
          clear hp hm8
          generalize cnt s / 8 = q at *
          have t2 : decide ((600 : Int) < (q : Int)) = true := by simp; omega
          go_wp2_with fail
          go_quiet (fail)
          go_wp2
          go_ret2
          exact ⟨ret_res R.out, below_drewN hbW _⟩
        by_cases h1 : s.size < cnt s / 8
        · have R := Lib.hid (res_no s (by omega))
          clear hp hm8
          generalize cnt s / 8 = q at *
          have t2 : decide ((600 : Int) < (q : Int)) = false := by simp; omega
          have t3 : decide ((s.size : Int) < (q : Int)) = true := by simp; omega
          go_wp2_with fail
          go_quiet (fail)
          go_wp2
          go_ret2
          exact ⟨ret_res R.out, below_drewN hbW _⟩
        have hps := hp (by omega)
        have ep : s.extract 0 (cnt s / 8) = Unpad.part s := rfl
        have ew : Unpad.part s ++ ⟨(tailL (cnt s / 8)).toArray⟩ = whole s := rfl
        have hqd : (cnt s : Int).tdiv 8 = ((cnt s / 8 : Nat) : Int) := by rw [Int.tdiv_eq_ediv_of_nonneg (by omega)]; omega
        have hqw : IntKind.i64.wrap ((cnt s / 8 : Nat) : Int) = ((cnt s / 8 : Nat) : Int) := by rw [IntKind.wrap_i64]; omega
        have t1' : (((cnt s : Int).tmod 8) != 0) = false := by rw [Int.tmod_eq_emod_of_nonneg (by omega)]; exact t1
        have hz := zeros_lt (cnt s / 8)
        have htl := tailL_len (cnt s / 8)
        by_cases hw : whole s = s
        · have R := Lib.hid (res_yes s ⟨by omega, by omega, by omega, by omega, hw⟩)
          clear t1 hp hm8
          generalize Unpad.part s = t at *
          generalize cnt s / 8 = q at *
          have t2 : decide ((600 : Int) < (q : Int)) = false := by simp; omega
          have t3 : decide ((s.size : Int) < (q : Int)) = false := by simp; omega
          have b0 : (0 : Int) ≤ (q : Int) := by omega
          have b1 : (q : Int) ≤ (s.size : Int) := by omega
          go_wp2_with fail
          have hbig : ¬ (9223372036854775807 < q + (9 + zeros q)) := by omega
          go_region_held3 (fun _ => True) (trivial) ((go_at_call 15; refine (l1Tail q _ (by omega)).mono ?_; rintro e w1 ⟨rfl, hb1⟩))
          have hb : Below w.heap.size w w1 := (hbW.drew).trans (hb1.mono (by have := hbW.size; simp; omega))
          clear hb1 hbW ew hw t2 t3 t1' hqd hqw hbig
          go_wp2
          go_ret2
          exact ⟨ret_res R.out, hb⟩
        · have R := Lib.hid (res_no s (fun h => hw h.2.2.2.2))
          clear t1 hp hm8 hqe
          have hne := str_ne hw
          generalize Unpad.part s = t at *
          generalize cnt s / 8 = q at *
          generalize whole s = u at *
          clear hw
          have t2 : decide ((600 : Int) < (q : Int)) = false := by simp; omega
          have t3 : decide ((s.size : Int) < (q : Int)) = false := by simp; omega
          have b0 : (0 : Int) ≤ (q : Int) := by omega
          have b1 : (q : Int) ≤ (s.size : Int) := by omega
          go_wp2_with fail
          have hbig : ¬ (9223372036854775807 < q + (9 + zeros q)) := by omega
          go_region_held3 (fun _ => True) (trivial) ((go_at_call 15; refine (l1Tail q _ (by omega)).mono ?_; rintro e w1 ⟨rfl, hb1⟩))
          have hb : Below w.heap.size w w1 := (hbW.drew).trans (hb1.mono (by have := hbW.size; simp; omega))
          clear hb1 hbW t2 t3 t1' hqd hqw hbig
          go_wp2
          go_ret2
          exact ⟨ret_res R.out, hb⟩
      · have R := Lib.hid (res_no s (fun h => hm8 (whole_facts s (by omega) h.2.2.1 h.2.2.2.2).2))
        have t1 : (((cnt s : Int) % 8) != 0) = true := by rw [bne_iff_ne]; omega
        clear hp
        go_wp2_with fail
        go_quiet (fail)
        go_wp2
        go_ret2
        exact ⟨ret_res R.out, below_drewN hbW _⟩
theorem specOut (s : ByteArray) (w : World) (hm : s.size ≤ maxLen) (h : 672 < s.size ∨ s.size % 64 ≠ 0 ∨ s.size = 0) :
    Calls Try.prog 9 #[.string s] w fun e w' => e = .returned (res s) ∧ Below w.heap.size w w' := by
  have R := Lib.hid (res_no s (fun hh => by
    have := whole_facts s hh.2.1 hh.2.2.1 hh.2.2.2.2
    omega))
  unfold maxLen at hm
  by_cases h6 : 672 < s.size
  · clear h
    go_enter Try.func9, Try.ntmps9
    go_wp2
    go_ret2
    exact ⟨ret_res R.out, Below.refl _ _⟩
  by_cases h64 : s.size % 64 = 0
  · have h0 : s.size = 0 := by omega
    have e64 : ((s.size : Int) % 64 != 0) = false := by rw [bne_eq_false_iff_eq]; omega
    have e0 : ((s.size : Int) == 0) = true := by rw [beq_iff_eq]; omega
    clear h h0 h64
    go_enter Try.func9, Try.ntmps9
    go_wp2
    go_ret2
    exact ⟨ret_res R.out, Below.refl _ _⟩
  · have e64 : ((s.size : Int) % 64 != 0) = true := by rw [bne_iff_ne]; omega
    clear h h64
    go_enter Try.func9, Try.ntmps9
    go_wp2
    go_ret2
    exact ⟨ret_res R.out, Below.refl _ _⟩
theorem spec_any (s : ByteArray) (w : World) (hm : s.size ≤ maxLen) :
    Calls Try.prog 9 #[.string s] w fun e w' => e = .returned (res s) ∧ Below w.heap.size w w' := by
  by_cases h : 672 < s.size ∨ s.size % 64 ≠ 0 ∨ s.size = 0
  · exact specOut s w hm h
  · exact specIn s w (by omega) (by omega) (by omega)
/-- The answer, by its two cases: a text and a bool. -/
theorem res_form (s : ByteArray) : ∃ t b, res s = .tuple #[.string t, .bool b] := by
  unfold res
  split
  · exact ⟨_, _, rfl⟩
  · exact ⟨_, _, rfl⟩
end Go.Proofs.Ytdpiinecjjeklab.UnpadS
