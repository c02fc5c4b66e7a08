/-
  The powers of 2 whose sum a number is: by both sides; the law on PartsFor.
-/
import Derived.Test.YtmnihigackilkaaDoorBit
import Derived.Test.YtmnihigackilkaaDoorMark
import Derived.Test.YtmnihigackilkaaDoorRec
import Derived.Test.YtmnihigackilkaaDoorShelf
import Derived.Maps.AppendAt
import Derived.Deep.AppendLies
namespace Go.Proofs.YtmnihigackilkaaDoor.Pts
open Go.ChangeShapes Go.WideShapes Go.ChangeAt Go.RowKit
open Go.Proofs.YtmnihigackilkaaDoor.Mem Go.Proofs.YtmnihigackilkaaDoor.Ints Go.Proofs.YtmnihigackilkaaDoor.Mark Go.Proofs.YtmnihigackilkaaDoor.Edg Go.Proofs.YtmnihigackilkaaDoor.Pop Go.Proofs.YtmnihigackilkaaDoor.Bit Go.Proofs.YtmnihigackilkaaDoor.Rec
set_option linter.unusedVariables false
set_option maxRecDepth 100000

def nI (l : List Nat) : List Int := l.map fun x : Nat => (x : Int)
theorem nI_len (l : List Nat) : (nI l).length = l.length := by simp [nI]
theorem nI_app (a b : List Nat) : ints (nI (a ++ b)) = ints (nI a) ++ ints (nI b) := by simp [nI, ints]
theorem upGrown {a w w' : World} {row : Option Nat} (h : Below a.heap.size a w) (hg : w.grownBy w' row) (hr : ∀ k, row = some k → a.heap.size ≤ k) : Below a.heap.size a w' := h.grown hg h.size hr
set_option maxHeartbeats 2000000 in
theorem l9Parts (m : Nat) (w : World) (h : m ≤ 1000000) : Calls Tryd.prog 119 #[.int .i64 m] w fun e w' => ∃ A c, e = .returned (.slice A (pts m).length c) ∧ w'.ownsRow w.heap.size 3 1 (.slice A (pts m).length c) (pts m).length (ints (nI (pts m))) ∧ Below w.heap.size w w' := by
  obtain ⟨i0, hi, hz0, hz1, hz2⟩ := info_parts infoI
  have hb24 : ∀ j, j ≤ 21 → (2 : Nat) ^ j ≤ 2097152 := fun j hj => Nat.le_trans (Nat.pow_le_pow_right (by omega) hj) (by decide)
  go_enter Tryd.func119, Tryd.ntmps119
  go_wp2
  go_loopw [3, 4] (fun v i wr => ∃ (j d : Nat) (zs : List Nat), j ≤ 21 ∧ zs.length + j ≤ 21 ∧ Hid (2 ^ j / 2 = d) ∧ i = .int .i64 d ∧ Hid (zs ++ pts (m % 2 ^ j) = pts m) ∧ Hid (wr.ownsRow w.heap.size 3 1 v zs.length (ints (nI zs))) ∧ Below w.heap.size w wr)
    (fun _ i _ => (intOf i).toNat)
  case atStart => exact ⟨21, 1048576, [], by omega, by simp, Lib.hid (by decide), rfl, Lib.hid (by rw [Nat.mod_eq_of_lt (by have := hb24 21 (by omega); omega)]; rfl), Lib.hid (World.ownsRow_nil _ _ _ _), Below.refl _ _⟩
  case round =>
    obtain ⟨j, d, zs, hj, hzl, HD, rfl, HP, HO, hb⟩ := hrel
    by_cases h0 : j = 0
    · subst h0
      have hd0 : d = 0 := by have := HD.out; simpa using this.symm
      subst hd0
      have hp := HP.out
      rw [Nat.pow_zero, Nat.mod_one, pts_zero, List.append_nil] at hp
      subst hp
      have HO' := Lib.hid HO.out
      obtain ⟨A, c, hv⟩ := own_shape HO.out
      subst hv
      clear HO HP HD
      go_wp2
      go_ret
      exact ⟨A, c, rfl, HO'.out, hb⟩
    · obtain ⟨k, rfl⟩ : ∃ k, j = k + 1 := ⟨j - 1, by omega⟩
      have hd : d = 2 ^ k := by have := HD.out; rw [Nat.pow_succ] at this; omega
      have hp1 : 1 ≤ 2 ^ k := Nat.one_le_two_pow
      have hp2 := hb24 k (by omega)
      have hp3 : 2 ^ k / 2 < 2 ^ k := by omega
      have ha := and_i m (2 ^ k) (by omega) (by omega)
      have PB := Lib.hid (pts_bit k m)
      have PN := Lib.hid (pts_nobit k m)
      rw [← hd] at ha hp1 hp2 hp3 PB PN
      have HD2 := Lib.hid hd
      clear hd HD
      have hd1 : (0 : Int) < (d : Int) := by omega
      have hd2 : IntKind.i64.wrap ((d : Int).tdiv 2) = ((d / 2 : Nat) : Int) := by
        rw [show ((d : Int).tdiv 2) = ((d / 2 : Nat) : Int) from Int.ofNat_tdiv d 2, IntKind.wrap_i64]; omega
      by_cases hbit : m &&& d = 0
      · have ha2 : (((m &&& d : Nat) : Int) != 0) = false := by rw [hbit]; rfl
        have hN := Lib.hid (PN.out hbit)
        clear hbit PB PN
        go_wp2
        go_roundw
        case rel => exact ⟨k, d / 2, zs, by omega, by omega, Lib.hid (by rw [HD2.out]), rfl, Lib.hid (by rw [← HP.out, hN.out, HD2.out]), HO, hb⟩
        case measure => simp [intOf]; omega
      · have ha2 : (((m &&& d : Nat) : Int) != 0) = true := by simp; omega
        have hN := Lib.hid (PB.out hbit)
        clear hbit PB PN
        go_wp2_with (at_builtin; refine wpList_append_lies _ rfl _ _ _ rfl w.heap.size 3 i0 _ 1 8 Tryd.underlying60 hi hz0 hz1 hz2 rfl (by omega) _ zs.length _ rfl (HO.out.alloc _) ⟨wr.heap.size, 0, none⟩ 1 1 _ rfl rfl (World.news_of_block (heap_alloc_new wr _)) (by simp [Value.oneCell']) (by omega) (by unfold maxLen; omega) (by omega) (by have := hb.size; simp; omega) (wr.heap.size + 1) (by simp) ?_; intro g1 cap1 w4 hown1 hgrow hat hlt1)
        have hge : ∀ k, _ = some k → w.heap.size ≤ k := fun g hg => ownBlock_ge HO.out g hg
        have hb4 := upGrown (hb.alloc hb.size _) hgrow hge
        have HO4 := Lib.hid (own_congr hown1 (show zs.length + 1 = (zs ++ [d]).length by simp) (show ints (nI zs) ++ [.int .i64 (d : Int)] = ints (nI (zs ++ [d])) by simp [nI, ints]))
        clear hown1 hgrow hat hlt1 hge
        go_wp2
        go_roundw
        case rel => exact ⟨k, d / 2, zs ++ [d], by omega, by simp; omega, Lib.hid (by rw [HD2.out]), rfl, Lib.hid (by rw [← HP.out, hN.out, ← HD2.out]; simp), HO4, hb4⟩
        case measure => simp [intOf]; omega
theorem pc_le : ∀ (j m : Nat), m < 2 ^ j → pc m ≤ j := by
  intro j
  induction j with
  | zero => intro m h; have : m = 0 := by omega
            subst this; rw [pc_zero]; omega
  | succ j ih =>
    intro m h
    rw [Nat.pow_succ] at h
    have := ih (m / 2) (by omega)
    rw [pc_half m]; omega
theorem pc_le21 (m : Nat) (h : m ≤ 1000000) : (pts m).length ≤ 21 := pc_le 21 m (Nat.lt_of_le_of_lt h (by decide))
set_option maxHeartbeats 2000000 in
/-- One answer of both sides, whatever the number. -/
theorem partsBoth (m : Int) : ∃ (l : List Nat) (b : Bool), l.length ≤ 21 ∧ b = okM m ∧ (b = true → l = pts m.toNat) ∧ (b = false → l = []) ∧
    (∀ w, Calls Tryd.prog 52 #[.int .i64 m] w fun e w' => ∃ A c, e = .returned (.tuple #[.slice A l.length c, .bool b]) ∧ w'.ownsRow w.heap.size 3 1 (.slice A l.length c) l.length (ints (nI l)) ∧ Below w.heap.size w w') ∧
    (∀ w, Calls Tryd.prog 46 #[.int .i64 m] w fun e w' => ∃ A c, e = .returned (.tuple #[.slice A l.length c, .bool b]) ∧ w'.ownsRow w.heap.size 3 1 (.slice A l.length c) l.length (ints (nI l)) ∧ Below w.heap.size w w') := by
  cases hok : okM m
  · have h1 : decide (0 ≤ m ∧ m ≤ 1000000) = false := hok
    refine ⟨[], false, by simp, rfl, fun h => (by cases h), fun _ => rfl, fun w => ?_, fun w => ?_⟩
    · have C := Lib.hid (inB m 0 1000000 w)
      rw [h1] at C
      go_enter Tryd.func52, Tryd.ntmps52
      go_wp2_with fail
      refine C.out.mono ?_
      rintro e w' ⟨rfl, rfl⟩
      go_wp2
      go_ret2
      exact ⟨none, 0, rfl, World.ownsRow_nil _ _ _ _, Below.refl _ _⟩
    · have C := Lib.hid (isCount m w)
      rw [hok] at C
      go_enter Tryd.func46, Tryd.ntmps46
      go_wp2_with fail
      refine C.out.mono ?_
      rintro e w' ⟨rfl, rfl⟩
      go_wp2
      go_ret2
      exact ⟨none, 0, rfl, World.ownsRow_nil _ _ _ _, Below.refl _ _⟩
  · have h1 : decide (0 ≤ m ∧ m ≤ 1000000) = true := hok
    obtain ⟨k, rfl, hk⟩ := okM_yes hok
    have hlen : (pts k).length ≤ 21 := pc_le21 k hk
    refine ⟨pts k, true, hlen, rfl, fun _ => by simp, fun h => (by cases h), fun w => ?_, fun w => ?_⟩
    · have C := Lib.hid (inB k 0 1000000 w)
      have C2 := Lib.hid (l9Parts k w hk)
      rw [h1] at C
      go_enter Tryd.func52, Tryd.ntmps52
      go_wp2_with fail
      refine C.out.mono ?_
      rintro e w' ⟨rfl, rfl⟩
      go_wp2_with fail
      refine C2.out.mono ?_
      rintro e w2 ⟨A, c, rfl, ho, hb⟩
      have HO := Lib.hid ho
      clear ho C C2
      go_wp2
      go_ret2
      exact ⟨A, c, rfl, HO.out, hb⟩
    · have C := Lib.hid (isCount k w)
      rw [hok] at C
      obtain ⟨i0, hi, hz0, hz1, hz2⟩ := info_parts infoI
      go_enter Tryd.func46, Tryd.ntmps46
      go_wp2_with fail
      refine C.out.mono ?_
      rintro e w' ⟨rfl, rfl⟩
      go_wp2_with fail
      clear C h1 hok
      go_loopw [0, 4] (fun i v wr => ∃ (r : Nat) (zs : List Nat), r ≤ 1000000 ∧ zs.length ≤ 21 ∧ i = .int .i64 r ∧ Hid (zs ++ pts r = pts k) ∧ Hid (wr.ownsRow w.heap.size 3 1 v zs.length (ints (nI zs))) ∧ Below w.heap.size w wr)
        (fun i _ _ => (intOf i).toNat)
      case atStart => exact ⟨k, [], hk, by simp, rfl, Lib.hid rfl, Lib.hid (World.ownsRow_nil _ _ _ _), Below.refl _ _⟩
      case round =>
        obtain ⟨r, zs, hr, hzl, rfl, HP, HO, hb⟩ := hrel
        by_cases h0 : r = 0
        · subst h0
          have hp := HP.out
          rw [pts_zero, List.append_nil] at hp
          subst hp
          have HO' := Lib.hid HO.out
          obtain ⟨A, c, hv⟩ := own_shape HO.out
          subst hv
          clear HO HP
          go_wp2
          go_ret2
          exact ⟨A, c, rfl, HO'.out, hb⟩
        · have hr1 : 1 ≤ r := by omega
          obtain ⟨l1, l2⟩ := len_top r r (Nat.le_refl _) hr1 (by omega)
          obtain ⟨t1, t2, t3⟩ := top_lt hr1
          have l3 := Lib.bitLen_le r 20 (by omega) (by omega)
          have hp := HP.out
          rw [pts_pos hr1] at hp
          have hzl2 : zs.length + 1 ≤ 21 := by
            have h1 := congrArg List.length hp
            rw [List.length_append, List.length_cons] at h1
            omega
          have HP2 : Hid ((zs ++ [top r]) ++ pts (r - top r) = pts k) := Lib.hid (by rw [← hp]; simp)
          have BL := Lib.hid (fun W => Tryd.bits_Len (r : Int) W (by omega) (by omega))
          rw [show ((r : Int)).toNat = r from by omega] at BL
          generalize hL : Lib.bitLen r = L at *
          have w1 : IntKind.u64.wrap (r : Int) = (r : Int) := by rw [IntKind.wrap_u64]; omega
          have w2 : (0 : Int) < (r : Int) := by omega
          have w3 : wrap64 ((2 : Int) ^ (L - 1)) = ((top r : Nat) : Int) := by
            have e2 : (2 : Int) ^ (L - 1) = ((2 ^ (L - 1) : Nat) : Int) := by norm_cast
            rw [e2, l2]; exact Go.IntWalk.wrap64_in _ ⟨by omega, by omega⟩
          clear HP hp hL l2
          generalize htp : top r = tp at *
          clear htp
          have w4 : IntKind.i64.wrap ((r : Int) - (tp : Int)) = ((r - tp : Nat) : Int) := by clear w3 BL; rw [IntKind.wrap_i64]; omega
          have hw2 : 1 ≤ L := l1
          go_wp2_with fail
          refine (BL.out _).mono ?_
          rintro e wr ⟨rfl, rfl⟩
          go_wp2_with (at_builtin; refine wpList_append_lies _ rfl _ _ _ rfl w.heap.size 3 i0 _ 1 8 Tryd.underlying60 hi hz0 hz1 hz2 rfl (by omega) _ zs.length _ rfl (HO.out.alloc _) ⟨wr.heap.size, 0, none⟩ 1 1 _ rfl rfl (World.news_of_block (heap_alloc_new wr _)) (by simp [Value.oneCell']) (by omega) (by unfold maxLen; omega) (by omega) (by have := hb.size; simp; omega) (wr.heap.size + 1) (by simp) ?_; intro g1 cap1 w4 hown1 hgrow hat hlt1)
          have hge : ∀ k, _ = some k → w.heap.size ≤ k := fun g hg => ownBlock_ge HO.out g hg
          have hb4 := upGrown (hb.alloc hb.size _) hgrow hge
          have HO4 := Lib.hid (own_congr hown1 (show zs.length + 1 = (zs ++ [tp]).length by simp) (show ints (nI zs) ++ [.int .i64 (tp : Int)] = ints (nI (zs ++ [tp])) by simp [nI, ints]))
          clear hown1 hgrow hat hlt1 hge
          go_wp2
          go_roundw
          case rel => exact ⟨r - tp, zs ++ [tp], by omega, by simp; omega, rfl, HP2, HO4, hb4⟩
          case measure => simp [intOf]; omega
end Go.Proofs.YtmnihigackilkaaDoor.Pts
