/-
  UTF-16 units of runes: contracts of the reference and of the program. For every list of numbers both answer alike; the answer's row is the call's own.
-/
import Derived.Test.YtgbdieghphbcfabDoorRune
import Derived.Test.YtgbdieghphbcfabDoorInts
import Derived.Deep.AppendLies
namespace Go.Proofs.YtgbdieghphbcfabDoor.Pairs
open Go.ChangeShapes Go.WideShapes Go.ChangeAt Go.RowKit
open Go.Proofs.YtgbdieghphbcfabDoor.Mem Go.Proofs.YtgbdieghphbcfabDoor.Rune Go.Proofs.YtgbdieghphbcfabDoor.Ints
set_option linter.unusedVariables false

def units (n : Int) : List Int := if n < 65536 then [n] else [55296 + (n - 65536) / 1024, 56320 + (n - 65536) % 1024]
def pairs (l : List Int) : List Int := l.flatMap units
def okL (l : List Int) : Bool := l.all goodR && decide (l.length ≤ 60)
def resP (l : List Int) : List Int := if okL l then pairs l else []
theorem resP_yes {l : List Int} (h : okL l = true) : resP l = pairs l := by unfold resP; rw [if_pos h]
theorem resP_no {l : List Int} (h : okL l = false) : resP l = [] := by unfold resP; rw [h]; rfl
theorem units_len (n : Int) : (units n).length ≤ 2 := by unfold units; split <;> simp
theorem pairs_len (l : List Int) : (pairs l).length ≤ 2 * l.length := by
  induction l with
  | nil => simp [pairs]
  | cons a l ih => have := units_len a; simp only [pairs, List.flatMap_cons, List.length_append, List.length_cons] at ih ⊢; omega
theorem resP_len (l : List Int) : (resP l).length ≤ 120 := by
  rcases h : okL l with _ | _
  · rw [resP_no h]; simp
  · rw [resP_yes h]
    have := pairs_len l
    unfold okL at h
    have h2 := of_decide_eq_true (Bool.and_eq_true_iff.1 h).2
    omega
theorem pairs_snoc (zs : List Int) (k : Nat) (h : k < zs.length) : pairs (zs.take (k + 1)) = pairs (zs.take k) ++ units zs[k] := by
  unfold pairs; rw [take_snoc_int zs k h, List.flatMap_append, List.flatMap_singleton]
theorem ints_app (a b : List Int) : ints (a ++ b) = ints a ++ ints b := by simp [ints]
theorem ints_len (a : List Int) : (ints a).length = a.length := by simp [ints]
theorem units_lo {n : Int} (h : n < 65536) : units n = [n] := by unfold units; rw [if_pos h]
theorem units_hi {n : Int} (h : 65536 ≤ n) : units n = [55296 + (n - 65536) / 1024, 56320 + (n - 65536) % 1024] := by unfold units; rw [if_neg (by omega)]
theorem okL_bad {zs : List Int} {k : Nat} (h : k < zs.length) (hb : goodR zs[k] = false) : okL zs = false := by
  unfold okL
  have : zs.all goodR = false := List.all_eq_false.2 ⟨zs[k], List.getElem_mem h, by rw [hb]; decide⟩
  rw [this]; rfl
theorem okL_long {zs : List Int} (h : 60 < zs.length) : okL zs = false := by
  unfold okL
  rw [show decide (zs.length ≤ 60) = false from decide_eq_false (by omega)]; simp
theorem all_snoc {zs : List Int} {k : Nat} (h : k < zs.length) (ha : (zs.take k).all goodR = true) (hb : goodR zs[k] = true) : (zs.take (k + 1)).all goodR = true := by
  rw [take_snoc_int zs k h, List.all_append, ha]; simp [hb]
theorem okL_end {zs : List Int} {k : Nat} (hk : zs.length ≤ k) (ha : (zs.take k).all goodR = true) : okL zs = decide ((zs.length : Int) ≤ 60) := by
  rw [List.take_of_length_le hk] at ha
  unfold okL; rw [ha, Bool.true_and]; exact decide_eq_decide.2 (by omega)
theorem i64_and1023 (x : Int) (h0 : 0 ≤ x) (h1 : x < 4294967296) : bits .and .i64 x 1023 = x % 1024 := by
  have h := bits_mask .i64 62 (by decide) (fun n h0 h1 => by rw [IntKind.wrap_i64]; omega) 10 (by decide) x h0 (by omega)
  have e : ((2 : Int) ^ 10 - 1) = 1023 := by decide
  rw [e] at h
  simpa using h
set_option maxHeartbeats 1000000 in
theorem l2All (A : Option Addr) (n c : Nat) (zs : List Int) (B : Nat) (w : World) (hn : n ≤ 1048576) (hx : Rd w B 1 A n (ints zs)) :
    Calls Tryd.prog 54 #[.slice A n c] w fun e w' => e = .returned (.bool (okL zs)) ∧ w = w' := by
  have lx := hx.len
  subst lx
  have HX := Lib.hid hx
  clear hx
  have G := Lib.hid specGood
  go_enter Tryd.func54, Tryd.ntmps54
  go_wp2
  go_loop [7] (fun i => ∃ k : Nat, k ≤ zs.length ∧ i = .int .i64 k ∧ (zs.take k).all goodR = true) (fun i => zs.length - (intOf i).toNat)
  case atStart => exact ⟨0, by omega, rfl, rfl⟩
  case round =>
    obtain ⟨k, hk, rfl, ht⟩ := hrel
    have HT := Lib.hid ht
    clear ht
    by_cases hlt : k < zs.length
    · obtain ⟨b, off, hl, rfl, _, hc⟩ := HX.out.int hlt
      rcases hg : goodR zs[k] with _ | _
      · have e := Lib.hid (okL_bad hl hg)
        have HG := Lib.hid hg
        clear hg
        go_wp2_with (first | (go_at_call 34; refine (G.out _ _).mono ?_; rintro e' w' ⟨rfl, rfl⟩; rw [HG.out]) | go_in)
        go_ret
        exact ⟨by rw [e.out]; rfl, rfl⟩
      · have HG := Lib.hid hg
        clear hg
        go_wp2_with (first | (go_at_call 34; refine (G.out _ _).mono ?_; rintro e' w' ⟨rfl, rfl⟩; rw [HG.out]) | go_in)
        go_round
        case rel => exact ⟨k + 1, by omega, by go_num, all_snoc hl HT.out HG.out⟩
        case measure => simp [intOf]; omega
    · have e := Lib.hid (okL_end (by omega) HT.out)
      go_wp2
      go_ret
      exact ⟨by rw [e.out]; rfl, rfl⟩
set_option maxHeartbeats 1000000 in
theorem l2Pairs (A : Option Addr) (n c : Nat) (zs : List Int) (B : Nat) (w : World) (hn : n ≤ 60) (hB : B ≤ w.heap.size) (hg : ∀ z ∈ zs, goodR z = true) (hx : Rd w B 1 A n (ints zs)) :
    Calls Tryd.prog 49 #[.slice A n c] w fun e w' => ∃ v, e = .returned v ∧ w'.ownsRow w.heap.size 3 1 v (pairs zs).length (ints (pairs zs)) ∧ Below w.heap.size w w' := by
  obtain ⟨i0, hi, hz0, hz1, hz2⟩ := info_parts infoI
  have HX := Lib.hid hx
  have lx := hx.len
  clear hx
  subst lx
  go_enter Tryd.func49, Tryd.ntmps49
  go_wp2
  go_loopw [3, 8] (fun v i wr => ∃ k : Nat, k ≤ zs.length ∧ i = .int .i64 k ∧ wr.ownsRow w.heap.size 3 1 v (pairs (zs.take k)).length (ints (pairs (zs.take k))) ∧ Below w.heap.size w wr)
    (fun _ i _ => zs.length - (intOf i).toNat)
  case atStart => exact ⟨0, Nat.zero_le _, rfl, World.ownsRow_nil _ _ _ _, Below.refl _ _⟩
  case round =>
    obtain ⟨k, hk, rfl, hown, hb⟩ := hrel
    by_cases hlt : k < zs.length
    · have HO := Lib.hid hown
      clear hown
      obtain ⟨b, off, hl, rfl, hbB, hc⟩ := (HX.out.below hb hB).int hlt
      obtain ⟨q0, q1, q2⟩ := goodR_bd (hg zs[k] (List.getElem_mem hl))
      have hi0 : (0 : Int) ≤ (k : Int) := Int.natCast_nonneg _
      have hi1 : (k : Int) < (zs.length : Int) := by omega
      have hlen : (pairs (zs.take k)).length ≤ 120 := Nat.le_trans (pairs_len _) (by simp; omega)
      have hsz := hb.size
      by_cases hlo : zs[k] < 65536
      · have HE : Hid (ints (pairs (zs.take (k + 1))) = ints (pairs (zs.take k)) ++ [.int .i64 zs[k]]) := Lib.hid (by rw [pairs_snoc zs k hl, units_lo hlo, ints_app]; rfl)
        have HL : Hid ((pairs (zs.take k)).length + 1 = (pairs (zs.take (k + 1))).length) := Lib.hid (by rw [pairs_snoc zs k hl, units_lo hlo]; simp)
        generalize zs[k] = z at *
        generalize pairs (zs.take k) = ps at *
        go_wp2_with (at_builtin; refine wpList_append_lies _ rfl _ _ _ rfl w.heap.size 3 i0 _ 1 8 Tryd.underlying25 hi hz0 hz1 hz2 rfl (by omega) _ ps.length _ rfl (HO.out.alloc _) ⟨wr.heap.size, 0, none⟩ 1 1 _ rfl rfl (World.news_of_block (heap_alloc_new wr _)) (by simp [Value.oneCell']) (by omega) (by unfold maxLen; omega) (by omega) (by have := hb.size; simp; omega) (wr.heap.size + 1) (by simp) ?_; intro g1 cap1 w1 hown1 hgrow hat hlt1)
        have hb1 : Below w.heap.size w w1 := (hb.alloc hsz _).grown hgrow (by simp; omega) (fun g hg => ownBlock_ge HO.out g hg)
        have HR := Lib.hid (own_congr hown1 HL.out HE.out.symm)
        clear hown1 hgrow hat hlt1
        go_wp2
        go_roundw
        case rel => exact ⟨k + 1, by omega, by go_num, HR.out, hb1⟩
        case measure => simp [intOf]; omega
      · have HE : Hid (ints (pairs (zs.take (k + 1))) = ints (pairs (zs.take k)) ++ [.int .i64 (55296 + (zs[k] - 65536) / 1024), .int .i64 (56320 + (zs[k] - 65536) % 1024)]) := Lib.hid (by rw [pairs_snoc zs k hl, units_hi (by omega), ints_app]; rfl)
        have HL : Hid ((pairs (zs.take k)).length + 2 = (pairs (zs.take (k + 1))).length) := Lib.hid (by rw [pairs_snoc zs k hl, units_hi (by omega)]; simp)
        generalize zs[k] = z at *
        generalize pairs (zs.take k) = ps at *
        have hand := i64_and1023 (z - 65536) (by omega) (by omega)
        go_wp2_with (at_builtin; refine wpList_append_lies _ rfl _ _ _ rfl w.heap.size 3 i0 _ 1 8 Tryd.underlying25 hi hz0 hz1 hz2 rfl (by omega) _ ps.length _ rfl (HO.out.alloc _) ⟨wr.heap.size, 0, none⟩ 2 2 _ rfl rfl (World.news_of_block (heap_alloc_new wr _)) (by simp [Value.oneCell']) (by omega) (by unfold maxLen; omega) (by omega) (by have := hb.size; simp; omega) (wr.heap.size + 1) (by simp) ?_; intro g1 cap1 w1 hown1 hgrow hat hlt1)
        have hb1 : Below w.heap.size w w1 := (hb.alloc hsz _).grown hgrow (by simp; omega) (fun g hg => ownBlock_ge HO.out g hg)
        have HR := Lib.hid (own_congr hown1 HL.out HE.out.symm)
        clear hown1 hgrow hat hlt1
        go_wp2
        go_roundw
        case rel => exact ⟨k + 1, by omega, by go_num, HR.out, hb1⟩
        case measure => simp [intOf]; omega
    · obtain rfl : k = zs.length := by omega
      rw [List.take_length] at hown
      have HO := Lib.hid hown
      clear hown
      go_wp2
      go_ret
      exact ⟨_, rfl, HO.out, hb⟩
theorem specPairs (A : Option Addr) (n c : Nat) (zs : List Int) (B : Nat) (w : World) (hn : n ≤ 1048576) (hB : B ≤ w.heap.size) (hx : Rd w B 1 A n (ints zs)) :
    Calls Tryd.prog 37 #[.slice A n c] w fun e w' => ∃ v, e = .returned (.tuple #[v, .bool (okL zs)]) ∧ w'.ownsRow w.heap.size 3 1 v (resP zs).length (ints (resP zs)) ∧ Below w.heap.size w w' := by
  have C := Lib.hid (l2All A n c zs B w hn hx)
  have lx := hx.len
  rcases hg : okL zs with _ | _
  · rw [resP_no hg]
    rw [hg] at C
    clear hg hx lx
    go_enter Tryd.func37, Tryd.ntmps37
    go_wp2_with fail
    refine C.out.mono ?_
    rintro e w' ⟨rfl, rfl⟩
    go_wp2
    go_ret2
    exact ⟨_, rfl, World.ownsRow_nil _ _ _ _, Below.refl _ _⟩
  · rw [resP_yes hg]
    have h60 : n ≤ 60 := by
      rcases Nat.lt_or_ge 60 n with h | h
      · rw [okL_long (by omega)] at hg; cases hg
      · exact h
    have hall : ∀ z ∈ zs, goodR z = true := by
      unfold okL at hg
      have := (Bool.and_eq_true_iff.1 hg).1
      exact List.all_eq_true.1 this
    have D := Lib.hid (l2Pairs A n c zs B w h60 hB hall hx)
    rw [hg] at C
    clear hg hx lx hall
    go_enter Tryd.func37, Tryd.ntmps37
    go_wp2_with fail
    refine C.out.mono ?_
    rintro e w' ⟨rfl, rfl⟩
    go_wp2_with fail
    refine D.out.mono ?_
    rintro e w' ⟨v, rfl, ho, hb⟩
    have HO := Lib.hid ho
    clear ho
    go_wp2
    go_ret2
    exact ⟨_, rfl, HO.out, hb⟩
set_option maxHeartbeats 1000000 in
theorem implPairs (A : Option Addr) (n c : Nat) (zs : List Int) (B : Nat) (w : World) (hn : n ≤ 1048576) (hB : B ≤ w.heap.size) (hx : Rd w B 1 A n (ints zs)) :
    Calls Tryd.prog 36 #[.slice A n c] w fun e w' => ∃ v, e = .returned (.tuple #[v, .bool (okL zs)]) ∧ w'.ownsRow w.heap.size 3 1 v (resP zs).length (ints (resP zs)) ∧ Below w.heap.size w w' := by
  obtain ⟨i0, hi, hz0, hz1, hz2⟩ := info_parts infoI
  have lx := hx.len
  subst lx
  by_cases h60 : 60 < zs.length
  · rw [resP_no (okL_long h60), okL_long h60]
    clear hx
    go_enter Tryd.func36, Tryd.ntmps36
    go_wp2
    go_ret2
    exact ⟨_, rfl, World.ownsRow_nil _ _ _ _, Below.refl _ _⟩
  have HX := Lib.hid hx
  clear hx
  have G := Lib.hid implGood
  go_enter Tryd.func36, Tryd.ntmps36
  go_wp2_with (at_make; refine wpList_make_own _ rfl _ _ 25 rfl w.heap.size 3 i0 _ 1 Tryd.underlying25 hi hz0 hz1 .i64 .i64 _ (2 * zs.length) rfl rfl (by omega) (by rw [hz2]; omega) (by unfold maxLen; omega) (by simp) ?_; intro w2 hown2 hgrow2)
  have hb2 : Below w.heap.size w w2 := (Below.refl _ _).grown hgrow2 (by simp) (fun k hk => by cases hk)
  clear hgrow2
  go_loopw [4, 17] (fun v i wr => ∃ k : Nat, k ≤ zs.length ∧ i = .int .i64 k ∧ (zs.take k).all goodR = true ∧ wr.ownsRow w.heap.size 3 1 v (pairs (zs.take k)).length (ints (pairs (zs.take k))) ∧ Below w.heap.size w wr)
    (fun _ i _ => zs.length - (intOf i).toNat)
  case atStart => exact ⟨0, Nat.zero_le _, rfl, rfl, hown2, hb2⟩
  case round =>
    obtain ⟨k, hk, rfl, ht, hown, hb⟩ := hrel
    clear hown2 hb2
    have HT := Lib.hid ht
    clear ht
    by_cases hlt : k < zs.length
    · have HO := Lib.hid hown
      clear hown
      obtain ⟨b, off, hl, rfl, hbB, hc⟩ := (HX.out.below hb hB).int hlt
      rcases hg : goodR zs[k] with _ | _
      · have e1 := Lib.hid (okL_bad hl hg)
        have HG := Lib.hid hg
        clear hg
        go_wp2_with (first | (go_at_call 33; refine (G.out _ _).mono ?_; rintro e' w' ⟨rfl, rfl⟩; rw [HG.out]) | go_in)
        go_ret2
        rw [e1.out, resP_no e1.out]
        exact ⟨_, rfl, World.ownsRow_nil _ _ _ _, hb⟩
      obtain ⟨q0, q1, q2⟩ := goodR_bd hg
      have HG := Lib.hid hg
      have HA := Lib.hid (all_snoc hl HT.out hg)
      clear hg
      have hi0 : (0 : Int) ≤ (k : Int) := Int.natCast_nonneg _
      have hi1 : (k : Int) < (zs.length : Int) := by omega
      have hlen : (pairs (zs.take k)).length ≤ 120 := Nat.le_trans (pairs_len _) (by simp; omega)
      have hsz := hb.size
      by_cases hlo : zs[k] < 65536
      · have HE : Hid (ints (pairs (zs.take (k + 1))) = ints (pairs (zs.take k)) ++ [.int .i64 zs[k]]) := Lib.hid (by rw [pairs_snoc zs k hl, units_lo hlo, ints_app]; rfl)
        have HL : Hid ((pairs (zs.take k)).length + 1 = (pairs (zs.take (k + 1))).length) := Lib.hid (by rw [pairs_snoc zs k hl, units_lo hlo]; simp)
        generalize zs[k] = z at *
        generalize pairs (zs.take k) = ps at *
        go_wp2_with (first | (go_at_call 33; refine (G.out _ _).mono ?_; rintro e' w' ⟨rfl, rfl⟩; rw [HG.out]) | go_in | (at_builtin; refine wpList_append_lies _ rfl _ _ _ rfl w.heap.size 3 i0 _ 1 8 Tryd.underlying25 hi hz0 hz1 hz2 rfl (by omega) _ ps.length _ rfl (HO.out.alloc _) ⟨wr.heap.size, 0, none⟩ 1 1 _ rfl rfl (World.news_of_block (heap_alloc_new wr _)) (by simp [Value.oneCell']) (by omega) (by unfold maxLen; omega) (by omega) (by have := hb.size; simp; omega) (wr.heap.size + 1) (by simp) ?_; intro g1 cap1 w1 hown1 hgrow hat hlt1))
        have hb1 : Below w.heap.size w w1 := (hb.alloc hsz _).grown hgrow (by simp; omega) (fun g hg => ownBlock_ge HO.out g hg)
        have HR := Lib.hid (own_congr hown1 HL.out HE.out.symm)
        clear hown1 hgrow hat hlt1
        go_wp2
        go_roundw
        case rel => exact ⟨k + 1, by omega, by go_num, HA.out, HR.out, hb1⟩
        case measure => simp [intOf]; omega
      · have HE : Hid (ints (pairs (zs.take (k + 1))) = ints (pairs (zs.take k)) ++ [.int .i64 (55296 + (zs[k] - 65536) / 1024), .int .i64 (56320 + (zs[k] - 65536) % 1024)]) := Lib.hid (by rw [pairs_snoc zs k hl, units_hi (by omega), ints_app]; rfl)
        have HL : Hid ((pairs (zs.take k)).length + 2 = (pairs (zs.take (k + 1))).length) := Lib.hid (by rw [pairs_snoc zs k hl, units_hi (by omega)]; simp)
        generalize zs[k] = z at *
        generalize pairs (zs.take k) = ps at *
        have hand := i64_and1023 (z - 65536) (by omega) (by omega)
        go_wp2_with (first | (go_at_call 33; refine (G.out _ _).mono ?_; rintro e' w' ⟨rfl, rfl⟩; rw [HG.out]) | go_in | (at_builtin; refine wpList_append_lies _ rfl _ _ _ rfl w.heap.size 3 i0 _ 1 8 Tryd.underlying25 hi hz0 hz1 hz2 rfl (by omega) _ ps.length _ rfl (HO.out.alloc _) ⟨wr.heap.size, 0, none⟩ 2 2 _ rfl rfl (World.news_of_block (heap_alloc_new wr _)) (by simp [Value.oneCell']) (by omega) (by unfold maxLen; omega) (by omega) (by have := hb.size; simp; omega) (wr.heap.size + 1) (by simp) ?_; intro g1 cap1 w1 hown1 hgrow hat hlt1))
        have hb1 : Below w.heap.size w w1 := (hb.alloc hsz _).grown hgrow (by simp; omega) (fun g hg => ownBlock_ge HO.out g hg)
        have HR := Lib.hid (own_congr hown1 HL.out HE.out.symm)
        clear hown1 hgrow hat hlt1
        go_wp2
        go_roundw
        case rel => exact ⟨k + 1, by omega, by go_num, HA.out, HR.out, hb1⟩
        case measure => simp [intOf]; omega
    · have hy : okL zs = true := by rw [okL_end (by omega) HT.out]; exact decide_eq_true (by omega)
      obtain rfl : k = zs.length := by omega
      rw [List.take_length] at hown
      have HO := Lib.hid hown
      have HY := Lib.hid hy
      clear hown hy
      go_wp2
      go_ret2
      rw [HY.out, resP_yes HY.out]
      exact ⟨_, rfl, HO.out, hb⟩
end Go.Proofs.YtgbdieghphbcfabDoor.Pairs
