/-
  Slices of signatures and of strings: the laws' own helpers that size, copy and compare them.
-/
import Derived.Test.YtbljmgmpmmajeaaDoorSgs
namespace Go.Proofs.YtbljmgmpmmajeaaDoor.Sgq
open Go.ChangeShapes Go.WideShapes Go.ChangeAt Go.RowKit
open Go.Proofs.YtbljmgmpmmajeaaDoor.Mem Go.Proofs.YtbljmgmpmmajeaaDoor.Ints Go.Proofs.YtbljmgmpmmajeaaDoor.Strs Go.Proofs.YtbljmgmpmmajeaaDoor.Rec Go.Proofs.YtbljmgmpmmajeaaDoor.Chl Go.Proofs.YtbljmgmpmmajeaaDoor.Sgs
set_option linter.unusedVariables false
set_option maxRecDepth 100000

set_option maxHeartbeats 1000000 in
theorem toStrS (A : Option Addr) (n c : Nat) (zs : List ByteArray) (w : World) (hn : n ≤ 1048576) (hx : Rd w w.heap.size 1 A n (svs zs)) :
    Calls Tryd.prog 29 #[.slice A n c] w fun e w' => e = .returned (.slice (some ⟨w.heap.size, 0, none⟩) n n) ∧ w'.ownsRow w.heap.size 9 1 (.slice (some ⟨w.heap.size, 0, none⟩) n n) n (svs zs) ∧ Below w.heap.size w w' := by
  obtain ⟨i0, hi, hz0, hz1, hz2⟩ := info_parts infoS
  have lx := rd_len hx
  subst lx
  have HX := Lib.hid hx
  clear hx
  go_enter Tryd.func29, Tryd.ntmps29
  go_wp2_with (at_make; refine wpList_make_full _ rfl _ _ 40 rfl w.heap.size 9 i0 _ 1 Tryd.underlying40 hi hz0 hz1 .i64 .i64 _ _ zs.length rfl rfl (by omega) (by omega) (by rw [hz2]; omega) (by unfold maxLen; omega) (by simp) ?_; intro w2 hown2 hgrow2)
  have hb2 : Below w.heap.size w w2 := (Below.refl _ _).grown hgrow2 (by simp) (fun k hk => by cases hk)
  rw [made_strs] at hown2
  clear hgrow2
  go_loopw [4] (fun i wr => ∃ k : Nat, k ≤ zs.length ∧ i = .int .i64 k ∧ wr.ownsRow w.heap.size 9 1 (.slice (some ⟨w.heap.size, 0, none⟩) zs.length zs.length) zs.length (svs (zs.take k ++ List.replicate (zs.length - k) ⟨#[]⟩)) ∧ Below w.heap.size w wr)
    (fun i _ => zs.length - (intOf i).toNat)
  case atStart => exact ⟨0, by omega, rfl, by simpa using hown2, hb2⟩
  case round =>
    obtain ⟨k, hk, rfl, hown, hb⟩ := hrel
    clear hown2 hb2
    by_cases hlt : k < zs.length
    · have hxr := HX.out.below hb (Nat.le_refl _)
      obtain ⟨b, off, hl, rfl, hbB, hc⟩ := rd_str hxr hlt
      have hc2 := hown.cellAt k (by omega)
      have hll : k < (svs (zs.take k ++ List.replicate (zs.length - k) ⟨#[]⟩)).length := by simp [svs]; omega
      rw [List.getElem?_eq_getElem hll] at hc2
      have hf2 := hown.frozenAt k
      have R := hown.stored k (.string zs[k])
      rw [part_setS zs k hlt] at R
      have HR := Lib.hid R
      clear R hown hxr HX
      go_wp2
      go_roundw
      case rel => exact ⟨k + 1, by omega, by go_num, HR.out.1, hb.setCell (Nat.le_refl _) _⟩
      case measure => simp [intOf]; omega
    · obtain rfl : k = zs.length := by omega
      have ho : wr.ownsRow w.heap.size 9 1 (.slice (some ⟨w.heap.size, 0, none⟩) zs.length zs.length) zs.length (svs zs) := by simpa using hown
      have HO := Lib.hid ho
      clear ho hown HX
      go_wp2
      go_ret
      exact ⟨rfl, HO.out, hb⟩
set_option maxHeartbeats 2000000 in
theorem toSgS (A : Option Addr) (n c : Nat) (zs : List Sg) (w : World) (hn : n ≤ 1048576) (hx : Rd w w.heap.size 2 A n (sgs zs)) :
    Calls Tryd.prog 30 #[.slice A n c] w fun e w' => e = .returned (.slice (some ⟨w.heap.size, 0, none⟩) n n) ∧ w'.ownsRow w.heap.size 28 2 (.slice (some ⟨w.heap.size, 0, none⟩) n n) n (sgs zs) ∧ Below w.heap.size w w' := by
  obtain ⟨i0, hi, hz0, hz1, hz2⟩ := info_parts infoSg
  have lx := rd_sg_len hx
  subst lx
  have HX := Lib.hid hx
  clear hx
  go_enter Tryd.func30, Tryd.ntmps30
  go_wp2_with (at_make; refine wpList_make_full _ rfl _ _ 46 rfl w.heap.size 28 i0 _ 2 Tryd.underlying46 hi hz0 hz1 .i64 .i64 _ _ zs.length rfl rfl (by omega) (by omega) (by rw [hz2]; omega) (by unfold maxLen; omega) (by simp) ?_; intro w2 hown2 hgrow2)
  have hb2 : Below w.heap.size w w2 := (Below.refl _ _).grown hgrow2 (by simp) (fun k hk => by cases hk)
  rw [made_sgs] at hown2
  clear hgrow2
  go_loopw [4] (fun i wr => ∃ k : Nat, k ≤ zs.length ∧ i = .int .i64 k ∧ wr.ownsRow w.heap.size 28 2 (.slice (some ⟨w.heap.size, 0, none⟩) zs.length zs.length) zs.length (sgs (zs.take k ++ List.replicate (zs.length - k) (0, 0))) ∧ Below w.heap.size w wr)
    (fun i _ => zs.length - (intOf i).toNat)
  case atStart => exact ⟨0, by omega, rfl, by simpa using hown2, hb2⟩
  case round =>
    obtain ⟨k, hk, rfl, hown, hb⟩ := hrel
    clear hown2 hb2
    by_cases hlt : k < zs.length
    · have hxr := HX.out.below hb (Nat.le_refl _)
      obtain ⟨b, off, hl, rfl, hbB, hc, hd⟩ := rd_sg hxr hlt
      have C := Lib.hid (fun W => toSg zs[k].1 zs[k].2 W)
      have HO := Lib.hid hown
      have HP := Lib.hid (part_set2 zs k hlt)
      generalize zs[k].1 = X at *
      generalize zs[k].2 = Y at *
      unfold pv at C
      have hz := hb.size
      clear hown hxr HX
      go_wp2_with fail
      refine (C.out _).mono ?_
      rintro e w1 ⟨rfl, hb1⟩
      have hown1 := own_belowS HO.out hb1 (Nat.le_refl _)
      have hB1 := hb.trans (hb1.mono hz)
      have hll : (sgs (zs.take k ++ List.replicate (zs.length - k) (0, 0))).length = zs.length * 2 := hown1.1
      obtain ⟨y0, hc0⟩ : ∃ y, w1.cell? ⟨w.heap.size, k * 2, none⟩ = some y := ⟨_, by rw [hown1.cellAt (k * 2) (by omega), List.getElem?_eq_getElem (by omega)]⟩
      obtain ⟨y1, hc1⟩ : ∃ y, w1.cell? ⟨w.heap.size, k * 2 + 1, none⟩ = some y := ⟨_, by rw [hown1.cellAt (k * 2 + 1) (by omega), List.getElem?_eq_getElem (by omega)]⟩
      have hf0 := hown1.frozenAt (k * 2)
      have hf1 := hown1.frozenAt (k * 2 + 1)
      have R := ((hown1.stored (k * 2) (.int .i64 X)).1.stored (k * 2 + 1) (.int .i64 Y)).1
      rw [HP.out] at R
      have HR := Lib.hid R
      clear R hown1 hb1 HO HP C hll hc hd hb
      go_wp2
      go_roundw
      case rel => exact ⟨k + 1, by omega, by go_num, HR.out, (hB1.setCell (Nat.le_refl _) _).setCell (Nat.le_refl _) _⟩
      case measure => simp [intOf]; omega
    · obtain rfl : k = zs.length := by omega
      have ho : wr.ownsRow w.heap.size 28 2 (.slice (some ⟨w.heap.size, 0, none⟩) zs.length zs.length) zs.length (sgs zs) := by simpa using hown
      have HO := Lib.hid ho
      clear ho hown HX
      go_wp2
      go_ret
      exact ⟨rfl, HO.out, hb⟩
theorem keepd {W w1 : World} {b o : Nat} {v : Value} (hb : Below W.drew.heap.size W.drew w1) (h : W.cell? ⟨b, o, none⟩ = some v) : w1.cell? ⟨b, o, none⟩ = some v :=
  (hb.cell (p := ⟨b, o, none⟩) (World.block_lt_of_cell? W _ h)).trans h
theorem eqSgT (u v : Int) (w : World) : Calls Tryd.prog 18 #[pv u v, pv u v] w fun e w' => e = .returned (.bool true) ∧ Below w.heap.size w w' := by
  unfold pv
  go_enter Tryd.func18, Tryd.ntmps18
  go_wp2
  go_ret
  exact ⟨rfl, al2 _ _ _⟩
set_option maxHeartbeats 2000000 in
/-- Two slices that hold the same signatures. -/
theorem eqSgS (A D : Option Addr) (n c d : Nat) (l : List Sg) (B B' : Nat) (w : World) (hn : n ≤ 1048576) (hB : B ≤ w.heap.size) (hB' : B' ≤ w.heap.size) (hx : Rd w B 2 A n (sgs l)) (hy : Rd w B' 2 D n (sgs l)) :
    Calls Tryd.prog 33 #[.slice A n c, .slice D n d] w fun e w' => e = .returned (.bool true) ∧ Below w.heap.size w w' := by
  have HX := Lib.hid hx
  have HY := Lib.hid hy
  clear hx hy
  go_enter Tryd.func33, Tryd.ntmps33
  go_wp2
  go_loopw [5] (fun i wr => ∃ k : Nat, k ≤ n ∧ i = .int .i64 k ∧ Below w.heap.size w wr) (fun i _ => n - (intOf i).toNat)
  case atStart => exact ⟨0, by omega, rfl, Below.refl _ _⟩
  case round =>
    obtain ⟨k, hk, rfl, hb⟩ := hrel
    by_cases hlt : k < n
    · obtain ⟨b, off, hl, rfl, _, hc, hd⟩ := rd_sg (HX.out.below hb hB) hlt
      obtain ⟨b', off', hl', rfl, _, hc', hd'⟩ := rd_sg (HY.out.below hb hB') hlt
      have i0 : (0 : Int) ≤ (k : Int) := by omega
      have i1 : (k : Int) < (n : Int) := by omega
      have C := Lib.hid (fun W => eqSgT l[k].1 l[k].2 W)
      generalize l[k].1 = X at *
      generalize l[k].2 = Y at *
      unfold pv at C
      have hz := hb.size
      have BD := hb.drew
      clear HX HY
      go_wp2_with fail
      go_region_held3 (fun w' => w'.cell? ⟨b, off + k * 2, none⟩ = some (.int .i64 X) ∧ w'.cell? ⟨b, off + k * 2 + 1, none⟩ = some (.int .i64 Y) ∧ w'.cell? ⟨b', off' + k * 2, none⟩ = some (.int .i64 X) ∧ w'.cell? ⟨b', off' + k * 2 + 1, none⟩ = some (.int .i64 Y))
        (first | (refine ⟨?_, ?_, ?_, ?_⟩ <;> with_reducible assumption) | (go_keep; done))
        ((go_at_call 18; (with_reducible refine (C.out _).mono ?_); rintro e w1 ⟨rfl, hb1⟩; have g0 := keepd hb1 hc; have g1 := keepd hb1 hd; have g2 := keepd hb1 hc'; have g3 := keepd hb1 hd'))
      have hB1 := BD.trans (hb1.mono BD.size)
      go_wp2
      go_roundw
      case rel => exact ⟨k + 1, by omega, by go_num, hB1⟩
      case measure => simp [intOf]; omega
    · go_wp2
      go_ret
      exact ⟨rfl, hb⟩
/-- What is left of a budget: a number below 0, or less than it by the length and the strings' sizes. -/
def Sz (left n : Nat) (l : List ByteArray) (w : World) (e : Ending) (w' : World) : Prop := ∃ z : Int, e = .returned (.int .i64 z) ∧ w = w' ∧ -1 ≤ z ∧ z ≤ left ∧ (0 ≤ z → n ≤ left ∧ ∀ k (h : k < l.length), l[k].size ≤ left)
set_option maxHeartbeats 1000000 in
theorem szStrS (A : Option Addr) (n c : Nat) (l : List ByteArray) (B : Nat) (left : Nat) (w : World) (hn : n ≤ maxLen) (hl : left ≤ 1048576) (hs : ∀ s ∈ l, s.size ≤ maxLen) (hx : Rd w B 1 A n (svs l)) :
    Calls Tryd.prog 26 #[.slice A n c, .int .i64 left] w (Sz left n l w) := by
  have lx := rd_len hx
  subst lx
  unfold maxLen at hn
  have HX := Lib.hid hx
  have HS := Lib.hid hs
  clear hx hs
  by_cases h0 : (left : Int) - (l.length : Int) < 0
  · go_enter Tryd.func26, Tryd.ntmps26
    go_wp2
    go_ret
    exact ⟨-1, rfl, rfl, by omega, by omega, fun h => absurd h (by omega)⟩
  · go_enter Tryd.func26, Tryd.ntmps26
    go_wp2
    go_loop [1, 5] (fun x i => ∃ (k : Nat) (z : Int), k ≤ l.length ∧ i = .int .i64 k ∧ x = .int .i64 z ∧ 0 ≤ z ∧ z ≤ left ∧ Hid (∀ j (h : j < l.length), j < k → l[j].size ≤ left)) (fun _ i => l.length - (intOf i).toNat)
    case atStart => exact ⟨0, _, by omega, rfl, rfl, by omega, by omega, Lib.hid (fun j _ hj => absurd hj (by omega))⟩
    case round =>
      obtain ⟨k, z, hk, rfl, rfl, hz0, hz1, HK⟩ := hrel
      by_cases hlt : k < l.length
      · obtain ⟨b, off, hll, rfl, hbB, hc⟩ := rd_str HX.out hlt
        have hsz : l[k].size ≤ 9223372036854775807 := HS.out _ (List.getElem_mem hll)
        have HN : Hid (l[k].size ≤ left → ∀ j (h : j < l.length), j < k + 1 → l[j].size ≤ left) := Lib.hid (fun h1 j h hj => by
          rcases Nat.lt_or_ge j k with h2 | h2
          · exact HK.out j h h2
          · obtain rfl : j = k := by omega
            exact h1)
        generalize l[k] = s at *
        have i0 : (0 : Int) ≤ (k : Int) := by omega
        have i1 : (k : Int) < (l.length : Int) := by omega
        clear HK HX HS
        by_cases h1 : z - (s.size : Int) < 0
        · go_wp2
          go_ret
          exact ⟨-1, rfl, rfl, by omega, by omega, fun h => absurd h (by omega)⟩
        · go_wp2
          go_round
          case rel => exact ⟨k + 1, _, by omega, by go_num, rfl, by omega, by omega, Lib.hid (HN.out (by omega))⟩
          case measure => simp [intOf]; omega
      · have HK' := Lib.hid (fun j (h : j < l.length) => HK.out j h (by omega))
        clear HX HS HK
        go_wp2
        go_ret
        exact ⟨z, rfl, rfl, by omega, by omega, fun _ => ⟨by omega, HK'.out⟩⟩
def Sg1 (left n : Int) (w : World) (e : Ending) (w' : World) : Prop := ∃ z : Int, e = .returned (.int .i64 z) ∧ w = w' ∧ (0 ≤ z → n ≤ left)
theorem szSgS (A : Option Addr) (n c : Nat) (left : Int) (w : World) (hn : n ≤ maxLen) (h0 : 0 ≤ left) (hl : left ≤ 1048576) :
    Calls Tryd.prog 27 #[.slice A n c, .int .i64 left] w (Sg1 left n w) := by
  unfold maxLen at hn
  by_cases h1 : left - (n : Int) < 0
  · go_enter Tryd.func27, Tryd.ntmps27
    go_wp2
    go_ret
    exact ⟨-1, rfl, rfl, fun h => absurd h (by omega)⟩
  · go_enter Tryd.func27, Tryd.ntmps27
    go_wp2
    go_ret
    exact ⟨_, rfl, rfl, fun _ => by omega⟩
end Go.Proofs.YtbljmgmpmmajeaaDoor.Sgq
