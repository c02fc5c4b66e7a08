/-
  Slices of strings: the laws' own helpers that size, copy and compare them; a law's argument of that type; an append.
-/
import Derived.Test.YtmnihigackilkaaDoorStrs
namespace Go.Proofs.YtmnihigackilkaaDoor.Slq
open Go.ChangeShapes Go.WideShapes Go.ChangeAt Go.RowKit
open Go.Proofs.YtmnihigackilkaaDoor.Mem Go.Proofs.YtmnihigackilkaaDoor.Ints Go.Proofs.YtmnihigackilkaaDoor.Strs
set_option linter.unusedVariables false
set_option maxRecDepth 100000

theorem take_snoc_g {α : Type} (zs : List α) (k : Nat) (h : k < zs.length) : zs.take (k + 1) = zs.take k ++ [zs[k]] := List.take_succ_eq_append_getElem h
theorem rep_succ {α : Type} (n k : Nat) (h : k < n) (z : α) : List.replicate (n - k) z = z :: List.replicate (n - (k + 1)) z := by
  rw [show n - k = (n - (k + 1)) + 1 by omega, List.replicate_succ]
theorem part_setS (zs : List ByteArray) (k : Nat) (h : k < zs.length) : (svs (zs.take k ++ List.replicate (zs.length - k) ⟨#[]⟩)).set k (.string zs[k]) = svs (zs.take (k + 1) ++ List.replicate (zs.length - (k + 1)) ⟨#[]⟩) := by
  have hl : ((zs.take k).map Value.string).length = k := by rw [List.length_map, List.length_take]; omega
  unfold svs
  rw [take_snoc_g zs k h, rep_succ _ k h, List.map_append, List.map_append, List.map_append, List.map_cons, List.set_append_right _ _ (by omega), hl, Nat.sub_self, List.set_cons_zero, List.append_assoc]
  rfl
theorem made_strs (n : Nat) : (madeCells (Value.string ⟨#[]⟩).cells (n * 1)).toList = svs (List.replicate n ⟨#[]⟩) := by
  have : (Value.string ⟨#[]⟩).cells = #[.string ⟨#[]⟩] := rfl
  rw [this, toList_madeCells_one, Nat.mul_one]; simp [svs]
set_option maxHeartbeats 1000000 in
theorem toStrS (A : Option Addr) (n c : Nat) (zs : List ByteArray) (w : World) (hn : n ≤ 1048576) (hx : Rd w w.heap.size 1 A n (svs zs)) :
    Calls Tryd.prog 67 #[.slice A n c] w fun e w' => e = .returned (.slice (some ⟨w.heap.size, 0, none⟩) n n) ∧ w'.ownsRow w.heap.size 9 1 (.slice (some ⟨w.heap.size, 0, none⟩) n n) n (svs zs) ∧ Below w.heap.size w w' := by
  obtain ⟨i0, hi, hz0, hz1, hz2⟩ := info_parts infoS
  have lx := rd_len hx
  subst lx
  have HX := Lib.hid hx
  clear hx
  go_enter Tryd.func67, Tryd.ntmps67
  go_wp2_with (at_make; refine wpList_make_full _ rfl _ _ 23 rfl w.heap.size 9 i0 _ 1 Tryd.underlying23 hi hz0 hz1 .i64 .i64 _ _ zs.length rfl rfl (by omega) (by omega) (by rw [hz2]; omega) (by unfold maxLen; omega) (by simp) ?_; intro w2 hown2 hgrow2)
  have hb2 : Below w.heap.size w w2 := (Below.refl _ _).grown hgrow2 (by simp) (fun k hk => by cases hk)
  rw [made_strs] at hown2
  clear hgrow2
  go_loopw [4] (fun i wr => ∃ k : Nat, k ≤ zs.length ∧ i = .int .i64 k ∧ wr.ownsRow w.heap.size 9 1 (.slice (some ⟨w.heap.size, 0, none⟩) zs.length zs.length) zs.length (svs (zs.take k ++ List.replicate (zs.length - k) ⟨#[]⟩)) ∧ Below w.heap.size w wr)
    (fun i _ => zs.length - (intOf i).toNat)
  case atStart => exact ⟨0, by omega, rfl, by simpa using hown2, hb2⟩
  case round =>
    obtain ⟨k, hk, rfl, hown, hb⟩ := hrel
    clear hown2 hb2
    by_cases hlt : k < zs.length
    · have hxr := HX.out.below hb (Nat.le_refl _)
      obtain ⟨b, off, hl, rfl, hbB, hc⟩ := rd_str hxr hlt
      have hc2 := hown.cellAt k (by omega)
      have hll : k < (svs (zs.take k ++ List.replicate (zs.length - k) ⟨#[]⟩)).length := by simp [svs]; omega
      rw [List.getElem?_eq_getElem hll] at hc2
      have hf2 := hown.frozenAt k
      have R := hown.stored k (.string zs[k])
      rw [part_setS zs k hlt] at R
      have HR := Lib.hid R
      clear R hown hxr HX
      go_wp2
      go_roundw
      case rel => exact ⟨k + 1, by omega, by go_num, HR.out.1, hb.setCell (Nat.le_refl _) _⟩
      case measure => simp [intOf]; omega
    · obtain rfl : k = zs.length := by omega
      have ho : wr.ownsRow w.heap.size 9 1 (.slice (some ⟨w.heap.size, 0, none⟩) zs.length zs.length) zs.length (svs zs) := by simpa using hown
      have HO := Lib.hid ho
      clear ho hown HX
      go_wp2
      go_ret
      exact ⟨rfl, HO.out, hb⟩
/-- What is left of a budget: a number below 0, or less than it by the length and the strings' sizes. -/
def Sz (left n : Nat) (l : List ByteArray) (w : World) (e : Ending) (w' : World) : Prop := ∃ z : Int, e = .returned (.int .i64 z) ∧ w = w' ∧ -1 ≤ z ∧ z ≤ left ∧ (0 ≤ z → n ≤ left ∧ ∀ k (h : k < l.length), l[k].size ≤ left)
set_option maxHeartbeats 1000000 in
theorem szStrS (A : Option Addr) (n c : Nat) (l : List ByteArray) (B : Nat) (left : Nat) (w : World) (hn : n ≤ maxLen) (hl : left ≤ 1048576) (hs : ∀ s ∈ l, s.size ≤ maxLen) (hx : Rd w B 1 A n (svs l)) :
    Calls Tryd.prog 66 #[.slice A n c, .int .i64 left] w (Sz left n l w) := by
  have lx := rd_len hx
  subst lx
  unfold maxLen at hn
  have HX := Lib.hid hx
  have HS := Lib.hid hs
  clear hx hs
  by_cases h0 : (left : Int) - (l.length : Int) < 0
  · go_enter Tryd.func66, Tryd.ntmps66
    go_wp2
    go_ret
    exact ⟨-1, rfl, rfl, by omega, by omega, fun h => absurd h (by omega)⟩
  · go_enter Tryd.func66, Tryd.ntmps66
    go_wp2
    go_loop [1, 5] (fun x i => ∃ (k : Nat) (z : Int), k ≤ l.length ∧ i = .int .i64 k ∧ x = .int .i64 z ∧ 0 ≤ z ∧ z ≤ left ∧ Hid (∀ j (h : j < l.length), j < k → l[j].size ≤ left)) (fun _ i => l.length - (intOf i).toNat)
    case atStart => exact ⟨0, _, by omega, rfl, rfl, by omega, by omega, Lib.hid (fun j _ hj => absurd hj (by omega))⟩
    case round =>
      obtain ⟨k, z, hk, rfl, rfl, hz0, hz1, HK⟩ := hrel
      by_cases hlt : k < l.length
      · obtain ⟨b, off, hll, rfl, hbB, hc⟩ := rd_str HX.out hlt
        have hsz : l[k].size ≤ 9223372036854775807 := HS.out _ (List.getElem_mem hll)
        have HN : Hid (l[k].size ≤ left → ∀ j (h : j < l.length), j < k + 1 → l[j].size ≤ left) := Lib.hid (fun h1 j h hj => by
          rcases Nat.lt_or_ge j k with h2 | h2
          · exact HK.out j h h2
          · obtain rfl : j = k := by omega
            exact h1)
        generalize l[k] = s at *
        have i0 : (0 : Int) ≤ (k : Int) := by omega
        have i1 : (k : Int) < (l.length : Int) := by omega
        clear HK HX HS
        by_cases h1 : z - (s.size : Int) < 0
        · go_wp2
          go_ret
          exact ⟨-1, rfl, rfl, by omega, by omega, fun h => absurd h (by omega)⟩
        · go_wp2
          go_round
          case rel => exact ⟨k + 1, _, by omega, by go_num, rfl, by omega, by omega, Lib.hid (HN.out (by omega))⟩
          case measure => simp [intOf]; omega
      · have HK' := Lib.hid (fun j (h : j < l.length) => HK.out j h (by omega))
        clear HX HS HK
        go_wp2
        go_ret
        exact ⟨z, rfl, rfl, by omega, by omega, fun _ => ⟨by omega, HK'.out⟩⟩
theorem Rdm {w w' : World} {B s n : Nat} {A : Option Addr} {xs : List Value} (h : Rd w B s A n xs) (hB : B ≤ w.heap.size) (hb : Below w.heap.size w w') : Rd w' w'.heap.size s A n xs := (h.below hb hB).mono (Nat.le_trans hB hb.size)
theorem Rdo {w w' : World} {base e s n c : Nat} {A : Option Addr} {xs : List Value} (h : w.ownsRow base e s (.slice A n c) n xs) (hb : Below w.heap.size w w') : Rd w' w'.heap.size s A n xs := Rdm (Rd.own h) (Nat.le_refl _) hb
/-- A cell that reads as a slice of strings. -/
theorem strs_open {H : Type} {enc : TypeId × Value → H} {P : Program} {w : World} {base : Nat} {spare : Nat → Bool} {held : Bool} {t e fuel : Nat} {v : Value} {y : DataW H × List MemPlace}
    (ht : P.underlying t = some (.slice e)) (he : P.underlying e = some .string) (hc : P.cellsOf e = 1) (h : DataW.trod enc P w base spare held fuel t [v] = some y) :
    ∃ A n c l, v = .slice A n c ∧ n ≤ maxLen ∧ (∀ s ∈ l, s.size ≤ maxLen) ∧ Rd w w.heap.size 1 A n (svs l) := by
  rcases open_strings ht he hc h with ⟨hcs, _⟩ | ⟨a, len, cap, ss, hcs, _, hl, hm, hz, _, hcell, hws⟩
  · simp at hcs
    exact ⟨none, 0, 0, [], hcs, Nat.zero_le _, by simp, by simp [svs], fun hn => absurd hn (by omega)⟩
  · simp at hcs
    have hzl : len ≤ ss.length := by rw [hz]; split <;> omega
    refine ⟨some a, len, cap, ss.take len, hcs, by omega, fun s h => hws s (List.mem_of_mem_take h), by simp [svs, hzl], fun hn => ?_⟩
    have h0 := hcell 0 (by omega)
    obtain ⟨b, off, spot⟩ := a
    have hspot : spot = none := by simpa [Addr.add] using World.cell?_spot h0
    subst hspot
    refine ⟨b, off, rfl, ?_, fun j u hu => ?_⟩
    · have := World.block_lt_of_cell? w _ h0
      simpa [Addr.add] using this
    · have hj : j < len := by
        have := (List.getElem?_eq_some_iff.1 hu).1
        simp [svs] at this; omega
      have hcj := hcell j (by omega)
      have ha : (⟨b, off, none⟩ : Addr).add j = ⟨b, off + j, none⟩ := by unfold Addr.add; split <;> simp_all
      rw [ha] at hcj
      rw [hcj, ← hu]
      have hjz : j < ss.length := by omega
      simp [svs, hj, hjz]
theorem app_str {w wr wa w1 : World} {e : Nat} {v v' : Value} {n m : Nat} {l : List ByteArray} {x : ByteArray} {ys : List Value} (hb : Below w.heap.size w wa)
    (hown : wr.ownsRow w.heap.size e 1 v n (svs l)) (h1 : w1.ownsRow w.heap.size e 1 v' m (svs l ++ ys)) (hy : ys = [.string x]) (hg : wa.grownBy w1 v.ownBlock) :
    w1.ownsRow w.heap.size e 1 v' m (svs (l ++ [x])) ∧ Below w.heap.size w w1 := by
  subst hy
  refine ⟨by unfold svs at *; rw [List.map_append]; exact h1, hb.grown hg hb.size (fun g hgg => ownBlock_ge hown g hgg)⟩
end Go.Proofs.YtmnihigackilkaaDoor.Slq
