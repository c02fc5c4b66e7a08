/-
  What the laws of chapter 2 draw: contracts of the drawing functions, and of the laws' own comparison of rows.
-/
import Derived.Test.YtgbdieghphbcfabDoorDraw2
import Derived.Test.YtgbdieghphbcfabDoorPairs
namespace Go.Proofs.YtgbdieghphbcfabDoor.Draw3
open Go.ChangeShapes Go.WideShapes Go.ChangeAt Go.RowKit
open Go.Proofs.YtgbdieghphbcfabDoor.Mem Go.Proofs.YtgbdieghphbcfabDoor.Ints Go.Proofs.YtgbdieghphbcfabDoor.Mark Go.Proofs.YtgbdieghphbcfabDoor.Cur Go.Proofs.YtgbdieghphbcfabDoor.Rune Go.Proofs.YtgbdieghphbcfabDoor.Enc Go.Proofs.YtgbdieghphbcfabDoor.Pairs Go.Proofs.YtgbdieghphbcfabDoor.Draw2
set_option linter.unusedVariables false

theorem boxed_cur (A : Option Addr) (n c : Nat) (cs : List UInt8) (w : World) (hn : n ≤ maxLen) (hx : Rd w w.heap.size 1 A n (Cur.bytes cs)) :
    Cur (w.alloc (.cells #[.slice A n c, .int .i64 0, .int .u64 0] 62)) w.heap.size w.heap.size 0 :=
  ⟨A, n, c, 0, 0, cs, heap_alloc_new w _, hn, hx.below ((Below.refl _ w).alloc (Nat.le_refl _) _) (Nat.le_refl _), Nat.le_refl _, by omega, by omega, by omega⟩
theorem drawTextOf (A : Option Addr) (n c : Nat) (cs : List UInt8) (w : World) (hn : n ≤ maxLen) (hx : Rd w w.heap.size 1 A n (Cur.bytes cs)) :
    Calls Tryd.prog 22 #[.slice A n c] w fun e w' => ∃ (v : Value) (zs : List Int), e = .returned v ∧ zs.length ≤ 61 ∧ w'.ownsRow w.heap.size 3 1 v zs.length (ints zs) ∧ Below w.heap.size w w' := by
  have R := Lib.hid (runes w.heap.size w.heap.size 0 _ (by omega) (boxed_cur A n c cs w hn hx))
  clear hx
  go_enter Tryd.func22, Tryd.ntmps22
  go_wp2_with fail
  refine R.out.mono ?_
  rintro e w1 ⟨v, zs, rfl, hl, ho, hc1, hu1⟩
  have hb : Below w.heap.size w w1 := ((Below.refl _ w).alloc (Nat.le_refl _) _).trans (hu1.below (Nat.le_refl _) (by simp))
  have HO := Lib.hid (own_base ho (show w.heap.size ≤ _ by simp))
  clear ho hc1 hu1
  go_wp2
  go_ret
  exact ⟨v, zs, rfl, hl, HO.out, hb⟩
theorem drawPairsOf (A : Option Addr) (n c : Nat) (cs : List UInt8) (w : World) (hn : n ≤ maxLen) (hx : Rd w w.heap.size 1 A n (Cur.bytes cs)) :
    Calls Tryd.prog 35 #[.slice A n c] w fun e w' => ∃ (v : Value) (zs : List Int), e = .returned v ∧ zs.length ≤ 61 ∧ w'.ownsRow w.heap.size 3 1 v zs.length (ints zs) ∧ Below w.heap.size w w' := by
  have R := Lib.hid (drawTextOf A n c cs w hn hx)
  clear hx
  go_enter Tryd.func35, Tryd.ntmps35
  go_wp2_with fail
  refine R.out.mono ?_
  rintro e w1 ⟨v, zs, rfl, hl, ho, hb⟩
  have HO := Lib.hid ho
  clear ho
  go_wp2
  go_ret
  exact ⟨v, zs, rfl, hl, HO.out, hb⟩
theorem drawLessPairs (A : Option Addr) (n c : Nat) (cs : List UInt8) (w : World) (hn : n ≤ maxLen) (hx : Rd w w.heap.size 1 A n (Cur.bytes cs)) :
    Calls Tryd.prog 41 #[.slice A n c] w fun e w' => ∃ a b : ByteArray, e = .returned (.tuple #[.string a, .string b]) ∧ a.size ≤ 1000 ∧ b.size ≤ 1001 ∧ Below w.heap.size w w' := by
  have R := Lib.hid (runeText w.heap.size w.heap.size 0 _ (by omega) (boxed_cur A n c cs w hn hx))
  clear hx
  go_enter Tryd.func41, Tryd.ntmps41
  go_wp2_with fail
  refine R.out.mono ?_
  rintro e w1 ⟨a, rfl, ha, hc1, hu1⟩
  have hb : Below w.heap.size w w1 := ((Below.refl _ w).alloc (Nat.le_refl _) _).trans (hu1.below (Nat.le_refl _) (by simp))
  have ON := Lib.hid (one w.heap.size w.heap.size (0 + 300) 4 w1 (by omega) (by omega) hc1)
  have hs1 := hb.size
  clear R hc1 hu1
  go_wp2_with fail
  refine ON.out.mono ?_
  rintro e w2 ⟨b, rfl, hc2, hu2⟩
  have hb2 : Below w.heap.size w w2 := hb.trans (hu2.below (Nat.le_refl _) hs1)
  have hs2 := hb2.size
  cases b
  · have R2 := Lib.hid (runeText w.heap.size w.heap.size (0 + 300 + 2) w2 (by omega) hc2)
    clear ON hc2 hu2 hb
    go_wp2_with fail
    refine R2.out.mono ?_
    rintro e w3 ⟨b, rfl, hbs, hc3, hu3⟩
    have hb3 : Below w.heap.size w w3 := hb2.trans (hu3.below (Nat.le_refl _) hs2)
    clear R2 hc3 hu3 hb2
    go_wp2
    go_ret2
    exact ⟨a, b, rfl, ha, by omega, hb3⟩
  · have az : (a ++ (⟨#[122]⟩ : ByteArray)).size = a.size + 1 := size_snoc a 122
    clear ON hc2 hu2 hb
    go_wp2
    go_ret2
    exact ⟨a, _, rfl, ha, by omega, hb2⟩
set_option maxHeartbeats 1000000 in
theorem sameInts (A D : Option Addr) (n m c d : Nat) (xs ys : List Int) (B B' : Nat) (w : World) (hn : n ≤ 1048576) (hm : m ≤ maxLen) (hx : Rd w B 1 A n (ints xs)) (hy : Rd w B' 1 D m (ints ys)) :
    Calls Tryd.prog 18 #[.slice A n c, .slice D m d] w fun e w' => e = .returned (.bool (decide (xs = ys))) ∧ ∃ q, w' = w.drewN q := by
  have lx := hx.len
  have ly := hy.len
  unfold maxLen at hm
  by_cases hnm : n = m
  · subst hnm
    have HX := Lib.hid hx
    have HY := Lib.hid hy
    have LX := Lib.hid lx
    have LY := Lib.hid ly
    clear hx hy lx ly
    go_enter Tryd.func18, Tryd.ntmps18
    go_wp2
    go_loopw [13] (fun i wr => ∃ k q : Nat, k ≤ n ∧ i = .int .i64 k ∧ wr = w.drewN q ∧ xs.take k = ys.take k) (fun i _ => n - (intOf i).toNat)
    case atStart => exact ⟨0, 0, by omega, rfl, rfl, rfl⟩
    case round =>
      obtain ⟨k, q, hk, rfl, rfl, ht⟩ := hrel
      have HT := Lib.hid ht
      clear ht
      by_cases hlt : k < n
      · obtain ⟨b, off, hl, rfl, _, hc⟩ := HX.out.int hlt
        obtain ⟨b', off', hl', rfl, _, hc'⟩ := HY.out.int hlt
        have i0 : (0 : Int) ≤ (k : Int) := by omega
        have i1 : (k : Int) < (n : Int) := by omega
        by_cases he : xs[k] = ys[k]
        · have hb : (xs[k] != ys[k]) = false := by simp [he]
          have HE := Lib.hid he
          clear he
          go_wp2_with fail
          go_quiet (fail)
          go_wp2
          go_roundw
          case rel => exact ⟨k + 1, _, by omega, by go_num, rfl, take_eq_succ hl hl' HT.out HE.out⟩
          case measure => simp [intOf]; omega
        · have hb : (xs[k] != ys[k]) = true := by simp [he]
          have hne : decide (xs = ys) = false := by
            rw [decide_eq_false_iff_not]; intro e; apply he; simp only [e]
          have HN := Lib.hid hne
          clear he hne
          go_wp2_with fail
          go_quiet (fail)
          go_wp2
          go_ret
          exact ⟨by rw [HN.out]; rfl, _, World.drewN_drewN ..⟩
      · have hd : decide (xs = ys) = true := by
          rw [decide_eq_true_iff]
          have h := HT.out
          have l1 := LX.out
          have l2 := LY.out
          rwa [List.take_of_length_le (by omega), List.take_of_length_le (by omega)] at h
        have HD := Lib.hid hd
        clear hd
        go_wp2
        go_ret
        exact ⟨by rw [HD.out]; rfl, _, rfl⟩
  · have hd : decide (xs = ys) = false := by
      rw [decide_eq_false_iff_not]; intro e; subst e; omega
    have HD := Lib.hid hd
    have hne : ((n : Int) != (m : Int)) = true := by rw [bne_iff_ne]; omega
    clear hd lx ly hx hy
    go_enter Tryd.func18, Tryd.ntmps18
    go_wp2
    go_ret
    exact ⟨by rw [HD.out]; rfl, 0, rfl⟩
theorem own_some {w : World} {base e size n c : Nat} {A : Option Addr} {xs : List Value} (h : w.ownsRow base e size (.slice A n c) n xs) (hn : 0 < n) : ∃ g, A = some ⟨g, 0, none⟩ ∧ base ≤ g := by
  rcases h.2 with ⟨_, h0⟩ | ⟨g, cap, cur, h1, h2, _⟩
  · omega
  · obtain ⟨rfl, rfl⟩ : A = some ⟨g, 0, none⟩ ∧ c = cap := by simpa using h1
    exact ⟨g, rfl, h2⟩
set_option maxHeartbeats 2000000 in
theorem drawOfPairs (A : Option Addr) (n c : Nat) (cs : List UInt8) (w : World) (hn : n ≤ maxLen) (hx : Rd w w.heap.size 1 A n (Cur.bytes cs)) :
    Calls Tryd.prog 39 #[.slice A n c] w fun e w' => ∃ (v : Value) (zs : List Int), e = .returned v ∧ zs.length ≤ 120 ∧ w'.ownsRow w.heap.size 3 1 v zs.length (ints zs) ∧ Below w.heap.size w w' := by
  have R := Lib.hid (runes w.heap.size w.heap.size 0 _ (by omega) (boxed_cur A n c cs w hn hx))
  clear hx
  go_enter Tryd.func39, Tryd.ntmps39
  go_wp2_with fail
  refine R.out.mono ?_
  rintro e w1 ⟨v, zs, rfl, hl, ho, hc1, hu1⟩
  obtain ⟨A1, c1, rfl⟩ := own_shape ho
  have hb : Below w.heap.size w w1 := ((Below.refl _ w).alloc (Nat.le_refl _) _).trans (hu1.below (Nat.le_refl _) (by simp))
  have PO := Lib.hid (specPairs A1 zs.length c1 zs w1.heap.size w1 (by omega) (Nat.le_refl _) (Rd.own ho))
  have hs1 := hb.size
  have HC1 := Lib.hid hc1
  have hrl := resP_len zs
  clear R hc1 hu1 ho
  go_wp2_with fail
  refine PO.out.mono ?_
  rintro e w2 ⟨v2, rfl, ho2, hb2⟩
  obtain ⟨A2, c2, rfl⟩ := own_shape ho2
  have HC2 := Lib.hid (cur_bel HC1.out hb2)
  have hb3 := hb.trans (hb2.mono hs1)
  have hs3 := hb3.size
  have hpw := HC1.out.lt
  have HO2 := Lib.hid ho2
  generalize resP zs = rs at *
  generalize okL zs = ok at *
  clear PO ho2 HC1 hb hb2
  by_cases h0 : 0 < rs.length
  · have h0' : (0 : Int) < (rs.length : Int) := by omega
    have ON := Lib.hid (one w.heap.size w.heap.size (0 + 100) 3 w2 (by omega) (by omega) HC2.out)
    clear HC2
    go_wp2_with fail
    refine ON.out.mono ?_
    rintro e w4 ⟨b, rfl, hc4, hu4⟩
    have HO4 := Lib.hid (own_upd HO2.out hu4 hpw)
    have hb4 : Below w.heap.size w w4 := hb3.trans (hu4.below (Nat.le_refl _) hs3)
    have hs4 := hb4.size
    have HC4 := Lib.hid hc4
    clear ON hc4 hu4 HO2 hb3
    cases b
    · go_wp2
      go_ret
      exact ⟨_, rs, rfl, hrl, own_base HO4.out hs1, hb4⟩
    · obtain ⟨g, rfl, hg⟩ := own_some HO4.out h0
      have PK := Lib.hid (pick w.heap.size w.heap.size (0 + 100 + 2) rs.length w4 (by omega) (by omega) HC4.out)
      clear HC4
      go_wp2_with fail
      refine PK.out.mono ?_
      rintro e w5 ⟨x, rfl, x0, x1, hc5, hu5⟩
      obtain ⟨k, rfl⟩ := Int.eq_ofNat_of_zero_le x0
      have hk : k < rs.length := by omega
      have hk' : (k : Int) < (rs.length : Int) := by omega
      have HO5 := Lib.hid (own_upd HO4.out hu5 hpw)
      have hb5 : Below w.heap.size w w5 := hb4.trans (hu5.below (Nat.le_refl _) hs4)
      have hs5 := hb5.size
      have hz5 := hu5.size
      have hl5 := hc5.lt
      have AM := Lib.hid (among w.heap.size w.heap.size (0 + 100 + 2 + 2) (some ⟨w5.heap.size, 0, none⟩) 6 6 [55296, 56320, 57343, 65536, -1, 97] (w5.heap.size + 1) _ (by omega) (by omega) (by omega) (lit_rd w5 #[.int .i64 55296, .int .i64 56320, .int .i64 57343, .int .i64 65536, .int .i64 (-1), .int .i64 97] 3 [55296, 56320, 57343, 65536, -1, 97] rfl) (by rintro b ⟨rfl⟩; dsimp only; omega) (by simp) (cur_alloc hc5 _))
      clear PK x0 x1 hc5 hu5 HO4 hb4
      go_wp2_with fail
      refine AM.out.mono ?_
      rintro e w6 ⟨z, rfl, _, hc6, hu6⟩
      have o6 := own_upd (own_below HO5.out ((Below.refl w5.heap.size w5).alloc (Nat.le_refl _) _) (Nat.le_refl _)) hu6 hpw
      have hb6 : Below w.heap.size w w6 := (hb5.alloc hs5 _).trans (hu6.below (Nat.le_refl _) (by simp; omega))
      have hcell := o6.cellAt k (by omega)
      have hll : k < (ints rs).length := by simp [ints]; omega
      rw [List.getElem?_eq_getElem hll] at hcell
      have hfz := o6.frozenAt k
      have R := o6.stored k (.int .i64 z)
      rw [show (ints rs).set k (.int .i64 z) = ints (rs.set k z) from by simp [ints, List.map_set]] at R
      have HR := Lib.hid R
      clear AM hc6 hu6 HO5 hb5 R o6
      go_wp2
      go_ret
      exact ⟨_, rs.set k z, rfl, by simpa using hrl, own_base (by simpa using HR.out.1) hs1, hb6.setCell (by dsimp only; omega) _⟩
  · have h0' : (rs.length : Int) ≤ 0 := by omega
    have td : decide ((0 : Int) < (rs.length : Int)) = false := decide_eq_false (by omega)
    clear HC2
    go_wp2
    go_ret
    exact ⟨_, rs, rfl, hrl, own_base HO2.out hs1, hb3⟩
end Go.Proofs.YtgbdieghphbcfabDoor.Draw3
