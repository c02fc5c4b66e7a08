/-
  The drawing functions of chapter 2: each returns, with a text or numbers in a known range, and changes nothing that was in memory.
-/
import Derived.Test.YtehmlkcnhccjmabDoorCur
import Derived.Test.YtehmlkcnhccjmabDoorEnc
import Derived.Test.YtehmlkcnhccjmabDoorMark
import Derived.Laws.Cover4
namespace Go.Proofs.YtehmlkcnhccjmabDoor.Draw2
open Go.ChangeShapes Go.WideShapes Go.ChangeAt Go.RowKit
open Go.Proofs.YtehmlkcnhccjmabDoor.Mem Go.Proofs.YtehmlkcnhccjmabDoor.Ints Go.Proofs.YtehmlkcnhccjmabDoor.Cur Go.Proofs.YtehmlkcnhccjmabDoor.Rune Go.Proofs.YtehmlkcnhccjmabDoor.Enc
set_option linter.unusedVariables false

theorem own_upd {w w1 : World} {p base e size n : Nat} {v : Value} {xs : List Value} (h : w.ownsRow base e size v n xs) (hu : Upd p w w1) (hp : p < base) : w1.ownsRow base e size v n xs := by
  refine ⟨h.1, ?_⟩
  rcases h.2 with h0 | ⟨g, cap, cur, h1, h2, h3, h4⟩
  · exact .inl h0
  · exact .inr ⟨g, cap, cur, h1, h2, (hu.block g (Array.getElem?_eq_some_iff.1 h3).1 (by omega)).trans h3, h4⟩
theorem upd_grown {p : Nat} {a w w' : World} {row : Option Nat} (h : Upd p a w) (hg : w.grownBy w' row) (hr : ∀ k, row = some k → a.heap.size ≤ k) : Upd p a w' :=
  ⟨hg.os.trans h.os, hg.tape.trans h.tape, hg.output.trans h.output, Nat.le_trans h.size hg.size, fun k hk hp => (hg.block k (Nat.lt_of_lt_of_le hk h.size) (fun e => by have := hr k e.symm; omega)).trans (h.block k hk hp)⟩
theorem upd_alloc {p : Nat} {a w : World} (h : Upd p a w) (o : Obj) : Upd p a (w.alloc o) :=
  h.trans (Upd.of_below ((Below.refl _ w).alloc (Nat.le_refl _) o) (Nat.le_refl _))
theorem upd_set {p : Nat} {a w : World} (h : Upd p a w) {b i : Nat} (hb : a.heap.size ≤ b) (u : Value) : Upd p a (w.setCell ⟨b, i, none⟩ u) :=
  ⟨h.os, h.tape, h.output, by simpa [World.setCell] using h.size, fun k hk hp => (Below.heap_setCell w ⟨b, i, none⟩ u k (by dsimp only; omega)).trans (h.block k hk hp)⟩
theorem cur_grown {w w' : World} {p B K : Nat} {row : Option Nat} (h : Cur w p B K) (hg : w.grownBy w' row) (hr : ∀ k, row = some k → p < k) : Cur w' p B K :=
  h.below (B' := p + 1) ⟨hg.os, hg.tape, hg.output, hg.size, fun k hk => hg.block k (by have := h.lt; omega) (fun e => by have := hr k e.symm; omega)⟩ (by omega)
theorem cur_alloc {w : World} {p B K : Nat} (h : Cur w p B K) (o : Obj) : Cur (w.alloc o) p B K := h.below ((Below.refl _ w).alloc (Nat.le_refl _) o) h.lt
theorem cur_bel {w w' : World} {p B K : Nat} (h : Cur w p B K) (hb : Below w.heap.size w w') : Cur w' p B K := h.below hb h.lt
theorem upd_bel {p : Nat} {a w w' : World} (h : Upd p a w) (hb : Below w.heap.size w w') : Upd p a w' := h.trans (Upd.of_below hb (Nat.le_refl _))
def rl : List Int := [0, 65, 97, 122, 127, 128, 233, 2047, 2048, 8364, 55295, 57344, 65533, 65535, 65536, 128512, 1114111]
theorem rl_good : ∀ z ∈ rl, goodR z = true := by decide
theorem rune2 (p B K : Nat) (w : World) (hK : K ≤ 950000) (hc : Cur w p B K) :
    Calls Tryd.prog 91 #[.pointer (some ⟨p, 0, none⟩)] w fun e w' => ∃ z : Int, e = .returned (.int .i64 z) ∧ goodR z = true ∧ Cur w' p B (K + 2) ∧ Upd p w w' := by
  have hpw := hc.lt
  go_enter Tryd.func91, Tryd.ntmps91
  go_wp2_with fail
  refine (among p B K (some ⟨w.heap.size, 0, none⟩) 17 17 rl (w.heap.size + 1) _ (by omega) (by omega) (by omega) (lit_rd w _ 3 rl rfl) (by rintro b ⟨rfl⟩; dsimp only; omega) (by simp) (cur_alloc hc _)).mono ?_
  rintro e w1 ⟨z, rfl, hz, hc1, hu1⟩
  have hg := Lib.hid (rl_good z hz)
  have HC := Lib.hid hc1
  have hu := (upd_alloc (Upd.refl p w) _).trans hu1
  clear hz hc1 hu1
  go_wp2
  go_ret
  exact ⟨z, rfl, hg.out, HC.out, hu⟩
theorem badRune (p B K : Nat) (w : World) (hK : K ≤ 940000) (hc : Cur w p B K) :
    Calls Tryd.prog 95 #[.pointer (some ⟨p, 0, none⟩)] w fun e w' => ∃ z : Int, e = .returned (.int .i64 z) ∧ Cur w' p B (K + 4) ∧ Upd p w w' := by
  have hpw := hc.lt
  go_enter Tryd.func95, Tryd.ntmps95
  go_wp2_with fail
  refine (one p B K 20 w (by omega) (by omega) hc).mono ?_
  rintro e w1 ⟨b, rfl, hc1, hu1⟩
  have z1 := hu1.size
  cases b
  · go_wp2_with fail
    refine (rune2 p B (K + 2) w1 (by omega) hc1).mono ?_
    rintro e w2 ⟨z, rfl, _, hc2, hu2⟩
    have hu := hu1.trans hu2
    have HC := Lib.hid hc2
    clear hc1 hu1 hu2 hc2
    go_wp2
    go_ret
    exact ⟨z, rfl, HC.out, hu⟩
  · go_wp2_with fail
    refine (among p B (K + 2) (some ⟨w1.heap.size, 0, none⟩) 4 4 [-1, 55296, 57343, 1114112] (w1.heap.size + 1) _ (by omega) (by omega) (by omega) (lit_rd w1 _ 3 [-1, 55296, 57343, 1114112] rfl) (by rintro b ⟨rfl⟩; dsimp only; omega) (by simp) (cur_alloc hc1 _)).mono ?_
    rintro e w2 ⟨z, rfl, _, hc2, hu2⟩
    have hu := (upd_alloc hu1 _).trans hu2
    have HC := Lib.hid hc2
    clear hc1 hu1 hu2 hc2
    go_wp2
    go_ret
    exact ⟨z, rfl, HC.out, hu⟩
theorem made_ints0 (n : Nat) : (madeCells (Value.int .i64 0).cells (n * 1)).toList = ints (List.replicate n 0) := by
  have : (Value.int IntKind.i64 0).cells = #[.int .i64 0] := rfl
  rw [this, toList_madeCells_one, Nat.mul_one]; simp [ints]
theorem infoB : (Tryd.prog.info? 5).map (fun i => (i.zero, i.size, i.bytes)) = some (some (.int .u8 0), 1, 1) := by kernel_rfl
theorem made_zero0 (n : Nat) : (madeCells (Value.int .u8 0).cells (n * 1)).toList = (List.replicate n (0 : UInt8)).map byteV := by
  have : (Value.int IntKind.u8 0).cells = #[.int .u8 0] := rfl
  rw [this, toList_madeCells_one, Nat.mul_one]; simp [byteV]
set_option maxRecDepth 100000 in
set_option maxHeartbeats 2000000 in
theorem runes (p B K : Nat) (w : World) (hK : K ≤ 900000) (hc : Cur w p B K) :
    Calls Tryd.prog 80 #[.pointer (some ⟨p, 0, none⟩)] w fun e w' => ∃ (v : Value) (zs : List Int), e = .returned v ∧ zs.length ≤ 61 ∧ w'.ownsRow w.heap.size 3 1 v zs.length (ints zs) ∧ Cur w' p B (K + 100) ∧ Upd p w w' := by
  have hpw := hc.lt
  obtain ⟨i0, hi, hz0, hz1, hz2⟩ := info_parts infoI
  go_enter Tryd.func80, Tryd.ntmps80
  go_wp2_with fail
  refine (pick p B K 7 w (by omega) (by omega) hc).mono ?_
  rintro e w1 ⟨x, rfl, x0, x1, hc1, hu1⟩
  obtain ⟨n, rfl⟩ := Int.eq_ofNat_of_zero_le x0
  have hn : n ≤ 6 := by omega
  clear x0 x1 hc
  go_wp2
  go_loopw [3, 4] (fun v i wr => ∃ (j : Nat) (zs : List Int), zs.length + j ≤ 6 ∧ i = .int .i64 j ∧ wr.ownsRow w.heap.size 3 1 v zs.length (ints zs) ∧ Cur wr p B (K + 2 + 4 * zs.length) ∧ Upd p w wr)
    (fun _ i _ => (intOf i).toNat)
  case atStart => exact ⟨n, [], by simp; omega, rfl, World.ownsRow_nil _ _ _ _, hc1, hu1⟩
  case round =>
    obtain ⟨j, zs, hj, rfl, hown, hcr, hur⟩ := hrel
    clear hc1 hu1
    have hsz := hur.size
    by_cases hpos : 0 < j
    · have hpos' : (0 : Int) < (j : Int) := by omega
      have HO := Lib.hid hown
      have BR := Lib.hid (badRune p B (K + 2 + 4 * zs.length) wr (by omega) hcr)
      clear hown hcr
      go_wp2_with fail
      refine BR.out.mono ?_
      rintro e w2 ⟨z, rfl, hc2, hu2⟩
      have HO2 := Lib.hid (own_upd HO.out hu2 hpw)
      have HC2 := Lib.hid hc2
      have hu3 := hur.trans hu2
      have hsz2 := hu3.size
      clear HO BR hc2 hu2 hur
      go_wp2_with (at_builtin; refine wpList_append_lies _ rfl _ _ _ rfl w.heap.size 3 i0 _ 1 8 Tryd.underlying22 hi hz0 hz1 hz2 rfl (by omega) _ zs.length _ rfl (HO2.out.alloc _) ⟨w2.heap.size, 0, none⟩ 1 1 _ rfl rfl (World.news_of_block (heap_alloc_new w2 _)) (by simp [Value.oneCell']) (by omega) (by unfold maxLen; omega) (by omega) (by simp; omega) (w2.heap.size + 1) (by simp) ?_; intro g1 cap1 w4 hown1 hgrow hat hlt1)
      have hge : ∀ k, _ = some k → w.heap.size ≤ k := fun g hg => ownBlock_ge HO2.out g hg
      have hu4 := upd_grown (upd_alloc hu3 _) hgrow hge
      have HC4 := Lib.hid ((cur_grown (cur_alloc HC2.out _) hgrow (fun g hg => Nat.lt_of_lt_of_le hpw (hge g hg))).mono (show K + 2 + 4 * zs.length + 4 ≤ K + 2 + 4 * (zs ++ [z]).length by simp; omega))
      have HO4 := Lib.hid (own_congr hown1 (show zs.length + 1 = (zs ++ [z]).length by simp) (show ints zs ++ [.int .i64 z] = ints (zs ++ [z]) by simp [ints]))
      clear hown1 hgrow hat hlt1 hge
      obtain ⟨j', rfl⟩ : ∃ j', j = j' + 1 := ⟨j - 1, by omega⟩
      go_wp2
      go_roundw
      case rel => exact ⟨j', zs ++ [z], by simp; omega, by go_num, HO4.out, HC4.out, hu4⟩
      case measure => simp [intOf]
    · obtain rfl : j = 0 := by omega
      have HO := Lib.hid hown
      have ON := Lib.hid (one p B (K + 2 + 4 * zs.length) 30 wr (by omega) (by omega) hcr)
      clear hown hcr
      go_wp2_with fail
      refine ON.out.mono ?_
      rintro e w2 ⟨b, rfl, hc2, hu2⟩
      have HO2 := Lib.hid (own_upd HO.out hu2 hpw)
      have hu3 := hur.trans hu2
      have hsz2 := hu3.size
      have HC2 := Lib.hid hc2
      clear HO ON hc2 hu2 hur
      cases b
      · go_wp2
        go_ret
        exact ⟨_, zs, rfl, by omega, HO2.out, HC2.out.mono (by omega), hu3⟩
      · have PK := Lib.hid (pick p B (K + 2 + 4 * zs.length + 2) 3 w2 (by omega) (by omega) HC2.out)
        clear HO2 HC2
        go_wp2_with fail
        refine PK.out.mono ?_
        rintro e w4 ⟨x, rfl, x0, x1, hc4, hu4⟩
        obtain ⟨m, rfl⟩ := Int.eq_ofNat_of_zero_le x0
        have hm : m ≤ 2 := by omega
        have hu5 := hu3.trans hu4
        have hsz5 := hu5.size
        have HC4 := Lib.hid hc4
        clear x0 x1 hc4 hu4 hu3
        go_wp2_with (at_make; refine wpList_make_full _ rfl _ _ 22 rfl w.heap.size 3 i0 _ 1 Tryd.underlying22 hi hz0 hz1 .i64 .i64 _ _ (59 + m) rfl rfl (by omega) (by omega) (by rw [hz2]; omega) (by unfold maxLen; omega) (by omega) ?_; intro w6 hown6 hgrow6)
        rw [made_ints0] at hown6
        have HC6 := Lib.hid (cur_grown HC4.out hgrow6 (fun k hk => by cases hk))
        have hu6 := upd_grown hu5 hgrow6 (fun k hk => by cases hk)
        have HO6 := Lib.hid hown6
        clear hgrow6 hown6 HC4
        go_wp2
        go_ret
        exact ⟨_, List.replicate (59 + m) 0, rfl, by simp; omega, by simpa using HO6.out, HC6.out.mono (by omega), hu6⟩
set_option maxRecDepth 100000 in
set_option maxHeartbeats 2000000 in
theorem spoilt (p B K : Nat) (t wi : ByteArray) (w : World) (hK : K ≤ 900000) (ht : t.size ≤ 1000) (hw0 : 0 < wi.size) (hw : wi.size ≤ 100) (hc : Cur w p B K) :
    Calls Tryd.prog 92 #[.pointer (some ⟨p, 0, none⟩), .string t, .string wi] w fun e w' => ∃ u : ByteArray, e = .returned (.string u) ∧ u.size ≤ t.size + 2 ∧ Cur w' p B (K + 100) ∧ Upd p w w' := by
  have hpw := hc.lt
  go_enter Tryd.func92, Tryd.ntmps92
  go_wp2_with fail
  refine (pick p B K 3 w (by omega) (by omega) hc).mono ?_
  rintro e w1 ⟨x, rfl, x0, x1, hc1, hu1⟩
  obtain ⟨n, rfl⟩ := Int.eq_ofNat_of_zero_le x0
  have hn : n ≤ 2 := by omega
  clear x0 x1 hc
  go_wp2
  go_loopw [1, 7] (fun v i wr => ∃ (j : Nat) (u : ByteArray), j ≤ 2 ∧ i = .int .i64 j ∧ v = .string u ∧ u.size + j ≤ t.size + 2 ∧ Cur wr p B (K + 2 + 10 * (2 - j)) ∧ Upd p w wr)
    (fun _ i _ => (intOf i).toNat)
  case atStart => exact ⟨n, t, hn, rfl, rfl, by omega, hc1.mono (by omega), hu1⟩
  case round =>
    obtain ⟨j, u, hj, rfl, rfl, hsz, hcr, hur⟩ := hrel
    clear hc1 hu1
    by_cases hpos : 0 < j
    · have hpos' : (0 : Int) < (j : Int) := by omega
      by_cases hu0 : 0 < u.size
      · have hu0' : (0 : Int) < (u.size : Int) := by omega
        obtain ⟨j', rfl⟩ : ∃ j', j = j' + 1 := ⟨j - 1, by omega⟩
        have PK := Lib.hid (pick p B (K + 2 + 10 * (2 - (j' + 1))) u.size wr (by omega) (by omega) hcr)
        clear hcr
        go_wp2_with fail
        refine PK.out.mono ?_
        rintro e w2 ⟨x, rfl, x0, x1, hc2, hu2⟩
        obtain ⟨k, rfl⟩ := Int.eq_ofNat_of_zero_le x0
        have hk : k < u.size := by omega
        have hk' : (k : Int) < (u.size : Int) := by omega
        have hk2 : (k : Int) ≤ (u.size : Int) := by omega
        have hk3 : (k : Int) + 1 ≤ (u.size : Int) := by omega
        have hu3 := hur.trans hu2
        have PK2 := Lib.hid (pick p B (K + 2 + 10 * (2 - (j' + 1)) + 2) wi.size w2 (by omega) (by omega) hc2)
        clear PK x0 x1 hc2 hu2 hur
        go_wp2_with fail
        refine PK2.out.mono ?_
        rintro e w4 ⟨y, rfl, y0, y1, hc4, hu4⟩
        obtain ⟨m, rfl⟩ := Int.eq_ofNat_of_zero_le y0
        have hm : m < wi.size := by omega
        have hm' : (m : Int) < (wi.size : Int) := by omega
        have hu5 := hu3.trans hu4
        have CV := lit_str w4 #[.int .u8 ((wi[m]).toNat : Int)] 5 1 [wi[m]] _ rfl rfl rfl
        obtain ⟨b1, hb1⟩ : ∃ b1 : ByteArray, b1 = ⟨[wi[m]].toArray⟩ := ⟨_, rfl⟩
        have hs1 : b1.size = 1 := by rw [hb1]; rfl
        rw [← hb1] at CV
        have PK3 := Lib.hid (pick p B (K + 2 + 10 * (2 - (j' + 1)) + 2 + 2) 3 _ (by omega) (by omega) (cur_alloc hc4 (.cells #[.int .u8 ((wi[m]).toNat : Int)] 5)))
        have hu6 := upd_alloc hu5 (.cells #[.int .u8 ((wi[m]).toNat : Int)] 5)
        clear PK2 y0 y1 hc4 hu4 hu3 hu5 hb1
        go_wp2_with fail
        refine PK3.out.mono ?_
        rintro e w7 ⟨z, rfl, z0, z1, hc7, hu7⟩
        have hu8 := hu6.trans hu7
        have HC := Lib.hid (hc7.mono (show K + 2 + 10 * (2 - (j' + 1)) + 2 + 2 + 2 ≤ K + 2 + 10 * (2 - j') by omega))
        clear PK3 hc7 hu6 hu7 CV
        have e1 : (u.extract 0 k).size = k := by rw [ByteArray.size_extract]; omega
        have e2 : (u.extract k u.size).size = u.size - k := by rw [ByteArray.size_extract]; omega
        have e3 : (u.extract (k + 1) u.size).size = u.size - (k + 1) := by rw [ByteArray.size_extract]; omega
        have ww : IntKind.i64.wrap ((k : Int) + 1) = (k : Int) + 1 := by rw [IntKind.wrap_i64]; omega
        have a1 : (u.extract 0 k ++ b1).size = k + 1 := by rw [ByteArray.size_append, e1, hs1]
        by_cases c0 : z = 0
        · subst c0
          have a2 : (u.extract 0 k ++ b1 ++ u.extract k u.size).size = u.size + 1 := by rw [ByteArray.size_append, a1, e2]; omega
          go_wp2_with fail
          go_quiet (fail)
          go_wp2
          go_roundw
          case rel => exact ⟨j', _, by omega, by go_num, rfl, by omega, HC.out.alike rfl, hu8.drewN _⟩
          case measure => simp [intOf]
        by_cases c1 : z = 1
        · subst c1
          have a2 : (u.extract 0 k ++ b1 ++ u.extract (k + 1) u.size).size = u.size := by rw [ByteArray.size_append, a1, e3]; omega
          go_wp2_with fail
          go_quiet (fail)
          go_wp2
          go_roundw
          case rel => exact ⟨j', _, by omega, by go_num, rfl, by omega, HC.out.alike rfl, hu8.drewN _⟩
          case measure => simp [intOf]
        · have c2 : z = 2 := by omega
          subst c2
          have a2 : (u.extract 0 k ++ u.extract (k + 1) u.size).size = u.size - 1 := by rw [ByteArray.size_append, e1, e3]; omega
          go_wp2_with fail
          go_quiet (fail)
          go_wp2
          go_roundw
          case rel => exact ⟨j', _, by omega, by go_num, rfl, by omega, HC.out.alike rfl, hu8.drewN _⟩
          case measure => simp [intOf]
      · have hu0' : (u.size : Int) ≤ 0 := by omega
        have td : decide ((0 : Int) < (u.size : Int)) = false := decide_eq_false (by omega)
        have HC := Lib.hid hcr
        clear hcr
        go_wp2
        go_ret
        exact ⟨u, rfl, by omega, HC.out.mono (by omega), hur⟩
    · obtain rfl : j = 0 := by omega
      have HC := Lib.hid hcr
      clear hcr
      go_wp2
      go_ret
      exact ⟨u, rfl, by omega, HC.out.mono (by omega), hur⟩
set_option maxRecDepth 100000 in
set_option maxHeartbeats 2000000 in
theorem runeText (p B K : Nat) (w : World) (hK : K ≤ 800000) (hc : Cur w p B K) :
    Calls Tryd.prog 74 #[.pointer (some ⟨p, 0, none⟩)] w fun e w' => ∃ t : ByteArray, e = .returned (.string t) ∧ t.size ≤ 1000 ∧ Cur w' p B (K + 300) ∧ Upd p w w' := by
  have hpw := hc.lt
  obtain ⟨i0, hi, hz0, hz1, hz2⟩ := info_parts infoB
  have L := Lib.hid l2Bytes
  go_enter Tryd.func74, Tryd.ntmps74
  go_wp2_with fail
  refine (pick p B K 7 w (by omega) (by omega) hc).mono ?_
  rintro e w1 ⟨x, rfl, x0, x1, hc1, hu1⟩
  obtain ⟨n, rfl⟩ := Int.eq_ofNat_of_zero_le x0
  have hn : n ≤ 6 := by omega
  clear x0 x1 hc
  go_wp2
  go_loopw [3, 4] (fun v i wr => ∃ (j : Nat) (u : ByteArray), j ≤ 6 ∧ i = .int .i64 j ∧ v = .string u ∧ u.size + 4 * j ≤ 24 ∧ Cur wr p B (K + 2 + 2 * (6 - j)) ∧ Upd p w wr)
    (fun _ i _ => (intOf i).toNat)
  case atStart => exact ⟨n, ⟨#[]⟩, hn, rfl, rfl, by show 0 + 4 * n ≤ 24; omega, hc1.mono (by omega), hu1⟩
  case round =>
    obtain ⟨j, u, hj, rfl, rfl, hsz, hcr, hur⟩ := hrel
    clear hc1 hu1
    by_cases hpos : 0 < j
    · have hpos' : (0 : Int) < (j : Int) := by omega
      obtain ⟨j', rfl⟩ : ∃ j', j = j' + 1 := ⟨j - 1, by omega⟩
      have R2 := Lib.hid (rune2 p B (K + 2 + 2 * (6 - (j' + 1))) wr (by omega) hcr)
      clear hcr
      go_wp2_with fail
      refine R2.out.mono ?_
      rintro e w2 ⟨z, rfl, hg, hc2, hu2⟩
      have LB := Lib.hid (L.out z w2 hg)
      have hes := encode_size_le z
      have hu3 := hur.trans hu2
      have HC := Lib.hid (hc2.mono (show K + 2 + 2 * (6 - (j' + 1)) + 2 ≤ K + 2 + 2 * (6 - j') by omega))
      clear R2 hg hc2 hu2 hur
      generalize Utf8.encode z = eb at *
      have a2 : (u ++ eb).size = u.size + eb.size := ByteArray.size_append
      go_wp2_with fail
      refine LB.out.mono ?_
      rintro e w3 ⟨rfl, hb3⟩
      have HC3 := Lib.hid (cur_bel HC.out hb3)
      have hu4 := upd_bel hu3 hb3
      clear LB hb3 hu3 HC
      go_wp2
      go_roundw
      case rel => exact ⟨j', _, by omega, by go_num, rfl, by omega, HC3.out, hu4⟩
      case measure => simp [intOf]
    · obtain rfl : j = 0 := by omega
      have ON := Lib.hid (one p B (K + 2 + 2 * (6 - 0)) 3 wr (by omega) (by omega) hcr)
      clear hcr
      have SP := Lib.hid (fun W K' (hK' : K' ≤ 900000) (hc : Cur W p B K') => spoilt p B K' u ⟨#[97, 128, 195, 240, 237]⟩ W hK' (by omega) (by decide) (by decide) hc)
      go_wp2_with fail
      refine ON.out.mono ?_
      rintro e w2 ⟨b, rfl, hc2, hu2⟩
      have hu3 := hur.trans hu2
      have HC2 := Lib.hid hc2
      clear ON hu2 hur hc2
      cases b
      · have ON2 := Lib.hid (one p B (K + 2 + 2 * (6 - 0) + 2) 30 w2 (by omega) (by omega) HC2.out)
        clear HC2 SP
        go_wp2_with fail
        refine ON2.out.mono ?_
        rintro e w4 ⟨b, rfl, hc4, hu4⟩
        have hu5 := hu3.trans hu4
        have hsz5 := hu5.size
        have HC4 := Lib.hid hc4
        clear ON2 hc4 hu4 hu3
        cases b
        · go_wp2
          go_ret
          exact ⟨u, rfl, by omega, HC4.out.mono (by omega), hu5⟩
        · have AM := Lib.hid (among p B (K + 2 + 2 * (6 - 0) + 2 + 2) (some ⟨w4.heap.size, 0, none⟩) 4 4 [60, 61, 240, 241] (w4.heap.size + 1) _ (by omega) (by omega) (by omega) (lit_rd w4 #[.int .i64 60, .int .i64 61, .int .i64 240, .int .i64 241] 3 [60, 61, 240, 241] rfl) (by rintro b ⟨rfl⟩; dsimp only; omega) (by simp) (cur_alloc HC4.out _))
          have hu6 := upd_alloc hu5 (.cells #[.int .i64 60, .int .i64 61, .int .i64 240, .int .i64 241] 3)
          clear HC4
          go_wp2_with fail
          refine AM.out.mono ?_
          rintro e w7 ⟨z, rfl, hz, hc7, hu7⟩
          have hz241 : 0 ≤ z ∧ z ≤ 241 := by simp at hz; omega
          obtain ⟨m, rfl⟩ := Int.eq_ofNat_of_zero_le hz241.1
          have hm : m ≤ 241 := by omega
          have hu8 := hu6.trans hu7
          have hsz8 := hu8.size
          have HC7 := Lib.hid hc7
          clear AM hz hz241 hc7 hu7 hu6 hu5
          go_wp2_with (at_make; refine wpList_make_full _ rfl _ _ 38 rfl w7.heap.size 5 i0 _ 1 Tryd.underlying38 hi hz0 hz1 .i64 .i64 _ _ m rfl rfl (by omega) (by omega) (by rw [hz2]; omega) (by unfold maxLen; omega) (by simp) ?_; intro w9 hown9 hgrow9; rw [made_zero0] at hown9; have hconv := run_own_string (P := Tryd.prog) w9 38 9 5 _ _ _ _ Tryd.underlying38 Tryd.underlying5 Tryd.underlying9 hown9; clear hown9)
          have HC9 := Lib.hid (cur_grown HC7.out hgrow9 (fun k hk => by cases hk))
          have hu9 := upd_grown hu8 hgrow9 (fun k hk => by cases hk)
          clear hgrow9 HC7 hu8 hconv
          go_wp2
          go_ret
          exact ⟨_, rfl, by rw [mk_size]; simp; omega, HC9.out.mono (by omega), hu9⟩
      · have SP1 := Lib.hid (SP.out w2 (K + 2 + 2 * (6 - 0) + 2) (by omega) HC2.out)
        clear HC2 SP
        go_wp2_with fail
        refine SP1.out.mono ?_
        rintro e w3 ⟨u2, rfl, hs2, hc3, hu4⟩
        have hu5 := hu3.trans hu4
        have ON2 := Lib.hid (one p B (K + 2 + 2 * (6 - 0) + 2 + 100) 30 w3 (by omega) (by omega) hc3)
        clear SP1 hc3 hu4 hu3
        go_wp2_with fail
        refine ON2.out.mono ?_
        rintro e w4 ⟨b, rfl, hc4, hu4⟩
        have hu5 := hu5.trans hu4
        have hsz5 := hu5.size
        have HC4 := Lib.hid hc4
        clear ON2 hc4 hu4
        cases b
        · go_wp2
          go_ret
          exact ⟨u2, rfl, by omega, HC4.out.mono (by omega), hu5⟩
        · have AM := Lib.hid (among p B (K + 2 + 2 * (6 - 0) + 2 + 100 + 2) (some ⟨w4.heap.size, 0, none⟩) 4 4 [60, 61, 240, 241] (w4.heap.size + 1) _ (by omega) (by omega) (by omega) (lit_rd w4 #[.int .i64 60, .int .i64 61, .int .i64 240, .int .i64 241] 3 [60, 61, 240, 241] rfl) (by rintro b ⟨rfl⟩; dsimp only; omega) (by simp) (cur_alloc HC4.out _))
          have hu6 := upd_alloc hu5 (.cells #[.int .i64 60, .int .i64 61, .int .i64 240, .int .i64 241] 3)
          clear HC4
          go_wp2_with fail
          refine AM.out.mono ?_
          rintro e w7 ⟨z, rfl, hz, hc7, hu7⟩
          have hz241 : 0 ≤ z ∧ z ≤ 241 := by simp at hz; omega
          obtain ⟨m, rfl⟩ := Int.eq_ofNat_of_zero_le hz241.1
          have hm : m ≤ 241 := by omega
          have hu8 := hu6.trans hu7
          have hsz8 := hu8.size
          have HC7 := Lib.hid hc7
          clear AM hz hz241 hc7 hu7 hu6 hu5
          go_wp2_with (at_make; refine wpList_make_full _ rfl _ _ 38 rfl w7.heap.size 5 i0 _ 1 Tryd.underlying38 hi hz0 hz1 .i64 .i64 _ _ m rfl rfl (by omega) (by omega) (by rw [hz2]; omega) (by unfold maxLen; omega) (by simp) ?_; intro w9 hown9 hgrow9; rw [made_zero0] at hown9; have hconv := run_own_string (P := Tryd.prog) w9 38 9 5 _ _ _ _ Tryd.underlying38 Tryd.underlying5 Tryd.underlying9 hown9; clear hown9)
          have HC9 := Lib.hid (cur_grown HC7.out hgrow9 (fun k hk => by cases hk))
          have hu9 := upd_grown hu8 hgrow9 (fun k hk => by cases hk)
          clear hgrow9 HC7 hu8 hconv
          go_wp2
          go_ret
          exact ⟨_, rfl, by rw [mk_size]; simp; omega, HC9.out.mono (by omega), hu9⟩
end Go.Proofs.YtehmlkcnhccjmabDoor.Draw2
