/-
  The walk of the law FnPairs: for every two slices of bytes it returns true and changes nothing that was in memory. The program's side takes that the library's two tables of UTF-8 are as its text lays them.
-/
import Derived.Test.YtgbdieghphbcfabDoorPairLaws
import Derived.Test.YtgbdieghphbcfabDoorDraw3
namespace Go.Proofs.YtgbdieghphbcfabDoor.LawFnPairs
open Go.ChangeShapes Go.WideShapes Go.ChangeAt Go.RowKit
open Go.Proofs.YtgbdieghphbcfabDoor.Mem Go.Proofs.YtgbdieghphbcfabDoor.Ints Go.Proofs.YtgbdieghphbcfabDoor.Mark Go.Proofs.YtgbdieghphbcfabDoor.Pairs Go.Proofs.YtgbdieghphbcfabDoor.OfPairs Go.Proofs.YtgbdieghphbcfabDoor.Runes Go.Proofs.YtgbdieghphbcfabDoor.Less Go.Proofs.YtgbdieghphbcfabDoor.PairLaws Go.Proofs.YtgbdieghphbcfabDoor.Draw3
set_option linter.unusedVariables false

theorem own_cap {w : World} {base e n c : Nat} {A : Option Addr} {xs : List Value} (h : w.ownsRow base e 1 (.slice A n c) n xs) : n ≤ c ∧ c ≤ 9223372036854775807 := by
  rcases h.2 with ⟨h0, h1⟩ | ⟨g, cap, cur, h1, h2, h3, h4, h5, _⟩
  · obtain ⟨_, _, rfl⟩ : A = none ∧ n = 0 ∧ c = 0 := by simpa using h0
    omega
  · obtain ⟨rfl, rfl⟩ : A = some ⟨g, 0, none⟩ ∧ c = cap := by simpa using h1
    unfold maxLen at h5
    omega
theorem lessV_law (a b : ByteArray) : ∃ ok X Y : Bool, lessV a b = .tuple #[.bool X, .bool ok] ∧ lessV b a = .tuple #[.bool Y, .bool ok] ∧ (ok = true → (X = true → Y = false) ∧ (X = false → Y = false → a = b)) := by
  unfold lessV
  rw [Bool.and_comm (okR b) (okR a)]
  by_cases h : (okR a && okR b) = true
  · rw [if_pos h, if_pos h]
    refine ⟨true, _, _, rfl, rfl, fun _ => ⟨fun h1 => ?_, fun h1 h2 => ?_⟩⟩
    · have h1 := of_decide_eq_true h1
      rw [cmpL_neg]
      exact decide_eq_false (by omega)
    · have h1 := of_decide_eq_false h1
      have h2 := of_decide_eq_false h2
      rw [cmpL_neg] at h2
      obtain ⟨ha, hb⟩ := Bool.and_eq_true_iff.1 h
      exact units_inj ha hb (cmpL_zero _ _ (by omega))
  · rw [if_neg h, if_neg h]
    exact ⟨false, false, false, rfl, rfl, fun h => by cases h⟩
set_option maxHeartbeats 4000000 in
theorem walk (A : Option Addr) (n c : Nat) (cs : List UInt8) (D : Option Addr) (m d : Nat) (ds : List UInt8) (hn : n ≤ maxLen) (hm : m ≤ maxLen) (w : World) (hT : Lib.Utf8Tabs 0 1 w) (hx : Rd w w.heap.size 1 A n (Cur.bytes cs)) (hy : Rd w w.heap.size 1 D m (Cur.bytes ds)) :
    Calls Tryd.prog 7 #[.slice A n c, .slice D m d] w fun e w' => e = .returned (.bool true) ∧ Below w.heap.size w w' := by
  by_cases hbig : 1048576 < wrap64 ((n : Int) + (m : Int))
  · clear hT
    go_enter Tryd.func7, Tryd.ntmps7
    go_wp2
    go_ret
    exact ⟨rfl, Below.refl _ _⟩
  have hbig' : decide (1048576 < wrap64 ((n : Int) + (m : Int))) = false := by simpa using hbig
  have DP := Lib.hid (drawPairsOf A n c cs w hn hx)
  have DO := Lib.hid (fun W (h : Below w.heap.size w W) => drawOfPairs D m d ds W hm ((hy.below h (Nat.le_refl _)).mono h.size))
  have DL := Lib.hid (fun W (h : Below w.heap.size w W) => drawLessPairs D m d ds W hm ((hy.below h (Nat.le_refl _)).mono h.size))
  have TT := Lib.hid (fun W (h : Below w.heap.size w W) => Utf8Tabs_below hT h)
  have SI := Lib.hid sameInts
  have IP := Lib.hid implPairs
  have SP := Lib.hid specPairs
  have IO := Lib.hid implOf
  have SO := Lib.hid specOf
  have IL := Lib.hid implLess
  have SL := Lib.hid specLess
  clear hx hy hT
  go_enter Tryd.func7, Tryd.ntmps7
  go_wp2_with fail
  refine DP.out.mono ?_
  rintro e w1 ⟨v1, zs, rfl, hz61, o1, B1⟩
  obtain ⟨A1, c1, rfl⟩ := own_shape o1
  have R1 := Lib.hid (Rd.own o1)
  have s1 := B1.size
  clear o1 DP hbig hbig'
  go_wp2_with fail
  with_reducible refine (IP.out A1 zs.length c1 zs w1.heap.size w1 (by omega) (Nat.le_refl _) R1.out).mono ?_
  rintro e w2 ⟨v2, rfl, o2, b2⟩
  obtain ⟨A2, c2, rfl⟩ := own_shape o2
  have s2 := b2.size
  have B2 := B1.trans (b2.mono s1)
  have R1b := Lib.hid (R1.out.below b2 (Nat.le_refl _))
  have K2 := own_cap o2
  have R2 := Lib.hid (Rd.own o2)
  clear o2 b2 R1
  go_wp2_with fail
  with_reducible refine (SP.out A1 zs.length c1 zs w1.heap.size w2 (by omega) s2 R1b.out).mono ?_
  rintro e w3 ⟨v3, rfl, o3, b3⟩
  obtain ⟨A3, c3, rfl⟩ := own_shape o3
  have s3 := b3.size
  have B3 := B2.trans (b3.mono (by omega))
  have R1c := Lib.hid (R1b.out.below b3 s2)
  have R2c := Lib.hid (R2.out.below b3 (Nat.le_refl _))
  have R3 := Lib.hid (Rd.own o3)
  have hpl := resP_len zs
  have hok : okL zs = true → resP zs = pairs zs ∧ resO (pairs zs) = zs ∧ okO (pairs zs) = true := fun h => ⟨resP_yes h, back_pairs h⟩
  have hge := pairs_ge zs
  have HB := Lib.hid (fun (b : Bool) (h : okL zs = b) => h)
  clear o3 b3 R1b R2 B1 B2 SP
  have Q1 := Lib.hid (SI.out A2 A3 (resP zs).length (resP zs).length c2 c3 (resP zs) (resP zs) w2.heap.size w3.heap.size w3 (by omega) (by unfold maxLen; omega) R2c.out R3.out)
  rw [show decide (resP zs = resP zs) = true from decide_eq_true rfl] at Q1
  rcases hk : okL zs with _ | _
  · clear hok HB hge
    go_wp2_with fail
    with_reducible refine Q1.out.mono ?_
    rintro e w' ⟨rfl, q, rfl⟩
    have B5 := below_drewN B3 q
    generalize w3.drewN q = W5 at *
    clear B3 R1c R2c R3 Q1 hk
    go_wp2_with fail
    with_reducible refine (DO.out W5 B5).mono ?_
    rintro e w6 ⟨v6, ms, rfl, hms, o6, b6⟩
    obtain ⟨A6, c6, rfl⟩ := own_shape o6
    have s5 := B5.size
    have s6 := b6.size
    have B6 := B5.trans (b6.mono s5)
    have K6 := own_cap o6
    have R6 := Lib.hid (Rd.own o6)
    clear o6 b6 B5
    go_wp2_with fail
    with_reducible refine (IO.out A6 ms.length c6 ms w6.heap.size w6 (by omega) K6.1 K6.2 (Nat.le_refl _) R6.out).mono ?_
    rintro e w7 ⟨v7, rfl, o7, b7⟩
    obtain ⟨A7, c7, rfl⟩ := own_shape o7
    have s7 := b7.size
    have B7 := B6.trans (b7.mono (by omega))
    have R6b := Lib.hid (R6.out.below b7 (Nat.le_refl _))
    have R7 := Lib.hid (Rd.own o7)
    clear o7 b7 R6 B6
    go_wp2_with fail
    with_reducible refine (SO.out A6 ms.length c6 ms w6.heap.size w7 (by omega) s7 R6b.out).mono ?_
    rintro e w8 ⟨v8, rfl, o8, b8⟩
    obtain ⟨A8, c8, rfl⟩ := own_shape o8
    have s8 := b8.size
    have B8 := B7.trans (b8.mono (by omega))
    have R6c := Lib.hid (R6b.out.below b8 s7)
    have R7c := Lib.hid (R7.out.below b8 (Nat.le_refl _))
    have R8 := Lib.hid (Rd.own o8)
    have hol := resO_len ms
    clear o8 b8 R6b R7 B7
    have Q2 := Lib.hid (SI.out A7 A8 (resO ms).length (resO ms).length c7 c8 (resO ms) (resO ms) w7.heap.size w8.heap.size w8 (by omega) (by unfold maxLen; omega) R7c.out R8.out)
    rw [show decide (resO ms = resO ms) = true from decide_eq_true rfl] at Q2
    have HA := Lib.hid (fun h => again_pairs (m := ms) h)
    rcases hk2 : okO ms with _ | _
    · go_wp2_with fail
      with_reducible refine Q2.out.mono ?_
      rintro e w' ⟨rfl, q2, rfl⟩
      have B9 := below_drewN B8 q2
      generalize w8.drewN q2 = W9 at *
      clear B8 R6c R7c R8 Q2 HA hk2
      go_wp2_with fail
      with_reducible refine (DL.out W9 B9).mono ?_
      rintro e w10 ⟨a, b, rfl, ha, hb', b10⟩
      have B10 := B9.trans (b10.mono B9.size)
      have ham : a.size ≤ maxLen := by unfold maxLen; omega
      have hbm : b.size ≤ maxLen := by unfold maxLen; omega
      obtain ⟨okk, X, Y, eab, eba, hlaw⟩ := lessV_law a b
      have IAB := Lib.hid (IL.out a b w10 ham hbm (TT.out w10 B10))
      have SAB := Lib.hid (fun W => SL.out a b W ham hbm)
      have IBA := Lib.hid (fun W (h : Below w.heap.size w W) => IL.out b a W hbm ham (TT.out W h))
      rw [eab] at IAB SAB
      rw [eba] at IBA
      have HW := Lib.hid hlaw
      clear eab eba b10 B9 hlaw
      go_wp2_with fail
      with_reducible refine IAB.out.mono ?_
      rintro e w11 ⟨rfl, b11⟩
      have B11 := B10.trans (b11.mono B10.size)
      clear b11 B10 IAB
      go_wp2_with fail
      with_reducible refine (SAB.out w11).mono ?_
      rintro e w12 ⟨rfl, b12⟩
      have B12 := B11.trans (b12.mono B11.size)
      clear b12 B11 SAB
      cases okk
      · cases X
        all_goals
          go_wp2
          go_ret
          exact ⟨rfl, B12⟩
      · cases X
        · cases Y
          · obtain rfl : a = b := (HW.out rfl).2 rfl rfl
            go_wp2_with fail
            with_reducible refine (IBA.out w12 B12).mono ?_
            rintro e w13 ⟨rfl, b13⟩
            have B13 := B12.trans (b13.mono B12.size)
            clear b13 B12
            go_wp2
            go_ret
            exact ⟨rfl, B13⟩
          · go_wp2_with fail
            with_reducible refine (IBA.out w12 B12).mono ?_
            rintro e w13 ⟨rfl, b13⟩
            have B13 := B12.trans (b13.mono B12.size)
            clear b13 B12
            go_wp2
            go_ret
            exact ⟨rfl, B13⟩
        · have hY := (HW.out rfl).1 rfl
          subst hY
          go_wp2_with fail
          with_reducible refine (IBA.out w12 B12).mono ?_
          rintro e w13 ⟨rfl, b13⟩
          have B13 := B12.trans (b13.mono B12.size)
          clear b13 B12
          go_wp2
          go_ret
          exact ⟨rfl, B13⟩
    · obtain ⟨g1, g2⟩ := HA.out hk2
      have g3 : resP (resO ms) = ms := by rw [resP_yes g1]; exact g2
      have G := Lib.hid (And.intro g1 g3)
      clear g1 g2 g3 hk2 HA
      generalize resO ms = rs at *
      go_wp2_with fail
      with_reducible refine Q2.out.mono ?_
      rintro e w' ⟨rfl, q2, rfl⟩
      have B9 := below_drewN B8 q2
      have s9 : w8.heap.size ≤ (w8.drewN q2).heap.size := Nat.le_refl _
      have R6d := Lib.hid (R6c.out.below (below_drewN (Below.refl w8.heap.size w8) q2) (by omega))
      have R7d := Lib.hid (R7c.out.below (below_drewN (Below.refl w8.heap.size w8) q2) (by omega))
      generalize w8.drewN q2 = w9 at *
      have IPR := Lib.hid (IP.out A7 rs.length c7 rs w7.heap.size w9 (by omega) (by omega) R7d.out)
      rw [G.out.1, G.out.2] at IPR
      clear B8 R6c R7c R8 Q2 R7d
      go_wp2_with fail
      with_reducible refine IPR.out.mono ?_
      rintro e wa ⟨va, rfl, oa, ba⟩
      obtain ⟨Aa, ca, rfl⟩ := own_shape oa
      have sa := ba.size
      have Ba := B9.trans (ba.mono B9.size)
      have R6e := Lib.hid (R6d.out.below ba (by omega))
      have Q3 := Lib.hid (SI.out Aa A6 ms.length ms.length ca c6 ms ms wa.heap.size w6.heap.size wa (by omega) (by unfold maxLen; omega) (Rd.own oa) R6e.out)
      rw [show decide (ms = ms) = true from decide_eq_true rfl] at Q3
      clear IPR oa ba B9 R6d R6e
      go_wp2_with fail
      with_reducible refine Q3.out.mono ?_
      rintro e w' ⟨rfl, q3, rfl⟩
      have B9 := below_drewN Ba q3
      generalize wa.drewN q3 = W9 at *
      clear Ba Q3 G
      go_wp2_with fail
      with_reducible refine (DL.out W9 B9).mono ?_
      rintro e w10 ⟨a, b, rfl, ha, hb', b10⟩
      have B10 := B9.trans (b10.mono B9.size)
      have ham : a.size ≤ maxLen := by unfold maxLen; omega
      have hbm : b.size ≤ maxLen := by unfold maxLen; omega
      obtain ⟨okk, X, Y, eab, eba, hlaw⟩ := lessV_law a b
      have IAB := Lib.hid (IL.out a b w10 ham hbm (TT.out w10 B10))
      have SAB := Lib.hid (fun W => SL.out a b W ham hbm)
      have IBA := Lib.hid (fun W (h : Below w.heap.size w W) => IL.out b a W hbm ham (TT.out W h))
      rw [eab] at IAB SAB
      rw [eba] at IBA
      have HW := Lib.hid hlaw
      clear eab eba b10 B9 hlaw
      go_wp2_with fail
      with_reducible refine IAB.out.mono ?_
      rintro e w11 ⟨rfl, b11⟩
      have B11 := B10.trans (b11.mono B10.size)
      clear b11 B10 IAB
      go_wp2_with fail
      with_reducible refine (SAB.out w11).mono ?_
      rintro e w12 ⟨rfl, b12⟩
      have B12 := B11.trans (b12.mono B11.size)
      clear b12 B11 SAB
      cases okk
      · cases X
        all_goals
          go_wp2
          go_ret
          exact ⟨rfl, B12⟩
      · cases X
        · cases Y
          · obtain rfl : a = b := (HW.out rfl).2 rfl rfl
            go_wp2_with fail
            with_reducible refine (IBA.out w12 B12).mono ?_
            rintro e w13 ⟨rfl, b13⟩
            have B13 := B12.trans (b13.mono B12.size)
            clear b13 B12
            go_wp2
            go_ret
            exact ⟨rfl, B13⟩
          · go_wp2_with fail
            with_reducible refine (IBA.out w12 B12).mono ?_
            rintro e w13 ⟨rfl, b13⟩
            have B13 := B12.trans (b13.mono B12.size)
            clear b13 B12
            go_wp2
            go_ret
            exact ⟨rfl, B13⟩
        · have hY := (HW.out rfl).1 rfl
          subst hY
          go_wp2_with fail
          with_reducible refine (IBA.out w12 B12).mono ?_
          rintro e w13 ⟨rfl, b13⟩
          have B13 := B12.trans (b13.mono B12.size)
          clear b13 B12
          go_wp2
          go_ret
          exact ⟨rfl, B13⟩
  · obtain ⟨e1, e2, e3⟩ := hok hk
    have f2 : resO (resP zs) = zs := by rw [e1]; exact e2
    have f3 : okO (resP zs) = true := by rw [e1]; exact e3
    have f4 : zs.length ≤ (resP zs).length := by rw [e1]; exact hge
    have F := Lib.hid (And.intro f2 f3)
    clear hok HB hge e1 e2 e3 f2 f3 hk
    generalize resP zs = ps at *
    go_wp2_with fail
    with_reducible refine Q1.out.mono ?_
    rintro e w' ⟨rfl, q, rfl⟩
    have B4 := below_drewN B3 q
    have s4 : w3.heap.size ≤ (w3.drewN q).heap.size := Nat.le_refl _
    have R1d := Lib.hid (R1c.out.below (below_drewN (Below.refl w3.heap.size w3) q) (by omega))
    have R2d := Lib.hid (R2c.out.below (below_drewN (Below.refl w3.heap.size w3) q) (by omega))
    generalize w3.drewN q = w4 at *
    have IOP := Lib.hid (IO.out A2 ps.length c2 ps w2.heap.size w4 (by omega) K2.1 K2.2 (by omega) R2d.out)
    rw [F.out.1, F.out.2] at IOP
    clear B3 R1c R2c R3 Q1 R2d
    go_wp2_with fail
    with_reducible refine IOP.out.mono ?_
    rintro e wb ⟨vb, rfl, ob, bb⟩
    obtain ⟨Ab, cb, rfl⟩ := own_shape ob
    have sb := bb.size
    have Bb := B4.trans (bb.mono B4.size)
    have R1e := Lib.hid (R1d.out.below bb (by omega))
    have Q4 := Lib.hid (SI.out Ab A1 zs.length zs.length cb c1 zs zs wb.heap.size w1.heap.size wb (by omega) (by unfold maxLen; omega) (Rd.own ob) R1e.out)
    rw [show decide (zs = zs) = true from decide_eq_true rfl] at Q4
    have t4 : decide ((ps.length : Int) < (zs.length : Int)) = false := decide_eq_false (by omega)
    have t5 : (zs.length : Int) ≤ (ps.length : Int) := by omega
    clear IOP ob bb B4 R1d R1e
    go_wp2_with fail
    with_reducible refine Q4.out.mono ?_
    rintro e w' ⟨rfl, q4, rfl⟩
    have B5 := below_drewN Bb q4
    generalize wb.drewN q4 = W5 at *
    clear Bb Q4 F K2
    go_wp2_with fail
    with_reducible refine (DO.out W5 B5).mono ?_
    rintro e w6 ⟨v6, ms, rfl, hms, o6, b6⟩
    obtain ⟨A6, c6, rfl⟩ := own_shape o6
    have s5 := B5.size
    have s6 := b6.size
    have B6 := B5.trans (b6.mono s5)
    have K6 := own_cap o6
    have R6 := Lib.hid (Rd.own o6)
    clear o6 b6 B5
    go_wp2_with fail
    with_reducible refine (IO.out A6 ms.length c6 ms w6.heap.size w6 (by omega) K6.1 K6.2 (Nat.le_refl _) R6.out).mono ?_
    rintro e w7 ⟨v7, rfl, o7, b7⟩
    obtain ⟨A7, c7, rfl⟩ := own_shape o7
    have s7 := b7.size
    have B7 := B6.trans (b7.mono (by omega))
    have R6b := Lib.hid (R6.out.below b7 (Nat.le_refl _))
    have R7 := Lib.hid (Rd.own o7)
    clear o7 b7 R6 B6
    go_wp2_with fail
    with_reducible refine (SO.out A6 ms.length c6 ms w6.heap.size w7 (by omega) s7 R6b.out).mono ?_
    rintro e w8 ⟨v8, rfl, o8, b8⟩
    obtain ⟨A8, c8, rfl⟩ := own_shape o8
    have s8 := b8.size
    have B8 := B7.trans (b8.mono (by omega))
    have R6c := Lib.hid (R6b.out.below b8 s7)
    have R7c := Lib.hid (R7.out.below b8 (Nat.le_refl _))
    have R8 := Lib.hid (Rd.own o8)
    have hol := resO_len ms
    clear o8 b8 R6b R7 B7
    have Q2 := Lib.hid (SI.out A7 A8 (resO ms).length (resO ms).length c7 c8 (resO ms) (resO ms) w7.heap.size w8.heap.size w8 (by omega) (by unfold maxLen; omega) R7c.out R8.out)
    rw [show decide (resO ms = resO ms) = true from decide_eq_true rfl] at Q2
    have HA := Lib.hid (fun h => again_pairs (m := ms) h)
    rcases hk2 : okO ms with _ | _
    · go_wp2_with fail
      with_reducible refine Q2.out.mono ?_
      rintro e w' ⟨rfl, q2, rfl⟩
      have B9 := below_drewN B8 q2
      generalize w8.drewN q2 = W9 at *
      clear B8 R6c R7c R8 Q2 HA hk2
      go_wp2_with fail
      with_reducible refine (DL.out W9 B9).mono ?_
      rintro e w10 ⟨a, b, rfl, ha, hb', b10⟩
      have B10 := B9.trans (b10.mono B9.size)
      have ham : a.size ≤ maxLen := by unfold maxLen; omega
      have hbm : b.size ≤ maxLen := by unfold maxLen; omega
      obtain ⟨okk, X, Y, eab, eba, hlaw⟩ := lessV_law a b
      have IAB := Lib.hid (IL.out a b w10 ham hbm (TT.out w10 B10))
      have SAB := Lib.hid (fun W => SL.out a b W ham hbm)
      have IBA := Lib.hid (fun W (h : Below w.heap.size w W) => IL.out b a W hbm ham (TT.out W h))
      rw [eab] at IAB SAB
      rw [eba] at IBA
      have HW := Lib.hid hlaw
      clear eab eba b10 B9 hlaw
      go_wp2_with fail
      with_reducible refine IAB.out.mono ?_
      rintro e w11 ⟨rfl, b11⟩
      have B11 := B10.trans (b11.mono B10.size)
      clear b11 B10 IAB
      go_wp2_with fail
      with_reducible refine (SAB.out w11).mono ?_
      rintro e w12 ⟨rfl, b12⟩
      have B12 := B11.trans (b12.mono B11.size)
      clear b12 B11 SAB
      cases okk
      · cases X
        all_goals
          go_wp2
          go_ret
          exact ⟨rfl, B12⟩
      · cases X
        · cases Y
          · obtain rfl : a = b := (HW.out rfl).2 rfl rfl
            go_wp2_with fail
            with_reducible refine (IBA.out w12 B12).mono ?_
            rintro e w13 ⟨rfl, b13⟩
            have B13 := B12.trans (b13.mono B12.size)
            clear b13 B12
            go_wp2
            go_ret
            exact ⟨rfl, B13⟩
          · go_wp2_with fail
            with_reducible refine (IBA.out w12 B12).mono ?_
            rintro e w13 ⟨rfl, b13⟩
            have B13 := B12.trans (b13.mono B12.size)
            clear b13 B12
            go_wp2
            go_ret
            exact ⟨rfl, B13⟩
        · have hY := (HW.out rfl).1 rfl
          subst hY
          go_wp2_with fail
          with_reducible refine (IBA.out w12 B12).mono ?_
          rintro e w13 ⟨rfl, b13⟩
          have B13 := B12.trans (b13.mono B12.size)
          clear b13 B12
          go_wp2
          go_ret
          exact ⟨rfl, B13⟩
    · obtain ⟨g1, g2⟩ := HA.out hk2
      have g3 : resP (resO ms) = ms := by rw [resP_yes g1]; exact g2
      have G := Lib.hid (And.intro g1 g3)
      clear g1 g2 g3 hk2 HA
      generalize resO ms = rs at *
      go_wp2_with fail
      with_reducible refine Q2.out.mono ?_
      rintro e w' ⟨rfl, q2, rfl⟩
      have B9 := below_drewN B8 q2
      have s9 : w8.heap.size ≤ (w8.drewN q2).heap.size := Nat.le_refl _
      have R6d := Lib.hid (R6c.out.below (below_drewN (Below.refl w8.heap.size w8) q2) (by omega))
      have R7d := Lib.hid (R7c.out.below (below_drewN (Below.refl w8.heap.size w8) q2) (by omega))
      generalize w8.drewN q2 = w9 at *
      have IPR := Lib.hid (IP.out A7 rs.length c7 rs w7.heap.size w9 (by omega) (by omega) R7d.out)
      rw [G.out.1, G.out.2] at IPR
      clear B8 R6c R7c R8 Q2 R7d
      go_wp2_with fail
      with_reducible refine IPR.out.mono ?_
      rintro e wa ⟨va, rfl, oa, ba⟩
      obtain ⟨Aa, ca, rfl⟩ := own_shape oa
      have sa := ba.size
      have Ba := B9.trans (ba.mono B9.size)
      have R6e := Lib.hid (R6d.out.below ba (by omega))
      have Q3 := Lib.hid (SI.out Aa A6 ms.length ms.length ca c6 ms ms wa.heap.size w6.heap.size wa (by omega) (by unfold maxLen; omega) (Rd.own oa) R6e.out)
      rw [show decide (ms = ms) = true from decide_eq_true rfl] at Q3
      clear IPR oa ba B9 R6d R6e
      go_wp2_with fail
      with_reducible refine Q3.out.mono ?_
      rintro e w' ⟨rfl, q3, rfl⟩
      have B9 := below_drewN Ba q3
      generalize wa.drewN q3 = W9 at *
      clear Ba Q3 G
      go_wp2_with fail
      with_reducible refine (DL.out W9 B9).mono ?_
      rintro e w10 ⟨a, b, rfl, ha, hb', b10⟩
      have B10 := B9.trans (b10.mono B9.size)
      have ham : a.size ≤ maxLen := by unfold maxLen; omega
      have hbm : b.size ≤ maxLen := by unfold maxLen; omega
      obtain ⟨okk, X, Y, eab, eba, hlaw⟩ := lessV_law a b
      have IAB := Lib.hid (IL.out a b w10 ham hbm (TT.out w10 B10))
      have SAB := Lib.hid (fun W => SL.out a b W ham hbm)
      have IBA := Lib.hid (fun W (h : Below w.heap.size w W) => IL.out b a W hbm ham (TT.out W h))
      rw [eab] at IAB SAB
      rw [eba] at IBA
      have HW := Lib.hid hlaw
      clear eab eba b10 B9 hlaw
      go_wp2_with fail
      with_reducible refine IAB.out.mono ?_
      rintro e w11 ⟨rfl, b11⟩
      have B11 := B10.trans (b11.mono B10.size)
      clear b11 B10 IAB
      go_wp2_with fail
      with_reducible refine (SAB.out w11).mono ?_
      rintro e w12 ⟨rfl, b12⟩
      have B12 := B11.trans (b12.mono B11.size)
      clear b12 B11 SAB
      cases okk
      · cases X
        all_goals
          go_wp2
          go_ret
          exact ⟨rfl, B12⟩
      · cases X
        · cases Y
          · obtain rfl : a = b := (HW.out rfl).2 rfl rfl
            go_wp2_with fail
            with_reducible refine (IBA.out w12 B12).mono ?_
            rintro e w13 ⟨rfl, b13⟩
            have B13 := B12.trans (b13.mono B12.size)
            clear b13 B12
            go_wp2
            go_ret
            exact ⟨rfl, B13⟩
          · go_wp2_with fail
            with_reducible refine (IBA.out w12 B12).mono ?_
            rintro e w13 ⟨rfl, b13⟩
            have B13 := B12.trans (b13.mono B12.size)
            clear b13 B12
            go_wp2
            go_ret
            exact ⟨rfl, B13⟩
        · have hY := (HW.out rfl).1 rfl
          subst hY
          go_wp2_with fail
          with_reducible refine (IBA.out w12 B12).mono ?_
          rintro e w13 ⟨rfl, b13⟩
          have B13 := B12.trans (b13.mono B12.size)
          clear b13 B12
          go_wp2
          go_ret
          exact ⟨rfl, B13⟩
end Go.Proofs.YtgbdieghphbcfabDoor.LawFnPairs
