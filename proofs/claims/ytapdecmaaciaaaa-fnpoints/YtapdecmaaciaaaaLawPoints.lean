/-
  The walk of the law FnPoints: for every two slices of bytes it returns true and changes nothing that was in memory.
-/
import Derived.Test.YtapdecmaaciaaaaDrawH
import Derived.Test.YtapdecmaaciaaaaPtsF
import Derived.Deep.Cut
namespace Go.Proofs.Ytapdecmaaciaaaa.LawPoints
open Go.ChangeShapes Go.WideShapes Go.ChangeAt Go.RowKit
open Go.Proofs.Ytapdecmaaciaaaa.Mem Go.Proofs.Ytapdecmaaciaaaa.Ints Go.Proofs.Ytapdecmaaciaaaa.Cur Go.Proofs.Ytapdecmaaciaaaa.DrawM Go.Proofs.Ytapdecmaaciaaaa.Num Go.Proofs.Ytapdecmaaciaaaa.Ed Go.Proofs.Ytapdecmaaciaaaa.Grp Go.Proofs.Ytapdecmaaciaaaa.Crv Go.Proofs.Ytapdecmaaciaaaa.Crv2 Go.Proofs.Ytapdecmaaciaaaa.Crv3 Go.Proofs.Ytapdecmaaciaaaa.Add Go.Proofs.Ytapdecmaaciaaaa.Add3 Go.Proofs.Ytapdecmaaciaaaa.Times Go.Proofs.Ytapdecmaaciaaaa.OrdP Go.Proofs.Ytapdecmaaciaaaa.Times3 Go.Proofs.Ytapdecmaaciaaaa.Cnt Go.Proofs.Ytapdecmaaciaaaa.Shrt2 Go.Proofs.Ytapdecmaaciaaaa.DrawC Go.Proofs.Ytapdecmaaciaaaa.DrawP Go.Proofs.Ytapdecmaaciaaaa.DrawG Go.Proofs.Ytapdecmaaciaaaa.DrawH Go.Proofs.Ytapdecmaaciaaaa.GrpF Go.Proofs.Ytapdecmaaciaaaa.PtsF Go.Proofs.Ytapdecmaaciaaaa.Has
set_option linter.unusedVariables false
set_option maxRecDepth 100000
theorem sq_nn (x : Int) : 0 ≤ x * x := by
  rcases Int.le_total 0 x with h | h
  · exact Int.mul_nonneg h h
  · have := Int.mul_nonneg (a := -x) (b := -x) (by omega) (by omega)
    rwa [Int.neg_mul_neg] at this
theorem first_ (P D X Y : Int) : ∃ (n o s : Int) (bn bo : Bool), Gives 33 #[pv P D, pv X Y] (.tuple #[.int .i64 o, .bool bo]) ∧ Gives 32 #[pv P D, pv X Y] (.tuple #[.int .i64 o, .bool bo]) ∧
    Gives 35 #[pv P D] (.tuple #[.int .i64 n, .bool bn]) ∧ Gives 34 #[pv P D] (.tuple #[.int .i64 n, .bool bn]) ∧
    Gives 27 #[pv P D, pv X Y] (.tuple #[.int .i64 s, .bool bo]) ∧ Gives 26 #[pv P D, pv X Y] (.tuple #[.int .i64 s, .bool bo]) ∧
    (bn = true → 5 ≤ P ∧ P ≤ 199 ∧ 0 ≤ n ∧ n ≤ 1000 ∧ n % 4 = 0 ∧ (n - P - 1) * (n - P - 1) ≤ 4 * P) ∧ (bo = true → bn = true ∧ Facts P D X Y n o s) := by
  cases h : okA P D X Y
  · obtain ⟨n, bn, g1, g2, _, hb⟩ := counts P D
    refine ⟨n, 0, 0, bn, false, fun W => implOrdNo P D X Y W h, fun W => specOrdNo P D X Y W h, g1, g2, fun W => ?_, fun W => ?_, hb, fun e => by cases e⟩
    · have := implShort P D X Y W; rw [h] at this; exact this
    · have := specShort P D X Y W; rw [h] at this; exact this
  · have hC := okA_C h
    have hC' := hC
    obtain ⟨p, i, d, rfl, rfl, hc, h5, h9, _, hk⟩ := okC_yes hC
    obtain ⟨n, e, m4, hs, hn⟩ := hasse hc.pr h5 h9 hk
    have e' : cntI d p = n := e
    obtain ⟨o, F, o1, o2⟩ := facts (n := cntI d p) h (fun W => implCnt hc.pr hC' h5 h9 W) (fun p' i' d' e1 e2 => by
      obtain rfl : p = p' := by omega
      obtain rfl : d = d' := vl_inj e2
      rfl) (by rw [e']; omega)
    refine ⟨cntI d p, o, 2 * Y + X % 2, true, true, o1, o2, fun W => implCnt hc.pr hC' h5 h9 W, fun W => by rw [← cnt_same hc h9]; exact specCnt hc.pr hC' h5 h9 W, fun W => ?_, fun W => ?_, fun _ => ?_, fun _ => ⟨rfl, F⟩⟩
    · have := implShort p (vl d) X Y W; rw [h] at this; exact this
    · have := specShort p (vl d) X Y W; rw [h] at this; exact this
    · rw [e']; exact ⟨by omega, by omega, by omega, by omega, by omega, hs⟩
theorem second_ (P D k X Y : Int) : ∃ (u v : Int) (b : Bool), Gives 31 #[pv P D, .int .i64 k, pv X Y] (.tuple #[pv u v, .bool b]) ∧ Gives 30 #[pv P D, .int .i64 k, pv X Y] (.tuple #[pv u v, .bool b]) ∧
    (b = true → k < 100000 → ∃ u' v' : Int, Gives 31 #[pv P D, .int .i64 (k + 1), pv X Y] (.tuple #[pv u' v', .bool true]) ∧ Gives 29 #[pv P D, pv u v, pv X Y] (.tuple #[pv u' v', .bool true])) := by
  by_cases h : okA P D X Y = false ∨ k < 0 ∨ 100000 < k
  · exact ⟨0, 0, false, fun W => implTimesNo P D k X Y W h, fun W => specTimesNo P D k X Y W h, fun e => by cases e⟩
  · have hA : okA P D X Y = true := by cases e : okA P D X Y <;> simp_all
    obtain ⟨n, rfl⟩ : ∃ n : Nat, k = n := ⟨k.toNat, by omega⟩
    obtain ⟨p, i, d, a, rfl, rfl, rfl, rfl, hc, h5, h9, ha, hC⟩ := okA_D hA
    refine ⟨vl (mu d a n).1, vl (mu d a n).2, true, fun W => implTimesYes hc hC h5 h9 ha n (by omega) W, fun W => specTimesYes hc hC h5 h9 ha n (by omega) W, fun _ hk => ⟨vl (mu d a (n + 1)).1, vl (mu d a (n + 1)).2, fun W => ?_, fun W => ?_⟩⟩
    · have := implTimesYes hc hC h5 h9 ha (n + 1) (by omega) W
      rw [show ((n + 1 : Nat) : Int) = (n : Int) + 1 by omega] at this; exact this
    · exact implAddYes hC hc.pr h5 h9 (mu_on hc ha n) ha W
set_option maxHeartbeats 4000000 in
theorem walk (A0 : Option Addr) (n0 c0 : Nat) (cs0 : List UInt8) (A1 : Option Addr) (n1 c1 : Nat) (cs1 : List UInt8) (hn0 : n0 ≤ maxLen) (hn1 : n1 ≤ maxLen) (w : World) (hx0 : Rd w w.heap.size 1 A0 n0 (Cur.bytes cs0)) (hx1 : Rd w w.heap.size 1 A1 n1 (Cur.bytes cs1)) :
    Calls Try.prog 14 #[.slice A0 n0 c0, .slice A1 n1 c1] w fun e w' => e = .returned (.bool true) ∧ Below w.heap.size w w' := by
  by_cases hbig : 1048576 < wrap64 ((n0 : Int) + (n1 : Int))
  · clear hx0 hx1
    go_enter Try.func14, Try.ntmps14
    go_wp2
    go_ret
    exact ⟨rfl, Below.refl _ _⟩
  have hbig' : decide (1048576 < wrap64 ((n0 : Int) + (n1 : Int))) = false := by simpa using hbig
  have CD := Lib.hid (drawOrder A0 n0 c0 cs0 w hn0 hx0)
  have CT := Lib.hid (fun W (h : Below w.heap.size w W) => drawTimes A1 n1 c1 cs1 W hn1 ((hx1.below h (Nat.le_refl _)).mono h.size))
  have CS := Lib.hid (fun W (h : Below w.heap.size w W) => drawShort A1 n1 c1 cs1 W hn1 ((hx1.below h (Nat.le_refl _)).mono h.size))
  clear hx0 hx1
  go_enter Try.func14, Try.ntmps14
  go_wp2_with fail
  refine CD.out.mono ?_
  rintro e w1 ⟨P, D, X, Y, rfl, P0, P1, b1⟩
  clear CD hbig hbig'
  unfold pv
  obtain ⟨n, o, s, bn, bo, f1, f2, f3, f4, f5, f6, hB, hF⟩ := first_ P D X Y
  have F1 := Lib.hid f1
  have F2 := Lib.hid f2
  have F3 := Lib.hid f3
  have F4 := Lib.hid f4
  have F5 := Lib.hid f5
  have F6 := Lib.hid f6
  have HB := Lib.hid hB
  have HF := Lib.hid hF
  clear f1 f2 f3 f4 f5 f6 hB hF
  unfold Gives pv at F1 F2 F3 F4 F5 F6
  obtain ⟨k0, k1⟩ := nw2 w1 (.cells #[.int .i64 P, .int .i64 D] 25) (.cells #[.int .i64 X, .int .i64 Y] 32)
  have BW := Lib.hid (then_ (n := 0) b1 (al2 w1 (.cells #[.int .i64 P, .int .i64 D] 25) (.cells #[.int .i64 X, .int .i64 Y] 32)))
  have Bc : Hid (Bx _ w1.heap.size 25 P D) := Lib.hid k0
  have Ba : Hid (Bx _ (w1.heap.size + 1) 32 X Y) := Lib.hid k1
  clear k0 k1 b1
  go_wp2_with fail
  generalize World.alloc (World.alloc w1 _) _ = W1 at *
  generalize hg0 : w1.heap.size = g0 at *
  clear hg0
  refine (F1.out W1).mono ?_
  rintro e v1 ⟨rfl, b⟩
  replace Bc := Lib.hid (Bc.out.below b)
  replace Ba := Lib.hid (Ba.out.below b)
  replace BW := Lib.hid (then_ (n := 0) BW.out b)
  clear b
  obtain ⟨cc0, cc1⟩ := Bc.out.cells
  have lc := Bc.out.lt
  obtain ⟨ca0, ca1⟩ := Ba.out.cells
  have la := Ba.out.lt
  go_wp2_with fail
  clear cc0 cc1 lc ca0 ca1 la
  refine (F2.out v1).mono ?_
  rintro e v2 ⟨rfl, b⟩
  replace Bc := Lib.hid (Bc.out.below b)
  replace Ba := Lib.hid (Ba.out.below b)
  replace BW := Lib.hid (then_ (n := 0) BW.out b)
  clear b
  obtain ⟨cc0, cc1⟩ := Bc.out.cells
  have lc := Bc.out.lt
  go_wp2_with fail
  clear cc0 cc1 lc
  refine (F3.out v2).mono ?_
  rintro e v3 ⟨rfl, b⟩
  replace Bc := Lib.hid (Bc.out.below b)
  replace Ba := Lib.hid (Ba.out.below b)
  replace BW := Lib.hid (then_ (n := 0) BW.out b)
  clear b
  obtain ⟨cc0, cc1⟩ := Bc.out.cells
  have lc := Bc.out.lt
  go_wp2_with fail
  clear cc0 cc1 lc
  refine (F4.out v3).mono ?_
  rintro e v4 ⟨rfl, b⟩
  replace Bc := Lib.hid (Bc.out.below b)
  replace Ba := Lib.hid (Ba.out.below b)
  replace BW := Lib.hid (then_ (n := 0) BW.out b)
  clear b
  obtain ⟨cc0, cc1⟩ := Bc.out.cells
  have lc := Bc.out.lt
  obtain ⟨ca0, ca1⟩ := Ba.out.cells
  have la := Ba.out.lt
  go_wp2_with fail
  clear cc0 cc1 lc ca0 ca1 la
  refine (F5.out v4).mono ?_
  rintro e v5 ⟨rfl, b⟩
  replace Bc := Lib.hid (Bc.out.below b)
  replace Ba := Lib.hid (Ba.out.below b)
  replace BW := Lib.hid (then_ (n := 0) BW.out b)
  clear b
  obtain ⟨cc0, cc1⟩ := Bc.out.cells
  have lc := Bc.out.lt
  obtain ⟨ca0, ca1⟩ := Ba.out.cells
  have la := Ba.out.lt
  go_wp2_with fail
  clear cc0 cc1 lc ca0 ca1 la
  refine (F6.out v5).mono ?_
  rintro e v6 ⟨rfl, b⟩
  replace Bc := Lib.hid (Bc.out.below b)
  replace Ba := Lib.hid (Ba.out.below b)
  replace BW := Lib.hid (then_ (n := 0) BW.out b)
  clear b
  have hb1 : (bo != bo) = false := by simp
  have hb2 : (bn != bn) = false := by simp
  go_upto_if 118 with (fail)
  clear hb1 hb2 F1 F2 F3 F4 F5 F6
  go_cut [] from 45 (fun wc => wc = v6)
  case first =>
    cases bn
    · go_wp2
      go_meet
      case rel => rfl
    · obtain ⟨b1, b2, b3, b4, b5, b6⟩ := HB.out rfl
      have m0 : 0 ≤ (n - P - 1) * (n - P - 1) := sq_nn _
      obtain ⟨cc0, cc1⟩ := Bc.out.cells
      have m1 : ¬ 4 * P < (n - P - 1) * (n - P - 1) := by omega
      clear b6
      have b6 : (n - P - 1) * (n - P - 1) ≤ 800 := by omega
      go_wp2
      go_meet
      case rel => rfl
  case rest =>
    subst hcut
    go_upto_if 136 with (fail)
    go_cut [] from 45 (fun wc => Below w.heap.size w wc)
    case first =>
      cases bo
      · go_wp2
        go_meet
        case rel => exact BW.out
      · obtain ⟨e1, F⟩ := HF.out rfl
        subst e1
        have F1 := Lib.hid F.z
        have F2 := Lib.hid F.na
        have F3 := Lib.hid F.oa
        have F4 := Lib.hid F.sh
        obtain ⟨b1, b2, b3, b4⟩ := F.bd
        have hd := Lib.hid F.dvd
        clear F HF HB
        unfold Gives pv at F1 F2 F3 F4
        obtain ⟨cc0, cc1⟩ := Bc.out.cells
        have lc := Bc.out.lt
        go_wp2_with fail
        clear cc0 cc1 lc
        refine (F1.out wc).mono ?_
        rintro e v21 ⟨rfl, b⟩
        replace Bc := Lib.hid (Bc.out.below b)
        replace Ba := Lib.hid (Ba.out.below b)
        replace BW := Lib.hid (then_ (n := 0) BW.out b)
        clear b
        obtain ⟨cc0, cc1⟩ := Bc.out.cells
        have lc := Bc.out.lt
        obtain ⟨ca0, ca1⟩ := Ba.out.cells
        have la := Ba.out.lt
        have kA := al1 v21 (.cells #[.int .i64 0, .int .i64 1] 32)
        have kV := nw1 v21 (.cells #[.int .i64 0, .int .i64 1] 32)
        replace Bc := Lib.hid (Bc.out.below kA)
        replace Ba := Lib.hid (Ba.out.below kA)
        replace BW := Lib.hid (then_ (n := 0) BW.out kA)
        have Bz : Hid (Bx _ v21.heap.size 32 0 1) := Lib.hid kV
        clear kA kV
        go_wp2_with fail
        clear cc0 cc1 lc ca0 ca1 la
        generalize World.alloc v21 _ = Wz at *
        generalize hz : v21.heap.size = gz at *
        clear hz
        refine (F2.out Wz).mono ?_
        rintro e v22 ⟨rfl, b⟩
        replace Bc := Lib.hid (Bc.out.below b)
        replace Ba := Lib.hid (Ba.out.below b)
        replace Bz := Lib.hid (Bz.out.below b)
        replace BW := Lib.hid (then_ (n := 0) BW.out b)
        clear b
        obtain ⟨cc0, cc1⟩ := Bc.out.cells
        have lc := Bc.out.lt
        obtain ⟨ca0, ca1⟩ := Ba.out.cells
        have la := Ba.out.lt
        have kA := al1 v22 (.cells #[.int .i64 0, .int .i64 1] 32)
        have kV := nw1 v22 (.cells #[.int .i64 0, .int .i64 1] 32)
        replace Bc := Lib.hid (Bc.out.below kA)
        replace Ba := Lib.hid (Ba.out.below kA)
        replace Bz := Lib.hid (Bz.out.below kA)
        replace BW := Lib.hid (then_ (n := 0) BW.out kA)
        have Bk : Hid (Bx _ v22.heap.size 32 0 1) := Lib.hid kV
        clear kA kV
        go_wp2_with fail
        clear cc0 cc1 lc ca0 ca1 la
        generalize World.alloc v22 _ = Wk at *
        generalize hk : v22.heap.size = gk at *
        clear hk
        refine (F3.out Wk).mono ?_
        rintro e v23 ⟨rfl, b⟩
        replace Bc := Lib.hid (Bc.out.below b)
        replace Ba := Lib.hid (Ba.out.below b)
        replace Bz := Lib.hid (Bz.out.below b)
        replace Bk := Lib.hid (Bk.out.below b)
        replace BW := Lib.hid (then_ (n := 0) BW.out b)
        clear b
        obtain ⟨cc0, cc1⟩ := Bc.out.cells
        have lc := Bc.out.lt
        have kA := al1 v23 (.cells #[.int .i64 0, .int .i64 1] 32)
        have kV := nw1 v23 (.cells #[.int .i64 0, .int .i64 1] 32)
        replace Bc := Lib.hid (Bc.out.below kA)
        replace Ba := Lib.hid (Ba.out.below kA)
        replace Bz := Lib.hid (Bz.out.below kA)
        replace Bk := Lib.hid (Bk.out.below kA)
        replace BW := Lib.hid (then_ (n := 0) BW.out kA)
        have By : Hid (Bx _ v23.heap.size 32 0 1) := Lib.hid kV
        clear kA kV
        go_wp2_with fail
        clear cc0 cc1 lc
        generalize World.alloc v23 _ = Wy at *
        generalize hy : v23.heap.size = gy at *
        clear hy
        refine (F4.out Wy).mono ?_
        rintro e v24 ⟨rfl, b⟩
        replace Bc := Lib.hid (Bc.out.below b)
        replace Ba := Lib.hid (Ba.out.below b)
        replace Bz := Lib.hid (Bz.out.below b)
        replace Bk := Lib.hid (Bk.out.below b)
        replace By := Lib.hid (By.out.below b)
        replace BW := Lib.hid (then_ (n := 0) BW.out b)
        clear b
        obtain ⟨ck0, ck1⟩ := Bk.out.cells
        have lk := Bk.out.lt
        obtain ⟨cz0, cz1⟩ := Bz.out.cells
        have lz := Bz.out.lt
        obtain ⟨cy0, cy1⟩ := By.out.cells
        have ly := By.out.lt
        obtain ⟨ca0, ca1⟩ := Ba.out.cells
        have la := Ba.out.lt
        have kA := al1 v24 (.cells #[.int .i64 X, .int .i64 Y] 32)
        have kV := nw1 v24 (.cells #[.int .i64 X, .int .i64 Y] 32)
        replace Bc := Lib.hid (Bc.out.below kA)
        replace Ba := Lib.hid (Ba.out.below kA)
        replace Bz := Lib.hid (Bz.out.below kA)
        replace Bk := Lib.hid (Bk.out.below kA)
        replace By := Lib.hid (By.out.below kA)
        replace BW := Lib.hid (then_ (n := 0) BW.out kA)
        have Bb : Hid (Bx _ v24.heap.size 32 X Y) := Lib.hid kV
        clear kA kV
        have BF := BW.out
        have ho : ¬ o = 0 := by omega
        have hd := hd.out
        go_wp2
        go_meet
        case rel => exact BF
    case rest =>
      have BW := Lib.hid hcut
      have CTW := Lib.hid (CT.out wc hcut)
      clear hcut HF HB Bc Ba CT P0 P1
      go_wp2_with fail
      refine CTW.out.mono ?_
      rintro e v40 ⟨P', D', k', X', Y', rfl, P0', P1', K0, K1, b⟩
      clear CTW
      unfold pv
      obtain ⟨u, v, bt, f1, f2, hS⟩ := second_ P' D' k' X' Y'
      have F1 := Lib.hid f1
      have F2 := Lib.hid f2
      have HS := Lib.hid hS
      clear f1 f2 hS
      unfold Gives pv at F1 F2
      obtain ⟨k0, k1⟩ := nw2 v40 (.cells #[.int .i64 P', .int .i64 D'] 25) (.cells #[.int .i64 X', .int .i64 Y'] 32)
      replace BW := Lib.hid (then_ (n := 0) (then_ (n := 0) BW.out b) (al2 v40 (.cells #[.int .i64 P', .int .i64 D'] 25) (.cells #[.int .i64 X', .int .i64 Y'] 32)))
      have Bd : Hid (Bx _ v40.heap.size 25 P' D') := Lib.hid k0
      have Bp : Hid (Bx _ (v40.heap.size + 1) 32 X' Y') := Lib.hid k1
      clear k0 k1 b
      go_wp2_with fail
      generalize World.alloc (World.alloc v40 _) _ = W40 at *
      generalize hgd : v40.heap.size = gd at *
      clear hgd
      refine (F1.out W40).mono ?_
      rintro e v41 ⟨rfl, b⟩
      replace Bd := Lib.hid (Bd.out.below b)
      replace Bp := Lib.hid (Bp.out.below b)
      replace BW := Lib.hid (then_ (n := 0) BW.out b)
      clear b
      obtain ⟨cd0, cd1⟩ := Bd.out.cells
      have ld := Bd.out.lt
      obtain ⟨cp0, cp1⟩ := Bp.out.cells
      have lp := Bp.out.lt
      have kA := al1 v41 (.cells #[.int .i64 u, .int .i64 v] 32)
      have kV := nw1 v41 (.cells #[.int .i64 u, .int .i64 v] 32)
      replace Bd := Lib.hid (Bd.out.below kA)
      replace Bp := Lib.hid (Bp.out.below kA)
      replace BW := Lib.hid (then_ (n := 0) BW.out kA)
      have Bt : Hid (Bx _ v41.heap.size 32 u v) := Lib.hid kV
      clear kA kV
      go_wp2_with fail
      clear cd0 cd1 ld cp0 cp1 lp
      generalize World.alloc v41 _ = Wt at *
      generalize ht : v41.heap.size = gt at *
      clear ht
      refine (F2.out Wt).mono ?_
      rintro e v42 ⟨rfl, b⟩
      replace Bd := Lib.hid (Bd.out.below b)
      replace Bp := Lib.hid (Bp.out.below b)
      replace Bt := Lib.hid (Bt.out.below b)
      replace BW := Lib.hid (then_ (n := 0) BW.out b)
      clear b
      obtain ⟨ct0, ct1⟩ := Bt.out.cells
      have lt := Bt.out.lt
      obtain ⟨cd0, cd1⟩ := Bd.out.cells
      have ld := Bd.out.lt
      obtain ⟨cp0, cp1⟩ := Bp.out.cells
      have lp := Bp.out.lt
      have kA := al1 v42 (.cells #[.int .i64 u, .int .i64 v] 32)
      have kV := nw1 v42 (.cells #[.int .i64 u, .int .i64 v] 32)
      replace Bd := Lib.hid (Bd.out.below kA)
      replace Bp := Lib.hid (Bp.out.below kA)
      replace Bt := Lib.hid (Bt.out.below kA)
      replace BW := Lib.hid (then_ (n := 0) BW.out kA)
      have Bm : Hid (Bx _ v42.heap.size 32 u v) := Lib.hid kV
      clear kA kV
      have hbt : (bt != bt) = false := by simp
      cases bt
      · go_wp2_with fail
        clear ct0 ct1 lt cd0 cd1 ld cp0 cp1 lp
        generalize World.alloc v42 _ = Wm at *
        generalize hm : v42.heap.size = gm at *
        clear hm
        refine (CS.out _ BW.out).mono ?_
        rintro e v70 ⟨P2, D2, m2, rfl, _, _, b⟩
        unfold pv
        obtain ⟨u2, v2, b2, g1, g2⟩ := shortBoth P2 D2 m2
        have G1 := Lib.hid g1
        have G2 := Lib.hid g2
        clear g1 g2
        unfold pv at G1 G2
        replace BW := Lib.hid (then_ (n := 0) BW.out b)
        clear b Bd Bp Bt Bm
        have kA := al1 v70 (.cells #[.int .i64 P2, .int .i64 D2] 25)
        have kV := nw1 v70 (.cells #[.int .i64 P2, .int .i64 D2] 25)
        replace BW := Lib.hid (then_ (n := 0) BW.out kA)
        have Be : Hid (Bx _ v70.heap.size 25 P2 D2) := Lib.hid kV
        clear kA kV
        go_wp2_with fail
        generalize World.alloc v70 _ = We at *
        generalize he : v70.heap.size = ge at *
        clear he
        refine (G2.out We).mono ?_
        rintro e v71 ⟨rfl, b⟩
        replace Be := Lib.hid (Be.out.below b)
        replace BW := Lib.hid (then_ (n := 0) BW.out b)
        clear b
        obtain ⟨ce0, ce1⟩ := Be.out.cells
        have le := Be.out.lt
        have kA := al1 v71 (.cells #[.int .i64 u2, .int .i64 v2] 32)
        have kV := nw1 v71 (.cells #[.int .i64 u2, .int .i64 v2] 32)
        replace Be := Lib.hid (Be.out.below kA)
        replace BW := Lib.hid (then_ (n := 0) BW.out kA)
        have Bq : Hid (Bx _ v71.heap.size 32 u2 v2) := Lib.hid kV
        clear kA kV
        go_wp2_with fail
        clear ce0 ce1 le
        generalize World.alloc v71 _ = Wq at *
        generalize hq : v71.heap.size = gq at *
        clear hq
        refine (G1.out Wq).mono ?_
        rintro e v72 ⟨rfl, b⟩
        replace Be := Lib.hid (Be.out.below b)
        replace Bq := Lib.hid (Bq.out.below b)
        replace BW := Lib.hid (then_ (n := 0) BW.out b)
        clear b
        obtain ⟨cq0, cq1⟩ := Bq.out.cells
        have lq := Bq.out.lt
        have kA := al1 v72 (.cells #[.int .i64 u2, .int .i64 v2] 32)
        have kV := nw1 v72 (.cells #[.int .i64 u2, .int .i64 v2] 32)
        replace Be := Lib.hid (Be.out.below kA)
        replace Bq := Lib.hid (Bq.out.below kA)
        replace BW := Lib.hid (then_ (n := 0) BW.out kA)
        have Bf : Hid (Bx _ v72.heap.size 32 u2 v2) := Lib.hid kV
        clear kA kV
        have BF := BW.out
        have hb2 : (b2 == b2) = true := by simp
        go_wp2
        go_ret
        exact ⟨rfl, BF⟩
      · by_cases hk : k' < 100000
        · have t1 : k' < 100000 := hk
          obtain ⟨u', v', s1, s2⟩ := HS.out rfl hk
          have S1 := Lib.hid s1
          have S2 := Lib.hid s2
          clear s1 s2
          unfold Gives pv at S1 S2
          go_wp2_with fail
          clear ct0 ct1 lt cd0 cd1 ld cp0 cp1 lp
          generalize World.alloc v42 _ = Wm at *
          generalize hm : v42.heap.size = gm at *
          clear hm
          refine (S1.out Wm).mono ?_
          rintro e v51 ⟨rfl, b⟩
          replace Bd := Lib.hid (Bd.out.below b)
          replace Bp := Lib.hid (Bp.out.below b)
          replace Bt := Lib.hid (Bt.out.below b)
          replace Bm := Lib.hid (Bm.out.below b)
          replace BW := Lib.hid (then_ (n := 0) BW.out b)
          clear b
          obtain ⟨cd0, cd1⟩ := Bd.out.cells
          have ld := Bd.out.lt
          obtain ⟨ct0, ct1⟩ := Bt.out.cells
          have lt := Bt.out.lt
          obtain ⟨cp0, cp1⟩ := Bp.out.cells
          have lp := Bp.out.lt
          have kA := al1 v51 (.cells #[.int .i64 u', .int .i64 v'] 32)
          have kV := nw1 v51 (.cells #[.int .i64 u', .int .i64 v'] 32)
          replace Bd := Lib.hid (Bd.out.below kA)
          replace Bp := Lib.hid (Bp.out.below kA)
          replace Bt := Lib.hid (Bt.out.below kA)
          replace Bm := Lib.hid (Bm.out.below kA)
          replace BW := Lib.hid (then_ (n := 0) BW.out kA)
          have Br : Hid (Bx _ v51.heap.size 32 u' v') := Lib.hid kV
          clear kA kV
          go_wp2_with fail
          clear cd0 cd1 ld ct0 ct1 lt cp0 cp1 lp
          generalize World.alloc v51 _ = Wr at *
          generalize hr : v51.heap.size = gr at *
          clear hr
          refine (S2.out Wr).mono ?_
          rintro e v52 ⟨rfl, b⟩
          replace Bd := Lib.hid (Bd.out.below b)
          replace Bp := Lib.hid (Bp.out.below b)
          replace Bt := Lib.hid (Bt.out.below b)
          replace Bm := Lib.hid (Bm.out.below b)
          replace Br := Lib.hid (Br.out.below b)
          replace BW := Lib.hid (then_ (n := 0) BW.out b)
          clear b
          obtain ⟨cr0, cr1⟩ := Br.out.cells
          have lr := Br.out.lt
          have kA := al1 v52 (.cells #[.int .i64 u', .int .i64 v'] 32)
          have kV := nw1 v52 (.cells #[.int .i64 u', .int .i64 v'] 32)
          replace Bd := Lib.hid (Bd.out.below kA)
          replace Bp := Lib.hid (Bp.out.below kA)
          replace Bt := Lib.hid (Bt.out.below kA)
          replace Bm := Lib.hid (Bm.out.below kA)
          replace Br := Lib.hid (Br.out.below kA)
          replace BW := Lib.hid (then_ (n := 0) BW.out kA)
          have Bs : Hid (Bx _ v52.heap.size 32 u' v') := Lib.hid kV
          clear kA kV
          go_wp2_with fail
          clear cr0 cr1 lr
          generalize World.alloc v52 _ = Ws at *
          generalize hs : v52.heap.size = gs at *
          clear hs
          refine (CS.out _ BW.out).mono ?_
          rintro e v70 ⟨P2, D2, m2, rfl, _, _, b⟩
          unfold pv
          obtain ⟨u2, v2, b2, g1, g2⟩ := shortBoth P2 D2 m2
          have G1 := Lib.hid g1
          have G2 := Lib.hid g2
          clear g1 g2
          unfold pv at G1 G2
          replace BW := Lib.hid (then_ (n := 0) BW.out b)
          clear b Bd Bp Bt Bm Br Bs
          have kA := al1 v70 (.cells #[.int .i64 P2, .int .i64 D2] 25)
          have kV := nw1 v70 (.cells #[.int .i64 P2, .int .i64 D2] 25)
          replace BW := Lib.hid (then_ (n := 0) BW.out kA)
          have Be : Hid (Bx _ v70.heap.size 25 P2 D2) := Lib.hid kV
          clear kA kV
          go_wp2_with fail
          generalize World.alloc v70 _ = We at *
          generalize he : v70.heap.size = ge at *
          clear he
          refine (G2.out We).mono ?_
          rintro e v71 ⟨rfl, b⟩
          replace Be := Lib.hid (Be.out.below b)
          replace BW := Lib.hid (then_ (n := 0) BW.out b)
          clear b
          obtain ⟨ce0, ce1⟩ := Be.out.cells
          have le := Be.out.lt
          have kA := al1 v71 (.cells #[.int .i64 u2, .int .i64 v2] 32)
          have kV := nw1 v71 (.cells #[.int .i64 u2, .int .i64 v2] 32)
          replace Be := Lib.hid (Be.out.below kA)
          replace BW := Lib.hid (then_ (n := 0) BW.out kA)
          have Bq : Hid (Bx _ v71.heap.size 32 u2 v2) := Lib.hid kV
          clear kA kV
          go_wp2_with fail
          clear ce0 ce1 le
          generalize World.alloc v71 _ = Wq at *
          generalize hq : v71.heap.size = gq at *
          clear hq
          refine (G1.out Wq).mono ?_
          rintro e v72 ⟨rfl, b⟩
          replace Be := Lib.hid (Be.out.below b)
          replace Bq := Lib.hid (Bq.out.below b)
          replace BW := Lib.hid (then_ (n := 0) BW.out b)
          clear b
          obtain ⟨cq0, cq1⟩ := Bq.out.cells
          have lq := Bq.out.lt
          have kA := al1 v72 (.cells #[.int .i64 u2, .int .i64 v2] 32)
          have kV := nw1 v72 (.cells #[.int .i64 u2, .int .i64 v2] 32)
          replace Be := Lib.hid (Be.out.below kA)
          replace Bq := Lib.hid (Bq.out.below kA)
          replace BW := Lib.hid (then_ (n := 0) BW.out kA)
          have Bf : Hid (Bx _ v72.heap.size 32 u2 v2) := Lib.hid kV
          clear kA kV
          have BF := BW.out
          have hb2 : (b2 == b2) = true := by simp
          go_wp2
          go_ret
          exact ⟨rfl, BF⟩
        · have t1 : ¬ k' < 100000 := by omega
          go_wp2_with fail
          clear ct0 ct1 lt cd0 cd1 ld cp0 cp1 lp
          generalize World.alloc v42 _ = Wm at *
          generalize hm : v42.heap.size = gm at *
          clear hm
          refine (CS.out _ BW.out).mono ?_
          rintro e v70 ⟨P2, D2, m2, rfl, _, _, b⟩
          unfold pv
          obtain ⟨u2, v2, b2, g1, g2⟩ := shortBoth P2 D2 m2
          have G1 := Lib.hid g1
          have G2 := Lib.hid g2
          clear g1 g2
          unfold pv at G1 G2
          replace BW := Lib.hid (then_ (n := 0) BW.out b)
          clear b Bd Bp Bt Bm
          have kA := al1 v70 (.cells #[.int .i64 P2, .int .i64 D2] 25)
          have kV := nw1 v70 (.cells #[.int .i64 P2, .int .i64 D2] 25)
          replace BW := Lib.hid (then_ (n := 0) BW.out kA)
          have Be : Hid (Bx _ v70.heap.size 25 P2 D2) := Lib.hid kV
          clear kA kV
          go_wp2_with fail
          generalize World.alloc v70 _ = We at *
          generalize he : v70.heap.size = ge at *
          clear he
          refine (G2.out We).mono ?_
          rintro e v71 ⟨rfl, b⟩
          replace Be := Lib.hid (Be.out.below b)
          replace BW := Lib.hid (then_ (n := 0) BW.out b)
          clear b
          obtain ⟨ce0, ce1⟩ := Be.out.cells
          have le := Be.out.lt
          have kA := al1 v71 (.cells #[.int .i64 u2, .int .i64 v2] 32)
          have kV := nw1 v71 (.cells #[.int .i64 u2, .int .i64 v2] 32)
          replace Be := Lib.hid (Be.out.below kA)
          replace BW := Lib.hid (then_ (n := 0) BW.out kA)
          have Bq : Hid (Bx _ v71.heap.size 32 u2 v2) := Lib.hid kV
          clear kA kV
          go_wp2_with fail
          clear ce0 ce1 le
          generalize World.alloc v71 _ = Wq at *
          generalize hq : v71.heap.size = gq at *
          clear hq
          refine (G1.out Wq).mono ?_
          rintro e v72 ⟨rfl, b⟩
          replace Be := Lib.hid (Be.out.below b)
          replace Bq := Lib.hid (Bq.out.below b)
          replace BW := Lib.hid (then_ (n := 0) BW.out b)
          clear b
          obtain ⟨cq0, cq1⟩ := Bq.out.cells
          have lq := Bq.out.lt
          have kA := al1 v72 (.cells #[.int .i64 u2, .int .i64 v2] 32)
          have kV := nw1 v72 (.cells #[.int .i64 u2, .int .i64 v2] 32)
          replace Be := Lib.hid (Be.out.below kA)
          replace Bq := Lib.hid (Bq.out.below kA)
          replace BW := Lib.hid (then_ (n := 0) BW.out kA)
          have Bf : Hid (Bx _ v72.heap.size 32 u2 v2) := Lib.hid kV
          clear kA kV
          have BF := BW.out
          have hb2 : (b2 == b2) = true := by simp
          go_wp2
          go_ret
          exact ⟨rfl, BF⟩
end Go.Proofs.Ytapdecmaaciaaaa.LawPoints
