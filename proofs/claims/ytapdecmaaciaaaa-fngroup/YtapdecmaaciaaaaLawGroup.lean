/-
  The walk of the law FnGroup: for every two slices of bytes it returns true and changes nothing that was in memory.
-/
import Derived.Test.YtapdecmaaciaaaaDrawG
import Derived.Test.YtapdecmaaciaaaaGrpF
import Derived.Deep.Cut
import Derived.Deep.RegionHeld3
import Derived.IntWalk
namespace Go.Proofs.Ytapdecmaaciaaaa.LawGroup
open Go.ChangeShapes Go.WideShapes Go.ChangeAt Go.RowKit
open Go.Proofs.Ytapdecmaaciaaaa.Mem Go.Proofs.Ytapdecmaaciaaaa.Ints Go.Proofs.Ytapdecmaaciaaaa.Cur Go.Proofs.Ytapdecmaaciaaaa.DrawM Go.Proofs.Ytapdecmaaciaaaa.Num Go.Proofs.Ytapdecmaaciaaaa.Crv Go.Proofs.Ytapdecmaaciaaaa.Crv2 Go.Proofs.Ytapdecmaaciaaaa.Crv3 Go.Proofs.Ytapdecmaaciaaaa.Add Go.Proofs.Ytapdecmaaciaaaa.Add3 Go.Proofs.Ytapdecmaaciaaaa.Times Go.Proofs.Ytapdecmaaciaaaa.DrawC Go.Proofs.Ytapdecmaaciaaaa.DrawP Go.Proofs.Ytapdecmaaciaaaa.DrawG Go.Proofs.Ytapdecmaaciaaaa.GrpF
set_option linter.unusedVariables false
set_option maxRecDepth 100000
theorem if_pv2 (b : Bool) (x y x' y' : Int) : ∃ u v : Int, (if b then pv x y else pv x' y') = pv u v := by cases b <;> exact ⟨_, _, rfl⟩
theorem many (z : Int) (h : 0 ≤ z) : 1 + (z % 50).toNat ≤ 100000 := by omega
theorem many_eq (z : Int) (h : 0 ≤ z) : ((1 + (z % 50).toNat : Nat) : Int) = 1 + z % 50 := by omega
theorem many_tmod (z : Int) (h : 0 ≤ z) : z.tmod 50 = z % 50 := Int.tmod_eq_emod_of_nonneg h
theorem many_wrap (z : Int) (h : 0 ≤ z) : IntKind.i64.wrap (1 + z % 50) = 1 + z % 50 := IntWalk.i64_in _ (by omega)
theorem both (P D X Y S T : Int) : ∃ (U V : Int) (bb : Bool), Gives 29 #[pv P D, pv X Y, pv S T] (.tuple #[pv U V, .bool bb]) ∧ Gives 28 #[pv P D, pv X Y, pv S T] (.tuple #[pv U V, .bool bb]) ∧ (bb = true → ∃ N, Facts P D X Y S T U V N) := by
  cases h : (okA P D X Y && okA P D S T)
  · exact ⟨0, 0, false, fun W => implAddNo P D X Y S T W h, fun W => specAddNo P D X Y S T W h, fun e => by cases e⟩
  · obtain ⟨U, V, N, F⟩ := facts h
    exact ⟨U, V, true, F.ab, F.ab', fun _ => ⟨N, F⟩⟩
set_option maxHeartbeats 4000000 in
theorem walk (A0 : Option Addr) (n0 c0 : Nat) (cs0 : List UInt8) (A1 : Option Addr) (n1 c1 : Nat) (cs1 : List UInt8) (hn0 : n0 ≤ maxLen) (hn1 : n1 ≤ maxLen) (w : World) (hx0 : Rd w w.heap.size 1 A0 n0 (Cur.bytes cs0)) (hx1 : Rd w w.heap.size 1 A1 n1 (Cur.bytes cs1)) :
    Calls Try.prog 13 #[.slice A0 n0 c0, .slice A1 n1 c1] w fun e w' => e = .returned (.bool true) ∧ Below w.heap.size w w' := by
  by_cases hbig : 1048576 < wrap64 ((n0 : Int) + (n1 : Int))
  · clear hx0 hx1
    go_enter Try.func13, Try.ntmps13
    go_wp2
    go_ret
    exact ⟨rfl, Below.refl _ _⟩
  have hbig' : decide (1048576 < wrap64 ((n0 : Int) + (n1 : Int))) = false := by simpa using hbig
  have CD := Lib.hid (drawAdd A0 n0 c0 cs0 w hn0 hx0)
  have CE := Lib.hid (fun W (h : Below w.heap.size w W) => drawOn A1 n1 c1 cs1 W hn1 ((hx1.below h (Nat.le_refl _)).mono h.size))
  have CN := Lib.hid (fun W (h : Below w.heap.size w W) => numberOf A1 n1 c1 cs1 w.heap.size W hn1 (hx1.below h (Nat.le_refl _)))
  clear hx0 hx1
  go_enter Try.func13, Try.ntmps13
  go_wp2_with fail
  refine CD.out.mono ?_
  rintro e w1 ⟨P, D, X, Y, S, T, rfl, P0, P1, b1⟩
  clear CD hbig hbig'
  unfold pv
  obtain ⟨U, V, bb, gI, gS, hF⟩ := both P D X Y S T
  have CI := Lib.hid gI
  have CS := Lib.hid gS
  have HF := Lib.hid hF
  clear gI gS hF
  unfold Gives pv at CI CS
  obtain ⟨k0, k1, k2⟩ := nw3 w1 (.cells #[.int .i64 P, .int .i64 D] 25) (.cells #[.int .i64 X, .int .i64 Y] 32) (.cells #[.int .i64 S, .int .i64 T] 32)
  have BW := Lib.hid (then_ (n := 0) b1 (al3 w1 (.cells #[.int .i64 P, .int .i64 D] 25) (.cells #[.int .i64 X, .int .i64 Y] 32) (.cells #[.int .i64 S, .int .i64 T] 32)))
  have Bc : Hid (Bx _ w1.heap.size 25 P D) := Lib.hid k0
  have Ba : Hid (Bx _ (w1.heap.size + 1) 32 X Y) := Lib.hid k1
  have Bb : Hid (Bx _ (w1.heap.size + 1 + 1) 32 S T) := Lib.hid k2
  have zw := b1.size
  clear k0 k1 k2 b1
  go_wp2_with fail
  generalize World.alloc (World.alloc (World.alloc w1 _) _) _ = W1 at *
  generalize hg0 : w1.heap.size = g0 at *
  clear hg0
  refine (CI.out W1).mono ?_
  rintro e v1 ⟨rfl, b⟩
  have Bc := Lib.hid (Bc.out.below b)
  have Ba := Lib.hid (Ba.out.below b)
  have Bb := Lib.hid (Bb.out.below b)
  have BW := Lib.hid (then_ (n := 0) BW.out b)
  clear b
  have kA := al1 v1 (.cells #[.int .i64 U, .int .i64 V] 32)
  have kV := nw1 v1 (.cells #[.int .i64 U, .int .i64 V] 32)
  have l2 := Bb.out.lt
  have l1 := Ba.out.lt
  have l0 := Bc.out.lt
  obtain ⟨c00, c01⟩ := Bc.out.cells
  obtain ⟨c10, c11⟩ := Ba.out.cells
  obtain ⟨c20, c21⟩ := Bb.out.cells
  have Bc := Lib.hid (Bc.out.below kA)
  have Ba := Lib.hid (Ba.out.below kA)
  have Bb := Lib.hid (Bb.out.below kA)
  have BW := Lib.hid (then_ (n := 0) BW.out kA)
  have Bs : Hid (Bx _ v1.heap.size 32 U V) := Lib.hid kV
  clear kA kV
  go_wp2_with fail
  clear c00 c01 c10 c11 c20 c21
  generalize World.alloc v1 _ = W2 at *
  generalize hg1 : v1.heap.size = g1 at *
  clear hg1
  refine (CS.out W2).mono ?_
  rintro e v2 ⟨rfl, b⟩
  have Bc := Lib.hid (Bc.out.below b)
  have Ba := Lib.hid (Ba.out.below b)
  have Bb := Lib.hid (Bb.out.below b)
  have Bs := Lib.hid (Bs.out.below b)
  have BW := Lib.hid (then_ (n := 0) BW.out b)
  clear b
  have kA := al1 v2 (.cells #[.int .i64 U, .int .i64 V] 32)
  have kV := nw1 v2 (.cells #[.int .i64 U, .int .i64 V] 32)
  have l3 := Bs.out.lt
  have Bc := Lib.hid (Bc.out.below kA)
  have Ba := Lib.hid (Ba.out.below kA)
  have Bb := Lib.hid (Bb.out.below kA)
  have Bs := Lib.hid (Bs.out.below kA)
  have BW := Lib.hid (then_ (n := 0) BW.out kA)
  have Bt : Hid (Bx _ v2.heap.size 32 U V) := Lib.hid kV
  clear kA kV CI CS
  have hbb : (bb != bb) = false := by simp
  go_wp2_with fail
  generalize World.alloc v2 _ = W3 at *
  generalize hg2 : v2.heap.size = g2 at *
  clear hg2
  obtain ⟨c00, c01⟩ := Bc.out.cells
  obtain ⟨c30, c31⟩ := Bs.out.cells
  obtain ⟨c40, c41⟩ := Bt.out.cells
  have RI := Lib.hid (relA W3 (fun W => implGood P D W))
  have RS := Lib.hid (relA W3 (fun W => specGood P D W))
  unfold pv at RI RS
  generalize okC P D = ok at *
  have hok : (ok != ok) = false := by simp
  have D1 : Below W3.heap.size W3 W3.drew := (Below.refl _ W3).drew
  go_region_held3 (fun w' => w'.cell? ⟨g0, 0, none⟩ = some (.int .i64 P) ∧ w'.cell? ⟨g0, 1, none⟩ = some (.int .i64 D) ∧ w'.cell? ⟨g1, 0, none⟩ = some (.int .i64 U) ∧ w'.cell? ⟨g1, 1, none⟩ = some (.int .i64 V) ∧ w'.cell? ⟨g2, 0, none⟩ = some (.int .i64 U) ∧ w'.cell? ⟨g2, 1, none⟩ = some (.int .i64 V))
    (first | (refine ⟨?_, ?_, ?_, ?_, ?_, ?_⟩ <;> with_reducible assumption) | (go_keep; done))
    (first
      | (go_at_call 17; (with_reducible refine (RI.out _ ?hb).mono ?_); (case hb => with_reducible assumption); rintro e v3 ⟨rfl, b3⟩; obtain ⟨p0, p1⟩ := (Bc.out.below b3).cells; obtain ⟨p2, p3⟩ := (Bs.out.below b3).cells; obtain ⟨p4, p5⟩ := (Bt.out.below b3).cells)
      | (go_at_call 15; (with_reducible refine (RS.out _ ?hb).mono ?_); (case hb => with_reducible assumption); rintro e v4 ⟨rfl, b4⟩; obtain ⟨q0, q1⟩ := (Bc.out.below b4).cells; obtain ⟨q2, q3⟩ := (Bs.out.below b4).cells; obtain ⟨q4, q5⟩ := (Bt.out.below b4).cells))
  rename_i hH
  replace Bc := Lib.hid (Bc.out.below b4)
  replace Ba := Lib.hid (Ba.out.below b4)
  replace Bb := Lib.hid (Bb.out.below b4)
  replace Bs := Lib.hid (Bs.out.below b4)
  replace BW := Lib.hid (then_ (n := 0) BW.out b4)
  clear hH b3 b4 p0 p1 p2 p3 p4 p5 q0 q1 q2 q3 q4 q5 c00 c01 c30 c31 c40 c41 hok hbb Bt RI RS D1 l0 l1 l2 l3 zw
  go_upto_if 87 with (fail)
  go_cut [] from 46 (fun wc => Below w.heap.size w wc)
  case first =>
    cases bb
    · go_wp2
      go_meet
      case rel => exact BW.out
    · obtain ⟨N, F⟩ := HF.out rfl
      have F1 := Lib.hid F.on
      have F2 := Lib.hid F.ba
      have F3 := Lib.hid F.z
      have F4 := Lib.hid F.az
      have F5 := Lib.hid F.ng
      have F6 := Lib.hid F.an
      have F7 := Lib.hid F.asc
      clear F HF
      unfold Gives pv at F1 F2 F3 F4 F5 F6
      obtain ⟨cc0, cc1⟩ := Bc.out.cells
      have lc := Bc.out.lt
      obtain ⟨cs0, cs1⟩ := Bs.out.cells
      have ls := Bs.out.lt
      go_wp2_with fail
      clear cc0 cc1 lc cs0 cs1 ls
      refine (F1.out v4).mono ?_
      rintro e v11 ⟨rfl, b⟩
      replace Bc := Lib.hid (Bc.out.below b)
      replace Ba := Lib.hid (Ba.out.below b)
      replace Bb := Lib.hid (Bb.out.below b)
      replace Bs := Lib.hid (Bs.out.below b)
      replace BW := Lib.hid (then_ (n := 0) BW.out b)
      clear b
      obtain ⟨cc0, cc1⟩ := Bc.out.cells
      have lc := Bc.out.lt
      obtain ⟨cb0, cb1⟩ := Bb.out.cells
      have lb := Bb.out.lt
      obtain ⟨ca0, ca1⟩ := Ba.out.cells
      have la := Ba.out.lt
      go_wp2_with fail
      clear cc0 cc1 lc cb0 cb1 lb ca0 ca1 la
      refine (F2.out v11).mono ?_
      rintro e v12 ⟨rfl, b⟩
      replace Bc := Lib.hid (Bc.out.below b)
      replace Ba := Lib.hid (Ba.out.below b)
      replace Bb := Lib.hid (Bb.out.below b)
      replace Bs := Lib.hid (Bs.out.below b)
      replace BW := Lib.hid (then_ (n := 0) BW.out b)
      clear b
      obtain ⟨cc0, cc1⟩ := Bc.out.cells
      have lc := Bc.out.lt
      have kA := al1 v12 (.cells #[.int .i64 U, .int .i64 V] 32)
      have kV := nw1 v12 (.cells #[.int .i64 U, .int .i64 V] 32)
      replace Bc := Lib.hid (Bc.out.below kA)
      replace Ba := Lib.hid (Ba.out.below kA)
      replace Bb := Lib.hid (Bb.out.below kA)
      replace Bs := Lib.hid (Bs.out.below kA)
      replace BW := Lib.hid (then_ (n := 0) BW.out kA)
      have Bu : Hid (Bx _ v12.heap.size 32 U V) := Lib.hid kV
      clear kA kV
      go_wp2_with fail
      clear cc0 cc1 lc
      generalize World.alloc v12 _ = Wu at *
      generalize hu : v12.heap.size = gu at *
      clear hu
      refine (F3.out Wu).mono ?_
      rintro e v13 ⟨rfl, b⟩
      replace Bc := Lib.hid (Bc.out.below b)
      replace Ba := Lib.hid (Ba.out.below b)
      replace Bb := Lib.hid (Bb.out.below b)
      replace Bs := Lib.hid (Bs.out.below b)
      replace Bu := Lib.hid (Bu.out.below b)
      replace BW := Lib.hid (then_ (n := 0) BW.out b)
      clear b
      obtain ⟨cc0, cc1⟩ := Bc.out.cells
      have lc := Bc.out.lt
      obtain ⟨ca0, ca1⟩ := Ba.out.cells
      have la := Ba.out.lt
      have kA := al1 v13 (.cells #[.int .i64 0, .int .i64 1] 32)
      have kV := nw1 v13 (.cells #[.int .i64 0, .int .i64 1] 32)
      replace Bc := Lib.hid (Bc.out.below kA)
      replace Ba := Lib.hid (Ba.out.below kA)
      replace Bb := Lib.hid (Bb.out.below kA)
      replace Bs := Lib.hid (Bs.out.below kA)
      replace Bu := Lib.hid (Bu.out.below kA)
      replace BW := Lib.hid (then_ (n := 0) BW.out kA)
      have Bz : Hid (Bx _ v13.heap.size 32 0 1) := Lib.hid kV
      clear kA kV
      go_wp2_with fail
      clear cc0 cc1 lc ca0 ca1 la
      generalize World.alloc v13 _ = Wz at *
      generalize hz : v13.heap.size = gz at *
      clear hz
      refine (F4.out Wz).mono ?_
      rintro e v14 ⟨rfl, b⟩
      replace Bc := Lib.hid (Bc.out.below b)
      replace Ba := Lib.hid (Ba.out.below b)
      replace Bb := Lib.hid (Bb.out.below b)
      replace Bs := Lib.hid (Bs.out.below b)
      replace Bu := Lib.hid (Bu.out.below b)
      replace Bz := Lib.hid (Bz.out.below b)
      replace BW := Lib.hid (then_ (n := 0) BW.out b)
      clear b
      obtain ⟨cc0, cc1⟩ := Bc.out.cells
      have lc := Bc.out.lt
      obtain ⟨ca0, ca1⟩ := Ba.out.cells
      have la := Ba.out.lt
      have kA := al1 v14 (.cells #[.int .i64 X, .int .i64 Y] 32)
      have kV := nw1 v14 (.cells #[.int .i64 X, .int .i64 Y] 32)
      replace Bc := Lib.hid (Bc.out.below kA)
      replace Ba := Lib.hid (Ba.out.below kA)
      replace Bb := Lib.hid (Bb.out.below kA)
      replace Bs := Lib.hid (Bs.out.below kA)
      replace Bu := Lib.hid (Bu.out.below kA)
      replace Bz := Lib.hid (Bz.out.below kA)
      replace BW := Lib.hid (then_ (n := 0) BW.out kA)
      have Bk : Hid (Bx _ v14.heap.size 32 X Y) := Lib.hid kV
      clear kA kV
      go_wp2_with fail
      clear cc0 cc1 lc ca0 ca1 la
      generalize World.alloc v14 _ = Wk at *
      generalize hk : v14.heap.size = gk at *
      clear hk
      refine (F5.out Wk).mono ?_
      rintro e v15 ⟨rfl, b⟩
      replace Bc := Lib.hid (Bc.out.below b)
      replace Ba := Lib.hid (Ba.out.below b)
      replace Bb := Lib.hid (Bb.out.below b)
      replace Bs := Lib.hid (Bs.out.below b)
      replace Bu := Lib.hid (Bu.out.below b)
      replace Bz := Lib.hid (Bz.out.below b)
      replace Bk := Lib.hid (Bk.out.below b)
      replace BW := Lib.hid (then_ (n := 0) BW.out b)
      clear b
      obtain ⟨cc0, cc1⟩ := Bc.out.cells
      have lc := Bc.out.lt
      obtain ⟨ca0, ca1⟩ := Ba.out.cells
      have la := Ba.out.lt
      have kA := al1 v15 (.cells #[.int .i64 N, .int .i64 Y] 32)
      have kV := nw1 v15 (.cells #[.int .i64 N, .int .i64 Y] 32)
      replace Bc := Lib.hid (Bc.out.below kA)
      replace Ba := Lib.hid (Ba.out.below kA)
      replace Bb := Lib.hid (Bb.out.below kA)
      replace Bs := Lib.hid (Bs.out.below kA)
      replace Bu := Lib.hid (Bu.out.below kA)
      replace Bz := Lib.hid (Bz.out.below kA)
      replace Bk := Lib.hid (Bk.out.below kA)
      replace BW := Lib.hid (then_ (n := 0) BW.out kA)
      have Bn : Hid (Bx _ v15.heap.size 32 N Y) := Lib.hid kV
      clear kA kV
      go_wp2_with fail
      clear cc0 cc1 lc ca0 ca1 la
      generalize World.alloc v15 _ = Wn at *
      generalize hn : v15.heap.size = gn at *
      clear hn
      refine (F6.out Wn).mono ?_
      rintro e v16 ⟨rfl, b⟩
      replace Bc := Lib.hid (Bc.out.below b)
      replace Ba := Lib.hid (Ba.out.below b)
      replace Bb := Lib.hid (Bb.out.below b)
      replace Bs := Lib.hid (Bs.out.below b)
      replace Bu := Lib.hid (Bu.out.below b)
      replace Bz := Lib.hid (Bz.out.below b)
      replace Bk := Lib.hid (Bk.out.below b)
      replace Bn := Lib.hid (Bn.out.below b)
      replace BW := Lib.hid (then_ (n := 0) BW.out b)
      clear b
      obtain ⟨cu0, cu1⟩ := Bu.out.cells
      have lu := Bu.out.lt
      obtain ⟨cs0, cs1⟩ := Bs.out.cells
      have ls := Bs.out.lt
      obtain ⟨ck0, ck1⟩ := Bk.out.cells
      have lk := Bk.out.lt
      obtain ⟨ca0, ca1⟩ := Ba.out.cells
      have la := Ba.out.lt
      obtain ⟨cz0, cz1⟩ := Bz.out.cells
      have lz := Bz.out.lt
      have kA := al1 v16 (.cells #[.int .i64 0, .int .i64 1] 32)
      have kV := nw1 v16 (.cells #[.int .i64 0, .int .i64 1] 32)
      replace Bc := Lib.hid (Bc.out.below kA)
      replace Ba := Lib.hid (Ba.out.below kA)
      replace Bb := Lib.hid (Bb.out.below kA)
      replace Bs := Lib.hid (Bs.out.below kA)
      replace Bu := Lib.hid (Bu.out.below kA)
      replace Bz := Lib.hid (Bz.out.below kA)
      replace Bk := Lib.hid (Bk.out.below kA)
      replace Bn := Lib.hid (Bn.out.below kA)
      replace BW := Lib.hid (then_ (n := 0) BW.out kA)
      have By : Hid (Bx _ v16.heap.size 32 0 1) := Lib.hid kV
      clear kA kV
      go_wp2_with fail
      clear cu0 cu1 lu cs0 cs1 ls ck0 ck1 lk ca0 ca1 la cz0 cz1 lz
      generalize World.alloc v16 _ = Wy at *
      generalize hy : v16.heap.size = gy at *
      clear hy
      clear F1 F2 F3 F4 F5 F6 Bu Bz Bk Bn By
      go_cut [24, 25] from 46 (fun s24 s25 wc => ∃ (M1 M2 Q1 Q2 R1 R2 : Int) (g : Nat), s24 = .pointer (some ⟨g, 0, none⟩) ∧ s25 = .bool true ∧ Below Wy.heap.size Wy wc ∧ Bx wc g 32 M1 M2 ∧ Gives 29 #[pv P D, pv U V, pv M1 M2] (.tuple #[pv R1 R2, .bool true]) ∧ Gives 29 #[pv P D, pv S T, pv M1 M2] (.tuple #[pv Q1 Q2, .bool true]) ∧ Gives 29 #[pv P D, pv X Y, pv Q1 Q2] (.tuple #[pv R1 R2, .bool true]))
      case first =>
        obtain ⟨cc0, cc1⟩ := Bc.out.cells
        obtain ⟨cb0, cb1⟩ := Bb.out.cells
        have z0 := Bc.out.lt
        have z1 := Bb.out.lt
        have CNW := Lib.hid (fun W (h : Below Wy.heap.size Wy W) => CN.out W (then_ (n := 0) BW.out h))
        have D1 : Below Wy.heap.size Wy Wy.drew := (Below.refl _ Wy).drew
        clear CN CE
        go_region_held3 (fun w' => w'.cell? ⟨g0, 0, none⟩ = some (.int .i64 P) ∧ w'.cell? ⟨g0, 1, none⟩ = some (.int .i64 D) ∧ w'.cell? ⟨g0 + 1 + 1, 0, none⟩ = some (.int .i64 S) ∧ w'.cell? ⟨g0 + 1 + 1, 1, none⟩ = some (.int .i64 T))
          (first | (refine ⟨?_, ?_, ?_, ?_⟩ <;> with_reducible assumption) | (refine ⟨?_, ?_, ?_, ?_⟩ <;> ((with_reducible refine cellP ?_ ?_); with_reducible assumption; omega)) | (go_keep; done) | (simp [*, go_sem]; done))
          (first
            | (go_at_call 39; (with_reducible refine (CNW.out _ ?hb).mono ?_); (case hb => first | with_reducible assumption | (refine Below.alloc ?_ ?_ _; with_reducible assumption; exact Below.size (by with_reducible assumption)) | (refine Below.drew (Below.alloc ?_ ?_ _); with_reducible assumption; exact Below.size (by with_reducible assumption)) | (refine Below.drew (Below.alloc (Below.refl _ _) (Nat.le_refl _) _)) | (refine Below.alloc (Below.refl _ _) (Nat.le_refl _) _)); rintro e w' ⟨z, rfl, y0, y1, rfl⟩; obtain ⟨M1, M2, Q1, Q2, R1, R2, gT, gU, gS, gX⟩ := F7.out (1 + (z % 50).toNat) (many z y0); have FT := Lib.hid gT; clear gT; unfold Gives pv at FT; rw [many_eq z y0] at FT; have RT := Lib.hid (relP Wy FT.out); have hm := many_tmod z y0; have hw := many_wrap z y0)
            | (go_at_call 31; (with_reducible refine (RT.out _ ?hb).mono ?_); (case hb => first | with_reducible assumption | (refine Below.alloc ?_ ?_ _; with_reducible assumption; exact Below.size (by with_reducible assumption)) | (refine Below.drew (Below.alloc ?_ ?_ _); with_reducible assumption; exact Below.size (by with_reducible assumption)) | (refine Below.drew (Below.alloc (Below.refl _ _) (Nat.le_refl _) _)) | (refine Below.alloc (Below.refl _ _) (Nat.le_refl _) _)); rintro e v1 ⟨rfl, d1, b1⟩; obtain ⟨p0, p1⟩ := (Bc.out.below b1).cells; obtain ⟨p2, p3⟩ := (Bb.out.below b1).cells; have z2 := Nat.lt_of_lt_of_le z1 b1.size; (first | (have x1 := xaP (by with_reducible exact d1)) | (have x1 := xaD (by with_reducible exact d1)) | skip); (first | (obtain ⟨y2, y3⟩ := row2 x1; obtain ⟨f0, f1⟩ := frz2 x1; have zx := bx_lt x1) | skip)))
        all_goals
          go_wp2
          go_meet
          case rel => first | exact ⟨M1, M2, Q1, Q2, R1, R2, _, rfl, rfl, b1.alloc b1.size _, nw1 _ _, gU, gS, gX⟩ | exact ⟨M1, M2, Q1, Q2, R1, R2, _, rfl, rfl, (b1.setCell (by first | exact Nat.le_refl _ | (simp; done)) _).setCell (by first | exact Nat.le_refl _ | (simp; done)) _, set2_same x1, gU, gS, gX⟩ | exact ⟨M1, M2, Q1, Q2, R1, R2, _, rfl, rfl, ((b1.setCell (by first | exact Nat.le_refl _ | (simp; done)) _).setCell (by first | exact Nat.le_refl _ | (simp; done)) _).drew, set2_same x1, gU, gS, gX⟩ | exact ⟨M1, M2, Q1, Q2, R1, R2, _, rfl, rfl, (b1.alloc b1.size _).drew, nw1 _ _, gU, gS, gX⟩
      case rest =>
        obtain ⟨M1, M2, Q1, Q2, R1, R2, gd, rfl, rfl, b, hBd, f8, f9, f10⟩ := hcut
        have F8 := Lib.hid f8
        have F9 := Lib.hid f9
        have F10 := Lib.hid f10
        clear f8 f9 f10
        unfold Gives pv at F8 F9 F10
        replace Bc := Lib.hid (Bc.out.below b)
        replace Ba := Lib.hid (Ba.out.below b)
        replace Bb := Lib.hid (Bb.out.below b)
        replace Bs := Lib.hid (Bs.out.below b)
        replace BW := Lib.hid (then_ (n := 0) BW.out b)
        have Bd := Lib.hid hBd
        clear b hBd F7
        obtain ⟨cc0, cc1⟩ := Bc.out.cells
        have lc := Bc.out.lt
        obtain ⟨cs0, cs1⟩ := Bs.out.cells
        have ls := Bs.out.lt
        obtain ⟨cd0, cd1⟩ := Bd.out.cells
        have ld := Bd.out.lt
        go_wp2_with fail
        clear cc0 cc1 lc cs0 cs1 ls cd0 cd1 ld
        refine (F8.out wc).mono ?_
        rintro e v17 ⟨rfl, b⟩
        replace Bc := Lib.hid (Bc.out.below b)
        replace Ba := Lib.hid (Ba.out.below b)
        replace Bb := Lib.hid (Bb.out.below b)
        replace Bs := Lib.hid (Bs.out.below b)
        replace Bd := Lib.hid (Bd.out.below b)
        replace BW := Lib.hid (then_ (n := 0) BW.out b)
        clear b
        obtain ⟨cc0, cc1⟩ := Bc.out.cells
        have lc := Bc.out.lt
        obtain ⟨cb0, cb1⟩ := Bb.out.cells
        have lb := Bb.out.lt
        obtain ⟨cd0, cd1⟩ := Bd.out.cells
        have ld := Bd.out.lt
        have kA := al1 v17 (.cells #[.int .i64 R1, .int .i64 R2] 32)
        have kV := nw1 v17 (.cells #[.int .i64 R1, .int .i64 R2] 32)
        replace Bc := Lib.hid (Bc.out.below kA)
        replace Ba := Lib.hid (Ba.out.below kA)
        replace Bb := Lib.hid (Bb.out.below kA)
        replace Bs := Lib.hid (Bs.out.below kA)
        replace Bd := Lib.hid (Bd.out.below kA)
        replace BW := Lib.hid (then_ (n := 0) BW.out kA)
        have Bp : Hid (Bx _ v17.heap.size 32 R1 R2) := Lib.hid kV
        clear kA kV
        go_wp2_with fail
        clear cc0 cc1 lc cb0 cb1 lb cd0 cd1 ld
        generalize World.alloc v17 _ = Wp at *
        generalize hp : v17.heap.size = gp at *
        clear hp
        refine (F9.out Wp).mono ?_
        rintro e v18 ⟨rfl, b⟩
        replace Bc := Lib.hid (Bc.out.below b)
        replace Ba := Lib.hid (Ba.out.below b)
        replace Bb := Lib.hid (Bb.out.below b)
        replace Bs := Lib.hid (Bs.out.below b)
        replace Bd := Lib.hid (Bd.out.below b)
        replace Bp := Lib.hid (Bp.out.below b)
        replace BW := Lib.hid (then_ (n := 0) BW.out b)
        clear b
        obtain ⟨cc0, cc1⟩ := Bc.out.cells
        have lc := Bc.out.lt
        obtain ⟨ca0, ca1⟩ := Ba.out.cells
        have la := Ba.out.lt
        have kA := al1 v18 (.cells #[.int .i64 Q1, .int .i64 Q2] 32)
        have kV := nw1 v18 (.cells #[.int .i64 Q1, .int .i64 Q2] 32)
        replace Bc := Lib.hid (Bc.out.below kA)
        replace Ba := Lib.hid (Ba.out.below kA)
        replace Bb := Lib.hid (Bb.out.below kA)
        replace Bs := Lib.hid (Bs.out.below kA)
        replace Bd := Lib.hid (Bd.out.below kA)
        replace Bp := Lib.hid (Bp.out.below kA)
        replace BW := Lib.hid (then_ (n := 0) BW.out kA)
        have Bq : Hid (Bx _ v18.heap.size 32 Q1 Q2) := Lib.hid kV
        clear kA kV
        go_wp2_with fail
        clear cc0 cc1 lc ca0 ca1 la
        generalize World.alloc v18 _ = Wq at *
        generalize hq : v18.heap.size = gq at *
        clear hq
        refine (F10.out Wq).mono ?_
        rintro e v19 ⟨rfl, b⟩
        replace Bc := Lib.hid (Bc.out.below b)
        replace Ba := Lib.hid (Ba.out.below b)
        replace Bb := Lib.hid (Bb.out.below b)
        replace Bs := Lib.hid (Bs.out.below b)
        replace Bd := Lib.hid (Bd.out.below b)
        replace Bp := Lib.hid (Bp.out.below b)
        replace Bq := Lib.hid (Bq.out.below b)
        replace BW := Lib.hid (then_ (n := 0) BW.out b)
        clear b
        obtain ⟨cp0, cp1⟩ := Bp.out.cells
        have lp := Bp.out.lt
        have kA := al1 v19 (.cells #[.int .i64 R1, .int .i64 R2] 32)
        have kV := nw1 v19 (.cells #[.int .i64 R1, .int .i64 R2] 32)
        replace Bc := Lib.hid (Bc.out.below kA)
        replace Ba := Lib.hid (Ba.out.below kA)
        replace Bb := Lib.hid (Bb.out.below kA)
        replace Bs := Lib.hid (Bs.out.below kA)
        replace Bd := Lib.hid (Bd.out.below kA)
        replace Bp := Lib.hid (Bp.out.below kA)
        replace Bq := Lib.hid (Bq.out.below kA)
        replace BW := Lib.hid (then_ (n := 0) BW.out kA)
        have Br : Hid (Bx _ v19.heap.size 32 R1 R2) := Lib.hid kV
        clear kA kV
        have BF := BW.out
        go_wp2
        go_meet
        case rel => exact BF
  case rest =>
    have BW := Lib.hid hcut
    have CEW := Lib.hid (CE.out wc hcut)
    clear hcut HF Bc Ba Bb Bs CE CN P0 P1
    go_wp2_with fail
    refine CEW.out.mono ?_
    rintro e v30 ⟨P', D', X', Y', rfl, P0', P1', b⟩
    clear CEW
    unfold pv
    have CO1 := Lib.hid (fun W => implOn P' D' X' Y' W)
    have CO2 := Lib.hid (fun W => specOn P' D' X' Y' W)
    have CN1 := Lib.hid (fun W => implNeg P' D' X' Y' W)
    have CN2 := Lib.hid (fun W => specNeg P' D' X' Y' W)
    have CZ1 := Lib.hid (fun W => implZero P' D' W)
    have CZ2 := Lib.hid (fun W => specZero P' D' W)
    generalize (okC P' D' && inF P' X' Y') = ok1 at *
    obtain ⟨n1', n2', hn'⟩ := if_pv2 (okA P' D' X' Y') (-X' % P') Y' 0 0
    obtain ⟨z1', z2', hz'⟩ := if_pv2 (okC P' D') 0 1 0 0
    rw [hn'] at CN1 CN2
    rw [hz'] at CZ1 CZ2
    clear hn' hz'
    generalize okA P' D' X' Y' = ok2 at *
    generalize okC P' D' = ok3 at *
    unfold pv at CO1 CO2 CN1 CN2 CZ1 CZ2
    obtain ⟨k0, k1⟩ := nw2 v30 (.cells #[.int .i64 P', .int .i64 D'] 25) (.cells #[.int .i64 X', .int .i64 Y'] 32)
    replace BW := Lib.hid (then_ (n := 0) (then_ (n := 0) BW.out b) (al2 v30 (.cells #[.int .i64 P', .int .i64 D'] 25) (.cells #[.int .i64 X', .int .i64 Y'] 32)))
    have Be : Hid (Bx _ v30.heap.size 25 P' D') := Lib.hid k0
    have Bf : Hid (Bx _ (v30.heap.size + 1) 32 X' Y') := Lib.hid k1
    clear k0 k1 b
    go_wp2_with fail
    generalize World.alloc (World.alloc v30 _) _ = W30 at *
    generalize hge : v30.heap.size = ge at *
    clear hge
    refine (CO1.out W30).mono ?_
    rintro e v31 ⟨rfl, b⟩
    replace Be := Lib.hid (Be.out.below b)
    replace Bf := Lib.hid (Bf.out.below b)
    replace BW := Lib.hid (then_ (n := 0) BW.out b)
    clear b
    obtain ⟨ce0, ce1⟩ := Be.out.cells
    have le := Be.out.lt
    obtain ⟨cf0, cf1⟩ := Bf.out.cells
    have lf := Bf.out.lt
    go_wp2_with fail
    clear ce0 ce1 le cf0 cf1 lf
    refine (CO2.out v31).mono ?_
    rintro e v32 ⟨rfl, b⟩
    replace Be := Lib.hid (Be.out.below b)
    replace Bf := Lib.hid (Bf.out.below b)
    replace BW := Lib.hid (then_ (n := 0) BW.out b)
    clear b
    obtain ⟨ce0, ce1⟩ := Be.out.cells
    have le := Be.out.lt
    obtain ⟨cf0, cf1⟩ := Bf.out.cells
    have lf := Bf.out.lt
    go_wp2_with fail
    clear ce0 ce1 le cf0 cf1 lf
    refine (CN1.out v32).mono ?_
    rintro e v33 ⟨rfl, b⟩
    replace Be := Lib.hid (Be.out.below b)
    replace Bf := Lib.hid (Bf.out.below b)
    replace BW := Lib.hid (then_ (n := 0) BW.out b)
    clear b
    obtain ⟨ce0, ce1⟩ := Be.out.cells
    have le := Be.out.lt
    obtain ⟨cf0, cf1⟩ := Bf.out.cells
    have lf := Bf.out.lt
    have kA := al1 v33 (.cells #[.int .i64 n1', .int .i64 n2'] 32)
    have kV := nw1 v33 (.cells #[.int .i64 n1', .int .i64 n2'] 32)
    replace Be := Lib.hid (Be.out.below kA)
    replace Bf := Lib.hid (Bf.out.below kA)
    replace BW := Lib.hid (then_ (n := 0) BW.out kA)
    have Bh : Hid (Bx _ v33.heap.size 32 n1' n2') := Lib.hid kV
    clear kA kV
    go_wp2_with fail
    clear ce0 ce1 le cf0 cf1 lf
    generalize World.alloc v33 _ = Wh at *
    generalize hh : v33.heap.size = gh at *
    clear hh
    refine (CN2.out Wh).mono ?_
    rintro e v34 ⟨rfl, b⟩
    replace Be := Lib.hid (Be.out.below b)
    replace Bf := Lib.hid (Bf.out.below b)
    replace Bh := Lib.hid (Bh.out.below b)
    replace BW := Lib.hid (then_ (n := 0) BW.out b)
    clear b
    obtain ⟨ce0, ce1⟩ := Be.out.cells
    have le := Be.out.lt
    have kA := al1 v34 (.cells #[.int .i64 n1', .int .i64 n2'] 32)
    have kV := nw1 v34 (.cells #[.int .i64 n1', .int .i64 n2'] 32)
    replace Be := Lib.hid (Be.out.below kA)
    replace Bf := Lib.hid (Bf.out.below kA)
    replace Bh := Lib.hid (Bh.out.below kA)
    replace BW := Lib.hid (then_ (n := 0) BW.out kA)
    have Bi : Hid (Bx _ v34.heap.size 32 n1' n2') := Lib.hid kV
    clear kA kV
    go_wp2_with fail
    clear ce0 ce1 le
    generalize World.alloc v34 _ = Wi at *
    generalize hi : v34.heap.size = gi at *
    clear hi
    refine (CZ1.out Wi).mono ?_
    rintro e v35 ⟨rfl, b⟩
    replace Be := Lib.hid (Be.out.below b)
    replace Bf := Lib.hid (Bf.out.below b)
    replace Bh := Lib.hid (Bh.out.below b)
    replace Bi := Lib.hid (Bi.out.below b)
    replace BW := Lib.hid (then_ (n := 0) BW.out b)
    clear b
    obtain ⟨ce0, ce1⟩ := Be.out.cells
    have le := Be.out.lt
    have kA := al1 v35 (.cells #[.int .i64 z1', .int .i64 z2'] 32)
    have kV := nw1 v35 (.cells #[.int .i64 z1', .int .i64 z2'] 32)
    replace Be := Lib.hid (Be.out.below kA)
    replace Bf := Lib.hid (Bf.out.below kA)
    replace Bh := Lib.hid (Bh.out.below kA)
    replace Bi := Lib.hid (Bi.out.below kA)
    replace BW := Lib.hid (then_ (n := 0) BW.out kA)
    have Bj : Hid (Bx _ v35.heap.size 32 z1' z2') := Lib.hid kV
    clear kA kV
    go_wp2_with fail
    clear ce0 ce1 le
    generalize World.alloc v35 _ = Wj at *
    generalize hj : v35.heap.size = gj at *
    clear hj
    refine (CZ2.out Wj).mono ?_
    rintro e v36 ⟨rfl, b⟩
    replace Be := Lib.hid (Be.out.below b)
    replace Bf := Lib.hid (Bf.out.below b)
    replace Bh := Lib.hid (Bh.out.below b)
    replace Bi := Lib.hid (Bi.out.below b)
    replace Bj := Lib.hid (Bj.out.below b)
    replace BW := Lib.hid (then_ (n := 0) BW.out b)
    clear b
    obtain ⟨ch0, ch1⟩ := Bh.out.cells
    have lh := Bh.out.lt
    obtain ⟨ci0, ci1⟩ := Bi.out.cells
    have li := Bi.out.lt
    obtain ⟨cj0, cj1⟩ := Bj.out.cells
    have lj := Bj.out.lt
    have kA := al1 v36 (.cells #[.int .i64 z1', .int .i64 z2'] 32)
    have kV := nw1 v36 (.cells #[.int .i64 z1', .int .i64 z2'] 32)
    replace Be := Lib.hid (Be.out.below kA)
    replace Bf := Lib.hid (Bf.out.below kA)
    replace Bh := Lib.hid (Bh.out.below kA)
    replace Bi := Lib.hid (Bi.out.below kA)
    replace Bj := Lib.hid (Bj.out.below kA)
    replace BW := Lib.hid (then_ (n := 0) BW.out kA)
    have Bl : Hid (Bx _ v36.heap.size 32 z1' z2') := Lib.hid kV
    clear kA kV
    have BF := BW.out
    have e1 : (ok1 == ok1) = true := by simp
    have e2 : (ok2 == ok2) = true := by simp
    have e3 : (ok3 == ok3) = true := by simp
    go_wp2
    go_ret
    exact ⟨rfl, BF⟩
end Go.Proofs.Ytapdecmaaciaaaa.LawGroup
