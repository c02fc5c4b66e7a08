/-
  The walk of the law on signatures.
-/
import Derived.Test.YtbljmgmpmmajeaaDoorSgnF
import Derived.Deep.Cut
namespace Go.Proofs.YtbljmgmpmmajeaaDoor.LawSigned
open Go.ChangeShapes Go.WideShapes Go.ChangeAt Go.RowKit
open Go.Proofs.YtbljmgmpmmajeaaDoor.Mem Go.Proofs.YtbljmgmpmmajeaaDoor.Ints Go.Proofs.YtbljmgmpmmajeaaDoor.Key Go.Proofs.YtbljmgmpmmajeaaDoor.Cha Go.Proofs.YtbljmgmpmmajeaaDoor.Rec Go.Proofs.YtbljmgmpmmajeaaDoor.Sgt Go.Proofs.YtbljmgmpmmajeaaDoor.Chd Go.Proofs.YtbljmgmpmmajeaaDoor.Chk Go.Proofs.YtbljmgmpmmajeaaDoor.Chl Go.Proofs.YtbljmgmpmmajeaaDoor.DrawO Go.Proofs.YtbljmgmpmmajeaaDoor.DrawQ Go.Proofs.YtbljmgmpmmajeaaDoor.SgnF
set_option linter.unusedVariables false
set_option maxRecDepth 100000

set_option maxHeartbeats 20000000 in
theorem walk (A : Option Addr) (n c : Nat) (cs : List UInt8) (D : Option Addr) (m d : Nat) (ds : List UInt8) (hn : n ≤ maxLen) (hm : m ≤ maxLen) (w : World) (hT : Tb w) (hx : Rd w w.heap.size 1 A n (Cur.bytes cs)) (hy : Rd w w.heap.size 1 D m (Cur.bytes ds)) :
    Calls Tryd.prog 10 #[.slice A n c, .slice D m d] w fun e w' => e = .returned (.bool true) ∧ Below w.heap.size w w' := by
  by_cases hbig : 1048576 < wrap64 ((n : Int) + (m : Int))
  · clear hx hy
    go_enter Tryd.func10, Tryd.ntmps10
    go_wp2
    go_ret
    exact ⟨rfl, Below.refl _ _⟩
  have hbig' : decide (1048576 < wrap64 ((n : Int) + (m : Int))) = false := by simpa using hbig
  have DT := Lib.hid (drawText A n c cs w hn hx)
  have RY := Lib.hid (fun W (h : Below w.heap.size w W) => (hy.below h (Nat.le_refl _)).mono h.size)
  have DW := Lib.hid (fun W h => drawWith D m d ds W hm (RY.out W h))
  have DC := Lib.hid (fun W h => drawCheck D m d ds W hm (RY.out W h))
  have DO := Lib.hid (fun W h => drawOf D m d ds W hm (RY.out W h))
  have DK := Lib.hid (fun W h => drawKey D m d ds W hm (RY.out W h))
  have HT := Lib.hid (fun W (h : Below w.heap.size w W) => hT.below h)
  clear hx hy RY hT hbig
  go_enter Tryd.func10, Tryd.ntmps10
  go_wp2_with fail
  refine DT.out.mono ?_
  rintro e v0 ⟨a, s, rfl, hs, b⟩
  obtain ⟨u, v, k, q, bb, bk, f1, f2, f3, f4, f5, f6, f7⟩ := factsA a s (by unfold maxLen; omega)
  have F1 := Lib.hid f1
  have F2 := Lib.hid f2
  have F3 := Lib.hid f3
  have F4 := Lib.hid f4
  have F5 := Lib.hid f5
  have F6 := Lib.hid f6
  have F7 := Lib.hid f7
  have BW := Lib.hid b
  clear f1 f2 f3 f4 f5 f6 f7 b DT
  unfold Gt at F1 F5
  unfold Gw at F2 F3 F4 F6
  go_wp2_with fail
  refine (F1.out v0 (HT.out _ BW.out)).mono ?_
  rintro e v1 ⟨rfl, b⟩
  replace BW := Lib.hid (then_ (n := 0) BW.out b)
  clear b
  have kA := al1 v1 (.cells #[.int .i64 u, .int .i64 v] 28)
  have kV := nw1 v1 (.cells #[.int .i64 u, .int .i64 v] 28)
  replace BW := Lib.hid (then_ (n := 0) BW.out kA)
  have Xx := Lib.hid kV
  clear kA kV
  go_wp2_with fail
  generalize World.alloc v1 _ = Wx at *
  generalize hx : v1.heap.size = gx at *
  clear hx
  refine (F2.out Wx).mono ?_
  rintro e v2 ⟨rfl, b⟩
  replace Xx := Lib.hid (bx Xx.out b)
  replace BW := Lib.hid (then_ (n := 0) BW.out b)
  clear b
  have kA := al1 v2 (.cells #[.int .i64 u, .int .i64 v] 28)
  have kV := nw1 v2 (.cells #[.int .i64 u, .int .i64 v] 28)
  replace Xx := Lib.hid (bx Xx.out kA)
  replace BW := Lib.hid (then_ (n := 0) BW.out kA)
  have Xy := Lib.hid kV
  clear kA kV
  go_wp2_with fail
  generalize World.alloc v2 _ = Wy at *
  generalize hy : v2.heap.size = gy at *
  clear hy
  refine (F3.out Wy).mono ?_
  rintro e v3 ⟨rfl, b⟩
  replace Xx := Lib.hid (bx Xx.out b)
  replace Xy := Lib.hid (bx Xy.out b)
  replace BW := Lib.hid (then_ (n := 0) BW.out b)
  clear b
  go_wp2_with fail
  refine (F4.out v3).mono ?_
  rintro e v4 ⟨rfl, b⟩
  replace Xx := Lib.hid (bx Xx.out b)
  replace Xy := Lib.hid (bx Xy.out b)
  replace BW := Lib.hid (then_ (n := 0) BW.out b)
  clear b
  go_wp2_with fail
  refine (F5.out v4 (HT.out _ BW.out)).mono ?_
  rintro e v5 ⟨rfl, b⟩
  replace Xx := Lib.hid (bx Xx.out b)
  replace Xy := Lib.hid (bx Xy.out b)
  replace BW := Lib.hid (then_ (n := 0) BW.out b)
  clear b
  go_wp2_with fail
  refine (F6.out v5).mono ?_
  rintro e v6 ⟨rfl, b⟩
  replace Xx := Lib.hid (bx Xx.out b)
  replace Xy := Lib.hid (bx Xy.out b)
  replace BW := Lib.hid (then_ (n := 0) BW.out b)
  clear b
  obtain ⟨cx0, cx1⟩ := row2 Xx.out
  obtain ⟨cy0, cy1⟩ := row2 Xy.out
  have hnq := neqS u v
  go_upto_if 122 with (fail)
  clear cx0 cx1 cy0 cy1 F1 F2 F3 F4 F5 F6
  go_cut [19, 20, 21, 22] from 49 (fun s19 s20 s21 s22 wc => Below w.heap.size w wc)
  case first =>
    cases bb
    · go_wp2
      go_meet
      case rel => exact BW.out
    · obtain ⟨rfl, g1, g2, g3⟩ := F7.out rfl
      have G1 := Lib.hid g1
      have G2 := Lib.hid g2
      have G3 := Lib.hid g3
      clear g1 g2 g3 F7 DW DC DO DK
      unfold Gt at G1 G2
      unfold Gw at G3
      obtain ⟨cx0, cx1⟩ := row2 Xx.out
      have lx := bx_lt Xx.out
      go_wp2_with fail
      clear cx0 cx1 lx
      refine (G1.out v6 (HT.out _ BW.out)).mono ?_
      rintro e v21 ⟨rfl, b⟩
      replace Xx := Lib.hid (bx Xx.out b)
      replace Xy := Lib.hid (bx Xy.out b)
      replace BW := Lib.hid (then_ (n := 0) BW.out b)
      clear b
      go_wp2_with fail
      refine (G2.out v21 (HT.out _ BW.out)).mono ?_
      rintro e v22 ⟨rfl, b⟩
      replace Xx := Lib.hid (bx Xx.out b)
      replace Xy := Lib.hid (bx Xy.out b)
      replace BW := Lib.hid (then_ (n := 0) BW.out b)
      clear b
      have kA := al1 v22 (.cells #[.int .i64 u, .int .i64 v] 28)
      have kV := nw1 v22 (.cells #[.int .i64 u, .int .i64 v] 28)
      replace Xx := Lib.hid (bx Xx.out kA)
      replace Xy := Lib.hid (bx Xy.out kA)
      replace BW := Lib.hid (then_ (n := 0) BW.out kA)
      have Xz := Lib.hid kV
      clear kA kV
      go_wp2_with fail
      generalize World.alloc v22 _ = Wz at *
      generalize hz : v22.heap.size = gz at *
      clear hz
      refine (G3.out Wz).mono ?_
      rintro e v23 ⟨rfl, b⟩
      replace Xx := Lib.hid (bx Xx.out b)
      replace Xy := Lib.hid (bx Xy.out b)
      replace Xz := Lib.hid (bx Xz.out b)
      replace BW := Lib.hid (then_ (n := 0) BW.out b)
      clear b
      obtain ⟨cx0, cx1⟩ := row2 Xx.out
      obtain ⟨cz0, cz1⟩ := row2 Xz.out
      have BF := BW.out
      go_wp2
      go_meet
      case rel => exact BF
  case rest =>
    have BW := Lib.hid hcut
    clear hcut F7 Xx Xy hnq
    generalize wc = V0 at *
    go_wp2_with fail
    refine (DW.out _ BW.out).mono ?_
    rintro e v30 ⟨a2, q2, t, rfl, ht, b⟩
    obtain ⟨u2, v2, k2, b2, bk2, f1, f2, f3, f7⟩ := factsB a2 q2 t (by unfold maxLen; omega)
    have F1 := Lib.hid f1
    have F2 := Lib.hid f2
    have F3 := Lib.hid f3
    have F7 := Lib.hid f7
    replace BW := Lib.hid (then_ (n := 0) BW.out b)
    clear f1 f2 f3 f7 b DW
    unfold Gt at F1
    unfold Gw at F2 F3
    go_wp2_with fail
    refine (F1.out v30 (HT.out _ BW.out)).mono ?_
    rintro e v31 ⟨rfl, b⟩
    replace BW := Lib.hid (then_ (n := 0) BW.out b)
    clear b
    have kA := al1 v31 (.cells #[.int .i64 u2, .int .i64 v2] 28)
    have kV := nw1 v31 (.cells #[.int .i64 u2, .int .i64 v2] 28)
    replace BW := Lib.hid (then_ (n := 0) BW.out kA)
    have Xp := Lib.hid kV
    clear kA kV
    go_wp2_with fail
    generalize World.alloc v31 _ = Wp at *
    generalize hp : v31.heap.size = gp at *
    clear hp
    refine (F2.out Wp).mono ?_
    rintro e v32 ⟨rfl, b⟩
    replace Xp := Lib.hid (bx Xp.out b)
    replace BW := Lib.hid (then_ (n := 0) BW.out b)
    clear b
    have kA := al1 v32 (.cells #[.int .i64 u2, .int .i64 v2] 28)
    have kV := nw1 v32 (.cells #[.int .i64 u2, .int .i64 v2] 28)
    replace Xp := Lib.hid (bx Xp.out kA)
    replace BW := Lib.hid (then_ (n := 0) BW.out kA)
    have Xr := Lib.hid kV
    clear kA kV
    obtain ⟨cp0, cp1⟩ := row2 Xp.out
    have lp := bx_lt Xp.out
    have hnq := neqS u2 v2
    go_upto_if 193 with (fail)
    clear cp0 cp1 lp F1 F2
    generalize World.alloc v32 _ = Wr at *
    generalize hr : v32.heap.size = gr at *
    clear hr
    go_cut [30, 31, 32, 33] from 194 (fun s30 s31 s32 s33 wc => Below w.heap.size w wc)
    case first =>
      cases b2
      · go_wp2
        go_meet
        case rel => exact BW.out
      · obtain ⟨rfl, g1⟩ := F7.out rfl
        have G1 := Lib.hid g1
        clear g1 F7 DC DO DK
        unfold Gt at G1
        go_wp2_with fail
        refine (F3.out Wr).mono ?_
        rintro e v41 ⟨rfl, b⟩
        replace Xp := Lib.hid (bx Xp.out b)
        replace BW := Lib.hid (then_ (n := 0) BW.out b)
        clear b
        obtain ⟨cp0, cp1⟩ := row2 Xp.out
        have lp := bx_lt Xp.out
        go_wp2_with fail
        clear cp0 cp1 lp
        refine (G1.out v41 (HT.out _ BW.out)).mono ?_
        rintro e v42 ⟨rfl, b⟩
        replace Xp := Lib.hid (bx Xp.out b)
        replace BW := Lib.hid (then_ (n := 0) BW.out b)
        clear b
        have BF := BW.out
        go_wp2
        go_meet
        case rel => exact BF
    case rest =>
      have BW := Lib.hid hcut
      clear hcut F7 F3 Xp Xr hnq
      generalize wc = V1 at *
      go_wp2_with fail
      refine (DC.out _ BW.out).mono ?_
      rintro e v50 ⟨k3, t3, R3, S3, rfl, ht3, b⟩
      obtain ⟨x3, b3, f1, f2, -, -⟩ := checkBoth k3 t3 R3 S3 (by unfold maxLen; omega)
      have F1 := Lib.hid f1
      have F2 := Lib.hid f2
      replace BW := Lib.hid (then_ (n := 0) BW.out b)
      clear f1 f2 b DC
      unfold pv at F1 F2
      have kA := al1 v50 (.cells #[.int .i64 R3, .int .i64 S3] 28)
      have kV := nw1 v50 (.cells #[.int .i64 R3, .int .i64 S3] 28)
      replace BW := Lib.hid (then_ (n := 0) BW.out kA)
      have Xe := Lib.hid kV
      clear kA kV
      go_wp2_with fail
      generalize World.alloc v50 _ = We at *
      generalize he : v50.heap.size = ge at *
      clear he
      refine (F1.out We (HT.out _ BW.out)).mono ?_
      rintro e v51 ⟨rfl, b⟩
      replace Xe := Lib.hid (bx Xe.out b)
      replace BW := Lib.hid (then_ (n := 0) BW.out b)
      clear b
      obtain ⟨ce0, ce1⟩ := row2 Xe.out
      have le := bx_lt Xe.out
      go_wp2_with fail
      clear ce0 ce1 le
      refine (F2.out v51).mono ?_
      rintro e v52 ⟨rfl, b⟩
      replace Xe := Lib.hid (bx Xe.out b)
      replace BW := Lib.hid (then_ (n := 0) BW.out b)
      clear b
      go_wp2_with fail
      refine (DO.out _ BW.out).mono ?_
      rintro e v60 ⟨r4, k4, t4, rfl, ht4, b⟩
      obtain ⟨x4, b4, f1, f2, -, -⟩ := chalBoth r4 k4 t4 (by unfold maxLen; omega)
      have F3 := Lib.hid f1
      have F4 := Lib.hid f2
      replace BW := Lib.hid (then_ (n := 0) BW.out b)
      clear f1 f2 b DO Xe F1 F2
      go_wp2_with fail
      refine (F3.out v60 (HT.out _ BW.out)).mono ?_
      rintro e v61 ⟨rfl, b⟩
      replace BW := Lib.hid (then_ (n := 0) BW.out b)
      clear b
      go_wp2_with fail
      refine (F4.out v61).mono ?_
      rintro e v62 ⟨rfl, b⟩
      replace BW := Lib.hid (then_ (n := 0) BW.out b)
      clear b
      go_wp2_with fail
      refine (DK.out _ BW.out).mono ?_
      rintro e v70 ⟨a5, rfl, b⟩
      replace BW := Lib.hid (then_ (n := 0) BW.out b)
      have K1 := Lib.hid (fun W => implKey a5 W)
      have K2 := Lib.hid (fun W => specKey a5 W)
      generalize okK a5 = b5 at *
      clear b DK HT F3 F4
      go_wp2_with fail
      refine (K1.out _).mono ?_
      rintro e w' ⟨rfl, rfl⟩
      go_wp2_with fail
      refine (K2.out _).mono ?_
      rintro e w' ⟨rfl, rfl⟩
      go_wp2
      go_ret
      exact ⟨rfl, BW.out⟩
end Go.Proofs.YtbljmgmpmmajeaaDoor.LawSigned
