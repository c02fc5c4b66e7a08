/-
  The walk of the law on secrets.
-/
import Derived.Test.YtfoclgijhkibeabDoorSecF
import Derived.Test.YtfoclgijhkibeabDoorDrawX
import Derived.Test.YtfoclgijhkibeabDoorBth
import Derived.Deep.Cut
namespace Go.Proofs.YtfoclgijhkibeabDoor.LawSecrets
open Go.ChangeShapes Go.WideShapes Go.ChangeAt Go.RowKit
open Go.Proofs.YtfoclgijhkibeabDoor.Mem Go.Proofs.YtfoclgijhkibeabDoor.Ints Go.Proofs.YtfoclgijhkibeabDoor.Key Go.Proofs.YtfoclgijhkibeabDoor.Cha Go.Proofs.YtfoclgijhkibeabDoor.Rec Go.Proofs.YtfoclgijhkibeabDoor.Strs Go.Proofs.YtfoclgijhkibeabDoor.Sgs Go.Proofs.YtfoclgijhkibeabDoor.Sgt Go.Proofs.YtfoclgijhkibeabDoor.Chd Go.Proofs.YtfoclgijhkibeabDoor.Chk Go.Proofs.YtfoclgijhkibeabDoor.Chl Go.Proofs.YtfoclgijhkibeabDoor.DrawO Go.Proofs.YtfoclgijhkibeabDoor.DrawV Go.Proofs.YtfoclgijhkibeabDoor.DrawX Go.Proofs.YtfoclgijhkibeabDoor.SgnF Go.Proofs.YtfoclgijhkibeabDoor.SecF Go.Proofs.YtfoclgijhkibeabDoor.Bth
set_option linter.unusedVariables false
set_option maxRecDepth 100000

theorem bhL_all (k : Int) : ∀ (l : List ByteArray) (a : List Sg) (h0 u : Bool), l.length = a.length → bhL k l a h0 = (u, true) → (u = true → h0 = true) ∧ ∀ j (hl : j < l.length) (ha : j < a.length), ck k l[j] a[j] = true ∧ (u = true → hd k l[j] a[j] = true)
  | [], a, h0, u, e, h => by
    rw [bhL_end k [] a h0 rfl] at h
    have : h0 = u := by simpa using h
    exact ⟨fun q => by rw [this]; exact q, fun j hl => by simp at hl⟩
  | s :: l, [], h0, u, e, h => by simp at e
  | s :: l, p :: a, h0, u, e, h => by
    unfold bhL at h
    by_cases hc : ck k s p = true
    · rw [if_pos hc] at h
      obtain ⟨i1, i2⟩ := bhL_all k l a _ u (by simpa using e) h
      refine ⟨fun q => by have := i1 q; simp at this; exact this.1, fun j hl ha => ?_⟩
      cases j with
      | zero => exact ⟨hc, fun q => by have := i1 q; simp at this; exact this.2⟩
      | succ j => exact i2 j (by simpa using hl) (by simpa using ha)
    · rw [if_neg hc] at h
      simp at h
theorem bh_all (k : Int) (l : List ByteArray) (a : List Sg) (u : Bool) (h : bh k l a = (u, true)) : l.length = a.length ∧ ∀ j (hl : j < l.length) (ha : j < a.length), ck k l[j] a[j] = true ∧ (u = true → hd k l[j] a[j] = true) := by
  unfold bh at h
  by_cases hc : (okK k && (decide (l.length ≤ 10) && decide (l.length = a.length))) = true
  · rw [if_pos hc] at h
    simp only [Bool.and_eq_true, decide_eq_true_eq] at hc
    exact ⟨hc.2.2, (bhL_all k l a true u hc.2.2 h).2⟩
  · rw [if_neg hc] at h
    simp at h

set_option maxHeartbeats 20000000 in
theorem walk (A : Option Addr) (n c : Nat) (cs : List UInt8) (D : Option Addr) (m d : Nat) (ds : List UInt8) (hn : n ≤ maxLen) (hm : m ≤ maxLen) (w : World) (hT : Tb w) (hx : Rd w w.heap.size 1 A n (Cur.bytes cs)) (hy : Rd w w.heap.size 1 D m (Cur.bytes ds)) :
    Calls Tryd.prog 3 #[.slice A n c, .slice D m d] w fun e w' => e = .returned (.bool true) ∧ Below w.heap.size w w' := by
  by_cases hbig : 1048576 < wrap64 ((n : Int) + (m : Int))
  · clear hx hy
    go_enter Tryd.func3, Tryd.ntmps3
    go_wp2
    go_ret
    exact ⟨rfl, Below.refl _ _⟩
  have hbig' : decide (1048576 < wrap64 ((n : Int) + (m : Int))) = false := by simpa using hbig
  have DT := Lib.hid (drawWith A n c cs w hn hx)
  have RY := Lib.hid (fun W (h : Below w.heap.size w W) => (hy.below h (Nat.le_refl _)).mono h.size)
  have DW := Lib.hid (fun W h => drawWith D m d ds W hm (RY.out W h))
  have DV := Lib.hid (fun W h => drawSecret D m d ds W hm (RY.out W h))
  have DX := Lib.hid (fun W h => drawBoth D m d ds W hm (RY.out W h))
  have HT := Lib.hid (fun W (h : Below w.heap.size w W) => hT.below h)
  clear hx hy RY hT hbig
  go_enter Tryd.func3, Tryd.ntmps3
  go_wp2_with fail
  refine DT.out.mono ?_
  rintro e v0 ⟨n0, m0, s, rfl, hs, b⟩
  have BW := Lib.hid b
  clear b DT
  go_wp2_with fail
  refine (DW.out _ BW.out).mono ?_
  rintro e v1 ⟨n9, m9, t, rfl, ht, b⟩
  replace BW := Lib.hid (then_ (n := 0) BW.out b)
  clear b DW
  obtain ⟨k, bk, u, v, b1, q, z, b2, f1, f2, f3, f7⟩ := factsC n0 m0 s t (by unfold maxLen; omega) (by unfold maxLen; omega)
  have F1 := Lib.hid f1
  have F2 := Lib.hid f2
  have F3 := Lib.hid f3
  have F7 := Lib.hid f7
  clear f1 f2 f3 f7
  unfold Gt at F2 F3
  unfold Gw at F1
  go_wp2_with fail
  refine (F1.out _).mono ?_
  rintro e v2 ⟨rfl, b⟩
  replace BW := Lib.hid (then_ (n := 0) BW.out b)
  clear b
  go_wp2_with fail
  refine (F2.out _ (HT.out _ BW.out)).mono ?_
  rintro e v3 ⟨rfl, b⟩
  replace BW := Lib.hid (then_ (n := 0) BW.out b)
  clear b
  have kA := al1 v3 (.cells #[.int .i64 u, .int .i64 v] 28)
  have Xx := Lib.hid (nw1 v3 (.cells #[.int .i64 u, .int .i64 v] 28))
  replace BW := Lib.hid (then_ (n := 0) BW.out kA)
  clear kA
  go_wp2_with fail
  generalize World.alloc v3 _ = Wx at *
  generalize hx : v3.heap.size = gx at *
  clear hx
  refine (F3.out _ (HT.out _ BW.out)).mono ?_
  rintro e v4 ⟨rfl, b⟩
  replace Xx := Lib.hid (bx Xx.out b)
  replace BW := Lib.hid (then_ (n := 0) BW.out b)
  clear b F1 F2 F3
  have kA := al1 v4 (.cells #[.int .i64 q, .int .i64 z] 28)
  have Xy := Lib.hid (nw1 v4 (.cells #[.int .i64 q, .int .i64 z] 28))
  replace Xx := Lib.hid (bx Xx.out kA)
  replace BW := Lib.hid (then_ (n := 0) BW.out kA)
  clear kA
  go_upto_region 8 with (fail)
  generalize World.alloc v4 _ = Wy at *
  generalize hy : v4.heap.size = gy at *
  clear hy
  go_cut [88] from 45 (fun s88 wc => ∃ B : Bool, s88 = .bool B ∧ wc = Wy ∧ (B = true → (bk = true ∧ b1 = true) ∧ b2 = true))
  case first =>
    cases bk
    · go_wp2
      go_meet
      case rel => exact ⟨_, rfl, rfl, by simp⟩
    · cases b1
      · go_wp2
        go_meet
        case rel => exact ⟨_, rfl, rfl, by simp⟩
      · cases b2
        · go_wp2
          go_meet
          case rel => exact ⟨_, rfl, rfl, by simp⟩
        · go_wp2
          go_meet
          case rel => exact ⟨_, rfl, rfl, by simp⟩
  case' rest => skip
  obtain ⟨B, rfl, rfl, hB⟩ := hcut
  have HBB := Lib.hid hB
  clear hB
  go_upto_if 88 with (fail)
  go_cut [17] from 45 (fun s17 wc => Below w.heap.size w wc)
  case first =>
    cases B
    · have BF := BW.out
      go_wp2
      go_meet
      case rel => exact BF
    ·
      obtain ⟨⟨rfl, rfl⟩, rfl⟩ := HBB.out rfl
      obtain ⟨x, y, f, six, g1, g2, g3, g4⟩ := F7.out rfl rfl
      have G1 := Lib.hid g1
      have G2 := Lib.hid g2
      have G3 := Lib.hid g3
      clear g1 g2 g3 F7 DV DX
      unfold Gt at G1 G2 G3
      obtain ⟨c0, c1⟩ := row2 Xx.out
      have lx := bx_lt Xx.out
      go_wp2_with fail
      clear c0 c1 lx
      refine (G1.out _ (HT.out _ BW.out)).mono ?_
      rintro e v21 ⟨rfl, b⟩
      replace Xx := Lib.hid (bx Xx.out b)
      replace Xy := Lib.hid (bx Xy.out b)
      replace BW := Lib.hid (then_ (n := 0) BW.out b)
      clear b
      obtain ⟨c0, c1⟩ := row2 Xy.out
      have lx := bx_lt Xy.out
      go_wp2_with fail
      clear c0 c1 lx
      refine (G2.out _ (HT.out _ BW.out)).mono ?_
      rintro e v22 ⟨rfl, b⟩
      replace Xx := Lib.hid (bx Xx.out b)
      replace Xy := Lib.hid (bx Xy.out b)
      replace BW := Lib.hid (then_ (n := 0) BW.out b)
      clear b
      obtain ⟨c0, c1⟩ := row2 Xx.out
      have lx := bx_lt Xx.out
      obtain ⟨c2, c3⟩ := row2 Xy.out
      have ly := bx_lt Xy.out
      go_wp2_with fail
      clear c0 c1 lx c2 c3 ly
      refine (G3.out _ (HT.out _ BW.out)).mono ?_
      rintro e v23 ⟨rfl, b⟩
      replace BW := Lib.hid (then_ (n := 0) BW.out b)
      clear b G1 G2 G3 Xx Xy
      have BF := BW.out
      rcases g4 with ⟨rfl, hne, rfl⟩ | ⟨rfl, rfl⟩
      · have e1 : (!(x != y)) = false := by simpa using hne
        go_wp2
        go_meet
        case rel => exact BF
      · go_wp2
        go_meet
        case rel => exact BF
  case rest =>
    have BF := hcut
    replace BW := Lib.hid BF
    clear hcut BF HBB F7 Xx Xy
    generalize wc = V0 at *
    go_wp2_with fail
    refine (DV.out _ BW.out).mono ?_
    rintro e v31 ⟨k1, a1, R1, S1, a2, R2, S2, rfl, ha1, ha2, b⟩
    replace BW := Lib.hid (then_ (n := 0) BW.out b)
    clear b DV
    obtain ⟨V, ok, f1, f2, f3⟩ := factsD k1 a1 R1 S1 a2 R2 S2 (by unfold maxLen; omega) (by unfold maxLen; omega)
    have F1 := Lib.hid f1
    have F2 := Lib.hid f2
    have F3 := Lib.hid f3
    clear f1 f2 f3
    unfold Gt at F1
    unfold Gw at F2 F3
    obtain ⟨nA, nB⟩ := nw2 v31 (.cells #[.int .i64 R1, .int .i64 S1] 28) (.cells #[.int .i64 R2, .int .i64 S2] 28)
    have Xa := Lib.hid nA
    have Xb := Lib.hid nB
    replace BW := Lib.hid (then_ (n := 0) BW.out (al2 v31 (.cells #[.int .i64 R1, .int .i64 S1] 28) (.cells #[.int .i64 R2, .int .i64 S2] 28)))
    clear nA nB
    go_wp2_with fail
    generalize World.alloc (World.alloc v31 _) _ = V1 at *
    generalize hga : v31.heap.size = ga at *
    clear hga
    refine (F1.out _ (HT.out _ BW.out)).mono ?_
    rintro e v32 ⟨rfl, b⟩
    replace Xa := Lib.hid (bx Xa.out b)
    replace Xb := Lib.hid (bx Xb.out b)
    replace BW := Lib.hid (then_ (n := 0) BW.out b)
    clear b F1
    obtain ⟨c0, c1⟩ := row2 Xa.out
    have lx := bx_lt Xa.out
    obtain ⟨c2, c3⟩ := row2 Xb.out
    have ly := bx_lt Xb.out
    go_wp2_with fail
    clear c0 c1 lx c2 c3 ly Xa Xb
    refine (F2.out _).mono ?_
    rintro e v33 ⟨rfl, b⟩
    replace BW := Lib.hid (then_ (n := 0) BW.out b)
    clear b F2
    cases ok
    case' true =>
      have F4 := Lib.hid (F3.out rfl)
      clear F3
      go_wp2_with fail
      refine (F4.out _).mono ?_
      rintro e v34 ⟨rfl, b⟩
      replace BW := Lib.hid (then_ (n := 0) BW.out b)
      clear b F4
      go_wp2_with fail
      generalize v34 = VT at *
    case' false =>
      clear F3
      go_wp2_with fail
      generalize v33 = VT at *
    all_goals
      refine (DX.out _ BW.out).mono ?_
      rintro e v41 ⟨k2, va, ua, q, l, a, rfl, hq, hl, o1, o2, b⟩
      obtain ⟨A1, c1, rfl⟩ := own_shapeS o1
      obtain ⟨A2, c2, rfl⟩ := own_shapeS o2
      have R1 := Lib.hid (Rd.own o1)
      have R2 := Lib.hid (Rd.own o2)
      have LL1 : l.length = q := rd_len R1.out
      have LL2 : a.length = q := rd_sg_len R2.out
      replace BW := Lib.hid (then_ (n := 0) BW.out b)
      clear b o1 o2 DX
      obtain ⟨uu, vv, huv⟩ : ∃ uu vv, bh k2 l a = (uu, vv) := ⟨_, _, rfl⟩
      have HS : ∀ s ∈ l, s.size ≤ maxLen := fun s hs => Nat.le_trans (hl s hs) (by unfold maxLen; omega)
      have HT2 := Lib.hid (fun W (h : Below v41.heap.size v41 W) => (HT.out v41 BW.out).below h)
      have IB := Lib.hid (fun W (h : Below v41.heap.size v41 W) => implBoth k2 A1 q c1 l A2 q c2 a W uu vv (by omega) (by unfold maxLen; omega) HS (Rdm R1.out (Nat.le_refl _) h) (Rdm R2.out (Nat.le_refl _) h) (HT2.out W h) (Lib.hid huv))
      have SB := Lib.hid (fun W (h : Below v41.heap.size v41 W) => specBoth k2 A1 q c1 l A2 q c2 a W uu vv (by omega) (by unfold maxLen; omega) HS (Rdm R1.out (Nat.le_refl _) h) (Rdm R2.out (Nat.le_refl _) h) (Lib.hid huv))
      have FA := Lib.hid (fun (h : vv = true) => (bh_all k2 l a uu (by rw [huv, h])).2)
      have CK := Lib.hid (fun j (hj : j < l.length) (ha : j < a.length) W (h : Below v41.heap.size v41 W) => implCk k2 l[j] a[j] (HS _ (List.getElem_mem hj)) W (HT2.out W h))
      clear HT huv hl HS HT2
      go_wp2_with fail
      refine (IB.out _ (Below.refl _ _)).mono ?_
      rintro e v42 ⟨rfl, b⟩
      have B4 := Lib.hid b
      clear b IB
      go_wp2_with fail
      refine (SB.out _ B4.out).mono ?_
      rintro e v43 ⟨rfl, b⟩
      replace B4 := Lib.hid (then_ (n := 0) B4.out b)
      clear b SB
      cases vv
      · have BF := then_ (n := 0) BW.out B4.out
        cases uu
        · go_wp2
          go_ret
          exact ⟨rfl, BF⟩
        · go_wp2
          go_ret
          exact ⟨rfl, BF⟩
      · have FB := Lib.hid (FA.out rfl)
        clear FA
        have e1 : (uu != uu) = false := by simp
        go_wp2_with fail
        go_loopw [213] (fun i wr => ∃ j : Nat, j ≤ q ∧ i = .int .i64 j ∧ Below v41.heap.size v41 wr) (fun i _ => q - (intOf i).toNat)
        case atStart => exact ⟨0, by omega, rfl, B4.out⟩
        case round =>
          obtain ⟨j, hj, rfl, hb⟩ := hrel
          by_cases hlt : j < q
          · obtain ⟨g1, o1, hl1, rfl, hg1, hc1⟩ := rd_str (R1.out.below hb (Nat.le_refl _)) hlt
            obtain ⟨g2, o2, hl2, rfl, hg2, hc2, hc3⟩ := rd_sg (R2.out.below hb (Nat.le_refl _)) hlt
            have CC := Lib.hid (CK.out j hl1 hl2 wr hb)
            have QQ := Lib.hid (FB.out j hl1 hl2)
            generalize hd k2 l[j] a[j] = is at *
            generalize ck k2 l[j] a[j] = ei at *
            generalize l[j] = s5 at *
            generalize a[j].1 = z1 at *
            generalize a[j].2 = z2 at *
            obtain ⟨q1, q2⟩ := QQ.out
            subst q1
            have i0 : (0 : Int) ≤ (j : Int) := by omega
            have i1 : (j : Int) < (q : Int) := by omega
            clear QQ
            go_wp2_with fail
            refine CC.out.mono ?_
            rintro e v45 ⟨rfl, b⟩
            have B5 := hb.trans (b.mono hb.size)
            clear b CC hc1 hc2 hc3
            cases uu
            · cases is
              · go_wp2
                go_roundw
                case rel => exact ⟨j + 1, by omega, by go_num, B5⟩
                case measure => simp [intOf]; omega
              · go_wp2
                go_roundw
                case rel => exact ⟨j + 1, by omega, by go_num, B5⟩
                case measure => simp [intOf]; omega
            · obtain rfl : is = true := q2 rfl
              go_wp2
              go_roundw
              case rel => exact ⟨j + 1, by omega, by go_num, B5⟩
              case measure => simp [intOf]; omega
          · obtain rfl : j = q := by omega
            have BF := BW.out.trans (hb.mono BW.out.size)
            go_wp2
            go_ret
            exact ⟨rfl, BF⟩
end Go.Proofs.YtfoclgijhkibeabDoor.LawSecrets
