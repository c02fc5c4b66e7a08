/-
  The walk of the law FnRunes: for every two slices of bytes it returns true and changes nothing that was in memory. The program's side takes that the library's two tables of UTF-8 are as its text lays them.
-/
import Derived.Test.YtehmlkcnhccjmabDoorDraw4
import Derived.Deep.Cut
namespace Go.Proofs.YtehmlkcnhccjmabDoor.LawFnRunes
open Go.ChangeShapes Go.WideShapes Go.ChangeAt Go.RowKit
open Go.Proofs.YtehmlkcnhccjmabDoor.Mem Go.Proofs.YtehmlkcnhccjmabDoor.Ints Go.Proofs.YtehmlkcnhccjmabDoor.Mark Go.Proofs.YtehmlkcnhccjmabDoor.Rune Go.Proofs.YtehmlkcnhccjmabDoor.Enc Go.Proofs.YtehmlkcnhccjmabDoor.Text Go.Proofs.YtehmlkcnhccjmabDoor.Pairs Go.Proofs.YtehmlkcnhccjmabDoor.Runes Go.Proofs.YtehmlkcnhccjmabDoor.Less Go.Proofs.YtehmlkcnhccjmabDoor.PairLaws Go.Proofs.YtehmlkcnhccjmabDoor.RuneLaws Go.Proofs.YtehmlkcnhccjmabDoor.Draw3 Go.Proofs.YtehmlkcnhccjmabDoor.Draw4
set_option linter.unusedVariables false

theorem undef_no (b : Bool) (h : some undef = some (Value.bool b)) : False := by cases h
theorem drop_cons {zs : List Int} {k : Nat} (h : k < zs.length) : zs.drop k = zs[k] :: zs.drop (k + 1) := List.drop_eq_getElem_cons h
theorem at_true {s : ByteArray} {k : Nat} (h : ¬ Utf.bad (At.tl s k)) : ∃ x y : Int, RuneAt.atV s k = .tuple #[.int .i64 x, .int .i64 y, .bool true] := by
  unfold RuneAt.atV; rw [if_neg h]; exact ⟨_, _, rfl⟩
set_option maxRecDepth 100000 in
set_option maxHeartbeats 8000000 in
theorem walk (A : Option Addr) (n c : Nat) (cs : List UInt8) (D : Option Addr) (m d : Nat) (ds : List UInt8) (hn : n ≤ maxLen) (hm : m ≤ maxLen) (w : World) (hT : Lib.Utf8Tabs 1 2 w) (hx : Rd w w.heap.size 1 A n (Cur.bytes cs)) (hy : Rd w w.heap.size 1 D m (Cur.bytes ds)) :
    Calls Tryd.prog 7 #[.slice A n c, .slice D m d] w fun e w' => e = .returned (.bool true) ∧ Below w.heap.size w w' := by
  by_cases hbig : 1048576 < wrap64 ((n : Int) + (m : Int))
  · clear hT
    go_enter Tryd.func7, Tryd.ntmps7
    go_wp2
    go_ret
    exact ⟨rfl, Below.refl _ _⟩
  have hbig' : decide (1048576 < wrap64 ((n : Int) + (m : Int))) = false := by simpa using hbig
  have DR := Lib.hid (drawRunesOf A n c cs w hn hx)
  have RY := Lib.hid (fun W (h : Below w.heap.size w W) => (hy.below h (Nat.le_refl _)).mono h.size)
  have TT := Lib.hid (fun W (h : Below w.heap.size w W) => Utf8Tabs_below hT h)
  have DT := Lib.hid (fun W h => drawTextOf D m d ds W hm (RY.out W h))
  have DB := Lib.hid (fun W h => drawRuneBytes D m d ds W hm (RY.out W h))
  have DA := Lib.hid (fun W h => drawRuneAt D m d ds W hm (RY.out W h))
  have DN := Lib.hid (fun W h => drawNextStart D m d ds W hm (RY.out W h))
  have DI := Lib.hid (fun W h => drawIsStart D m d ds W hm (RY.out W h))
  have NO := Lib.hid (fun W h => (numberOf D m d ds W.heap.size W hm (RY.out W h)).mono fun e w' hh => (show ∃ z : Int, e = .returned (.int .i64 z) ∧ 0 ≤ z ∧ z < 1000003 ∧ W = w' from hh.imp fun z hz => ⟨hz.1, hz.2.1, hz.2.2.1, hz.2.2.2.symm⟩))
  have SI := Lib.hid sameInts
  have IR := Lib.hid implRunes
  have SR := Lib.hid specRunes
  have IT := Lib.hid implText
  have ST := Lib.hid specText
  clear hx hy hT RY
  go_enter Tryd.func7, Tryd.ntmps7
  go_wp2_with fail
  refine DR.out.mono ?_
  rintro e w1 ⟨s, rfl, hs, B1⟩
  have s1 := B1.size
  have hsm : s.size ≤ maxLen := by unfold maxLen; omega
  clear DR hbig hbig'
  go_wp2_with fail
  with_reducible refine (IR.out s w1 hsm (TT.out w1 B1)).mono ?_
  rintro e w2 ⟨v2, rfl, o2, b2⟩
  obtain ⟨A2, c2, rfl⟩ := own_shape o2
  have s2 := b2.size
  have B2 := B1.trans (b2.mono s1)
  have R2 := Lib.hid (Rd.own o2)
  clear o2 b2 B1
  go_wp2_with fail
  with_reducible refine (SR.out s w2 hsm).mono ?_
  rintro e w3 ⟨v3, rfl, o3, b3⟩
  obtain ⟨A3, c3, rfl⟩ := own_shape o3
  have s3 := b3.size
  have B3 := B2.trans (b3.mono (by omega))
  have R2c := Lib.hid (R2.out.below b3 (Nat.le_refl _))
  have R3 := Lib.hid (Rd.own o3)
  have hpl := resR_60 s
  clear o3 b3 R2 B2 SR
  have Q1 := Lib.hid (SI.out A2 A3 (resR s).length (resR s).length c2 c3 (resR s) (resR s) w2.heap.size w3.heap.size w3 (by omega) (by unfold maxLen; omega) R2c.out R3.out)
  rw [show decide (resR s = resR s) = true from decide_eq_true rfl] at Q1
  have HS := Lib.hid (And.intro (resR_ok s) (And.intro (resR_good s) (fun h => And.intro (text_of_runes (s := s) h) (And.intro (okR_text (s := s) h) (And.intro (okR_240 (s := s) h) (fun k hk => next_good (s := s) h k hk))))))
  go_wp2_with fail
  with_reducible refine Q1.out.mono ?_
  rintro e w' ⟨rfl, q, rfl⟩
  have B4 := below_drewN B3 q
  have s4 : w3.heap.size ≤ (w3.drewN q).heap.size := Nat.le_refl _
  have R2a := Lib.hid (R2c.out.below (below_drewN (Below.refl w3.heap.size w3) q) (by omega))
  generalize w3.drewN q = w4 at *
  clear B3 R2c R3 Q1
  go_upto_if 73 with fail
  go_cut [7, 9] from 46 (fun s7 s9 wc => s7 = .bool (okR s) ∧ s9 = .bool (okR s) ∧ Below w.heap.size w wc ∧ w2.heap.size ≤ wc.heap.size ∧ Rd wc w2.heap.size 1 A2 (resR s).length (ints (resR s)))
  case first => as_aux_lemma =>
    rcases hk : okR s with _ | _
    · have HK := Lib.hid hk
      clear hk
      go_wp2
      go_meet
      case rel => exact ⟨by rw [HK.out], by rw [HK.out], B4, by omega, R2a.out⟩
    · obtain ⟨f1, f2, f3⟩ := HS.out
      obtain ⟨f4, f5, hs240, f6⟩ := f3 hk
      have HN := Lib.hid f6
      have ITS := Lib.hid (fun W (hB : w2.heap.size ≤ W.heap.size) h => IT.out A2 (resR s).length c2 (resR s) w2.heap.size W (by omega) hB h)
      rw [f1, f4] at ITS
      have HK := Lib.hid hk
      clear f1 f2 f3 f4 f5 f6 hk
      go_wp2_with fail
      with_reducible refine (ITS.out w4 (by omega) R2a.out).mono ?_
      rintro e wt ⟨rfl, bt⟩
      have st := bt.size
      have Bt := B4.trans (bt.mono B4.size)
      have R2b := Lib.hid (R2a.out.below bt (by omega))
      clear bt B4 R2a ITS
      go_wp2_with fail
      with_reducible refine (NO.out wt Bt).mono ?_
      rintro e w' ⟨z, rfl, z0, z1, rfl⟩
      obtain ⟨k, hkz⟩ := Int.eq_ofNat_of_zero_le (show 0 ≤ z % ((s.size : Int) + 1) from Int.emod_nonneg _ (by omega))
      have hkl : k ≤ s.size := by have := Int.emod_lt_of_pos z (show 0 < (s.size : Int) + 1 by omega); omega
      have INX := Lib.hid (fun W => implNext s k W hs240 hkl)
      have hJ : k + nx (s.data.toList.drop k) ≤ s.size := by have := nx_le (s.data.toList.drop k); rw [List.length_drop, data_len] at this; omega
      have IAJ := Lib.hid (fun (hlt : k + nx (s.data.toList.drop k) < s.size) W (h : Below w.heap.size w W) => RuneAt.implAt s (k + nx (s.data.toList.drop k)) W hs240 hlt (TT.out W h))
      have HAT : Hid (k + nx (s.data.toList.drop k) < s.size → ∃ x y : Int, RuneAt.atV s (k + nx (s.data.toList.drop k)) = .tuple #[.int .i64 x, .int .i64 y, .bool true]) := Lib.hid (fun hlt => at_true (HN.out k hlt))
      generalize k + nx (s.data.toList.drop k) = J at *
      clear HN
      go_wp2_with fail
      with_reducible refine (INX.out wt).mono ?_
      rintro e w' ⟨rfl, rfl⟩
      clear INX
      by_cases hJl : J < s.size
      · have hJl' : (J : Int) < (s.size : Int) := by omega
        obtain ⟨ax0, ay0, eat⟩ := HAT.out hJl
        have IA := Lib.hid (IAJ.out hJl wt Bt)
        rw [eat] at IA
        clear eat HAT IAJ hkz z0 z1
        go_wp2_with fail
        with_reducible refine IA.out.mono ?_
        rintro e W5 ⟨rfl, b5⟩
        have B5 := Bt.trans (b5.mono Bt.size)
        have R2d := Lib.hid (R2b.out.below b5 (by omega))
        have s55 := b5.size
        clear b5 Bt R2b IA
        go_wp2
        go_meet
        case rel => exact ⟨by rw [HK.out], by rw [HK.out], B5, by omega, R2d.out⟩
      · have hJl' : (s.size : Int) ≤ (J : Int) := by omega
        clear HAT IAJ hkz z0 z1
        go_wp2
        go_meet
        case rel => exact ⟨by rw [HK.out], by rw [HK.out], Bt, by omega, R2b.out⟩
  case rest => as_aux_lemma =>
    obtain ⟨rfl, rfl, B5, sW5, hR2⟩ := hcut
    have R2d := Lib.hid hR2
    clear hR2 B4 R2a
    generalize wc = W5 at *
    go_wp2_with fail
    with_reducible refine (DT.out W5 B5).mono ?_
    rintro e w6 ⟨v6, ms, rfl, hms, o6, b6⟩
    obtain ⟨A6, c6, rfl⟩ := own_shape o6
    have s5 := B5.size
    have s6 := b6.size
    have B6 := B5.trans (b6.mono s5)
    have R6 := Lib.hid (Rd.own o6)
    have RA := Lib.hid (R2d.out.below b6 (by omega))
    clear o6 b6 B5
    go_wp2_with fail
    with_reducible refine (IT.out A6 ms.length c6 ms w6.heap.size w6 (by omega) (Nat.le_refl _) R6.out).mono ?_
    rintro e w7 ⟨rfl, b7⟩
    have s7 := b7.size
    have B7 := B6.trans (b7.mono (by omega))
    have R6b := Lib.hid (R6.out.below b7 (Nat.le_refl _))
    have RB := Lib.hid (RA.out.below b7 (by omega))
    clear b7 B6 R6
    go_wp2_with fail
    with_reducible refine (ST.out A6 ms.length c6 ms w6.heap.size w7 (by omega) s7 R6b.out).mono ?_
    rintro e w8 ⟨rfl, b8⟩
    have s8 := b8.size
    have B8 := B7.trans (b8.mono (by omega))
    have R6c := Lib.hid (R6b.out.below b8 (by omega))
    have RC := Lib.hid (RB.out.below b8 (by omega))
    clear b8 B7 R6b
    have hts : (resT ms).size ≤ maxLen := by have := resT_size ms hms; unfold maxLen; omega
    have HM := Lib.hid (fun (h : okL ms = true) => And.intro (okR_of_text h) (And.intro (show (resT ms).data.toList = textL ms by rw [resT_yes h]) (okL_all h)))
    have IRT := Lib.hid (IR.out (resT ms) w8 hts (TT.out w8 B8))
    generalize resT ms = tt at *
    go_upto_if 134 with fail
    go_cut [7, 9, 19, 21] from 46 (fun s7 s9 s19 s21 wc => s7 = .bool (okR s) ∧ s9 = .bool (okR s) ∧ s19 = .bool (okL ms) ∧ s21 = .bool (okL ms) ∧ Below w.heap.size w wc)
    case first => as_aux_lemma =>
      rcases hk2 : okL ms with _ | _
      · have HK2 := Lib.hid hk2
        clear hk2 HM IRT
        go_wp2
        go_meet
        case rel => exact ⟨rfl, rfl, by rw [HK2.out], by rw [HK2.out], B8⟩
      · obtain ⟨⟨f1, f2⟩, f3, f4, f5⟩ := HM.out hk2
        rw [f1, f2] at IRT
        have FT := Lib.hid (And.intro f3 f4)
        have HK2 := Lib.hid hk2
        clear f1 f2 f3 f4 f5 HM hk2
        go_wp2_with fail
        with_reducible refine IRT.out.mono ?_
        rintro e w9 ⟨v9, rfl, o9, b9⟩
        obtain ⟨A9, c9, rfl⟩ := own_shape o9
        have s9 := b9.size
        have Bz := B8.trans (b9.mono B8.size)
        have R6d := Lib.hid (R6c.out.below b9 (by omega))
        have RD := Lib.hid (RC.out.below b9 (by omega))
        have Q3 := Lib.hid (SI.out A9 A6 ms.length ms.length c9 c6 ms ms w9.heap.size w6.heap.size w9 (by omega) (by unfold maxLen; omega) (Rd.own o9) R6d.out)
        rw [show decide (ms = ms) = true from decide_eq_true rfl] at Q3
        clear IRT o9 b9 B8 R6c
        go_wp2_with fail
        with_reducible refine Q3.out.mono ?_
        rintro e w' ⟨rfl, q3, rfl⟩
        have B9 := below_drewN Bz q3
        have R6e := Lib.hid (R6d.out.below (below_drewN (Below.refl w9.heap.size w9) q3) (by omega))
        have RE := Lib.hid (RD.out.below (below_drewN (Below.refl w9.heap.size w9) q3) (by omega))
        rcases hk : okR s with _ | _
        · have HK := Lib.hid hk
          clear HS FT hk
          go_wp2
          go_meet
          case rel => exact ⟨by rw [HK.out], by rw [HK.out], by rw [HK2.out], by rw [HK2.out], B9⟩
        · have hst : s.data.toList = textL (resR s) := (HS.out.2.2 hk).2.1.symm
          have HL := Lib.hid (less_text hst FT.out.1 HS.out.2.1 FT.out.2)
          have HK := Lib.hid hk
          clear HS FT hst hk
          generalize resR s = rs at *
          generalize w9.drewN q3 = W8 at *
          clear Bz Q3 R6d RD
          go_wp2
          go_loopw [25] (fun i wr => ∃ k q : Nat, k ≤ rs.length ∧ k ≤ ms.length ∧ i = .int .i64 k ∧ wr = W8.drewN q ∧ cmpL rs ms = cmpL (rs.drop k) (ms.drop k)) (fun i _ => rs.length - (intOf i).toNat)
          case atStart => exact ⟨0, 0, by omega, by omega, rfl, rfl, rfl⟩
          case round =>
            obtain ⟨k', q, hk1, hk2, rfl, rfl, heq⟩ := hrel
            have HQ := Lib.hid heq
            clear heq
            by_cases hl1 : k' < rs.length
            · obtain ⟨b, off, hl, rfl, _, hc⟩ := RE.out.int hl1
              have i0 : (0 : Int) ≤ (k' : Int) := by omega
              have i1 : (k' : Int) < (rs.length : Int) := by omega
              by_cases hl2 : k' < ms.length
              · obtain ⟨b', off', hl', rfl, _, hc'⟩ := R6e.out.int hl2
                have i2 : (k' : Int) < (ms.length : Int) := by omega
                rw [drop_cons hl, drop_cons hl'] at HQ
                by_cases he : rs[k'] = ms[k']
                · have hbn : (rs[k'] != ms[k']) = false := by simp [he]
                  have HQ2 := Lib.hid (show cmpL rs ms = cmpL (rs.drop (k' + 1)) (ms.drop (k' + 1)) by rw [HQ.out, he, cmpL_eq])
                  clear HQ he
                  go_wp2_with fail
                  go_quiet (fail)
                  go_wp2
                  go_roundw
                  case rel => exact ⟨k' + 1, _, by omega, by omega, by go_num, rfl, HQ2.out⟩
                  case measure => simp [intOf]; omega
                · have hbn : (rs[k'] != ms[k']) = true := by simp [he]
                  have HL2 : Op.bytesLess s.toList tt.toList = decide (rs[k'] < ms[k']) := by
                    rw [HL.out, HQ.out]
                    rcases Int.lt_or_gt_of_ne he with h | h
                    · rw [cmpL_lt _ _ h, decide_eq_true h]; rfl
                    · rw [cmpL_gt _ _ h, decide_eq_false (show ¬ rs[k'] < ms[k'] by omega)]; rfl
                  clear HQ he
                  go_wp2_with fail
                  go_quiet (fail)
                  go_wp2_with fail
                  go_quiet (fail)
                  rw [World.drewN_drewN, World.drewN_drewN]
                  generalize hWW : W8.drewN _ = W9 at *
                  have B9 : Below w.heap.size w W9 := hWW ▸ below_drewN B9 _
                  clear hWW R6e RE HL hc hc'
                  go_wp2
                  go_meet
                  case rel => exact ⟨by rw [HK.out], by rw [HK.out], by rw [HK2.out], by rw [HK2.out], B9⟩
              · have HL2 : Op.bytesLess s.toList tt.toList = decide (rs.length < ms.length) := by
                  rw [HL.out, HQ.out, drop_cons hl, List.drop_eq_nil_of_le (show ms.length ≤ k' by omega), decide_eq_false (show ¬ rs.length < ms.length by omega)]
                  simp [cmpL]
                have t0 : (ms.length : Int) ≤ (k' : Int) := by omega
                have t1 : decide ((rs.length : Int) ≤ (k' : Int)) = false := decide_eq_false (by omega)
                have B9 := below_drewN B9 q
                generalize W8.drewN q = W9 at *
                clear HQ R6e RE HL hc
                go_wp2
                go_meet
                case rel => exact ⟨by rw [HK.out], by rw [HK.out], by rw [HK2.out], by rw [HK2.out], B9⟩
            · have HL2 : Op.bytesLess s.toList tt.toList = decide (rs.length < ms.length) := by
                rw [HL.out, HQ.out, cmpL_end _ _ (List.drop_eq_nil_of_le (by omega)), List.length_drop]
                apply decide_eq_decide.2; split <;> omega
              have t0 : (rs.length : Int) ≤ (k' : Int) := by omega
              have B9 := below_drewN B9 q
              generalize W8.drewN q = W9 at *
              clear HQ R6e RE HL
              go_wp2
              go_meet
              case rel => exact ⟨by rw [HK.out], by rw [HK.out], by rw [HK2.out], by rw [HK2.out], B9⟩
    case rest => as_aux_lemma =>
      obtain ⟨rfl, rfl, rfl, rfl, B9⟩ := hcut
      clear B8 HM IRT R6c RC HS
      generalize wc = W9 at *
      go_wp2_with fail
      with_reducible refine (DB.out W9 B9).mono ?_
      rintro e wa ⟨nn, rfl, ba⟩
      have Ba := B9.trans (ba.mono B9.size)
      have IBY := Lib.hid (fun W => implBytes nn W)
      have SBY := Lib.hid (fun W => specBytes nn W)
      have GI := Lib.hid (fun W => (implGood nn W).mono fun e w' h => And.intro h.1 h.2.symm)
      have GS := Lib.hid (fun W => (specGood nn W).mono fun e w' h => And.intro h.1 h.2.symm)
      have EF := Lib.hid (fun h => enc_front (n := nn) h)
      have EY := Lib.hid (fun h => encB_yes (n := nn) h)
      clear ba B9
      go_wp2_with fail
      with_reducible refine (IBY.out wa).mono ?_
      rintro e w' ⟨rfl, rfl⟩
      go_wp2_with fail
      with_reducible refine (SBY.out wa).mono ?_
      rintro e wb ⟨rfl, bb⟩
      have Bb := Ba.trans (bb.mono Ba.size)
      clear bb Ba IBY SBY
      go_wp2_with fail
      with_reducible refine (DA.out wb Bb).mono ?_
      rintro e wc ⟨u, ua, rfl, hu, bc⟩
      have Bc := Bb.trans (bc.mono Bb.size)
      obtain ⟨ax, ay, at', hai, has⟩ := atBoth u ua hu
      have HAI := Lib.hid hai
      have HAS := Lib.hid has
      clear bc Bb hai has
      go_wp2_with fail
      with_reducible refine (HAI.out wc (TT.out wc Bc)).mono ?_
      rintro e wd ⟨rfl, bd⟩
      have Bd := Bc.trans (bd.mono Bc.size)
      clear bd Bc
      go_wp2_with fail
      with_reducible refine (HAS.out wd).mono ?_
      rintro e we ⟨rfl, be⟩
      have Be := Bd.trans (be.mono Bd.size)
      clear be Bd HAI HAS
      go_wp2_with fail
      with_reducible refine (DN.out we Be).mono ?_
      rintro e wf ⟨v, va, rfl, hv, bf⟩
      have Bf := Be.trans (bf.mono Be.size)
      obtain ⟨nx1, nt, hni, hns⟩ := nextBoth v va hv
      have HNI := Lib.hid hni
      have HNS := Lib.hid hns
      clear bf Be hni hns
      go_wp2_with fail
      with_reducible refine (HNI.out wf).mono ?_
      rintro e w' ⟨rfl, rfl⟩
      go_wp2_with fail
      with_reducible refine (HNS.out wf).mono ?_
      rintro e w' ⟨rfl, rfl⟩
      go_wp2_with fail
      with_reducible refine (DI.out wf Bf).mono ?_
      rintro e wg ⟨x, rfl, x0, x1, bg⟩
      have Bg := Bf.trans (bg.mono Bf.size)
      have II := Lib.hid (fun W => implStart x W)
      have IS := Lib.hid (fun W => specStart x W)
      clear bg Bf HNI HNS
      generalize stB x = sx at *
      have ea : (at' == at') = true := by simp
      have en : (nt == nt) = true := by simp
      have es : (sx == sx) = true := by simp
      have ex : (ax == ax) = true := by simp
      have ey1 : (ay == ay) = true := by simp
      have ex1 : (nx1 == nx1) = true := by simp
      rcases hg : goodR nn with _ | _
      · rw [hg] at GI GS
        have ez : (encB nn).size = 0 := by rw [encB_no hg]; rfl
        clear hg EF EY
        generalize encB nn = eb at *
        have t1z : decide ((1 : Int) ≤ (eb.size : Int)) = false := decide_eq_false (by omega)
        go_wp2_with fail
        with_reducible refine (II.out _).mono ?_
        rintro e w' ⟨rfl, rfl⟩
        go_wp2_with fail
        with_reducible refine (IS.out _).mono ?_
        rintro e w' ⟨rfl, rfl⟩
        go_wp2_with fail
        with_reducible refine (GI.out _).mono ?_
        rintro e w' ⟨rfl, rfl⟩
        go_wp2_with fail
        with_reducible refine (GS.out _).mono ?_
        rintro e w' ⟨rfl, rfl⟩
        go_wp2
        all_goals first | (go_ret; exact ⟨rfl, Bg⟩) | (exfalso; exact undef_no _ (by assumption))
      · rw [hg] at GI GS
        have ey := EY.out hg
        obtain ⟨z1', z2', z3'⟩ := EF.out hg
        rw [← ey] at z1' z2'
        have z4' : ∀ h0 : 0 < (encB nn).size, stB (((encB nn)[0]'h0).toNat : Int) = true := by rw [ey]; exact z3'
        clear hg EF EY ey z3'
        generalize encB nn = eb at *
        have z0' : (0 : Int) < (eb.size : Int) := by omega
        have z5' : (1 : Int) ≤ (eb.size : Int) := by omega
        have z6' : (eb.size : Int) ≤ 4 := by omega
        have I0 := Lib.hid (fun W => implStart ((eb[0]'(by omega)).toNat : Int) W)
        rw [z4' (by omega)] at I0
        clear z4'
        go_wp2_with fail
        with_reducible refine (II.out _).mono ?_
        rintro e w' ⟨rfl, rfl⟩
        go_wp2_with fail
        with_reducible refine (IS.out _).mono ?_
        rintro e w' ⟨rfl, rfl⟩
        go_wp2_with fail
        with_reducible refine (GI.out _).mono ?_
        rintro e w' ⟨rfl, rfl⟩
        go_wp2_with fail
        with_reducible refine (GS.out _).mono ?_
        rintro e w' ⟨rfl, rfl⟩
        go_wp2_with fail
        with_reducible refine (I0.out _).mono ?_
        rintro e w' ⟨rfl, rfl⟩
        go_wp2
        go_ret
        exact ⟨rfl, Bg⟩
end Go.Proofs.YtehmlkcnhccjmabDoor.LawFnRunes
