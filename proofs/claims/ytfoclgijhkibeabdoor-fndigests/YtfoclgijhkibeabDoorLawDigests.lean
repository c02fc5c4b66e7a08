/-
  The walk of the law FnDigests.
-/
import Derived.Test.YtfoclgijhkibeabDoorFedTwo
import Derived.Test.YtfoclgijhkibeabDoorDraw6
import Derived.Test.YtfoclgijhkibeabDoorHex
import Derived.Test.YtfoclgijhkibeabDoorHl
import Derived.Deep.Cut
import Derived.IntWalk
namespace Go.Proofs.YtfoclgijhkibeabDoor.LawDigests
open Go.ChangeShapes Go.WideShapes Go.ChangeAt Go.RowKit
open Go.Proofs.YtfoclgijhkibeabDoor.Mem Go.Proofs.YtfoclgijhkibeabDoor.Ints Go.Proofs.YtfoclgijhkibeabDoor.State Go.Proofs.YtfoclgijhkibeabDoor.ShaComp Go.Proofs.YtfoclgijhkibeabDoor.Absorb Go.Proofs.YtfoclgijhkibeabDoor.End Go.Proofs.YtfoclgijhkibeabDoor.Digest Go.Proofs.YtfoclgijhkibeabDoor.DigestI Go.Proofs.YtfoclgijhkibeabDoor.FedTwo Go.Proofs.YtfoclgijhkibeabDoor.Mark Go.Proofs.YtfoclgijhkibeabDoor.Hl
set_option linter.unusedVariables false
set_option linter.unusedSimpArgs false
set_option maxRecDepth 100000

/-- The digest of a text on both sides. -/
theorem digests (s : ByteArray) (hs : s.size ≤ 601) : ∃ (d : ByteArray) (ok : Bool), (ok = true → s.size ≤ 600 ∧ d = ⟨(dig s.data.toList).toArray⟩) ∧
    (∀ W, W.rangeAt 0 0 (u32s Words.firsts) → W.rangeAt 1 0 (u32s consts) → Calls Tryd.prog 29 #[.string s] W fun e w' => e = .returned (.tuple #[.string d, .bool ok]) ∧ Below W.heap.size W w') ∧
    (∀ W, Calls Tryd.prog 30 #[.string s] W fun e w' => e = .returned (.tuple #[.string d, .bool ok]) ∧ Below W.heap.size W w') := by
  by_cases h : s.size ≤ 600
  · exact ⟨_, true, fun _ => ⟨h, rfl⟩, fun W a b => implDigest s W h a b, fun W => specDigest s W h⟩
  · refine ⟨⟨#[]⟩, false, by simp, fun W a b => implDigestLong s W (by omega) (by unfold maxLen; omega) a, fun W => (specLong s W (by omega) (by unfold maxLen; omega)).mono ?_⟩
    rintro e w' ⟨rfl, rfl⟩
    exact ⟨rfl, Below.refl _ _⟩
theorem hexes (s : ByteArray) (hs : s.size ≤ 601) : ∃ (d : ByteArray) (ok : Bool), (s.size ≤ 600 → ok = true ∧ d.size = 2 * s.size) ∧
    (∀ W, Calls Tryd.prog 31 #[.string s] W fun e w' => e = .returned (.tuple #[.string d, .bool ok]) ∧ Below W.heap.size W w') ∧
    (∀ W, Calls Tryd.prog 32 #[.string s] W fun e w' => e = .returned (.tuple #[.string d, .bool ok]) ∧ Below W.heap.size W w') := by
  by_cases h : s.size ≤ 600
  · exact ⟨_, true, fun _ => ⟨rfl, by show ((Hex.hexL s.data.toList).toArray).size = _; rw [List.size_toArray, Hex.hexL_len]; rfl⟩, fun W => Hex.implHex s W h, fun W => Hex.specHex s W h⟩
  · refine ⟨⟨#[]⟩, false, by omega, fun W => (Hex.implLong s W (by omega) (by unfold maxLen; omega)).mono ?_, fun W => (Hex.specLong s W (by omega) (by unfold maxLen; omega)).mono ?_⟩
    all_goals
      rintro e w' ⟨rfl, rfl⟩
      exact ⟨rfl, Below.refl _ _⟩
theorem Sl.slice_to (s : ByteArray) (q : Nat) (h : q ≤ s.size) (W : World) : (Instr.slice 9 (.string s) none (some (.int .i64 (q : Int))) none).run Tryd.prog W = .ok (.string (s.extract 0 q)) W := by
  have := run_slice_string_h (P := Tryd.prog) W 9 s Tryd.underlying9 .i64 (q : Int) (by omega) (by omega)
  simpa using this
theorem Sl.slice_from (s : ByteArray) (q : Nat) (h : q ≤ s.size) (W : World) : (Instr.slice 9 (.string s) (some (.int .i64 (q : Int))) none none).run Tryd.prog W = .ok (.string (s.extract q s.size)) W := by
  have := run_slice_string_l (P := Tryd.prog) W 9 s Tryd.underlying9 .i64 (q : Int) (by omega) (by omega)
  simpa using this
theorem frz3 {W : World} {b t : Nat} {x y z : Value} (K : W.heap[b]? = some (.cells #[x, y, z] t)) : W.frozen? ⟨b, 0, none⟩ = false ∧ W.frozen? ⟨b, 1, none⟩ = false ∧ W.frozen? ⟨b, 2, none⟩ = false := by
  refine ⟨?_, ?_, ?_⟩ <;> simp [World.frozen?, K, go_sem]
theorem set3 {v : World} {b t : Nat} {x y z : Value} (h : v.heap[b]? = some (.cells #[x, y, z] t)) (x' y' z' : Value) : (((v.setCell ⟨b, 0, none⟩ x').setCell ⟨b, 1, none⟩ y').setCell ⟨b, 2, none⟩ z').heap[b]? = some (.cells #[x', y', z'] t) := by
  have h1 := heap_setCell_same v b 0 _ _ x' h
  have h2 := heap_setCell_same _ b 1 _ _ y' h1
  have h3 := heap_setCell_same _ b 2 _ _ z' h2
  simpa using h3
theorem own3 {v : World} {b base e size n : Nat} {u x' y' z' : Value} {xs : List Value} (h : v.ownsRow base e size u n xs) (hb : ∀ k, k < v.heap.size → base ≤ k → k ≠ b) : (((v.setCell ⟨b, 0, none⟩ x').setCell ⟨b, 1, none⟩ y').setCell ⟨b, 2, none⟩ z').ownsRow base e size u n xs :=
  own_keep h fun k h1 h2 => by rw [heap_setCell_other _ _ _ _ (hb k h1 h2), heap_setCell_other _ _ _ _ (hb k h1 h2), heap_setCell_other _ _ _ _ (hb k h1 h2)]
theorem own4 {v va : World} {b base e size n : Nat} {u x' y' z' : Value} {xs : List Value} (h : v.ownsRow base e size u n xs) (hb : v.heap.size = b) (y : Below b v va) : (((va.setCell ⟨b, 0, none⟩ x').setCell ⟨b, 1, none⟩ y').setCell ⟨b, 2, none⟩ z').ownsRow base e size u n xs :=
  own_keep h fun k h1 h2 => by
    have hne : k ≠ b := by omega
    rw [heap_setCell_other _ _ _ _ hne, heap_setCell_other _ _ _ _ hne, heap_setCell_other _ _ _ _ hne]; exact y.block k (by omega)
theorem bel3 {B b : Nat} {w v : World} (h : Below B w v) (hb : B ≤ b) (x y z : Value) : Below B w (((v.setCell ⟨b, 0, none⟩ x).setCell ⟨b, 1, none⟩ y).setCell ⟨b, 2, none⟩ z) := ((h.setCell (p := ⟨b, 0, none⟩) hb _).setCell (p := ⟨b, 1, none⟩) hb _).setCell (p := ⟨b, 2, none⟩) hb _
/-- Two may come up. -/
theorem HL.two {P : Program} {ops : Array Oper} {Q : Exit → Act → World → Prop} {md : Region.Mode} {S : Array Bool → World → Prop} {i j f : Nat} {oi oj : Oper} {l : Array Bool} {a : Act} {w : World} (hr : Region.ready md ops l = [i, j])
    (hi : ops[i]? = some oi) (hwi : Region.wanted oi (yielded ops a.tmps) = true) (h1 : ∀ K : Act → World → Prop, Hid (∀ a' w', S (l.setIfInBounds i true) w' → (S (l.setIfInBounds i true) w' → HL P md ops Q S f (l.setIfInBounds i true) a' w') → K a' w') → Oper.wp P oi a w K Q)
    (hj : ops[j]? = some oj) (hwj : Region.wanted oj (yielded ops a.tmps) = true) (h2 : ∀ K : Act → World → Prop, Hid (∀ a' w', S (l.setIfInBounds j true) w' → (S (l.setIfInBounds j true) w' → HL P md ops Q S f (l.setIfInBounds j true) a' w') → K a' w') → Oper.wp P oj a w K Q) : HL P md ops Q S (f + 1) l a w := by
  refine ⟨fun h0 => (by rw [h0] at hr; cases hr), fun k hk => ?_⟩
  rw [hr] at hk
  have hk : k = i ∨ k = j := by simpa using hk
  rcases hk with rfl | rfl
  · unfold wpOp
    simp only [hi, hwi, if_true]
    exact .inl (h1 _ (Lib.hid fun a' w' q1 q2 => ⟨q1, q2 q1⟩))
  · unfold wpOp
    simp only [hj, hwj, if_true]
    exact .inl (h2 _ (Lib.hid fun a' w' q1 q2 => ⟨q1, q2 q1⟩))
theorem cat_cut (s : ByteArray) (k : Nat) (h : k ≤ s.size) : s.extract 0 k ++ s.extract k s.size = s := by
  apply ByteArray.ext; apply Array.toList_inj.1
  rw [ByteArray.data_append, Array.toList_append, Go.Lib.extract_data, Go.Lib.extract_data, List.drop_zero, Nat.sub_zero, List.take_of_length_le (l := s.data.toList.drop k) (by rw [List.length_drop]; simp), List.take_append_drop]
set_option maxHeartbeats 20000000 in
theorem walk (A : Option Addr) (n c : Nat) (cs : List UInt8) (D : Option Addr) (m d : Nat) (ds : List UInt8) (hn : n ≤ maxLen) (hm : m ≤ maxLen) (w : World) (hT : w.rangeAt 0 0 (u32s Words.firsts) ∧ w.rangeAt 1 0 (u32s consts)) (hx : Rd w w.heap.size 1 A n (Cur.bytes cs)) (hy : Rd w w.heap.size 1 D m (Cur.bytes ds)) :
    Calls Tryd.prog 6 #[.slice A n c, .slice D m d] w fun e w' => e = .returned (.bool true) ∧ Below w.heap.size w w' := by
  by_cases hbig : 1048576 < wrap64 ((n : Int) + (m : Int))
  · clear hT
    go_enter Tryd.func6, Tryd.ntmps6
    go_wp2
    go_ret
    exact ⟨rfl, Below.refl _ _⟩
  have hbig' : decide (1048576 < wrap64 ((n : Int) + (m : Int))) = false := by simpa using hbig
  obtain ⟨hF, hK⟩ := hT
  have hltF : 0 < w.heap.size := World.block_lt_of_cell? w ⟨0, 0, none⟩ (hF 0 (.int .u32 1779033703) rfl)
  have hltK : 1 < w.heap.size := World.block_lt_of_cell? w ⟨1, 0, none⟩ (hK 0 (.int .u32 0x428a2f98) rfl)
  have HF := Lib.hid (fun W (h : Below w.heap.size w W) => rangeAt_heap (h.block 0 hltF) hF)
  have HK := Lib.hid (fun W (h : Below w.heap.size w W) => rangeAt_heap (h.block 1 hltK) hK)
  have RY := Lib.hid (fun W (h : Below w.heap.size w W) => (hy.below h (Nat.le_refl _)).mono h.size)
  have DD := Lib.hid (Draw6.drawDigestOf A n c cs w hn hx)
  have DF := Lib.hid (fun W h => Draw6.drawFeedState D m d ds W hm (RY.out W h))
  have DE := Lib.hid (fun W h => Draw6.drawEndState D m d ds W hm (RY.out W h))
  have NO := Lib.hid (fun W h => (DrawI.numberOf D m d ds W.heap.size W hm (RY.out W h)).mono fun e w' hh => (show ∃ z : Int, e = .returned (.int .i64 z) ∧ 0 ≤ z ∧ z < 1000003 ∧ W = w' from hh.imp fun z hz => ⟨hz.1, hz.2.1, hz.2.2.1, hz.2.2.2.symm⟩))
  have NI := Lib.hid (fun W h => Words.implNew W (HF.out W h))
  have NS := Lib.hid (fun W => Words.specNew W)
  unfold stV at NI NS
  clear hx hy hF hK hltF hltK RY
  go_enter Tryd.func6, Tryd.ntmps6
  go_wp2_with fail
  refine DD.out.mono ?_
  rintro e w1 ⟨s, rfl, hs, B1⟩
  obtain ⟨dg, ok, hok, I0, S0⟩ := digests s hs
  obtain ⟨hxs, one, hone, I1, S1⟩ := hexes s hs
  have I0 := Lib.hid I0
  have S0 := Lib.hid S0
  have I1 := Lib.hid I1
  have S1 := Lib.hid S1
  have HO := Lib.hid hok
  have HN := Lib.hid hone
  clear hok hone DD hbig hbig'
  go_wp2_with fail
  refine (I0.out w1 (HF.out w1 B1) (HK.out w1 B1)).mono ?_
  rintro e w2 ⟨rfl, hb⟩
  have B2 := B1.trans (hb.mono B1.size)
  clear hb B1
  go_wp2_with fail
  refine (S0.out w2).mono ?_
  rintro e w3 ⟨rfl, hb⟩
  have B3 := B2.trans (hb.mono B2.size)
  clear hb B2
  go_wp2_with fail
  refine (I1.out w3).mono ?_
  rintro e w4 ⟨rfl, hb⟩
  have B4 := B3.trans (hb.mono B3.size)
  clear hb B3
  go_wp2_with fail
  refine (S1.out w4).mono ?_
  rintro e w5 ⟨rfl, hb⟩
  have B5 := B4.trans (hb.mono B4.size)
  clear hb B4 I0 S0 I1 S1
  go_upto_if 79 with (fail)
  go_cut [14] from 33 (fun s14 wc => Below w.heap.size w wc)
  case first =>
    cases ok
    · go_wp2
      go_meet
      case rel => exact B5
    · obtain ⟨hs6, hdg⟩ := HO.out rfl
      have h32 : dg.size = 32 := by rw [hdg]; exact dig_len _
      have HDG := Lib.hid hdg
      obtain ⟨rfl, hx2⟩ := HN.out hs6
      have hx3 : ((hxs.size : Int) != 2 * (s.size : Int)) = false := by
        have e : (hxs.size : Int) = 2 * (s.size : Int) := by omega
        simp [e]
      clear hdg hx2
      have BT := Lib.hid B5
      clear HO HN B5 DF DE
      go_wp2_with fail
      refine (NO.out w5 BT.out).mono ?_
      rintro e w6 ⟨z, rfl, z0, z1, rfl⟩
      obtain ⟨zn, rfl⟩ := Int.eq_ofNat_of_zero_le z0
      obtain ⟨k, hk⟩ : ∃ k, zn % (s.size + 1) = k := ⟨_, rfl⟩
      have hk1 : k ≤ s.size := by have := Nat.mod_lt zn (show 0 < s.size + 1 by omega); omega
      have hk2 : (zn : Int) % ((s.size : Int) + 1) = (k : Int) := by rw [← hk, Int.natCast_emod, Int.natCast_add]; rfl
      have HK2 := Lib.hid hk2
      clear hk hk2 NO z0
      go_wp2_with fail
      rw [HK2.out]
      have SL1 := fun W => Sl.slice_to s k hk1 W
      have SL2 := fun W => Sl.slice_from s k hk1 W
      have ecat := cat_cut s k hk1
      have z1s : (s.extract 0 k).size + (s.extract k s.size).size ≤ 600 := by rw [ByteArray.size_extract, ByteArray.size_extract]; omega
      generalize hs1 : s.extract 0 k = a1 at *
      generalize hs2 : s.extract k s.size = a2 at *
      clear hs1 hs2
      have E0 : (⟨#[]⟩ : ByteArray) ++ a1 = a1 := by apply ByteArray.ext; simp
      have RN := Lib.hid (fun W (h : Below w5.heap.size w5 W) => (NI.out W (BT.out.trans (h.mono BT.out.size))).mono fun e w' q => (show ∃ g c, e = .returned (.agg #[.slice (some ⟨g, 0, none⟩) 8 c, .string ByteArray.empty, .int .i64 0]) ∧ w'.ownsRow W.heap.size 3 1 (.slice (some ⟨g, 0, none⟩) 8 c) 8 (ints Words.firsts) ∧ Below W.heap.size W w' ∧ Below w5.heap.size w5 w' from by
        obtain ⟨g, c, q1, q2, q3⟩ := q
        exact ⟨g, c, q1, q2, q3, h.trans (q3.mono h.size)⟩))
      have RF := Lib.hid (fun g c W (h : Below w5.heap.size w5 W) (hx : Rd W W.heap.size 1 (some ⟨g, 0, none⟩) 8 (ints Words.firsts)) => (fedMore g c ⟨#[]⟩ a1 W (by show 0 + a1.size ≤ 600; omega) hx (HK.out W (BT.out.trans (h.mono BT.out.size)))).mono fun e w' q => (show ∃ g' c', e = .returned (.tuple #[.agg #[.slice (some ⟨g', 0, none⟩) 8 c', .string (a1.extract (64 * (a1.size / 64)) a1.size), .int .i64 (a1.size : Int)], .bool true]) ∧ w'.ownsRow W.heap.size 3 1 (.slice (some ⟨g', 0, none⟩) 8 c') 8 (ints (blk F8 a1.data.toList (a1.size / 64)).list) ∧ Below W.heap.size W w' ∧ Below w5.heap.size w5 w' from by
        obtain ⟨g', c', q1, q2, q3⟩ := q
        rw [E0] at q1 q2
        exact ⟨g', c', q1, q2, q3, h.trans (q3.mono h.size)⟩))
      have RF : Hid (∀ g c W, Below w5.heap.size w5 W → Rd W W.heap.size 1 (some ⟨g, 0, none⟩) 8 (ints Words.firsts) → Calls Tryd.prog 34 #[.agg #[.slice (some ⟨g, 0, none⟩) 8 c, .string ByteArray.empty, .int .i64 0], .string a1] W fun e w' => ∃ g' c', e = .returned (.tuple #[.agg #[.slice (some ⟨g', 0, none⟩) 8 c', .string (a1.extract (64 * (a1.size / 64)) a1.size), .int .i64 (a1.size : Int)], .bool true]) ∧ w'.ownsRow W.heap.size 3 1 (.slice (some ⟨g', 0, none⟩) 8 c') 8 (ints (blk F8 a1.data.toList (a1.size / 64)).list) ∧ Below W.heap.size W w' ∧ Below w5.heap.size w5 w') := RF
      have hr1 : (a1.extract (64 * (a1.size / 64)) a1.size).size ≤ 600 := by rw [ByteArray.size_extract]; omega
      have FM := Lib.hid (fun g c W hx hk => fedMore g c a1 a2 W z1s hx hk)
      rw [ecat] at FM
      generalize a1.extract (64 * (a1.size / 64)) a1.size = r1 at *
      generalize (blk F8 a1.data.toList (a1.size / 64)).list = L1 at *
      generalize hz1 : a1.size = n1 at *
      have FE := Lib.hid (fun g c W hx hk => endOf g c s W hs6 hx hk)
      rw [← HDG.out] at FE
      have FG := Lib.hid (fun g c W hx => goodOf g c s W hs6 hx)
      clear hz1 E0 ecat HDG
      generalize s.extract (64 * (s.size / 64)) s.size = rS at *
      generalize (blk F8 s.data.toList (s.size / 64)).list = LS at *
      have X0 : Below w5.heap.size w5 w5.drew := Below.drew (Below.refl _ w5)
      go_cut [15, 16] from 86 (fun s15 s16 wc => ∃ b g c, s15 = .pointer (some ⟨b, 0, none⟩) ∧ s16 = .bool true ∧ Below w5.heap.size w5 wc ∧ wc.heap[b]? = some (.cells #[.slice (some ⟨g, 0, none⟩) 8 c, .string r1, .int .i64 (n1 : Int)] 60) ∧ wc.ownsRow w5.heap.size 3 1 (.slice (some ⟨g, 0, none⟩) 8 c) 8 (ints L1))
      case first =>
          refine HL.start (S := fun (_ : Array Bool) W => Below w5.heap.size w5 W) (by kernel_rfl) ?_
          generalize w5.drew = wd at *
          refine HL.take (i := 1) (W := 3) (T := fun W => Below w5.heap.size w5 W) (oi := _) (v := ?_) rfl (by kernel_rfl) (by kernel_rfl) (by kernel_rfl) (by kernel_rfl) (by kernel_rfl) (fun _ _ _ h => h) (fun _ _ => Iff.rfl) (fun _ _ _ h => h) (Or.inl ⟨by kernel_rfl, ?_⟩) X0 (fun _ => ?_)
          rotate_left
          · intro w' hw'; clear hw'; (first | (go_simp; done) | (go_simp; with_reducible rfl))
          try simp only [Act.put, List.getElem_toArray, List.getElem_cons_succ, List.getElem_cons_zero, List.setIfInBounds_toArray, List.set_cons_zero, List.set_cons_succ]
          refine HL.take (i := 2) (W := 3) (T := fun W => Below w5.heap.size w5 W) (oi := _) (v := ?_) rfl (by kernel_rfl) (by kernel_rfl) (by kernel_rfl) (by kernel_rfl) (by kernel_rfl) (fun _ _ _ h => h) (fun _ _ => Iff.rfl) (fun _ _ _ h => h) (Or.inl ⟨by kernel_rfl, ?_⟩) X0 (fun _ => ?_)
          rotate_left
          · intro w' hw'; clear hw'; (first | (go_simp; done) | (go_simp; with_reducible rfl))
          try simp only [Act.put, List.getElem_toArray, List.getElem_cons_succ, List.getElem_cons_zero, List.setIfInBounds_toArray, List.set_cons_zero, List.set_cons_succ]
          refine HL.take (i := 3) (W := 4) (T := fun W => Below w5.heap.size w5 W) (oi := _) (v := ?_) rfl (by kernel_rfl) (by kernel_rfl) (by kernel_rfl) (by kernel_rfl) (by kernel_rfl) (fun _ _ _ h => h) (fun _ _ => Iff.rfl) (fun _ _ _ h => h) (Or.inl ⟨by kernel_rfl, ?_⟩) X0 (fun _ => ?_)
          rotate_left
          · intro w' hw'; clear hw'; (first | (go_simp; done) | (go_simp; with_reducible rfl))
          try simp only [Act.put, List.getElem_toArray, List.getElem_cons_succ, List.getElem_cons_zero, List.setIfInBounds_toArray, List.set_cons_zero, List.set_cons_succ]
          refine HL.two (i := 0) (j := 8) (oi := _) (oj := _) (by kernel_rfl) rfl (by kernel_rfl) (fun K hK => ?_) rfl (by kernel_rfl) (fun K hK => ?_)
          ·
            go_simp
            refine (RN.out _ X0).mono ?_
            rintro e vt ⟨gn, cn, rfl, ont, dt, X1⟩
            refine hK.out _ _ X1 (fun _ => ?_)
            clear hK K
            try simp only [Act.put, List.getElem_toArray, List.getElem_cons_succ, List.getElem_cons_zero, List.setIfInBounds_toArray, List.set_cons_zero, List.set_cons_succ]
            refine HL.two (i := 4) (j := 8) (oi := _) (oj := _) (by kernel_rfl) rfl (by kernel_rfl) (fun K hK => ?_) rfl (by kernel_rfl) (fun K hK => ?_)
            ·
              go_simp
              refine (RF.out gn cn _ X1 (Rd.own ont)).mono ?_
              rintro e vu ⟨gf, cf, rfl, onu, du, X2⟩
              refine hK.out _ _ X2 (fun _ => ?_)
              clear hK K
              try simp only [Act.put, List.getElem_toArray, List.getElem_cons_succ, List.getElem_cons_zero, List.setIfInBounds_toArray, List.set_cons_zero, List.set_cons_succ]
              refine HL.take (i := 5) (W := 6) (T := fun W => Below w5.heap.size w5 W) (oi := _) (v := ?_) rfl (by kernel_rfl) (by kernel_rfl) (by kernel_rfl) (by kernel_rfl) (by kernel_rfl) (fun _ _ _ h => h) (fun _ _ => Iff.rfl) (fun _ _ _ h => h) (Or.inl ⟨by kernel_rfl, ?_⟩) X2 (fun _ => ?_)
              rotate_left
              · intro w' hw'; clear hw'; (first | (go_simp; done) | (go_simp; with_reducible rfl))
              try simp only [Act.put, List.getElem_toArray, List.getElem_cons_succ, List.getElem_cons_zero, List.setIfInBounds_toArray, List.set_cons_zero, List.set_cons_succ]
              refine HL.take (i := 6) (W := 9) (T := fun W => Below w5.heap.size w5 W) (oi := _) (v := ?_) rfl (by kernel_rfl) (by kernel_rfl) (by kernel_rfl) (by kernel_rfl) (by kernel_rfl) (fun _ _ _ h => h) (fun _ _ => Iff.rfl) (fun _ _ _ h => h) (Or.inl ⟨by kernel_rfl, ?_⟩) X2 (fun _ => ?_)
              rotate_left
              · intro w' hw'; clear hw'; (first | (go_simp; done) | (go_simp; with_reducible rfl))
              try simp only [Act.put, List.getElem_toArray, List.getElem_cons_succ, List.getElem_cons_zero, List.setIfInBounds_toArray, List.set_cons_zero, List.set_cons_succ]
              refine HL.take (i := 7) (W := 10) (T := fun W => Below w5.heap.size w5 W) (oi := _) (v := ?_) rfl (by kernel_rfl) (by kernel_rfl) (by kernel_rfl) (by kernel_rfl) (by kernel_rfl) (fun _ _ _ h => h) (fun _ _ => Iff.rfl) (fun _ _ _ h => h) (Or.inl ⟨by kernel_rfl, ?_⟩) X2 (fun _ => ?_)
              rotate_left
              · intro w' hw'; clear hw'; (first | (go_simp; done) | (go_simp; with_reducible rfl))
              try simp only [Act.put, List.getElem_toArray, List.getElem_cons_succ, List.getElem_cons_zero, List.setIfInBounds_toArray, List.set_cons_zero, List.set_cons_succ]
              refine HL.only (i := 8) (oi := _) (by kernel_rfl) rfl (by kernel_rfl) (fun K hK => ?_)
              go_simp
              refine hK.out _ _ (Below.alloc X2 X2.size _) (fun _ => ?_)
              clear hK K
              try simp only [Act.put, List.getElem_toArray, List.getElem_cons_succ, List.getElem_cons_zero, List.setIfInBounds_toArray, List.set_cons_zero, List.set_cons_succ]
              have kb := heap_alloc_new vu (.cells #[.slice none 0 0, .string ⟨#[]⟩, .int .i64 0] 60)
              have X3 := Below.alloc X2 X2.size (.cells #[.slice none 0 0, .string ⟨#[]⟩, .int .i64 0] 60)
              have zb := X2.size
              have yb : Below vu.heap.size vu (vu.alloc (.cells #[.slice none 0 0, .string ⟨#[]⟩, .int .i64 0] 60)) := (Below.refl _ _).alloc (Nat.le_refl _) _
              have hva : (vu.alloc (.cells #[.slice none 0 0, .string ⟨#[]⟩, .int .i64 0] 60)).heap.size = vu.heap.size + 1 := by simp
              generalize hW : World.alloc vu _ = va at *
              clear hW
              generalize hb0 : vu.heap.size = b at *
              obtain ⟨s0, s1, s2⟩ := row3 kb
              obtain ⟨f0, f1, f2⟩ := frz3 kb
              refine HL.only (i := 9) (oi := _) (by kernel_rfl) rfl (by kernel_rfl) (fun K hK => ?_)
              go_simp
              refine hK.out _ _ (bel3 X3 zb _ _ _) (fun _ => ?_)
              clear hK K
              try simp only [Act.put, List.getElem_toArray, List.getElem_cons_succ, List.getElem_cons_zero, List.setIfInBounds_toArray, List.set_cons_zero, List.set_cons_succ]
              clear s0 s1 s2 f0 f1 f2
              refine HL.only (i := 10) (oi := _) (by kernel_rfl) rfl (by kernel_rfl) (fun K hK => ?_)
              go_simp
              refine hK.out _ _ (bel3 X3 zb _ _ _) (fun _ => ?_)
              clear hK K
              try simp only [Act.put, List.getElem_toArray, List.getElem_cons_succ, List.getElem_cons_zero, List.setIfInBounds_toArray, List.set_cons_zero, List.set_cons_succ]
              refine HL.done (by kernel_rfl) ?_
              go_wp2
              go_meet
              case rel => exact ⟨b, gf, cf, rfl, rfl, bel3 X3 zb _ _ _, set3 kb _ _ _, own_base (own4 onu hb0 yb) X1.size⟩
            ·
              go_simp
              refine hK.out _ _ (Below.alloc X1 X1.size _) (fun _ => ?_)
              clear hK K
              try simp only [Act.put, List.getElem_toArray, List.getElem_cons_succ, List.getElem_cons_zero, List.setIfInBounds_toArray, List.set_cons_zero, List.set_cons_succ]
              have kb := heap_alloc_new vt (.cells #[.slice none 0 0, .string ⟨#[]⟩, .int .i64 0] 60)
              have X2 := Below.alloc X1 X1.size (.cells #[.slice none 0 0, .string ⟨#[]⟩, .int .i64 0] 60)
              have zb := X1.size
              have yb : Below vt.heap.size vt (vt.alloc (.cells #[.slice none 0 0, .string ⟨#[]⟩, .int .i64 0] 60)) := (Below.refl _ _).alloc (Nat.le_refl _) _
              have hva : (vt.alloc (.cells #[.slice none 0 0, .string ⟨#[]⟩, .int .i64 0] 60)).heap.size = vt.heap.size + 1 := by simp
              generalize hW : World.alloc vt _ = va at *
              clear hW
              generalize hb0 : vt.heap.size = b at *
              refine HL.only (i := 4) (oi := _) (by kernel_rfl) rfl (by kernel_rfl) (fun K hK => ?_)
              go_simp
              refine (RF.out gn cn _ X2 (((Rd.own ont).below yb (by rw [hb0]; exact Nat.le_refl _)).mono (by omega))).mono ?_
              rintro e vu ⟨gf, cf, rfl, onu, du, X3⟩
              refine hK.out _ _ X3 (fun _ => ?_)
              clear hK K
              try simp only [Act.put, List.getElem_toArray, List.getElem_cons_succ, List.getElem_cons_zero, List.setIfInBounds_toArray, List.set_cons_zero, List.set_cons_succ]
              have kb := LawFeed.bx kb du
              refine HL.take (i := 5) (W := 6) (T := fun W => Below w5.heap.size w5 W) (oi := _) (v := ?_) rfl (by kernel_rfl) (by kernel_rfl) (by kernel_rfl) (by kernel_rfl) (by kernel_rfl) (fun _ _ _ h => h) (fun _ _ => Iff.rfl) (fun _ _ _ h => h) (Or.inl ⟨by kernel_rfl, ?_⟩) X3 (fun _ => ?_)
              rotate_left
              · intro w' hw'; clear hw'; (first | (go_simp; done) | (go_simp; with_reducible rfl))
              try simp only [Act.put, List.getElem_toArray, List.getElem_cons_succ, List.getElem_cons_zero, List.setIfInBounds_toArray, List.set_cons_zero, List.set_cons_succ]
              refine HL.take (i := 6) (W := 9) (T := fun W => Below w5.heap.size w5 W) (oi := _) (v := ?_) rfl (by kernel_rfl) (by kernel_rfl) (by kernel_rfl) (by kernel_rfl) (by kernel_rfl) (fun _ _ _ h => h) (fun _ _ => Iff.rfl) (fun _ _ _ h => h) (Or.inl ⟨by kernel_rfl, ?_⟩) X3 (fun _ => ?_)
              rotate_left
              · intro w' hw'; clear hw'; (first | (go_simp; done) | (go_simp; with_reducible rfl))
              try simp only [Act.put, List.getElem_toArray, List.getElem_cons_succ, List.getElem_cons_zero, List.setIfInBounds_toArray, List.set_cons_zero, List.set_cons_succ]
              refine HL.take (i := 7) (W := 10) (T := fun W => Below w5.heap.size w5 W) (oi := _) (v := ?_) rfl (by kernel_rfl) (by kernel_rfl) (by kernel_rfl) (by kernel_rfl) (by kernel_rfl) (fun _ _ _ h => h) (fun _ _ => Iff.rfl) (fun _ _ _ h => h) (Or.inl ⟨by kernel_rfl, ?_⟩) X3 (fun _ => ?_)
              rotate_left
              · intro w' hw'; clear hw'; (first | (go_simp; done) | (go_simp; with_reducible rfl))
              try simp only [Act.put, List.getElem_toArray, List.getElem_cons_succ, List.getElem_cons_zero, List.setIfInBounds_toArray, List.set_cons_zero, List.set_cons_succ]
              obtain ⟨s0, s1, s2⟩ := row3 kb
              obtain ⟨f0, f1, f2⟩ := frz3 kb
              refine HL.only (i := 9) (oi := _) (by kernel_rfl) rfl (by kernel_rfl) (fun K hK => ?_)
              go_simp
              refine hK.out _ _ (bel3 X3 zb _ _ _) (fun _ => ?_)
              clear hK K
              try simp only [Act.put, List.getElem_toArray, List.getElem_cons_succ, List.getElem_cons_zero, List.setIfInBounds_toArray, List.set_cons_zero, List.set_cons_succ]
              clear s0 s1 s2 f0 f1 f2
              refine HL.only (i := 10) (oi := _) (by kernel_rfl) rfl (by kernel_rfl) (fun K hK => ?_)
              go_simp
              refine hK.out _ _ (bel3 X3 zb _ _ _) (fun _ => ?_)
              clear hK K
              try simp only [Act.put, List.getElem_toArray, List.getElem_cons_succ, List.getElem_cons_zero, List.setIfInBounds_toArray, List.set_cons_zero, List.set_cons_succ]
              refine HL.done (by kernel_rfl) ?_
              go_wp2
              go_meet
              case rel => exact ⟨b, gf, cf, rfl, rfl, bel3 X3 zb _ _ _, set3 kb _ _ _, own_base (own3 onu (fun k h1 h2 => by omega)) X2.size⟩
          ·
            go_simp
            refine hK.out _ _ (Below.alloc X0 X0.size _) (fun _ => ?_)
            clear hK K
            try simp only [Act.put, List.getElem_toArray, List.getElem_cons_succ, List.getElem_cons_zero, List.setIfInBounds_toArray, List.set_cons_zero, List.set_cons_succ]
            have kb := heap_alloc_new wd (.cells #[.slice none 0 0, .string ⟨#[]⟩, .int .i64 0] 60)
            have X1 := Below.alloc X0 X0.size (.cells #[.slice none 0 0, .string ⟨#[]⟩, .int .i64 0] 60)
            have zb := X0.size
            have yb : Below wd.heap.size wd (wd.alloc (.cells #[.slice none 0 0, .string ⟨#[]⟩, .int .i64 0] 60)) := (Below.refl _ _).alloc (Nat.le_refl _) _
            have hva : (wd.alloc (.cells #[.slice none 0 0, .string ⟨#[]⟩, .int .i64 0] 60)).heap.size = wd.heap.size + 1 := by simp
            generalize hW : World.alloc wd _ = va at *
            clear hW
            generalize hb0 : wd.heap.size = b at *
            refine HL.only (i := 0) (oi := _) (by kernel_rfl) rfl (by kernel_rfl) (fun K hK => ?_)
            go_simp
            refine (RN.out _ X1).mono ?_
            rintro e vt ⟨gn, cn, rfl, ont, dt, X2⟩
            refine hK.out _ _ X2 (fun _ => ?_)
            clear hK K
            try simp only [Act.put, List.getElem_toArray, List.getElem_cons_succ, List.getElem_cons_zero, List.setIfInBounds_toArray, List.set_cons_zero, List.set_cons_succ]
            have kb := LawFeed.bx kb dt
            refine HL.only (i := 4) (oi := _) (by kernel_rfl) rfl (by kernel_rfl) (fun K hK => ?_)
            go_simp
            refine (RF.out gn cn _ X2 (Rd.own ont)).mono ?_
            rintro e vu ⟨gf, cf, rfl, onu, du, X3⟩
            refine hK.out _ _ X3 (fun _ => ?_)
            clear hK K
            try simp only [Act.put, List.getElem_toArray, List.getElem_cons_succ, List.getElem_cons_zero, List.setIfInBounds_toArray, List.set_cons_zero, List.set_cons_succ]
            have kb := LawFeed.bx kb du
            refine HL.take (i := 5) (W := 6) (T := fun W => Below w5.heap.size w5 W) (oi := _) (v := ?_) rfl (by kernel_rfl) (by kernel_rfl) (by kernel_rfl) (by kernel_rfl) (by kernel_rfl) (fun _ _ _ h => h) (fun _ _ => Iff.rfl) (fun _ _ _ h => h) (Or.inl ⟨by kernel_rfl, ?_⟩) X3 (fun _ => ?_)
            rotate_left
            · intro w' hw'; clear hw'; (first | (go_simp; done) | (go_simp; with_reducible rfl))
            try simp only [Act.put, List.getElem_toArray, List.getElem_cons_succ, List.getElem_cons_zero, List.setIfInBounds_toArray, List.set_cons_zero, List.set_cons_succ]
            refine HL.take (i := 6) (W := 9) (T := fun W => Below w5.heap.size w5 W) (oi := _) (v := ?_) rfl (by kernel_rfl) (by kernel_rfl) (by kernel_rfl) (by kernel_rfl) (by kernel_rfl) (fun _ _ _ h => h) (fun _ _ => Iff.rfl) (fun _ _ _ h => h) (Or.inl ⟨by kernel_rfl, ?_⟩) X3 (fun _ => ?_)
            rotate_left
            · intro w' hw'; clear hw'; (first | (go_simp; done) | (go_simp; with_reducible rfl))
            try simp only [Act.put, List.getElem_toArray, List.getElem_cons_succ, List.getElem_cons_zero, List.setIfInBounds_toArray, List.set_cons_zero, List.set_cons_succ]
            refine HL.take (i := 7) (W := 10) (T := fun W => Below w5.heap.size w5 W) (oi := _) (v := ?_) rfl (by kernel_rfl) (by kernel_rfl) (by kernel_rfl) (by kernel_rfl) (by kernel_rfl) (fun _ _ _ h => h) (fun _ _ => Iff.rfl) (fun _ _ _ h => h) (Or.inl ⟨by kernel_rfl, ?_⟩) X3 (fun _ => ?_)
            rotate_left
            · intro w' hw'; clear hw'; (first | (go_simp; done) | (go_simp; with_reducible rfl))
            try simp only [Act.put, List.getElem_toArray, List.getElem_cons_succ, List.getElem_cons_zero, List.setIfInBounds_toArray, List.set_cons_zero, List.set_cons_succ]
            obtain ⟨s0, s1, s2⟩ := row3 kb
            obtain ⟨f0, f1, f2⟩ := frz3 kb
            refine HL.only (i := 9) (oi := _) (by kernel_rfl) rfl (by kernel_rfl) (fun K hK => ?_)
            go_simp
            refine hK.out _ _ (bel3 X3 zb _ _ _) (fun _ => ?_)
            clear hK K
            try simp only [Act.put, List.getElem_toArray, List.getElem_cons_succ, List.getElem_cons_zero, List.setIfInBounds_toArray, List.set_cons_zero, List.set_cons_succ]
            clear s0 s1 s2 f0 f1 f2
            refine HL.only (i := 10) (oi := _) (by kernel_rfl) rfl (by kernel_rfl) (fun K hK => ?_)
            go_simp
            refine hK.out _ _ (bel3 X3 zb _ _ _) (fun _ => ?_)
            clear hK K
            try simp only [Act.put, List.getElem_toArray, List.getElem_cons_succ, List.getElem_cons_zero, List.setIfInBounds_toArray, List.set_cons_zero, List.set_cons_succ]
            refine HL.done (by kernel_rfl) ?_
            go_wp2
            go_meet
            case rel => exact ⟨b, gf, cf, rfl, rfl, bel3 X3 zb _ _ _, set3 kb _ _ _, own_base (own3 onu (fun k h1 h2 => by have := dt.size; omega)) X2.size⟩
      case rest =>
        obtain ⟨b1, g1, c1, rfl, rfl, x1, k1, o1⟩ := hcut
        generalize wc = VA at *
        have KB := Lib.hid k1
        have BT2 : Below w.heap.size w VA := BT.out.trans (x1.mono BT.out.size)
        have RG := Lib.hid (fun W (h : Below VA.heap.size VA W) => (FM.out g1 c1 W (((Rd.own o1).below h (Nat.le_refl _)).mono h.size) (HK.out W (BT2.trans (h.mono BT2.size)))).mono fun e w' q => (show ∃ g' c', e = .returned (.tuple #[.agg #[.slice (some ⟨g', 0, none⟩) 8 c', .string rS, .int .i64 (s.size : Int)], .bool true]) ∧ w'.ownsRow W.heap.size 3 1 (.slice (some ⟨g', 0, none⟩) 8 c') 8 (ints LS) ∧ Below W.heap.size W w' ∧ Below VA.heap.size VA w' from by
          obtain ⟨g', c', q1, q2, q3⟩ := q
          exact ⟨g', c', q1, q2, q3, h.trans (q3.mono h.size)⟩))
        replace BT := Lib.hid BT2
        clear x1 k1 o1 BT2 FM RN RF X0 SL1
        have X0 : Below VA.heap.size VA VA.drew := Below.drew (Below.refl _ VA)
        have Q1 : Hid (∀ W, Below VA.heap.size VA W → W.cell? ⟨b1, 0, none⟩ = some (.slice (some ⟨g1, 0, none⟩) 8 c1) ∧ W.cell? ⟨b1, 1, none⟩ = some (.string r1) ∧ W.cell? ⟨b1, 2, none⟩ = some (.int .i64 (n1 : Int))) := Lib.hid (fun W h => row3 (LawFeed.bx KB.out h))
        go_wp2_with fail
        go_cut [17, 18] from 94 (fun s17 s18 wc => ∃ b g c, s17 = .pointer (some ⟨b, 0, none⟩) ∧ s18 = .bool true ∧ Below VA.heap.size VA wc ∧ wc.heap[b]? = some (.cells #[.slice (some ⟨g, 0, none⟩) 8 c, .string rS, .int .i64 (s.size : Int)] 60) ∧ wc.ownsRow VA.heap.size 3 1 (.slice (some ⟨g, 0, none⟩) 8 c) 8 (ints LS))
        case first =>
          refine HL.start (S := fun (_ : Array Bool) W => Below VA.heap.size VA W) (by kernel_rfl) ?_
          generalize VA.drew = wd at *
          refine HL.take (i := 0) (W := 4) (T := fun W => Below VA.heap.size VA W) (oi := _) (v := ?_) rfl (by kernel_rfl) (by kernel_rfl) (by kernel_rfl) (by kernel_rfl) (by kernel_rfl) (fun _ _ _ h => h) (fun _ _ => Iff.rfl) (fun _ _ _ h => h) (Or.inl ⟨by kernel_rfl, ?_⟩) X0 (fun _ => ?_)
          rotate_left
          · intro w' hw'; obtain ⟨e0, e1, e3⟩ := Q1.out w' hw'; clear hw'; (first | (go_simp; done) | (go_simp; with_reducible rfl))
          try simp only [Act.put, List.getElem_toArray, List.getElem_cons_succ, List.getElem_cons_zero, List.setIfInBounds_toArray, List.set_cons_zero, List.set_cons_succ]
          refine HL.take (i := 1) (W := 3) (T := fun W => Below VA.heap.size VA W) (oi := _) (v := ?_) rfl (by kernel_rfl) (by kernel_rfl) (by kernel_rfl) (by kernel_rfl) (by kernel_rfl) (fun _ _ _ h => h) (fun _ _ => Iff.rfl) (fun _ _ _ h => h) (Or.inl ⟨by kernel_rfl, ?_⟩) X0 (fun _ => ?_)
          rotate_left
          · intro w' hw'; clear hw'; (first | (go_simp; done) | (go_simp; with_reducible rfl))
          try simp only [Act.put, List.getElem_toArray, List.getElem_cons_succ, List.getElem_cons_zero, List.setIfInBounds_toArray, List.set_cons_zero, List.set_cons_succ]
          refine HL.take (i := 2) (W := 3) (T := fun W => Below VA.heap.size VA W) (oi := _) (v := ?_) rfl (by kernel_rfl) (by kernel_rfl) (by kernel_rfl) (by kernel_rfl) (by kernel_rfl) (fun _ _ _ h => h) (fun _ _ => Iff.rfl) (fun _ _ _ h => h) (Or.inl ⟨by kernel_rfl, ?_⟩) X0 (fun _ => ?_)
          rotate_left
          · intro w' hw'; clear hw'; (first | (go_simp; done) | (go_simp; with_reducible rfl))
          try simp only [Act.put, List.getElem_toArray, List.getElem_cons_succ, List.getElem_cons_zero, List.setIfInBounds_toArray, List.set_cons_zero, List.set_cons_succ]
          refine HL.take (i := 3) (W := 4) (T := fun W => Below VA.heap.size VA W) (oi := _) (v := ?_) rfl (by kernel_rfl) (by kernel_rfl) (by kernel_rfl) (by kernel_rfl) (by kernel_rfl) (fun _ _ _ h => h) (fun _ _ => Iff.rfl) (fun _ _ _ h => h) (Or.inl ⟨by kernel_rfl, ?_⟩) X0 (fun _ => ?_)
          rotate_left
          · intro w' hw'; clear hw'; (first | (go_simp; done) | (go_simp; with_reducible rfl))
          try simp only [Act.put, List.getElem_toArray, List.getElem_cons_succ, List.getElem_cons_zero, List.setIfInBounds_toArray, List.set_cons_zero, List.set_cons_succ]
          refine HL.two (i := 4) (j := 8) (oi := _) (oj := _) (by kernel_rfl) rfl (by kernel_rfl) (fun K hK => ?_) rfl (by kernel_rfl) (fun K hK => ?_)
          ·
            go_simp
            refine (RG.out _ X0).mono ?_
            rintro e vu ⟨gf, cf, rfl, onu, du, X2⟩
            refine hK.out _ _ X2 (fun _ => ?_)
            clear hK K
            try simp only [Act.put, List.getElem_toArray, List.getElem_cons_succ, List.getElem_cons_zero, List.setIfInBounds_toArray, List.set_cons_zero, List.set_cons_succ]
            refine HL.take (i := 5) (W := 6) (T := fun W => Below VA.heap.size VA W) (oi := _) (v := ?_) rfl (by kernel_rfl) (by kernel_rfl) (by kernel_rfl) (by kernel_rfl) (by kernel_rfl) (fun _ _ _ h => h) (fun _ _ => Iff.rfl) (fun _ _ _ h => h) (Or.inl ⟨by kernel_rfl, ?_⟩) X2 (fun _ => ?_)
            rotate_left
            · intro w' hw'; clear hw'; (first | (go_simp; done) | (go_simp; with_reducible rfl))
            try simp only [Act.put, List.getElem_toArray, List.getElem_cons_succ, List.getElem_cons_zero, List.setIfInBounds_toArray, List.set_cons_zero, List.set_cons_succ]
            refine HL.take (i := 6) (W := 9) (T := fun W => Below VA.heap.size VA W) (oi := _) (v := ?_) rfl (by kernel_rfl) (by kernel_rfl) (by kernel_rfl) (by kernel_rfl) (by kernel_rfl) (fun _ _ _ h => h) (fun _ _ => Iff.rfl) (fun _ _ _ h => h) (Or.inl ⟨by kernel_rfl, ?_⟩) X2 (fun _ => ?_)
            rotate_left
            · intro w' hw'; clear hw'; (first | (go_simp; done) | (go_simp; with_reducible rfl))
            try simp only [Act.put, List.getElem_toArray, List.getElem_cons_succ, List.getElem_cons_zero, List.setIfInBounds_toArray, List.set_cons_zero, List.set_cons_succ]
            refine HL.take (i := 7) (W := 10) (T := fun W => Below VA.heap.size VA W) (oi := _) (v := ?_) rfl (by kernel_rfl) (by kernel_rfl) (by kernel_rfl) (by kernel_rfl) (by kernel_rfl) (fun _ _ _ h => h) (fun _ _ => Iff.rfl) (fun _ _ _ h => h) (Or.inl ⟨by kernel_rfl, ?_⟩) X2 (fun _ => ?_)
            rotate_left
            · intro w' hw'; clear hw'; (first | (go_simp; done) | (go_simp; with_reducible rfl))
            try simp only [Act.put, List.getElem_toArray, List.getElem_cons_succ, List.getElem_cons_zero, List.setIfInBounds_toArray, List.set_cons_zero, List.set_cons_succ]
            refine HL.only (i := 8) (oi := _) (by kernel_rfl) rfl (by kernel_rfl) (fun K hK => ?_)
            go_simp
            refine hK.out _ _ (Below.alloc X2 X2.size _) (fun _ => ?_)
            clear hK K
            try simp only [Act.put, List.getElem_toArray, List.getElem_cons_succ, List.getElem_cons_zero, List.setIfInBounds_toArray, List.set_cons_zero, List.set_cons_succ]
            have kb := heap_alloc_new vu (.cells #[.slice none 0 0, .string ⟨#[]⟩, .int .i64 0] 60)
            have X3 := Below.alloc X2 X2.size (.cells #[.slice none 0 0, .string ⟨#[]⟩, .int .i64 0] 60)
            have zb := X2.size
            have yb : Below vu.heap.size vu (vu.alloc (.cells #[.slice none 0 0, .string ⟨#[]⟩, .int .i64 0] 60)) := (Below.refl _ _).alloc (Nat.le_refl _) _
            have hva : (vu.alloc (.cells #[.slice none 0 0, .string ⟨#[]⟩, .int .i64 0] 60)).heap.size = vu.heap.size + 1 := by simp
            generalize hW : World.alloc vu _ = va at *
            clear hW
            generalize hb0 : vu.heap.size = b at *
            obtain ⟨s0, s1, s2⟩ := row3 kb
            obtain ⟨f0, f1, f2⟩ := frz3 kb
            refine HL.only (i := 9) (oi := _) (by kernel_rfl) rfl (by kernel_rfl) (fun K hK => ?_)
            go_simp
            refine hK.out _ _ (bel3 X3 zb _ _ _) (fun _ => ?_)
            clear hK K
            try simp only [Act.put, List.getElem_toArray, List.getElem_cons_succ, List.getElem_cons_zero, List.setIfInBounds_toArray, List.set_cons_zero, List.set_cons_succ]
            clear s0 s1 s2 f0 f1 f2
            refine HL.only (i := 10) (oi := _) (by kernel_rfl) rfl (by kernel_rfl) (fun K hK => ?_)
            go_simp
            refine hK.out _ _ (bel3 X3 zb _ _ _) (fun _ => ?_)
            clear hK K
            try simp only [Act.put, List.getElem_toArray, List.getElem_cons_succ, List.getElem_cons_zero, List.setIfInBounds_toArray, List.set_cons_zero, List.set_cons_succ]
            refine HL.done (by kernel_rfl) ?_
            go_wp2
            go_meet
            case rel => exact ⟨b, gf, cf, rfl, rfl, bel3 X3 zb _ _ _, set3 kb _ _ _, own_base (own4 onu hb0 yb) X0.size⟩
          ·
            go_simp
            refine hK.out _ _ (Below.alloc X0 X0.size _) (fun _ => ?_)
            clear hK K
            try simp only [Act.put, List.getElem_toArray, List.getElem_cons_succ, List.getElem_cons_zero, List.setIfInBounds_toArray, List.set_cons_zero, List.set_cons_succ]
            have kb := heap_alloc_new wd (.cells #[.slice none 0 0, .string ⟨#[]⟩, .int .i64 0] 60)
            have X2 := Below.alloc X0 X0.size (.cells #[.slice none 0 0, .string ⟨#[]⟩, .int .i64 0] 60)
            have zb := X0.size
            have yb : Below wd.heap.size wd (wd.alloc (.cells #[.slice none 0 0, .string ⟨#[]⟩, .int .i64 0] 60)) := (Below.refl _ _).alloc (Nat.le_refl _) _
            have hva : (wd.alloc (.cells #[.slice none 0 0, .string ⟨#[]⟩, .int .i64 0] 60)).heap.size = wd.heap.size + 1 := by simp
            generalize hW : World.alloc wd _ = va at *
            clear hW
            generalize hb0 : wd.heap.size = b at *
            refine HL.only (i := 4) (oi := _) (by kernel_rfl) rfl (by kernel_rfl) (fun K hK => ?_)
            go_simp
            refine (RG.out _ X2).mono ?_
            rintro e vu ⟨gf, cf, rfl, onu, du, X3⟩
            refine hK.out _ _ X3 (fun _ => ?_)
            clear hK K
            try simp only [Act.put, List.getElem_toArray, List.getElem_cons_succ, List.getElem_cons_zero, List.setIfInBounds_toArray, List.set_cons_zero, List.set_cons_succ]
            have kb := LawFeed.bx kb du
            refine HL.take (i := 5) (W := 6) (T := fun W => Below VA.heap.size VA W) (oi := _) (v := ?_) rfl (by kernel_rfl) (by kernel_rfl) (by kernel_rfl) (by kernel_rfl) (by kernel_rfl) (fun _ _ _ h => h) (fun _ _ => Iff.rfl) (fun _ _ _ h => h) (Or.inl ⟨by kernel_rfl, ?_⟩) X3 (fun _ => ?_)
            rotate_left
            · intro w' hw'; clear hw'; (first | (go_simp; done) | (go_simp; with_reducible rfl))
            try simp only [Act.put, List.getElem_toArray, List.getElem_cons_succ, List.getElem_cons_zero, List.setIfInBounds_toArray, List.set_cons_zero, List.set_cons_succ]
            refine HL.take (i := 6) (W := 9) (T := fun W => Below VA.heap.size VA W) (oi := _) (v := ?_) rfl (by kernel_rfl) (by kernel_rfl) (by kernel_rfl) (by kernel_rfl) (by kernel_rfl) (fun _ _ _ h => h) (fun _ _ => Iff.rfl) (fun _ _ _ h => h) (Or.inl ⟨by kernel_rfl, ?_⟩) X3 (fun _ => ?_)
            rotate_left
            · intro w' hw'; clear hw'; (first | (go_simp; done) | (go_simp; with_reducible rfl))
            try simp only [Act.put, List.getElem_toArray, List.getElem_cons_succ, List.getElem_cons_zero, List.setIfInBounds_toArray, List.set_cons_zero, List.set_cons_succ]
            refine HL.take (i := 7) (W := 10) (T := fun W => Below VA.heap.size VA W) (oi := _) (v := ?_) rfl (by kernel_rfl) (by kernel_rfl) (by kernel_rfl) (by kernel_rfl) (by kernel_rfl) (fun _ _ _ h => h) (fun _ _ => Iff.rfl) (fun _ _ _ h => h) (Or.inl ⟨by kernel_rfl, ?_⟩) X3 (fun _ => ?_)
            rotate_left
            · intro w' hw'; clear hw'; (first | (go_simp; done) | (go_simp; with_reducible rfl))
            try simp only [Act.put, List.getElem_toArray, List.getElem_cons_succ, List.getElem_cons_zero, List.setIfInBounds_toArray, List.set_cons_zero, List.set_cons_succ]
            obtain ⟨s0, s1, s2⟩ := row3 kb
            obtain ⟨f0, f1, f2⟩ := frz3 kb
            refine HL.only (i := 9) (oi := _) (by kernel_rfl) rfl (by kernel_rfl) (fun K hK => ?_)
            go_simp
            refine hK.out _ _ (bel3 X3 zb _ _ _) (fun _ => ?_)
            clear hK K
            try simp only [Act.put, List.getElem_toArray, List.getElem_cons_succ, List.getElem_cons_zero, List.setIfInBounds_toArray, List.set_cons_zero, List.set_cons_succ]
            clear s0 s1 s2 f0 f1 f2
            refine HL.only (i := 10) (oi := _) (by kernel_rfl) rfl (by kernel_rfl) (fun K hK => ?_)
            go_simp
            refine hK.out _ _ (bel3 X3 zb _ _ _) (fun _ => ?_)
            clear hK K
            try simp only [Act.put, List.getElem_toArray, List.getElem_cons_succ, List.getElem_cons_zero, List.setIfInBounds_toArray, List.set_cons_zero, List.set_cons_succ]
            refine HL.done (by kernel_rfl) ?_
            go_wp2
            go_meet
            case rel => exact ⟨b, gf, cf, rfl, rfl, bel3 X3 zb _ _ _, set3 kb _ _ _, own_base (own3 onu (fun k h1 h2 => by omega)) X2.size⟩
        case rest =>
          obtain ⟨b2, g2, c2, rfl, rfl, x2, k2, o2⟩ := hcut
          generalize wc = VB at *
          have KC := Lib.hid k2
          have OC := Lib.hid (Rd.own o2)
          replace BT := Lib.hid (BT.out.trans (x2.mono BT.out.size))
          clear x2 k2 o2 RG Q1 X0 KB SL2
          obtain ⟨p0, p1, p2⟩ := row3 KC.out
          have lb := LawFeed.bx_lt KC.out
          go_wp2_with fail
          clear p0 p1 p2
          refine (FE.out g2 c2 VB OC.out (HK.out VB BT.out)).mono ?_
          rintro e v9 ⟨rfl, hb⟩
          replace KC := Lib.hid (LawFeed.bx KC.out hb)
          replace OC := Lib.hid ((OC.out.below hb (Nat.le_refl _)).mono hb.size)
          replace BT := Lib.hid (BT.out.trans (hb.mono BT.out.size))
          clear hb lb FE
          obtain ⟨p0, p1, p2⟩ := row3 KC.out
          have lb := LawFeed.bx_lt KC.out
          go_wp2_with fail
          clear p0 p1 p2 lb
          refine (FG.out g2 c2 v9 OC.out).mono ?_
          rintro e v10 ⟨rfl, hb⟩
          have BF := BT.out.trans (hb.mono BT.out.size)
          clear hb FG OC KC
          go_wp2
          go_meet
          case rel => exact BF
  case rest =>
    have BF := hcut
    have BT := Lib.hid BF
    clear hcut BF HO HN B5
    generalize wc = WT at *
    go_wp2_with fail
    refine (DF.out WT BT.out).mono ?_
    rintro e v1 ⟨g1, c1, l1, rs1, L1, t1, rfl, hrs1, ht1, o1, hb⟩
    replace BT := Lib.hid (BT.out.trans (hb.mono BT.out.size))
    have O1 := Lib.hid o1
    obtain ⟨mm, ll, rr, Lr, ok2, hm8, hrr, S2, I2⟩ := LawFeed.both 8 rs1 t1 L1 l1 (by omega) (by unfold maxLen; omega) (by unfold maxLen; omega) (Rd.own o1).len
    unfold stV at S2 I2
    have S2 := Lib.hid S2
    have I2 := Lib.hid I2
    clear hb o1 DF hrr
    go_wp2_with fail
    obtain ⟨k, hb, zz⟩ := boxed v1 #[.slice (some ⟨g1, 0, none⟩) 8 c1, .string rs1, .int .i64 L1] 60
    replace O1 := Lib.hid (own_below O1.out hb (Nat.le_refl _))
    replace BT := Lib.hid (BT.out.trans (hb.mono BT.out.size))
    have K1 := Lib.hid k
    clear k hb zz
    generalize hW : World.alloc v1 _ = V1 at *
    clear hW
    generalize hBB : v1.heap.size = b1 at *
    clear hBB
    refine (I2.out (some ⟨g1, 0, none⟩) c1 V1 (Rd.own O1.out) (HK.out V1 BT.out)).mono ?_
    rintro e v2 ⟨A2, c2, rfl, o2, hb⟩
    replace K1 := Lib.hid (LawFeed.bx K1.out hb)
    replace O1 := Lib.hid (own_below O1.out hb (Nat.le_refl _))
    replace BT := Lib.hid (BT.out.trans (hb.mono BT.out.size))
    have O2 := Lib.hid o2
    clear hb o2 I2
    obtain ⟨p10, p11, p12⟩ := row3 K1.out
    have lb1 := LawFeed.bx_lt K1.out
    go_wp2_with fail
    clear p10 p11 p12 lb1
    obtain ⟨k, hb, zz⟩ := boxed v2 #[.slice A2 mm c2, .string rr, .int .i64 Lr] 60
    replace K1 := Lib.hid (LawFeed.bx K1.out hb)
    replace O1 := Lib.hid (own_below O1.out hb (Nat.le_refl _))
    replace O2 := Lib.hid (own_below O2.out hb (Nat.le_refl _))
    replace BT := Lib.hid (BT.out.trans (hb.mono BT.out.size))
    have K2 := Lib.hid k
    clear k hb zz
    generalize hW : World.alloc v2 _ = V2 at *
    clear hW
    generalize hBB : v2.heap.size = b2 at *
    clear hBB
    refine (S2.out (some ⟨g1, 0, none⟩) c1 V2 (Rd.own O1.out)).mono ?_
    rintro e v3 ⟨A3, c3, rfl, o3, hb⟩
    replace K1 := Lib.hid (LawFeed.bx K1.out hb)
    replace K2 := Lib.hid (LawFeed.bx K2.out hb)
    replace O1 := Lib.hid (own_below O1.out hb (Nat.le_refl _))
    replace O2 := Lib.hid (own_below O2.out hb (Nat.le_refl _))
    replace BT := Lib.hid (BT.out.trans (hb.mono BT.out.size))
    have O3 := Lib.hid o3
    clear hb o3 S2
    go_wp2_with fail
    obtain ⟨k, hb, zz⟩ := boxed v3 #[.slice A3 mm c3, .string rr, .int .i64 Lr] 60
    replace K1 := Lib.hid (LawFeed.bx K1.out hb)
    replace K2 := Lib.hid (LawFeed.bx K2.out hb)
    replace O1 := Lib.hid (own_below O1.out hb (Nat.le_refl _))
    replace O2 := Lib.hid (own_below O2.out hb (Nat.le_refl _))
    replace O3 := Lib.hid (own_below O3.out hb (Nat.le_refl _))
    replace BT := Lib.hid (BT.out.trans (hb.mono BT.out.size))
    have K3 := Lib.hid k
    clear k hb zz
    generalize hW : World.alloc v3 _ = V3 at *
    clear hW
    generalize hBB : v3.heap.size = b3 at *
    clear hBB
    refine (DE.out V3 BT.out).mono ?_
    rintro e v4 ⟨g4, c4, l4, rs4, L4, rfl, hrs4, o4, hb⟩
    replace K1 := Lib.hid (LawFeed.bx K1.out hb)
    replace K2 := Lib.hid (LawFeed.bx K2.out hb)
    replace K3 := Lib.hid (LawFeed.bx K3.out hb)
    replace O1 := Lib.hid (own_below O1.out hb (Nat.le_refl _))
    replace O2 := Lib.hid (own_below O2.out hb (Nat.le_refl _))
    replace O3 := Lib.hid (own_below O3.out hb (Nat.le_refl _))
    replace BT := Lib.hid (BT.out.trans (hb.mono BT.out.size))
    have O4 := Lib.hid o4
    obtain ⟨te, ok4, S4, I4⟩ := SpecEnd.both 8 rs4 L4 l4 (by omega) (by unfold maxLen; omega) (Rd.own o4).len
    unfold stV at S4 I4
    have S4 := Lib.hid S4
    have I4 := Lib.hid I4
    have G4 := Lib.hid (fun W h => GoodState.implGood (some ⟨g4, 0, none⟩) 8 c4 rs4 L4 l4 W (by omega) (by unfold maxLen; omega) h)
    have H4 := Lib.hid (fun W h => GoodState.specGood (some ⟨g4, 0, none⟩) 8 c4 rs4 L4 l4 W (by omega) (by unfold maxLen; omega) h)
    unfold stV at G4 H4
    clear hb o4 DE
    go_wp2_with fail
    obtain ⟨k, hb, zz⟩ := boxed v4 #[.slice (some ⟨g4, 0, none⟩) 8 c4, .string rs4, .int .i64 L4] 60
    replace K1 := Lib.hid (LawFeed.bx K1.out hb)
    replace K2 := Lib.hid (LawFeed.bx K2.out hb)
    replace K3 := Lib.hid (LawFeed.bx K3.out hb)
    replace O1 := Lib.hid (own_below O1.out hb (Nat.le_refl _))
    replace O2 := Lib.hid (own_below O2.out hb (Nat.le_refl _))
    replace O3 := Lib.hid (own_below O3.out hb (Nat.le_refl _))
    replace O4 := Lib.hid (own_below O4.out hb (Nat.le_refl _))
    replace BT := Lib.hid (BT.out.trans (hb.mono BT.out.size))
    have K4 := Lib.hid k
    clear k hb zz
    generalize hW : World.alloc v4 _ = V4 at *
    clear hW
    generalize hBB : v4.heap.size = b4 at *
    clear hBB
    refine (I4.out (some ⟨g4, 0, none⟩) c4 V4 (Rd.own O4.out) (HK.out V4 BT.out)).mono ?_
    rintro e v5 ⟨rfl, hb⟩
    replace K1 := Lib.hid (LawFeed.bx K1.out hb)
    replace K2 := Lib.hid (LawFeed.bx K2.out hb)
    replace K3 := Lib.hid (LawFeed.bx K3.out hb)
    replace K4 := Lib.hid (LawFeed.bx K4.out hb)
    replace O1 := Lib.hid (own_below O1.out hb (Nat.le_refl _))
    replace O2 := Lib.hid (own_below O2.out hb (Nat.le_refl _))
    replace O3 := Lib.hid (own_below O3.out hb (Nat.le_refl _))
    replace O4 := Lib.hid (own_below O4.out hb (Nat.le_refl _))
    replace BT := Lib.hid (BT.out.trans (hb.mono BT.out.size))
    clear hb I4
    obtain ⟨p40, p41, p42⟩ := row3 K4.out
    have lb4 := LawFeed.bx_lt K4.out
    go_wp2_with fail
    clear p40 p41 p42 lb4
    refine (S4.out (some ⟨g4, 0, none⟩) c4 v5 (Rd.own O4.out)).mono ?_
    rintro e v6 ⟨rfl, hb⟩
    replace K1 := Lib.hid (LawFeed.bx K1.out hb)
    replace K2 := Lib.hid (LawFeed.bx K2.out hb)
    replace K3 := Lib.hid (LawFeed.bx K3.out hb)
    replace K4 := Lib.hid (LawFeed.bx K4.out hb)
    replace O1 := Lib.hid (own_below O1.out hb (Nat.le_refl _))
    replace O2 := Lib.hid (own_below O2.out hb (Nat.le_refl _))
    replace O3 := Lib.hid (own_below O3.out hb (Nat.le_refl _))
    replace O4 := Lib.hid (own_below O4.out hb (Nat.le_refl _))
    replace BT := Lib.hid (BT.out.trans (hb.mono BT.out.size))
    clear hb S4
    go_wp2_with fail
    refine (NI.out v6 BT.out).mono ?_
    rintro e v7 ⟨g5, c5, rfl, o5, hb⟩
    replace K1 := Lib.hid (LawFeed.bx K1.out hb)
    replace K2 := Lib.hid (LawFeed.bx K2.out hb)
    replace K3 := Lib.hid (LawFeed.bx K3.out hb)
    replace K4 := Lib.hid (LawFeed.bx K4.out hb)
    replace O1 := Lib.hid (own_below O1.out hb (Nat.le_refl _))
    replace O2 := Lib.hid (own_below O2.out hb (Nat.le_refl _))
    replace O3 := Lib.hid (own_below O3.out hb (Nat.le_refl _))
    replace O4 := Lib.hid (own_below O4.out hb (Nat.le_refl _))
    replace BT := Lib.hid (BT.out.trans (hb.mono BT.out.size))
    have O5 := Lib.hid o5
    clear hb o5 NI
    go_wp2_with fail
    obtain ⟨k, hb, zz⟩ := boxed v7 #[.slice (some ⟨g5, 0, none⟩) 8 c5, .string ByteArray.empty, .int .i64 0] 60
    replace K1 := Lib.hid (LawFeed.bx K1.out hb)
    replace K2 := Lib.hid (LawFeed.bx K2.out hb)
    replace K3 := Lib.hid (LawFeed.bx K3.out hb)
    replace K4 := Lib.hid (LawFeed.bx K4.out hb)
    replace O1 := Lib.hid (own_below O1.out hb (Nat.le_refl _))
    replace O2 := Lib.hid (own_below O2.out hb (Nat.le_refl _))
    replace O3 := Lib.hid (own_below O3.out hb (Nat.le_refl _))
    replace O4 := Lib.hid (own_below O4.out hb (Nat.le_refl _))
    replace O5 := Lib.hid (own_below O5.out hb (Nat.le_refl _))
    replace BT := Lib.hid (BT.out.trans (hb.mono BT.out.size))
    have K5 := Lib.hid k
    clear k hb zz
    generalize hW : World.alloc v7 _ = V7 at *
    clear hW
    generalize hBB : v7.heap.size = b5 at *
    clear hBB
    have Q2 : Hid (∀ W, Below V7.heap.size V7 W → W.cell? ⟨b2, 0, none⟩ = some (.slice A2 mm c2) ∧ W.cell? ⟨b2, 1, none⟩ = some (.string rr) ∧ W.cell? ⟨b2, 2, none⟩ = some (.int .i64 Lr)) := Lib.hid (fun W h => row3 (LawFeed.bx K2.out h))
    have Q3 : Hid (∀ W, Below V7.heap.size V7 W → W.cell? ⟨b3, 0, none⟩ = some (.slice A3 mm c3) ∧ W.cell? ⟨b3, 1, none⟩ = some (.string rr) ∧ W.cell? ⟨b3, 2, none⟩ = some (.int .i64 Lr)) := Lib.hid (fun W h => row3 (LawFeed.bx K3.out h))
    have Q4 : Hid (∀ W, Below V7.heap.size V7 W → W.cell? ⟨b4, 0, none⟩ = some (.slice (some ⟨g4, 0, none⟩) 8 c4) ∧ W.cell? ⟨b4, 1, none⟩ = some (.string rs4) ∧ W.cell? ⟨b4, 2, none⟩ = some (.int .i64 L4)) := Lib.hid (fun W h => row3 (LawFeed.bx K4.out h))
    have Q5 : Hid (∀ W, Below V7.heap.size V7 W → W.cell? ⟨b5, 0, none⟩ = some (.slice (some ⟨g5, 0, none⟩) 8 c5) ∧ W.cell? ⟨b5, 1, none⟩ = some (.string ByteArray.empty) ∧ W.cell? ⟨b5, 2, none⟩ = some (.int .i64 0)) := Lib.hid (fun W h => row3 (LawFeed.bx K5.out h))
    have QS := Lib.hid (fun W (h : Below V7.heap.size V7 W) => Draw6.sameState A2 A3 c2 c3 mm rr Lr ll W (by omega) (((Rd.own O2.out).below h (Nat.le_refl _)).mono h.size) (((Rd.own O3.out).below h (Nat.le_refl _)).mono h.size))
    have QG := Lib.hid (fun W (h : Below V7.heap.size V7 W) => G4.out W (((Rd.own O4.out).below h (Nat.le_refl _)).mono h.size))
    have QH := Lib.hid (fun W (h : Below V7.heap.size V7 W) => H4.out W (((Rd.own O4.out).below h (Nat.le_refl _)).mono h.size))
    have QN := Lib.hid (fun g6 c6 W (h : Below V7.heap.size V7 W) (o : Rd W W.heap.size 1 (some ⟨g6, 0, none⟩) 8 (ints Words.firsts)) => Draw6.sameState (some ⟨g5, 0, none⟩) (some ⟨g6, 0, none⟩) c5 c6 8 ByteArray.empty 0 Words.firsts W (by omega) (((Rd.own O5.out).below h (Nat.le_refl _)).mono h.size) o)
    clear G4 H4 O1 O2 O3 O4 O5 K1 K2 K3 K4 K5 hrs1 ht1 hrs4 HF HK
    generalize goodS l4 rs4 L4 = gd at *
    have e2 : (ok2 == ok2) = true := by simp
    have e4 : (ok4 == ok4) = true := by simp
    have eg : (gd == gd) = true := by simp
    have et : (te.toList == te.toList) = true := by simp
    have X0 : Below V7.heap.size V7 V7.drew := Below.drew (Below.refl _ V7)
    refine HL.start (S := fun (_ : Array Bool) W => Below V7.heap.size V7 W) (by kernel_rfl) ?_
    refine HL.take (i := 0) (W := 2) (T := fun W => Below V7.heap.size V7 W) (oi := _) (v := ?_) rfl (by kernel_rfl) (by kernel_rfl) (by kernel_rfl) (by kernel_rfl) (by kernel_rfl) (fun _ _ _ h => h) (fun _ _ => Iff.rfl) (fun _ _ _ h => h) (Or.inl ⟨by kernel_rfl, ?_⟩) X0 (fun _ => ?_)
    rotate_left
    · intro w' hw'; clear hw'; (first | (go_simp; done) | (go_simp; with_reducible rfl))
    try simp only [Act.put, List.getElem_toArray, List.getElem_cons_succ, List.getElem_cons_zero, List.setIfInBounds_toArray, List.set_cons_zero, List.set_cons_succ]
    refine HL.take (i := 1) (W := 2) (T := fun W => Below V7.heap.size V7 W) (oi := _) (v := ?_) rfl (by kernel_rfl) (by kernel_rfl) (by kernel_rfl) (by kernel_rfl) (by kernel_rfl) (fun _ _ _ h => h) (fun _ _ => Iff.rfl) (fun _ _ _ h => h) (Or.inl ⟨by kernel_rfl, ?_⟩) X0 (fun _ => ?_)
    rotate_left
    · intro w' hw'; clear hw'; (first | (go_simp; done) | (go_simp; with_reducible rfl))
    try simp only [Act.put, List.getElem_toArray, List.getElem_cons_succ, List.getElem_cons_zero, List.setIfInBounds_toArray, List.set_cons_zero, List.set_cons_succ]
    refine HL.take (i := 2) (W := 3) (T := fun W => Below V7.heap.size V7 W) (oi := _) (v := ?_) rfl (by kernel_rfl) (by kernel_rfl) (by kernel_rfl) (by kernel_rfl) (by kernel_rfl) (fun _ _ _ h => h) (fun _ _ => Iff.rfl) (fun _ _ _ h => h) (Or.inl ⟨by kernel_rfl, ?_⟩) X0 (fun _ => ?_)
    rotate_left
    · intro w' hw'; clear hw'; (first | (go_simp; done) | (go_simp; with_reducible rfl))
    try simp only [Act.put, List.getElem_toArray, List.getElem_cons_succ, List.getElem_cons_zero, List.setIfInBounds_toArray, List.set_cons_zero, List.set_cons_succ]
    refine HL.take (i := 3) (W := 7) (T := fun W => Below V7.heap.size V7 W) (oi := _) (v := ?_) rfl (by kernel_rfl) (by kernel_rfl) (by kernel_rfl) (by kernel_rfl) (by kernel_rfl) (fun _ _ _ h => h) (fun _ _ => Iff.rfl) (fun _ _ _ h => h) (Or.inl ⟨by kernel_rfl, ?_⟩) X0 (fun _ => ?_)
    rotate_left
    · intro w' hw'; clear hw'; (first | (go_simp; done) | (go_simp; with_reducible rfl))
    try simp only [Act.put, List.getElem_toArray, List.getElem_cons_succ, List.getElem_cons_zero, List.setIfInBounds_toArray, List.set_cons_zero, List.set_cons_succ]
    refine HL.take (i := 4) (W := 6) (T := fun W => Below V7.heap.size V7 W) (oi := _) (v := ?_) rfl (by kernel_rfl) (by kernel_rfl) (by kernel_rfl) (by kernel_rfl) (by kernel_rfl) (fun _ _ _ h => h) (fun _ _ => Iff.rfl) (fun _ _ _ h => h) (Or.inl ⟨by kernel_rfl, ?_⟩) X0 (fun _ => ?_)
    rotate_left
    · intro w' hw'; obtain ⟨e0, e1, e3⟩ := Q2.out w' hw'; clear hw'; (first | (go_simp; done) | (go_simp; with_reducible rfl))
    try simp only [Act.put, List.getElem_toArray, List.getElem_cons_succ, List.getElem_cons_zero, List.setIfInBounds_toArray, List.set_cons_zero, List.set_cons_succ]
    refine HL.take (i := 5) (W := 6) (T := fun W => Below V7.heap.size V7 W) (oi := _) (v := ?_) rfl (by kernel_rfl) (by kernel_rfl) (by kernel_rfl) (by kernel_rfl) (by kernel_rfl) (fun _ _ _ h => h) (fun _ _ => Iff.rfl) (fun _ _ _ h => h) (Or.inl ⟨by kernel_rfl, ?_⟩) X0 (fun _ => ?_)
    rotate_left
    · intro w' hw'; obtain ⟨e0, e1, e3⟩ := Q3.out w' hw'; clear hw'; (first | (go_simp; done) | (go_simp; with_reducible rfl))
    try simp only [Act.put, List.getElem_toArray, List.getElem_cons_succ, List.getElem_cons_zero, List.setIfInBounds_toArray, List.set_cons_zero, List.set_cons_succ]
    refine HL.only (i := 6) (oi := _) (by kernel_rfl) rfl (by kernel_rfl) (fun K hK => ?_)
    go_simp
    refine (QS.out _ X0).mono ?_
    rintro e x1 ⟨rfl, y⟩
    have X1 := X0.trans (y.mono X0.size)
    refine hK.out _ _ X1 (fun _ => ?_)
    clear hK K y
    try simp only [Act.put, List.getElem_toArray, List.getElem_cons_succ, List.getElem_cons_zero, List.setIfInBounds_toArray, List.set_cons_zero, List.set_cons_succ]
    refine HL.take (i := 7) (W := 8) (T := fun W => Below V7.heap.size V7 W) (oi := _) (v := ?_) rfl (by kernel_rfl) (by kernel_rfl) (by kernel_rfl) (by kernel_rfl) (by kernel_rfl) (fun _ _ _ h => h) (fun _ _ => Iff.rfl) (fun _ _ _ h => h) (Or.inl ⟨by kernel_rfl, ?_⟩) X1 (fun _ => ?_)
    rotate_left
    · intro w' hw'; clear hw'; (first | (go_simp; done) | (go_simp; with_reducible rfl))
    try simp only [Act.put, List.getElem_toArray, List.getElem_cons_succ, List.getElem_cons_zero, List.setIfInBounds_toArray, List.set_cons_zero, List.set_cons_succ]
    refine HL.take (i := 8) (W := 12) (T := fun W => Below V7.heap.size V7 W) (oi := _) (v := ?_) rfl (by kernel_rfl) (by kernel_rfl) (by kernel_rfl) (by kernel_rfl) (by kernel_rfl) (fun _ _ _ h => h) (fun _ _ => Iff.rfl) (fun _ _ _ h => h) (Or.inl ⟨by kernel_rfl, ?_⟩) X1 (fun _ => ?_)
    rotate_left
    · intro w' hw'; clear hw'; (first | (go_simp; done) | (go_simp; with_reducible rfl))
    try simp only [Act.put, List.getElem_toArray, List.getElem_cons_succ, List.getElem_cons_zero, List.setIfInBounds_toArray, List.set_cons_zero, List.set_cons_succ]
    refine HL.take (i := 9) (W := 11) (T := fun W => Below V7.heap.size V7 W) (oi := _) (v := ?_) rfl (by kernel_rfl) (by kernel_rfl) (by kernel_rfl) (by kernel_rfl) (by kernel_rfl) (fun _ _ _ h => h) (fun _ _ => Iff.rfl) (fun _ _ _ h => h) (Or.inl ⟨by kernel_rfl, ?_⟩) X1 (fun _ => ?_)
    rotate_left
    · intro w' hw'; clear hw'; (first | (go_simp; done) | (go_simp; with_reducible rfl))
    try simp only [Act.put, List.getElem_toArray, List.getElem_cons_succ, List.getElem_cons_zero, List.setIfInBounds_toArray, List.set_cons_zero, List.set_cons_succ]
    refine HL.take (i := 10) (W := 11) (T := fun W => Below V7.heap.size V7 W) (oi := _) (v := ?_) rfl (by kernel_rfl) (by kernel_rfl) (by kernel_rfl) (by kernel_rfl) (by kernel_rfl) (fun _ _ _ h => h) (fun _ _ => Iff.rfl) (fun _ _ _ h => h) (Or.inl ⟨by kernel_rfl, ?_⟩) X1 (fun _ => ?_)
    rotate_left
    · intro w' hw'; clear hw'; (first | (go_simp; done) | (go_simp; with_reducible rfl))
    try simp only [Act.put, List.getElem_toArray, List.getElem_cons_succ, List.getElem_cons_zero, List.setIfInBounds_toArray, List.set_cons_zero, List.set_cons_succ]
    refine HL.take (i := 11) (W := 12) (T := fun W => Below V7.heap.size V7 W) (oi := _) (v := ?_) rfl (by kernel_rfl) (by kernel_rfl) (by kernel_rfl) (by kernel_rfl) (by kernel_rfl) (fun _ _ _ h => h) (fun _ _ => Iff.rfl) (fun _ _ _ h => h) (Or.inl ⟨by kernel_rfl, ?_⟩) X1 (fun _ => ?_)
    rotate_left
    · intro w' hw'; clear hw'; (first | (go_simp; done) | (go_simp; with_reducible rfl))
    try simp only [Act.put, List.getElem_toArray, List.getElem_cons_succ, List.getElem_cons_zero, List.setIfInBounds_toArray, List.set_cons_zero, List.set_cons_succ]
    refine HL.take (i := 12) (W := 13) (T := fun W => Below V7.heap.size V7 W) (oi := _) (v := ?_) rfl (by kernel_rfl) (by kernel_rfl) (by kernel_rfl) (by kernel_rfl) (by kernel_rfl) (fun _ _ _ h => h) (fun _ _ => Iff.rfl) (fun _ _ _ h => h) (Or.inl ⟨by kernel_rfl, ?_⟩) X1 (fun _ => ?_)
    rotate_left
    · intro w' hw'; clear hw'; (first | (go_simp; done) | (go_simp; with_reducible rfl))
    try simp only [Act.put, List.getElem_toArray, List.getElem_cons_succ, List.getElem_cons_zero, List.setIfInBounds_toArray, List.set_cons_zero, List.set_cons_succ]
    refine HL.take (i := 13) (W := 17) (T := fun W => Below V7.heap.size V7 W) (oi := _) (v := ?_) rfl (by kernel_rfl) (by kernel_rfl) (by kernel_rfl) (by kernel_rfl) (by kernel_rfl) (fun _ _ _ h => h) (fun _ _ => Iff.rfl) (fun _ _ _ h => h) (Or.inl ⟨by kernel_rfl, ?_⟩) X1 (fun _ => ?_)
    rotate_left
    · intro w' hw'; clear hw'; (first | (go_simp; done) | (go_simp; with_reducible rfl))
    try simp only [Act.put, List.getElem_toArray, List.getElem_cons_succ, List.getElem_cons_zero, List.setIfInBounds_toArray, List.set_cons_zero, List.set_cons_succ]
    refine HL.take (i := 14) (W := 16) (T := fun W => Below V7.heap.size V7 W) (oi := _) (v := ?_) rfl (by kernel_rfl) (by kernel_rfl) (by kernel_rfl) (by kernel_rfl) (by kernel_rfl) (fun _ _ _ h => h) (fun _ _ => Iff.rfl) (fun _ _ _ h => h) (Or.inl ⟨by kernel_rfl, ?_⟩) X1 (fun _ => ?_)
    rotate_left
    · intro w' hw'; clear hw'; (first | (go_simp; done) | (go_simp; with_reducible rfl))
    try simp only [Act.put, List.getElem_toArray, List.getElem_cons_succ, List.getElem_cons_zero, List.setIfInBounds_toArray, List.set_cons_zero, List.set_cons_succ]
    refine HL.take (i := 15) (W := 16) (T := fun W => Below V7.heap.size V7 W) (oi := _) (v := ?_) rfl (by kernel_rfl) (by kernel_rfl) (by kernel_rfl) (by kernel_rfl) (by kernel_rfl) (fun _ _ _ h => h) (fun _ _ => Iff.rfl) (fun _ _ _ h => h) (Or.inl ⟨by kernel_rfl, ?_⟩) X1 (fun _ => ?_)
    rotate_left
    · intro w' hw'; clear hw'; (first | (go_simp; done) | (go_simp; with_reducible rfl))
    try simp only [Act.put, List.getElem_toArray, List.getElem_cons_succ, List.getElem_cons_zero, List.setIfInBounds_toArray, List.set_cons_zero, List.set_cons_succ]
    refine HL.take (i := 16) (W := 17) (T := fun W => Below V7.heap.size V7 W) (oi := _) (v := ?_) rfl (by kernel_rfl) (by kernel_rfl) (by kernel_rfl) (by kernel_rfl) (by kernel_rfl) (fun _ _ _ h => h) (fun _ _ => Iff.rfl) (fun _ _ _ h => h) (Or.inl ⟨by kernel_rfl, ?_⟩) X1 (fun _ => ?_)
    rotate_left
    · intro w' hw'; clear hw'; (first | (go_simp; done) | (go_simp; with_reducible rfl))
    try simp only [Act.put, List.getElem_toArray, List.getElem_cons_succ, List.getElem_cons_zero, List.setIfInBounds_toArray, List.set_cons_zero, List.set_cons_succ]
    refine HL.take (i := 17) (W := 18) (T := fun W => Below V7.heap.size V7 W) (oi := _) (v := ?_) rfl (by kernel_rfl) (by kernel_rfl) (by kernel_rfl) (by kernel_rfl) (by kernel_rfl) (fun _ _ _ h => h) (fun _ _ => Iff.rfl) (fun _ _ _ h => h) (Or.inl ⟨by kernel_rfl, ?_⟩) X1 (fun _ => ?_)
    rotate_left
    · intro w' hw'; clear hw'; (first | (go_simp; done) | (go_simp; with_reducible rfl))
    try simp only [Act.put, List.getElem_toArray, List.getElem_cons_succ, List.getElem_cons_zero, List.setIfInBounds_toArray, List.set_cons_zero, List.set_cons_succ]
    refine HL.take (i := 18) (W := 24) (T := fun W => Below V7.heap.size V7 W) (oi := _) (v := ?_) rfl (by kernel_rfl) (by kernel_rfl) (by kernel_rfl) (by kernel_rfl) (by kernel_rfl) (fun _ _ _ h => h) (fun _ _ => Iff.rfl) (fun _ _ _ h => h) (Or.inl ⟨by kernel_rfl, ?_⟩) X1 (fun _ => ?_)
    rotate_left
    · intro w' hw'; clear hw'; (first | (go_simp; done) | (go_simp; with_reducible rfl))
    try simp only [Act.put, List.getElem_toArray, List.getElem_cons_succ, List.getElem_cons_zero, List.setIfInBounds_toArray, List.set_cons_zero, List.set_cons_succ]
    refine HL.take (i := 19) (W := 20) (T := fun W => Below V7.heap.size V7 W) (oi := _) (v := ?_) rfl (by kernel_rfl) (by kernel_rfl) (by kernel_rfl) (by kernel_rfl) (by kernel_rfl) (fun _ _ _ h => h) (fun _ _ => Iff.rfl) (fun _ _ _ h => h) (Or.inl ⟨by kernel_rfl, ?_⟩) X1 (fun _ => ?_)
    rotate_left
    · intro w' hw'; obtain ⟨e0, e1, e3⟩ := Q4.out w' hw'; clear hw'; (first | (go_simp; done) | (go_simp; with_reducible rfl))
    try simp only [Act.put, List.getElem_toArray, List.getElem_cons_succ, List.getElem_cons_zero, List.setIfInBounds_toArray, List.set_cons_zero, List.set_cons_succ]
    refine HL.take (i := 21) (W := 22) (T := fun W => Below V7.heap.size V7 W) (oi := _) (v := ?_) rfl (by kernel_rfl) (by kernel_rfl) (by kernel_rfl) (by kernel_rfl) (by kernel_rfl) (fun _ _ _ h => h) (fun _ _ => Iff.rfl) (fun _ _ _ h => h) (Or.inl ⟨by kernel_rfl, ?_⟩) X1 (fun _ => ?_)
    rotate_left
    · intro w' hw'; obtain ⟨e0, e1, e3⟩ := Q4.out w' hw'; clear hw'; (first | (go_simp; done) | (go_simp; with_reducible rfl))
    try simp only [Act.put, List.getElem_toArray, List.getElem_cons_succ, List.getElem_cons_zero, List.setIfInBounds_toArray, List.set_cons_zero, List.set_cons_succ]
    refine HL.only (i := 20) (oi := _) (by kernel_rfl) rfl (by kernel_rfl) (fun K hK => ?_)
    go_simp
    refine (QG.out _ X1).mono ?_
    rintro e x2 ⟨rfl, y⟩
    have X2 := X1.trans (y.mono X1.size)
    refine hK.out _ _ X2 (fun _ => ?_)
    clear hK K y
    try simp only [Act.put, List.getElem_toArray, List.getElem_cons_succ, List.getElem_cons_zero, List.setIfInBounds_toArray, List.set_cons_zero, List.set_cons_succ]
    refine HL.only (i := 22) (oi := _) (by kernel_rfl) rfl (by kernel_rfl) (fun K hK => ?_)
    go_simp
    refine (QH.out _ X2).mono ?_
    rintro e x3 ⟨rfl, y⟩
    have X3 := X2.trans (y.mono X2.size)
    refine hK.out _ _ X3 (fun _ => ?_)
    clear hK K y
    try simp only [Act.put, List.getElem_toArray, List.getElem_cons_succ, List.getElem_cons_zero, List.setIfInBounds_toArray, List.set_cons_zero, List.set_cons_succ]
    refine HL.take (i := 23) (W := 24) (T := fun W => Below V7.heap.size V7 W) (oi := _) (v := ?_) rfl (by kernel_rfl) (by kernel_rfl) (by kernel_rfl) (by kernel_rfl) (by kernel_rfl) (fun _ _ _ h => h) (fun _ _ => Iff.rfl) (fun _ _ _ h => h) (Or.inl ⟨by kernel_rfl, ?_⟩) X3 (fun _ => ?_)
    rotate_left
    · intro w' hw'; clear hw'; (first | (go_simp; done) | (go_simp; with_reducible rfl))
    try simp only [Act.put, List.getElem_toArray, List.getElem_cons_succ, List.getElem_cons_zero, List.setIfInBounds_toArray, List.set_cons_zero, List.set_cons_succ]
    refine HL.take (i := 24) (W := 25) (T := fun W => Below V7.heap.size V7 W) (oi := _) (v := ?_) rfl (by kernel_rfl) (by kernel_rfl) (by kernel_rfl) (by kernel_rfl) (by kernel_rfl) (fun _ _ _ h => h) (fun _ _ => Iff.rfl) (fun _ _ _ h => h) (Or.inl ⟨by kernel_rfl, ?_⟩) X3 (fun _ => ?_)
    rotate_left
    · intro w' hw'; clear hw'; (first | (go_simp; done) | (go_simp; with_reducible rfl))
    try simp only [Act.put, List.getElem_toArray, List.getElem_cons_succ, List.getElem_cons_zero, List.setIfInBounds_toArray, List.set_cons_zero, List.set_cons_succ]
    refine HL.take (i := 25) (W := 29) (T := fun W => Below V7.heap.size V7 W) (oi := _) (v := ?_) rfl (by kernel_rfl) (by kernel_rfl) (by kernel_rfl) (by kernel_rfl) (by kernel_rfl) (fun _ _ _ h => h) (fun _ _ => Iff.rfl) (fun _ _ _ h => h) (Or.inl ⟨by kernel_rfl, ?_⟩) X3 (fun _ => ?_)
    rotate_left
    · intro w' hw'; clear hw'; (first | (go_simp; done) | (go_simp; with_reducible rfl))
    try simp only [Act.put, List.getElem_toArray, List.getElem_cons_succ, List.getElem_cons_zero, List.setIfInBounds_toArray, List.set_cons_zero, List.set_cons_succ]
    refine HL.take (i := 26) (W := 28) (T := fun W => Below V7.heap.size V7 W) (oi := _) (v := ?_) rfl (by kernel_rfl) (by kernel_rfl) (by kernel_rfl) (by kernel_rfl) (by kernel_rfl) (fun _ _ _ h => h) (fun _ _ => Iff.rfl) (fun _ _ _ h => h) (Or.inl ⟨by kernel_rfl, ?_⟩) X3 (fun _ => ?_)
    rotate_left
    · intro w' hw'; obtain ⟨e0, e1, e3⟩ := Q5.out w' hw'; clear hw'; (first | (go_simp; done) | (go_simp; with_reducible rfl))
    try simp only [Act.put, List.getElem_toArray, List.getElem_cons_succ, List.getElem_cons_zero, List.setIfInBounds_toArray, List.set_cons_zero, List.set_cons_succ]
    refine HL.only (i := 27) (oi := _) (by kernel_rfl) rfl (by kernel_rfl) (fun K hK => ?_)
    go_simp
    refine (NS.out _).mono ?_
    rintro e x4 ⟨g6, c6, rfl, o6, y⟩
    have X4 := X3.trans (y.mono X3.size)
    refine hK.out _ _ X4 (fun _ => ?_)
    clear hK K y
    try simp only [Act.put, List.getElem_toArray, List.getElem_cons_succ, List.getElem_cons_zero, List.setIfInBounds_toArray, List.set_cons_zero, List.set_cons_succ]
    refine HL.only (i := 28) (oi := _) (by kernel_rfl) rfl (by kernel_rfl) (fun K hK => ?_)
    go_simp
    refine (QN.out g6 c6 _ X4 (Rd.own o6)).mono ?_
    rintro e x5 ⟨rfl, y⟩
    have X5 := X4.trans (y.mono X4.size)
    refine hK.out _ _ X5 (fun _ => ?_)
    clear hK K y
    try simp only [Act.put, List.getElem_toArray, List.getElem_cons_succ, List.getElem_cons_zero, List.setIfInBounds_toArray, List.set_cons_zero, List.set_cons_succ]
    refine HL.take (i := 29) (W := 30) (T := fun W => Below V7.heap.size V7 W) (oi := _) (v := ?_) rfl (by kernel_rfl) (by kernel_rfl) (by kernel_rfl) (by kernel_rfl) (by kernel_rfl) (fun _ _ _ h => h) (fun _ _ => Iff.rfl) (fun _ _ _ h => h) (Or.inl ⟨by kernel_rfl, ?_⟩) X5 (fun _ => ?_)
    rotate_left
    · intro w' hw'; clear hw'; (first | (go_simp; done) | (go_simp; with_reducible rfl))
    try simp only [Act.put, List.getElem_toArray, List.getElem_cons_succ, List.getElem_cons_zero, List.setIfInBounds_toArray, List.set_cons_zero, List.set_cons_succ]
    refine HL.only (i := 30) (oi := _) (by kernel_rfl) rfl (by kernel_rfl) (fun K hK => ?_)
    go_simp
    refine hK.out _ _ X5 (fun _ => ?_)
    clear hK K
    try simp only [Act.put, List.getElem_toArray, List.getElem_cons_succ, List.getElem_cons_zero, List.setIfInBounds_toArray, List.set_cons_zero, List.set_cons_succ]
    refine HL.done (by kernel_rfl) ?_
    have BF := BT.out.trans (X5.mono BT.out.size)
    go_wp2
    go_ret
    exact ⟨rfl, BF⟩
end Go.Proofs.YtfoclgijhkibeabDoor.LawDigests
