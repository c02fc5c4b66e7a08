/-
  The walk of the law on armored texts.
-/
import Derived.Test.YtfoclgijhkibeabDoorArmF
import Derived.Deep.Cut
namespace Go.Proofs.YtfoclgijhkibeabDoor.LawArmor
open Go.ChangeShapes Go.WideShapes Go.ChangeAt Go.RowKit
open Go.Proofs.YtfoclgijhkibeabDoor.Mem Go.Proofs.YtfoclgijhkibeabDoor.Ints Go.Proofs.YtfoclgijhkibeabDoor.Strs Go.Proofs.YtfoclgijhkibeabDoor.Armor Go.Proofs.YtfoclgijhkibeabDoor.OaM Go.Proofs.YtfoclgijhkibeabDoor.Oa Go.Proofs.YtfoclgijhkibeabDoor.Oa2 Go.Proofs.YtfoclgijhkibeabDoor.Oa3 Go.Proofs.YtfoclgijhkibeabDoor.DrawR Go.Proofs.YtfoclgijhkibeabDoor.ArmF
set_option linter.unusedVariables false
set_option maxRecDepth 100000

theorem then_ {a b c : World} (h : Below a.heap.size a b) (k : Below b.heap.size b c) : Below a.heap.size a c := h.trans (k.mono h.size)
set_option maxHeartbeats 1000000 in
theorem sameT (A D : Option Addr) (n c d : Nat) (l : List ByteArray) (B B' : Nat) (w : World) (hn : n ≤ 1048576) (hx : Rd w B 1 A n (svs l)) (hy : Rd w B' 1 D n (svs l)) :
    Calls Tryd.prog 27 #[.slice A n c, .slice D n d] w fun e w' => e = .returned (.bool true) ∧ ∃ q, w' = w.drewN q := by
  have HX := Lib.hid hx
  have HY := Lib.hid hy
  clear hx hy
  go_enter Tryd.func27, Tryd.ntmps27
  go_wp2
  go_loopw [13] (fun i wr => ∃ k q : Nat, k ≤ n ∧ i = .int .i64 k ∧ wr = w.drewN q) (fun i _ => n - (intOf i).toNat)
  case atStart => exact ⟨0, 0, by omega, rfl, rfl⟩
  case round =>
    obtain ⟨k, q, hk, rfl, rfl⟩ := hrel
    by_cases hlt : k < n
    · obtain ⟨b, off, hl, rfl, _, hc⟩ := rd_str HX.out hlt
      obtain ⟨b', off', hl', rfl, _, hc'⟩ := rd_str HY.out hlt
      have i0 : (0 : Int) ≤ (k : Int) := by omega
      have i1 : (k : Int) < (n : Int) := by omega
      generalize l[k] = x at *
      go_wp2
      go_quiet (fail)
      go_wp2
      go_roundw
      case rel => exact ⟨k + 1, _, by omega, by go_num, rfl⟩
      case measure => simp [intOf]; omega
    · go_wp2
      go_ret
      exact ⟨rfl, _, rfl⟩
set_option maxHeartbeats 20000000 in
theorem walk (A : Option Addr) (n c : Nat) (cs : List UInt8) (D : Option Addr) (m d : Nat) (ds : List UInt8) (hn : n ≤ maxLen) (hm : m ≤ maxLen) (w : World) (hM : Mx w) (hx : Rd w w.heap.size 1 A n (Cur.bytes cs)) (hy : Rd w w.heap.size 1 D m (Cur.bytes ds)) :
    Calls Tryd.prog 5 #[.slice A n c, .slice D m d] w fun e w' => e = .returned (.bool true) ∧ Below w.heap.size w w' := by
  by_cases hbig : 1048576 < wrap64 ((n : Int) + (m : Int))
  · clear hx hy
    go_enter Tryd.func5, Tryd.ntmps5
    go_wp2
    go_ret
    exact ⟨rfl, Below.refl _ _⟩
  have hbig' : decide (1048576 < wrap64 ((n : Int) + (m : Int))) = false := by simpa using hbig
  have DA := Lib.hid (drawArmorOf A n c cs w hn hx)
  have RY := Lib.hid (fun W (h : Below w.heap.size w W) => (hy.below h (Nat.le_refl _)).mono h.size)
  have DB := Lib.hid (fun W h => drawOfArmor D m d ds W hm (RY.out W h))
  have DL := Lib.hid (fun W h => drawLinesOf D m d ds W hm (RY.out W h))
  have HM := Lib.hid (fun W (h : Below w.heap.size w W) => hM.below h)
  clear hx hy RY hM hbig
  go_enter Tryd.func5, Tryd.ntmps5
  go_wp2_with fail
  refine DA.out.mono ?_
  rintro e v0 ⟨n0, s, rfl, hn0, hs, b⟩
  have BW := Lib.hid b
  clear b DA
  obtain ⟨t, ok, f1, f2, ht, f3⟩ := factsA n0 s hn0 hs
  have F1 := Lib.hid f1
  have F2 := Lib.hid f2
  have F3 := Lib.hid f3
  clear f1 f2 f3
  unfold Gw at F1 F2
  unfold Gm at F3
  go_wp2_with fail
  refine (F1.out _).mono ?_
  rintro e v1 ⟨rfl, b⟩
  replace BW := Lib.hid (then_ BW.out b)
  clear b
  go_wp2_with fail
  refine (F2.out _).mono ?_
  rintro e v2 ⟨rfl, b⟩
  replace BW := Lib.hid (then_ BW.out b)
  clear b F1 F2
  have ht1 : decide ((t.size : Int) ≤ 1000) = true := decide_eq_true (by omega)
  cases ok
  case' true =>
    have F4 := Lib.hid (F3.out rfl)
    clear F3
    go_wp2_with fail
    refine (F4.out _ (HM.out _ BW.out)).mono ?_
    rintro e v3 ⟨rfl, b⟩
    replace BW := Lib.hid (then_ BW.out b)
    clear b F4
    go_wp2_with fail
    generalize v3 = VT at *
  case' false =>
    clear F3
    go_wp2_with fail
    generalize v2 = VT at *
  all_goals
    clear ht ht1
    refine (DB.out _ BW.out).mono ?_
    rintro e v11 ⟨u, rfl, hu, b⟩
    replace BW := Lib.hid (then_ BW.out b)
    clear b DB
    obtain ⟨a, b', is, f1, f2, f3⟩ := factsB u (by unfold maxLen; omega)
    have F1 := Lib.hid f1
    have F2 := Lib.hid f2
    have F3 := Lib.hid f3
    clear f1 f2 f3
    unfold Gm at F1
    unfold Gw at F2 F3
    go_wp2_with fail
    refine (F1.out _ (HM.out _ BW.out)).mono ?_
    rintro e v12 ⟨rfl, b⟩
    replace BW := Lib.hid (then_ BW.out b)
    clear b
    go_wp2_with fail
    refine (F2.out _).mono ?_
    rintro e v13 ⟨rfl, b⟩
    replace BW := Lib.hid (then_ BW.out b)
    clear b F1 F2
    cases is
    case' true =>
      have F4 := Lib.hid (F3.out rfl)
      clear F3
      go_wp2_with fail
      refine (F4.out _).mono ?_
      rintro e v14 ⟨rfl, b⟩
      replace BW := Lib.hid (then_ BW.out b)
      clear b F4
      go_wp2_with fail
      generalize v14 = VU at *
    case' false =>
      clear F3
      go_wp2_with fail
      generalize v13 = VU at *
    all_goals
      refine (DL.out _ BW.out).mono ?_
      rintro e v21 ⟨v, z, rfl, hv, z0, z1, b⟩
      replace BW := Lib.hid (then_ BW.out b)
      clear b DL
      rcases factsC v z hv z0 z1 with ⟨l, g1, g2, g3, g4, g5⟩ | ⟨g1, g2⟩
      case' inr =>
        have G1 := Lib.hid g1
        have G2 := Lib.hid g2
        clear g1 g2
        go_wp2_with fail
        refine (G1.out _).mono ?_
        rintro e w' ⟨rfl, rfl⟩
        go_wp2_with fail
        refine (G2.out _).mono ?_
        rintro e w' ⟨rfl, rfl⟩
        go_wp2_with fail
        refine (sameT none none 0 0 0 [] 0 0 _ (by omega) ⟨rfl, fun h => by omega⟩ ⟨rfl, fun h => by omega⟩).mono ?_
        rintro e w' ⟨rfl, nq, rfl⟩
        have BF := below_drewN BW.out nq
        go_wp2
        go_ret
        exact ⟨rfl, BF⟩
      case' inl =>
        have G1 := Lib.hid g1
        have G2 := Lib.hid g2
        have G4 := Lib.hid g4
        have G5 := Lib.hid g5
        clear g1 g2 g4 g5
        go_wp2_with fail
        refine (G1.out _).mono ?_
        rintro e v22 ⟨va, rfl, o1, b⟩
        obtain ⟨A1, c1, rfl⟩ := own_shapeS o1
        have R1 := Lib.hid (Rd.own o1)
        replace BW := Lib.hid (then_ BW.out b)
        clear b o1 G1
        dsimp only
        go_wp2_with fail
        refine (G2.out _).mono ?_
        rintro e v23 ⟨vb, rfl, o2, b⟩
        obtain ⟨A2, c2, rfl⟩ := own_shapeS o2
        have R2 := Lib.hid (Rd.own o2)
        replace R1 := Lib.hid ((R1.out.below b (Nat.le_refl _)).mono b.size)
        replace BW := Lib.hid (then_ BW.out b)
        clear b o2 G2
        dsimp only
        go_wp2_with fail
        refine (sameT A1 A2 l.length c1 c2 l _ _ _ (by omega) R1.out R2.out).mono ?_
        rintro e w' ⟨rfl, nq, rfl⟩
        replace BW := Lib.hid (below_drewN BW.out nq)
        have R3 : Hid (Rd (v23.drewN nq) v23.heap.size 1 A1 l.length (svs l)) := R1
        clear R1 R2
        generalize v23.heap.size = Bz at *
        generalize v23.drewN nq = V3 at *
        have CT := Lib.hid (fun j (h : j < l.length) => cat_take l j h)
        have CZ := Lib.hid (fun j => show (cat (l.take j)).length ≤ 1200 from by
          have h1 := cat_sub_le l 0 j
          rw [List.drop_zero, G4.out] at h1
          simp only [Array.length_toList] at h1
          exact Nat.le_trans h1 hv)
        have CE := Lib.hid (show v = str (cat (l.take l.length)) from by rw [List.take_length, G4.out]; exact (mk_eq v).symm)
        clear G4
        go_wp2_with fail
        go_loopw [29, 157] (fun s5 i wr => ∃ (j q5 : Nat) (s : ByteArray), j ≤ l.length ∧ i = .int .i64 j ∧ s5 = .string s ∧ s.size ≤ 1200 ∧ Hid (s = str (cat (l.take j))) ∧ wr = V3.drewN q5) (fun _ i _ => l.length - (intOf i).toNat)
        case atStart => exact ⟨0, 0, ⟨#[]⟩, by omega, rfl, rfl, by show 0 ≤ 1200; omega, Lib.hid (by simp [cat, str]), rfl⟩
        case round =>
          obtain ⟨j, q5, s5, hj, rfl, rfl, hsz, HS, rfl⟩ := hrel
          by_cases hlt : j < l.length
          · obtain ⟨g1, o1, hl1, rfl, hg1, hc1⟩ := rd_str R3.out hlt
            have hc2 : (V3.drewN q5).cell? ⟨g1, o1 + j, none⟩ = some (.string l[j]) := hc1
            obtain ⟨y1, y2, y3⟩ := G5.out j hlt
            have HC := Lib.hid (CT.out j hlt)
            have q1 : ∀ W, (Op.stringOp .add s5 l[j]).run Tryd.prog W = .ok (.string (s5 ++ l[j])) W := fun W => addS _ _ W (by omega)
            have HS2 : Hid (s5 ++ l[j] = str (cat (l.take (j + 1)))) := Lib.hid (by rw [HC.out, HS.out]; apply mk_inj; rw [app_list]; simp [str])
            have HZ : Hid ((s5 ++ l[j]).size ≤ 1200) := Lib.hid (by rw [HS2.out, str_size]; exact CZ.out (j + 1))
            clear hc1 CT G5 CE R3
            generalize l[j] = x at *
            generalize hq : l.length = q at *
            clear hq
            generalize s5 ++ x = y at *
            have i0 : (0 : Int) ≤ (j : Int) := by omega
            have i1 : (j : Int) < (q : Int) := by omega
            have t2 : ((x.size : Int) == 0) = false := beq_eq_false_iff_ne.2 (by omega)
            have t3 : decide (z < (x.size : Int)) = false := decide_eq_false (by omega)
            by_cases hl2 : j < q - 1
            · have t1 : decide ((j : Int) < (q : Int) - 1) = true := decide_eq_true (by omega)
              have t4 : ((x.size : Int) != z) = false := by have := y3 hl2; simp [this]
              clear y1 y2 y3
              go_wp2_with fail
              refine ⟨⟨j + 1, q5, y, by omega, by go_num, rfl, HZ.out, HS2, rfl⟩, ?_⟩
              simp [intOf]
              omega
            · have t1 : decide ((j : Int) < (q : Int) - 1) = false := decide_eq_false (by omega)
              clear y1 y2 y3
              go_wp2_with fail
              refine ⟨⟨j + 1, q5, y, by omega, by go_num, rfl, HZ.out, HS2, rfl⟩, ?_⟩
              simp [intOf]
              omega
          · obtain rfl : j = l.length := by omega
            have BF := below_drewN BW.out q5
            have ev : s5 = v := HS.out.trans CE.out.symm
            subst ev
            go_wp2
            go_ret
            exact ⟨by simp, BF⟩
end Go.Proofs.YtfoclgijhkibeabDoor.LawArmor
