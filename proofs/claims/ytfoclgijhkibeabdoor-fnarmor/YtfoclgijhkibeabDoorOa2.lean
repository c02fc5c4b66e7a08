/-
  Armored text taken apart by the reference and by the program: both give one answer.
-/
import Derived.Test.YtfoclgijhkibeabDoorOa
import Derived.Test.YtfoclgijhkibeabDoorShelf
import Derived.Deep.QuietTactic
import Derived.BigQuiet
namespace Go.Proofs.YtfoclgijhkibeabDoor.Oa2
open Go.ChangeShapes Go.WideShapes Go.ChangeAt Go.RowKit
open Go.Proofs.YtfoclgijhkibeabDoor.Mem Go.Proofs.YtfoclgijhkibeabDoor.Ints Go.Proofs.YtfoclgijhkibeabDoor.Strs Go.Proofs.YtfoclgijhkibeabDoor.Lines Go.Proofs.YtfoclgijhkibeabDoor.SigM Go.Proofs.YtfoclgijhkibeabDoor.SigS Go.Proofs.YtfoclgijhkibeabDoor.SigI Go.Proofs.YtfoclgijhkibeabDoor.Name Go.Proofs.YtfoclgijhkibeabDoor.Armor Go.Proofs.YtfoclgijhkibeabDoor.OaM Go.Proofs.YtfoclgijhkibeabDoor.Oa
set_option linter.unusedVariables false
set_option maxRecDepth 100000

/-- Some armored text. -/
def Is (t n s : ByteArray) : Prop := nameOK n ∧ s.size ≤ 600 ∧ t = armB n s
/-- What both answer. -/
def Ans (t : ByteArray) (r : Value) : Prop := (∀ n s, Is t n s → r = .tuple #[.string n, .string s, .bool true]) ∧ ((∀ n s, ¬ Is t n s) → r = .tuple #[.string ⟨#[]⟩, .string ⟨#[]⟩, .bool false])
theorem arm_inj {n s n' s' : ByteArray} (h : nameOK n) (h' : nameOK n') (e : armB n s = armB n' s') : n = n' ∧ s = s' := by
  have a := lo_arm (armB n s) n s h rfl
  have b := lo_arm (armB n s) n' s' h' e
  refine ⟨a.1.symm.trans b.1, ?_⟩
  have c : encB s.data.toList = encB s'.data.toList := a.2.symm.trans b.2
  have d := congrArg decS c
  rw [decS_enc, decS_enc] at d
  exact mk_inj d
theorem ans_some (t : ByteArray) : ∃ r, Ans t r := by
  by_cases h : ∃ n s, Is t n s
  · obtain ⟨n, s, h⟩ := h
    refine ⟨.tuple #[.string n, .string s, .bool true], fun n' s' h' => ?_, fun hn => absurd h (hn n s)⟩
    obtain ⟨rfl, rfl⟩ := arm_inj h.1 h'.1 (h.2.2.symm.trans h'.2.2)
    rfl
  · exact ⟨_, fun n s hh => absurd ⟨n, s, hh⟩ h, fun _ => rfl⟩

def str (l : List UInt8) : ByteArray := ⟨l.toArray⟩
theorem str_size (l : List UInt8) : (str l).size = l.length := mk_size l

theorem own_cap {w : World} {base e s n c m : Nat} {A : Option Addr} {xs : List Value} (h : w.ownsRow base e s (.slice A n c) m xs) : m ≤ c := by
  rcases h.2 with ⟨h0, h1⟩ | ⟨g, cap, cur, h1, _, _, h2, _⟩
  · omega
  · injection h1 with _ _ h3
    omega
/-- The reference's decoding of any text. -/
theorem l3OfAny (s : ByteArray) (hs : s.size ≤ 100000) : ∃ (u : ByteArray) (b : Bool), (OfSig.okS s → b = true) ∧ (b = true → u = mk (decS s.data.toList)) ∧ u.size ≤ 100000 ∧ ∀ W, Calls Tryd.prog 71 #[.string s] W fun e w' => e = .returned (.tuple #[.string u, .bool b]) ∧ Below W.heap.size W w' := by
  by_cases h4 : s.size % 4 = 0
  · have hl := OfSig.decS_len (s.size / 4) s.data.toList (by simp; omega)
    have hz : (mk (decS s.data.toList)).size ≤ 100000 := by rw [mk, mk_size]; omega
    by_cases hok : encB (decS s.data.toList) = s.data.toList
    · exact ⟨_, true, fun _ => rfl, fun _ => rfl, hz, fun W => OfSig.l3Of s W true hs h4 (Lib.hid fun _ => rfl) (Lib.hid fun hn => absurd hok hn)⟩
    · exact ⟨_, false, fun h => absurd h.2 hok, (fun h => by cases h), hz, fun W => OfSig.l3Of s W false hs h4 (Lib.hid fun h => absurd h hok) (Lib.hid fun _ => rfl)⟩
  · refine ⟨⟨#[]⟩, false, fun h => absurd h.1 h4, (fun h => by cases h), (by show 0 ≤ 100000; omega), fun W => (OfSig.l3OfOdd s W hs h4).mono ?_⟩
    rintro e w' ⟨rfl, rfl⟩
    exact ⟨rfl, Below.refl _ _⟩
/-- The reference's judgement of a name. -/
theorem nameAny (n : ByteArray) (hn : n.size ≤ maxLen) : ∃ b : Bool, (b = true ↔ nameOK n) ∧ (∀ W, Calls Tryd.prog 72 #[.string n] W fun e w' => e = .returned (.bool b) ∧ W = w') ∧ (∀ W, Calls Tryd.prog 80 #[.string n] W fun e w' => e = .returned (.bool b) ∧ W = w') := by
  by_cases h : nameOK n
  · exact ⟨true, by simp [h], fun W => specName n true W hn (Lib.hid fun _ => rfl) (Lib.hid fun h' => absurd h h'), fun W => implName n true W hn (Lib.hid fun _ => rfl) (Lib.hid fun h' => absurd h h')⟩
  · exact ⟨false, by simp [h], fun W => specName n false W hn (Lib.hid fun h' => absurd h' h) (Lib.hid fun _ => rfl), fun W => implName n false W hn (Lib.hid fun h' => absurd h' h) (Lib.hid fun _ => rfl)⟩

set_option maxHeartbeats 4000000 in
theorem specOa (t : ByteArray) (r : Value) (w : World) (hs : t.size ≤ 1000) (hA : Ans t r) :
    Calls Tryd.prog 18 #[.string t] w fun e w' => e = .returned r ∧ Below w.heap.size w w' := by
  have SP := Lib.hid (fun W => l3Split t W (by omega))
  have HY := Lib.hid hA.1
  have HN := Lib.hid hA.2
  have FA := Lib.hid (fun n s (h : Is t n s) => facts t n s h.1 h.2.2)
  have pc1 := pcs_ne t
  have pc2 := pcs_cnt t
  have CL := Lib.hid (fun b => cat_le t 1 b)
  have PS := Lib.hid (fun x h => pcs_size t x h)
  have HE := Lib.hid (fun n s (h : Is t n s) => h.2.2)
  clear hA
  generalize pcs t = L at *
  go_enter Tryd.func18, Tryd.ntmps18
  go_wp2_with fail
  refine (SP.out _).mono ?_
  rintro e w1 ⟨v, rfl, ho, hb⟩
  obtain ⟨A, c, rfl⟩ := own_shapeS ho
  have HRd := Lib.hid (Rd.own ho)
  have hcap := own_cap ho
  clear ho SP
  by_cases h3 : L.length < 3
  · have hno := HN.out (fun n s h => by have := (FA.out n s h).1; omega)
    subst hno
    have t1 : decide ((L.length : Int) < 3) = true := decide_eq_true (by omega)
    clear HY HN FA CL PS HE
    go_wp2
    refine bodyPost_ret (v := .tuple #[.string ⟨#[]⟩, .string ⟨#[]⟩, .bool false]) (by simp [results, Tryd.results18, go_sem]) rfl ?_
    exact ⟨rfl, hb⟩
  · have h0 : 0 < L.length := by omega
    obtain ⟨b, off, hl, rfl, hbB, hc⟩ := rd_str HRd.out h0
    have F0 := Lib.hid (fun n s (h : Is t n s) => (FA.out n s h).2.1 h0)
    have F1 := Lib.hid (fun n s (h : Is t n s) => (FA.out n s h).2.2)
    have z0 : (L[0]).size ≤ 1000 := Nat.le_trans (PS.out _ (List.getElem_mem h0)) hs
    rw [Nat.add_zero] at hc
    have HRL := Lib.hid (fun j (hj : j < L.length) => show ∃ hl : j < L.length, w1.cell? ⟨b, off + j, none⟩ = some (.string L[j]) ∧ (L[j]).size ≤ 1000 from by
      obtain ⟨b2, off2, hl2, e2, _, hc2⟩ := rd_str HRd.out hj
      simp only [Option.some.injEq, Addr.mk.injEq, and_true] at e2
      obtain ⟨rfl, rfl⟩ := e2
      exact ⟨hl2, hc2, Nat.le_trans (PS.out _ (List.getElem_mem hl2)) hs⟩)
    generalize L[0] = l0 at *
    have t1 : decide ((L.length : Int) < 3) = false := decide_eq_false (by omega)
    by_cases h17 : l0.size < 17
    · have hno := HN.out (fun n s h => by have := (F0.out n s h).1; omega)
      subst hno
      have t2 : decide ((l0.size : Int) < 17) = true := decide_eq_true (by omega)
      clear HY HN FA CL PS HE F0 F1 HRL HRd
      go_wp2
      refine bodyPost_ret (v := .tuple #[.string ⟨#[]⟩, .string ⟨#[]⟩, .bool false]) (by simp [results, Tryd.results18, go_sem]) rfl ?_
      exact ⟨rfl, hb⟩
    · have FN := Lib.hid (fun n s (h : Is t n s) => (F0.out n s h).2)
      have e5 : ((l0.size - 5 : Nat) : Int) = (l0.size : Int) - 5 := by omega
      have SL : ∀ W, (Instr.slice 9 (.string l0) (some (.int .i64 11)) (some (.int .i64 ((l0.size : Int) - 5))) none).run Tryd.prog W = .ok (.string (l0.extract 11 (l0.size - 5))) W := fun W => by
        have h := slice_mid l0 11 (l0.size - 5) W (by omega) (by omega)
        rw [e5] at h
        exact h
      have t2 : decide ((l0.size : Int) < 17) = false := decide_eq_false (by omega)
      have zn : (l0.extract 11 (l0.size - 5)).size ≤ 1000 := by rw [ByteArray.size_extract]; omega
      generalize l0.extract 11 (l0.size - 5) = nm at *
      clear F0 FA e5
      go_wp2
      go_quiet (fail)
      have hb1 : Below w.heap.size w (w1.drewN nq) := below_drewN hb nq
      generalize hw2 : w1.drewN nq = w2 at *
      clear hb
      have hc2 : (c : Int) = c := rfl
      have c1 : ¬ c = 1 := by omega
      have g1 : (2 : Int) ≤ (L.length : Int) ∧ (L.length : Int) - 2 ≤ (c : Int) := by omega
      obtain ⟨q, hq⟩ : ∃ q, L.length - 3 = q := ⟨_, rfl⟩
      have HRL2 := Lib.hid (fun j (hj : j < q) => show ∃ hl : 1 + j < L.length, w2.cell? ⟨b, off + 1 + j, none⟩ = some (.string L[1 + j]) ∧ (L[1 + j]).size ≤ 1000 from by
        obtain ⟨hl, h1, h2⟩ := HRL.out (1 + j) (by omega)
        exact ⟨hl, by rw [← hw2, Nat.add_assoc]; exact h1, h2⟩)
      have q0 : L.length - 2 - 1 = q := by omega
      have CT := Lib.hid (fun j (hj : j < q) => show cat ((L.drop 1).take (j + 1)) = cat ((L.drop 1).take j) ++ (L[1 + j]'(by omega)).data.toList from by
        have h := cat_take (L.drop 1) j (by rw [List.length_drop]; omega)
        rw [h, List.getElem_drop])
      have hq3 : q ≤ 1000 := by omega
      have FQ : Hid (∀ n s, Is t n s → cat ((L.drop 1).take q) = encB s.data.toList) := Lib.hid (by rw [← hq]; exact F1.out)
      clear F1 HRL hc hl hbB z0 h17
      go_wp2_with fail
      try rw [q0]
      clear hq
      go_loop [7, 42] (fun v i => ∃ (j : Nat) (s : ByteArray), j ≤ q ∧ i = .int .i64 j ∧ v = .string s ∧ s.size ≤ 1000 ∧ Hid (s = str (cat ((L.drop 1).take j)))) (fun _ i => q - (intOf i).toNat)
      case atStart => exact ⟨0, ⟨#[]⟩, by omega, rfl, rfl, by simp [ByteArray.size], Lib.hid (by simp [cat, str])⟩
      case round =>
        obtain ⟨j, s, hj, rfl, rfl, hsz, HS⟩ := hrel
        by_cases hlt : j < q
        · obtain ⟨hl, hcj, hzj⟩ := HRL2.out j hlt
          have HC := Lib.hid (CT.out j hlt)
          generalize L[1 + j] = x at *
          have i0 : (0 : Int) ≤ (j : Int) := by omega
          have i1 : (j : Int) < (q : Int) := by omega
          have q1 : ∀ W, (Op.stringOp .add s x).run Tryd.prog W = .ok (.string (s ++ x)) W := fun W => addS _ _ W (by omega)
          have HS2 : Hid (s ++ x = str (cat ((L.drop 1).take (j + 1)))) := Lib.hid (by rw [HC.out, HS.out]; apply mk_inj; rw [app_list]; simp [str])
          have HZ : Hid ((s ++ x).size ≤ 1000) := Lib.hid (by rw [HS2.out, str_size]; exact Nat.le_trans (CL.out (j + 1)) hs)
          generalize s ++ x = y at *
          go_wp2
          go_round
          case rel => exact ⟨j + 1, y, by omega, by go_num, rfl, HZ.out, HS2⟩
          case measure => simp [intOf]; omega
        · obtain rfl : j = q := by omega
          obtain ⟨u, bo, hb1', hb2', huz, C⟩ := l3OfAny s (by omega)
          have C := Lib.hid C
          have sd : s.data.toList = cat ((L.drop 1).take j) := by rw [HS.out]; rfl
          have FF : Hid (∀ n s', Is t n s' → bo = true ∧ u = s' ∧ nm = n) := Lib.hid (fun n s' h => by
            have e1 : s.data.toList = encB s'.data.toList := by rw [sd]; exact FQ.out n s' h
            have e2 := enc_ok s' s e1
            have e3 := hb1' e2.1
            exact ⟨e3, by rw [hb2' e3, e2.2], FN.out n s' h⟩)
          obtain ⟨bn, hbn, CN, -⟩ := nameAny nm (by unfold maxLen; omega)
          have CN := Lib.hid CN
          have HBN := Lib.hid hbn
          clear hb1' hb2' sd hbn HS FQ FN CT HRL2 CL PS
          go_wp2_with fail
          refine (C.out _).mono ?_
          rintro e w3 ⟨rfl, hb3⟩
          have hB : Below w.heap.size w w3 := hb1.trans (hb3.mono hb1.size)
          clear hb3
          cases bo
          · have hno := HN.out (fun n s' h => by have := (FF.out n s' h).1; cases this)
            subst hno
            clear HY HN HE FF HBN
            go_wp2
            refine bodyPost_ret (v := .tuple #[.string ⟨#[]⟩, .string ⟨#[]⟩, .bool false]) (by simp [results, Tryd.results18, go_sem]) rfl ?_
            exact ⟨rfl, hB⟩
          cases bn
          · have hno := HN.out (fun n s' h => by have h2 := (FF.out n s' h).2.2; have := HBN.out.2 (h2 ▸ h.1); cases this)
            subst hno
            clear HY HN HE FF HBN
            go_wp2_with fail
            refine (CN.out _).mono ?_
            rintro e w' ⟨rfl, rfl⟩
            go_wp2
            refine bodyPost_ret (v := .tuple #[.string ⟨#[]⟩, .string ⟨#[]⟩, .bool false]) (by simp [results, Tryd.results18, go_sem]) rfl ?_
            exact ⟨rfl, hB⟩
          have hnm := HBN.out.1 rfl
          by_cases hz6 : 600 < u.size
          · have hno := HN.out (fun n s' h => by have h2 := (FF.out n s' h).2.1; have := h.2.1; rw [← h2] at this; omega)
            subst hno
            clear HY HN HE FF HBN hnm
            go_wp2_with fail
            refine (CN.out _).mono ?_
            rintro e w' ⟨rfl, rfl⟩
            go_wp2
            refine bodyPost_ret (v := .tuple #[.string ⟨#[]⟩, .string ⟨#[]⟩, .bool false]) (by simp [results, Tryd.results18, go_sem]) rfl ?_
            exact ⟨rfl, hB⟩
          have CA := Lib.hid (fun W => specArmor nm u W hnm.2.2 (by omega))
          by_cases hta : t = armB nm u
          · have hyes := HY.out nm u ⟨hnm, by omega, hta⟩
            subst hyes
            change Hid (∀ W, Calls _ _ _ W fun e w' => e = .returned (.string (armB nm u)) ∧ _) at CA
            rw [← hta] at CA
            clear HY HN HE FF HBN hnm hta
            go_wp2_with fail
            refine (CN.out _).mono ?_
            rintro e w' ⟨rfl, rfl⟩
            go_wp2_with fail
            refine (CA.out _).mono ?_
            rintro e w4 ⟨rfl, hb4⟩
            have hB4 : Below w.heap.size w w4 := hB.trans (hb4.mono hB.size)
            clear hb4 hB
            go_wp2
            refine bodyPost_ret (v := .tuple #[.string nm, .string u, .bool true]) (by simp [results, Tryd.results18, go_sem]) rfl ?_
            exact ⟨rfl, hB4⟩
          · have hno := HN.out (fun n s' h => by obtain ⟨-, h2, h3⟩ := FF.out n s' h; subst h2; subst h3; exact hta h.2.2)
            subst hno
            change Hid (∀ W, Calls _ _ _ W fun e w' => e = .returned (.string (armB nm u)) ∧ _) at CA
            generalize armB nm u = a at *
            have hne := str_ne (fun e : a = t => hta e.symm)
            clear HY HN HE FF HBN hnm hta
            go_wp2_with fail
            refine (CN.out _).mono ?_
            rintro e w' ⟨rfl, rfl⟩
            go_wp2_with fail
            refine (CA.out _).mono ?_
            rintro e w4 ⟨rfl, hb4⟩
            have hB4 : Below w.heap.size w w4 := hB.trans (hb4.mono hB.size)
            clear hb4 hB
            have hB := hB4
            go_wp2
            refine bodyPost_ret (v := .tuple #[.string ⟨#[]⟩, .string ⟨#[]⟩, .bool false]) (by simp [results, Tryd.results18, go_sem]) rfl ?_
            exact ⟨rfl, hB⟩
end Go.Proofs.YtfoclgijhkibeabDoor.Oa2
