/-
  Armored text taken apart by the program.
-/
import Derived.Test.YtfoclgijhkibeabDoorOa2
namespace Go.Proofs.YtfoclgijhkibeabDoor.Oa3
open Go.ChangeShapes Go.WideShapes Go.ChangeAt Go.RowKit
open Go.Proofs.YtfoclgijhkibeabDoor.Mem Go.Proofs.YtfoclgijhkibeabDoor.Ints Go.Proofs.YtfoclgijhkibeabDoor.Strs Go.Proofs.YtfoclgijhkibeabDoor.Lines Go.Proofs.YtfoclgijhkibeabDoor.SigM Go.Proofs.YtfoclgijhkibeabDoor.SigS Go.Proofs.YtfoclgijhkibeabDoor.SigI Go.Proofs.YtfoclgijhkibeabDoor.Name Go.Proofs.YtfoclgijhkibeabDoor.Armor Go.Proofs.YtfoclgijhkibeabDoor.OaM Go.Proofs.YtfoclgijhkibeabDoor.Oa Go.Proofs.YtfoclgijhkibeabDoor.Oa2
set_option linter.unusedVariables false
set_option maxRecDepth 100000

/-- The library's variable holds some number. -/
def Mx (W : World) : Prop := ∃ m, W.cell? ⟨2, 0, none⟩ = some (.int .i64 m)
theorem Mx.below {w W : World} (h : Mx w) (hb : Below w.heap.size w W) : Mx W := by
  obtain ⟨m, hm⟩ := h
  exact ⟨m, (hb.cell (p := ⟨2, 0, none⟩) (World.block_lt_of_cell? w _ hm)).trans hm⟩
theorem implOfAny (s : ByteArray) (hs : s.size ≤ 100000) : ∃ (u : ByteArray) (b : Bool), (OfSig.okS s → s.size ≤ 800 → b = true) ∧ (b = true → u = mk (decS s.data.toList)) ∧ u.size ≤ 600 ∧ ∀ W, Calls Tryd.prog 75 #[.string s] W fun e w' => e = .returned (.tuple #[.string u, .bool b]) ∧ Below W.heap.size W w' := by
  have h0 : (⟨#[]⟩ : ByteArray).size ≤ 600 := by show 0 ≤ 600; omega
  by_cases h8 : s.size ≤ 800
  · by_cases hok : OfSig.okS s
    · have hl := OfSig.decS_len 200 s.data.toList (by simp; omega)
      exact ⟨_, true, fun _ _ => rfl, fun _ => rfl, by rw [mk, mk_size]; omega, fun W => OfSig.implYes s W h8 hok⟩
    · exact ⟨⟨#[]⟩, false, fun h => absurd h hok, (fun h => by cases h), h0, fun W => OfSig.implNo s W h8 hok⟩
  · refine ⟨⟨#[]⟩, false, fun _ h => absurd h h8, (fun h => by cases h), h0, fun W => (OfSig.implOfLong s W (by omega) (by unfold maxLen; omega)).mono ?_⟩
    rintro e w' ⟨rfl, rfl⟩
    exact ⟨rfl, Below.refl _ _⟩
theorem implArmAny (n s : ByteArray) (hn : n.size ≤ maxLen) (hs : s.size ≤ maxLen) : ∃ (u : ByteArray) (b : Bool), (b = true ↔ nameOK n ∧ s.size ≤ 600) ∧ (b = true → u = armB n s) ∧ ∀ W, Calls Tryd.prog 21 #[.string n, .string s] W fun e w' => e = .returned (.tuple #[.string u, .bool b]) ∧ Below W.heap.size W w' := by
  by_cases h : nameOK n ∧ s.size ≤ 600
  · exact ⟨armB n s, true, by simp [h], fun _ => rfl, fun W => implArmor n s W h.1.2.2 h.2 h.1⟩
  · exact ⟨⟨#[]⟩, false, by simp [h], (fun h => by cases h), fun W => implNoA n s W hn hs h⟩
theorem opn_end (n : ByteArray) : (⟨(opn endO n).toArray⟩ : ByteArray) = mk (opn endO n) := rfl
set_option maxHeartbeats 2000000 in
theorem loose (t : ByteArray) (w : World) (hs : t.size ≤ 1000) (hM : Mx w) :
    Calls Tryd.prog 74 #[.string t] w fun e w' => e = .returned (.tuple #[.string (mk (loN t.data.toList)), .string (mk (loB t.data.toList))]) ∧ Below w.heap.size w w' := by
  obtain ⟨m, hm⟩ := hM
  have C0 := Lib.hid (Tryd.strings_Cut t ⟨#[10]⟩ m w (by omega) hm)
  have l1 := (cut_le t.data.toList).1
  have l2 := (cut_le t.data.toList).2
  have l3 := loN_le t.data.toList
  have tl : t.data.toList.length = t.size := by simp
  rw [tl] at l1 l2 l3
  have C1 : Hid (∀ W, Calls Tryd.prog 125 #[.string (mk (Go.Lib.cut t.data.toList [10]).1), .string ⟨#[45, 45, 45, 45, 45, 66, 69, 71, 73, 78, 32]⟩] W fun e w' => e = .returned (.string (mk (Go.Lib.trimPrefix (Go.Lib.cut t.data.toList [10]).1 begO))) ∧ w' = W) := Lib.hid (fun W => Tryd.strings_TrimPrefix _ _ W)
  have C2 : Hid (∀ W, Calls Tryd.prog 124 #[.string (mk (Go.Lib.trimPrefix (Go.Lib.cut t.data.toList [10]).1 begO)), .string ⟨#[45, 45, 45, 45, 45]⟩] W fun e w' => e = .returned (.string (mk (loN t.data.toList))) ∧ w' = W) := Lib.hid (fun W => Tryd.strings_TrimSuffix _ _ W (by have := pre_le (Go.Lib.cut t.data.toList [10]).1 begO; rw [mk, mk_size]; omega))
  have C3 := Lib.hid (fun W => clone (mk (loN t.data.toList)) W (by rw [mk, mk_size]; omega))
  have C4 : Hid (∀ W, Calls Tryd.prog 82 #[.string ⟨#[45, 45, 45, 45, 45, 69, 78, 68, 32]⟩, .string (mk (loN t.data.toList))] W fun e w' => e = .returned (.string (mk (opn endO (mk (loN t.data.toList))))) ∧ W = w') := Lib.hid (fun W => armorLine ⟨#[45, 45, 45, 45, 45, 69, 78, 68, 32]⟩ (mk (loN t.data.toList)) W (by decide) (by rw [mk, mk_size]; omega))
  have C5 : Hid (∀ W, Calls Tryd.prog 124 #[.string (mk (Go.Lib.cut t.data.toList [10]).2.1), .string (mk (opn endO (mk (loN t.data.toList))))] W fun e w' => e = .returned (.string (mk (loB t.data.toList))) ∧ w' = W) := Lib.hid (fun W => Tryd.strings_TrimSuffix _ _ W (by rw [mk, mk_size]; omega))
  change Hid (Calls _ _ _ _ fun e w' => e = .returned (.tuple #[.string (mk (Go.Lib.cut t.data.toList [10]).1), .string (mk (Go.Lib.cut t.data.toList [10]).2.1), .bool (Go.Lib.cut t.data.toList [10]).2.2]) ∧ _) at C0
  generalize mk (loN t.data.toList) = a1 at *
  generalize mk (loB t.data.toList) = a2 at *
  generalize mk (opn endO a1) = a3 at *
  generalize mk (Go.Lib.trimPrefix (Go.Lib.cut t.data.toList [10]).1 begO) = a4 at *
  generalize mk (Go.Lib.cut t.data.toList [10]).1 = a5 at *
  generalize mk (Go.Lib.cut t.data.toList [10]).2.1 = a6 at *
  generalize (Go.Lib.cut t.data.toList [10]).2.2 = bb at *
  clear l1 l2 l3 tl hm
  go_enter Tryd.func74, Tryd.ntmps74
  go_wp2_with fail
  refine C0.out.mono ?_
  rintro e w' ⟨rfl, nq, rfl⟩
  have hB : Below w.heap.size w (w.drewN nq) := below_drewN (Below.refl _ _) nq
  generalize w.drewN nq = w1 at *
  go_wp2_with fail
  refine (C1.out _).mono ?_
  rintro e w' ⟨rfl, hw⟩
  subst hw
  go_wp2_with fail
  refine (C2.out _).mono ?_
  rintro e w' ⟨rfl, hw⟩
  subst hw
  go_wp2_with fail
  refine (C3.out _).mono ?_
  rintro e w2 ⟨rfl, hb2⟩
  have hB2 := hB.trans (hb2.mono hB.size)
  clear hb2
  go_wp2_with fail
  refine (C4.out _).mono ?_
  rintro e w' ⟨rfl, hw⟩
  subst hw
  go_wp2_with fail
  refine (C5.out _).mono ?_
  rintro e w' ⟨rfl, hw⟩
  subst hw
  go_wp2
  go_ret2
  exact ⟨rfl, hB2⟩
set_option maxHeartbeats 2000000 in
theorem implOa (t : ByteArray) (r : Value) (w : World) (hs : t.size ≤ 1000) (hM : Mx w) (hA : Ans t r) :
    Calls Tryd.prog 19 #[.string t] w fun e w' => e = .returned r ∧ Below w.heap.size w w' := by
  have HY := Lib.hid hA.1
  have HN := Lib.hid hA.2
  have FA := Lib.hid (fun n s (h : Is t n s) => lo_arm t n s h.1 h.2.2)
  have tl : t.data.toList.length = t.size := by simp
  have l1 := loN_le t.data.toList
  have l2 := loB_le t.data.toList
  have l3 := loS_le t.data.toList
  rw [tl] at l1 l2 l3
  have C0 := Lib.hid (fun W h => loose t W hs h)
  have HM := Lib.hid (fun W (h : Below w.heap.size w W) => hM.below h)
  have C1 := Lib.hid (fun W (h : Mx W) => show Calls Tryd.prog 76 #[.string (mk (loB t.data.toList)), .string ⟨#[10]⟩, .string ⟨#[]⟩] W fun e w' => e = .returned (.string (mk (loS t.data.toList))) ∧ Below W.heap.size W w' from by
    obtain ⟨m, hm⟩ := h
    have h1 := Tryd.strings_ReplaceAll (mk (loB t.data.toList)) ⟨#[10]⟩ ⟨#[]⟩ m W (by rw [mk, mk_size]; omega) hm (by decide) (by
      have e0 : (⟨#[]⟩ : ByteArray).size = 0 := rfl
      rw [e0, Nat.mul_zero, mk, mk_size]; omega)
    have e1 : Go.Lib.replaceAll (mk (loB t.data.toList)).data.toList (⟨#[10]⟩ : ByteArray).data.toList (⟨#[]⟩ : ByteArray).data.toList = loS t.data.toList := by
      rw [mk_data]
      exact rep_all _
    rw [e1] at h1
    exact h1)
  obtain ⟨u, bo, hb1, hb2, huz, C2⟩ := implOfAny (mk (loS t.data.toList)) (by rw [mk, mk_size]; omega)
  have C2 := Lib.hid C2
  obtain ⟨v, bv, hv1, hv2, C3⟩ := implArmAny (mk (loN t.data.toList)) u (by rw [mk, mk_size]; unfold maxLen; omega) (by unfold maxLen; omega)
  have C3 := Lib.hid C3
  have FF : Hid (∀ n s, Is t n s → bo = true ∧ bv = true ∧ v = t ∧ mk (loN t.data.toList) = n ∧ u = s) := Lib.hid (fun n s h => by
    obtain ⟨f1, f2⟩ := FA.out n s h
    have e2 := enc_ok s (mk (loS t.data.toList)) f2
    have hz : (mk (loS t.data.toList)).size ≤ 800 := by
      rw [mk, mk_size, f2, enc_len]
      have := h.2.1
      simp only [Array.length_toList]
      show (s.size + 2) / 3 * 4 ≤ 800
      omega
    have e3 := hb1 e2.1 hz
    have e4 : u = s := by rw [hb2 e3, e2.2]
    have e5 : bv = true := hv1.2 ⟨f1 ▸ h.1, e4 ▸ h.2.1⟩
    refine ⟨e3, e5, ?_, f1, e4⟩
    rw [hv2 e5, f1, e4, ← h.2.2])
  have GG : Hid (bv = true → v = t → Is t (mk (loN t.data.toList)) u) := Lib.hid (fun h1 h2 => ⟨(hv1.1 h1).1, (hv1.1 h1).2, by rw [← hv2 h1, h2]⟩)
  clear hA FA hb1 hb2 hv1 hv2 l1 l2 l3 tl hM
  generalize mk (loN t.data.toList) = nm at *
  generalize mk (loB t.data.toList) = bd at *
  generalize mk (loS t.data.toList) = sg at *
  go_enter Tryd.func19, Tryd.ntmps19
  go_wp2_with fail
  refine (C0.out w (HM.out w (Below.refl _ _))).mono ?_
  rintro e w1 ⟨rfl, hB⟩
  go_wp2_with fail
  refine (C1.out w1 (HM.out w1 hB)).mono ?_
  rintro e w2 ⟨rfl, hb⟩
  replace hB := hB.trans (hb.mono hB.size)
  clear hb C0 C1 HM
  go_wp2_with fail
  refine (C2.out w2).mono ?_
  rintro e w3 ⟨rfl, hb⟩
  replace hB := hB.trans (hb.mono hB.size)
  clear hb C2
  cases bo
  · have hno := HN.out (fun n s h => by have := (FF.out n s h).1; cases this)
    subst hno
    clear HY HN FF GG C3
    go_wp2
    refine bodyPost_ret (v := .tuple #[.string ⟨#[]⟩, .string ⟨#[]⟩, .bool false]) (by simp [results, Tryd.results19, go_sem]) rfl ?_
    exact ⟨rfl, hB⟩
  go_wp2_with fail
  refine (C3.out w3).mono ?_
  rintro e w4 ⟨rfl, hb⟩
  replace hB := hB.trans (hb.mono hB.size)
  clear hb C3
  cases bv
  · have hno := HN.out (fun n s h => by have := (FF.out n s h).2.1; cases this)
    subst hno
    clear HY HN FF GG
    go_wp2
    refine bodyPost_ret (v := .tuple #[.string ⟨#[]⟩, .string ⟨#[]⟩, .bool false]) (by simp [results, Tryd.results19, go_sem]) rfl ?_
    exact ⟨rfl, hB⟩
  by_cases hvt : v = t
  · have hyes := HY.out _ _ (GG.out rfl hvt)
    subst hyes
    subst hvt
    clear HY HN FF GG
    go_wp2
    refine bodyPost_ret (v := .tuple #[.string nm, .string u, .bool true]) (by simp [results, Tryd.results19, go_sem]) rfl ?_
    exact ⟨rfl, hB⟩
  · have hno := HN.out (fun n s h => hvt (FF.out n s h).2.2.1)
    subst hno
    have hne := str_ne hvt
    clear HY HN FF GG hvt
    go_wp2
    refine bodyPost_ret (v := .tuple #[.string ⟨#[]⟩, .string ⟨#[]⟩, .bool false]) (by simp [results, Tryd.results19, go_sem]) rfl ?_
    exact ⟨rfl, hB⟩
theorem implLongOa (t : ByteArray) (w : World) (hs : 1000 < t.size) (hm : t.size ≤ maxLen) :
    Calls Tryd.prog 19 #[.string t] w fun e w' => e = .returned (.tuple #[.string ⟨#[]⟩, .string ⟨#[]⟩, .bool false]) ∧ Below w.heap.size w w' := by
  unfold maxLen at hm
  go_enter Tryd.func19, Tryd.ntmps19
  go_wp2
  refine bodyPost_ret (v := .tuple #[.string ⟨#[]⟩, .string ⟨#[]⟩, .bool false]) (by simp [results, Tryd.results19, go_sem]) rfl ?_
  exact ⟨rfl, Below.refl _ _⟩
theorem specLongOa (t : ByteArray) (w : World) (hs : 1000 < t.size) (hm : t.size ≤ maxLen) :
    Calls Tryd.prog 18 #[.string t] w fun e w' => e = .returned (.tuple #[.string ⟨#[]⟩, .string ⟨#[]⟩, .bool false]) ∧ Below w.heap.size w w' := by
  unfold maxLen at hm
  go_enter Tryd.func18, Tryd.ntmps18
  go_wp2
  refine bodyPost_ret (v := .tuple #[.string ⟨#[]⟩, .string ⟨#[]⟩, .bool false]) (by simp [results, Tryd.results18, go_sem]) rfl ?_
  exact ⟨rfl, Below.refl _ _⟩
/-- Both give one answer. -/
theorem oaBoth (t : ByteArray) (hm : t.size ≤ maxLen) : ∃ (n s : ByteArray) (b : Bool), (b = true → Is t n s) ∧ (∀ n' s', Is t n' s' → t.size ≤ 1000 → b = true ∧ n = n' ∧ s = s') ∧ n.size ≤ maxLen ∧ s.size ≤ maxLen ∧
    (∀ W, Mx W → Calls Tryd.prog 19 #[.string t] W fun e w' => e = .returned (.tuple #[.string n, .string s, .bool b]) ∧ Below W.heap.size W w') ∧
    (∀ W, Calls Tryd.prog 18 #[.string t] W fun e w' => e = .returned (.tuple #[.string n, .string s, .bool b]) ∧ Below W.heap.size W w') := by
  have h0 : (⟨#[]⟩ : ByteArray).size ≤ maxLen := by show 0 ≤ maxLen; unfold maxLen; omega
  by_cases hs : t.size ≤ 1000
  · by_cases h : ∃ n s, Is t n s
    · obtain ⟨n, s, h⟩ := h
      have hA : Ans t (.tuple #[.string n, .string s, .bool true]) := ⟨fun n' s' h' => by obtain ⟨rfl, rfl⟩ := arm_inj h.1 h'.1 (h.2.2.symm.trans h'.2.2); rfl, fun hn => absurd h (hn n s)⟩
      refine ⟨n, s, true, fun _ => h, fun n' s' h' _ => ⟨rfl, arm_inj h.1 h'.1 (h.2.2.symm.trans h'.2.2)⟩, ?_, ?_, fun W hM => implOa t _ W hs hM hA, fun W => specOa t _ W hs hA⟩
      · have := h.1.2.2; unfold maxLen; omega
      · have := h.2.1; unfold maxLen; omega
    · have hA : Ans t (.tuple #[.string ⟨#[]⟩, .string ⟨#[]⟩, .bool false]) := ⟨fun n s hh => absurd ⟨n, s, hh⟩ h, fun _ => rfl⟩
      exact ⟨⟨#[]⟩, ⟨#[]⟩, false, (fun h => by cases h), fun n' s' h' _ => absurd ⟨n', s', h'⟩ h, h0, h0, fun W hM => implOa t _ W hs hM hA, fun W => specOa t _ W hs hA⟩
  · exact ⟨⟨#[]⟩, ⟨#[]⟩, false, (fun h => by cases h), fun n' s' h' h => absurd h hs, h0, h0, fun W _ => implLongOa t W (by omega) hm, fun W => specLongOa t W (by omega) hm⟩
theorem walk (a0 : ByteArray) (w0 : a0.size ≤ maxLen) (w : World) (hM : Mx w) :
    Calls Tryd.prog 4 #[.string a0] w fun e w' => e = .returned (.bool true) ∧ Below w.heap.size w w' := by
  obtain ⟨n, s, b, -, -, -, -, I0, S0⟩ := oaBoth a0 w0
  have I := Lib.hid I0
  have S := Lib.hid S0
  have HM := Lib.hid (fun W (h : Below w.heap.size w W) => hM.below h)
  clear I0 S0 hM
  unfold maxLen at w0
  by_cases h : 1048576 < a0.size
  · go_enter Tryd.func4, Tryd.ntmps4
    go_wp2
    go_ret
    exact ⟨rfl, Below.refl _ _⟩
  go_enter Tryd.func4, Tryd.ntmps4
  go_wp2_with fail
  refine (S.out _).mono ?_
  rintro e w1 ⟨rfl, hB⟩
  go_wp2_with fail
  refine (I.out _ (HM.out _ hB)).mono ?_
  rintro e w2 ⟨rfl, hb⟩
  replace hB := hB.trans (hb.mono hB.size)
  clear hb
  go_wp2
  go_ret
  exact ⟨rfl, hB⟩
end Go.Proofs.YtfoclgijhkibeabDoor.Oa3
