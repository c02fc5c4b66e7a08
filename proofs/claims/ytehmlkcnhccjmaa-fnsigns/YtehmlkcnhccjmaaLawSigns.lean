/-
  The walk of the law FnSigns: for every two slices of bytes it returns true and changes nothing that was in memory.
-/
import Derived.Test.YtehmlkcnhccjmaaDrawS
import Derived.Test.YtehmlkcnhccjmaaHexLaws
namespace Go.Proofs.Ytehmlkcnhccjmaa.LawSigns
open Go.ChangeShapes Go.WideShapes Go.ChangeAt Go.RowKit
open Go.Proofs.Ytehmlkcnhccjmaa.Mem Go.Proofs.Ytehmlkcnhccjmaa.Ints Go.Proofs.Ytehmlkcnhccjmaa.SigM Go.Proofs.Ytehmlkcnhccjmaa.SigI Go.Proofs.Ytehmlkcnhccjmaa.HexLaws Go.Proofs.Ytehmlkcnhccjmaa.DrawS
set_option linter.unusedVariables false

/-- A text of at most 600 bytes: its base64 and its hexadecimal form, and both taken back. -/
theorem allOf (s : ByteArray) (hs : s.size ≤ 600) : ∃ u x : ByteArray,
    (∀ W, Calls Try.prog 23 #[.string s] W fun e w' => e = .returned (.tuple #[.string u, .bool true]) ∧ Below W.heap.size W w') ∧
    (∀ W, Calls Try.prog 22 #[.string s] W fun e w' => e = .returned (.tuple #[.string u, .bool true]) ∧ Below W.heap.size W w') ∧
    (∀ W, Calls Try.prog 25 #[.string u] W fun e w' => e = .returned (.tuple #[.string s, .bool true]) ∧ Below W.heap.size W w') ∧
    (∀ W, Calls Try.prog 12 #[.int .i64 s.size] W fun e w' => e = .returned (.tuple #[.int .i64 u.size, .bool true]) ∧ W = w') ∧
    (∀ W, Calls Try.prog 29 #[.string s] W fun e w' => e = .returned (.tuple #[.string x, .bool true]) ∧ Below W.heap.size W w') ∧
    (∀ W, Calls Try.prog 16 #[.string x] W fun e w' => e = .returned (.tuple #[.string s, .bool true]) ∧ Below W.heap.size W w') := by
  refine ⟨⟨(encB s.data.toList).toArray⟩, ⟨(Hex.hexL s.data.toList).toArray⟩, fun W => implSigns s W hs, fun W => specSigns s W hs, fun W => ?_, fun W => ?_, fun W => Hex.implHex s W hs, fun W => ?_⟩
  · have := OfSig.implYes ⟨(encB s.data.toList).toArray⟩ W (by rw [signSize]; omega) (signOK s)
    rw [signBack] at this
    exact this
  · have := lengthAs s.size W hs
    rw [signSize]
    exact this
  · have := Unhex.implYes ⟨(Hex.hexL s.data.toList).toArray⟩ W (by rw [hexSize]; omega) (hexOK s)
    rw [hexBack] at this
    exact this
/-- Any text of signs: both answer alike; where it is accepted, it is what the answer's encoding is. -/
theorem bothOf (u : ByteArray) (hu : u.size ≤ maxLen) : ∃ (r : ByteArray) (b : Bool),
    (∀ W, Calls Try.prog 25 #[.string u] W fun e w' => e = .returned (.tuple #[.string r, .bool b]) ∧ Below W.heap.size W w') ∧
    (∀ W, Calls Try.prog 24 #[.string u] W fun e w' => e = .returned (.tuple #[.string r, .bool b]) ∧ Below W.heap.size W w') ∧
    (b = true → r.size ≤ 600 ∧ ∀ W, Calls Try.prog 23 #[.string r] W fun e w' => e = .returned (.tuple #[.string u, .bool true]) ∧ Below W.heap.size W w') := by
  by_cases h8 : u.size ≤ 800
  · by_cases hok : OfSig.okS u
    · refine ⟨_, true, fun W => OfSig.implYes u W h8 hok, fun W => OfSig.specYes u W h8 hok, fun _ => ⟨ofSize u h8, fun W => ?_⟩⟩
      have := implSigns ⟨(decS u.data.toList).toArray⟩ W (ofSize u h8)
      rw [ofBack u hok] at this
      exact this
    · exact ⟨_, false, fun W => OfSig.implNo u W h8 hok, fun W => OfSig.specNo u W h8 hok, fun h => by cases h⟩
  · refine ⟨⟨#[]⟩, false, fun W => (OfSig.implOfLong u W (by omega) hu).mono ?_, fun W => (OfSig.specOfLong u W (by omega) hu).mono ?_, fun h => by cases h⟩
    · rintro e w' ⟨rfl, rfl⟩; exact ⟨rfl, Below.refl _ _⟩
    · rintro e w' ⟨rfl, rfl⟩; exact ⟨rfl, Below.refl _ _⟩
theorem bothHex (v : ByteArray) (hv : v.size ≤ maxLen) : ∃ (r : ByteArray) (b : Bool),
    (∀ W, Calls Try.prog 16 #[.string v] W fun e w' => e = .returned (.tuple #[.string r, .bool b]) ∧ Below W.heap.size W w') ∧
    (∀ W, Calls Try.prog 15 #[.string v] W fun e w' => e = .returned (.tuple #[.string r, .bool b]) ∧ Below W.heap.size W w') ∧
    (b = true → ∀ W, Calls Try.prog 29 #[.string r] W fun e w' => e = .returned (.tuple #[.string v, .bool true]) ∧ Below W.heap.size W w') := by
  by_cases h : 1200 < v.size ∨ ¬ Unhex.okT v
  · exact ⟨_, false, fun W => Unhex.implNo v W hv h, fun W => Unhex.specNo v W hv h, fun h => by cases h⟩
  · have h1 : v.size ≤ 1200 := by omega
    have hok : Unhex.okT v := by
      apply Classical.byContradiction
      intro hn; exact h (.inr hn)
    refine ⟨_, true, fun W => Unhex.implYes v W h1 hok, fun W => Unhex.specYes v W h1 hok, fun _ W => ?_⟩
    have := Hex.implHex ⟨(Unhex.unh v.data.toList).toArray⟩ W (by rw [unhSize v hok]; omega)
    rw [unhBack v hok] at this
    exact this
theorem bothAt (n : Int) : ∃ (r : ByteArray) (b : Bool),
    (∀ W, Calls Try.prog 14 #[.int .i64 n] W fun e w' => e = .returned (.tuple #[.string r, .bool b]) ∧ W = w') ∧
    (∀ W, Calls Try.prog 13 #[.int .i64 n] W fun e w' => e = .returned (.tuple #[.string r, .bool b]) ∧ W = w') := by
  by_cases h : n < 0 ∨ 63 < n
  · exact ⟨_, _, fun W => Len.S.implNo n W h, fun W => Len.S.specNo n W h⟩
  · obtain ⟨k, rfl⟩ : ∃ k : Nat, n = k := ⟨n.toNat, by omega⟩
    exact ⟨_, _, fun W => Len.S.implYes k W (by omega), fun W => Len.S.specYes k W (by omega)⟩
theorem bothLen (n : Int) : ∃ (r : Int) (b : Bool),
    (∀ W, Calls Try.prog 12 #[.int .i64 n] W fun e w' => e = .returned (.tuple #[.int .i64 r, .bool b]) ∧ W = w') ∧
    (∀ W, Calls Try.prog 11 #[.int .i64 n] W fun e w' => e = .returned (.tuple #[.int .i64 r, .bool b]) ∧ W = w') := by
  by_cases h : n < 0 ∨ 600 < n
  · exact ⟨_, _, fun W => Len.L.implNo n W h, fun W => Len.L.specNo n W h⟩
  · exact ⟨_, _, fun W => Len.L.implYes n W (by omega) (by omega), fun W => Len.L.specYes n W (by omega) (by omega)⟩

set_option maxRecDepth 100000 in
set_option maxHeartbeats 8000000 in
theorem walk (A : Option Addr) (n c : Nat) (cs : List UInt8) (D : Option Addr) (m d : Nat) (ds : List UInt8) (hn : n ≤ maxLen) (hm : m ≤ maxLen) (w : World) (hx : Rd w w.heap.size 1 A n (Cur.bytes cs)) (hy : Rd w w.heap.size 1 D m (Cur.bytes ds)) :
    Calls Try.prog 10 #[.slice A n c, .slice D m d] w fun e w' => e = .returned (.bool true) ∧ Below w.heap.size w w' := by
  by_cases hbig : 1048576 < wrap64 ((n : Int) + (m : Int))
  · clear hx hy
    go_enter Try.func10, Try.ntmps10
    go_wp2
    go_ret
    exact ⟨rfl, Below.refl _ _⟩
  have hbig' : decide (1048576 < wrap64 ((n : Int) + (m : Int))) = false := by simpa using hbig
  have DS := Lib.hid (drawSignsOf A n c cs w hn hx)
  have RY := Lib.hid (fun W (h : Below w.heap.size w W) => (hy.below h (Nat.le_refl _)).mono h.size)
  have DO := Lib.hid (fun W h => drawOfSigns D m d ds W hm (RY.out W h))
  have DH := Lib.hid (fun W h => drawOfHex D m d ds W hm (RY.out W h))
  have DA := Lib.hid (fun W h => drawSignAt D m d ds W hm (RY.out W h))
  have DL := Lib.hid (fun W h => drawLengthAs D m d ds W hm (RY.out W h))
  clear hx hy RY
  go_enter Try.func10, Try.ntmps10
  go_wp2_with fail
  refine DS.out.mono ?_
  rintro e w1 ⟨s, rfl, hs, B1⟩
  clear DS hbig
  by_cases h6 : s.size ≤ 600
  case' pos =>
    obtain ⟨u, x, I1, S1, I2, I3, I4, I5⟩ := allOf s h6
    have J1 := Lib.hid I1
    have T1 := Lib.hid S1
    have J2 := Lib.hid I2
    have J3 := Lib.hid I3
    have J4 := Lib.hid I4
    have J5 := Lib.hid I5
    clear I1 S1 I2 I3 I4 I5
    go_wp2_with fail
    refine (J1.out _).mono ?_
    rintro e w2 ⟨rfl, b2⟩
    have B2 := B1.trans (b2.mono B1.size)
    go_wp2_with fail
    refine (T1.out _).mono ?_
    rintro e w3 ⟨rfl, b3⟩
    have B3 := B2.trans (b3.mono B2.size)
    clear b2 b3 B1 B2
    go_wp2_with fail
    refine (J2.out _).mono ?_
    rintro e w4 ⟨rfl, b4⟩
    have B4 := B3.trans (b4.mono B3.size)
    go_wp2_with fail
    refine (J3.out _).mono ?_
    rintro e w' ⟨rfl, rfl⟩
    go_wp2_with fail
    refine (J4.out _).mono ?_
    rintro e w5 ⟨rfl, b5⟩
    have B5 := B4.trans (b5.mono B4.size)
    go_wp2_with fail
    refine (J5.out _).mono ?_
    rintro e wA ⟨rfl, b6⟩
    have BA := B5.trans (b6.mono B5.size)
    clear b4 b5 b6 B3 B4 B5 J1 T1 J2 J3 J4 J5
    go_wp2_with fail
  case' neg =>
    have J1 := Lib.hid (fun W => implLong s W (by omega) (by unfold maxLen; omega))
    have T1 := Lib.hid (fun W => specLong s W (by omega) (by unfold maxLen; omega))
    go_wp2_with fail
    refine (J1.out _).mono ?_
    rintro e w' ⟨rfl, rfl⟩
    go_wp2_with fail
    refine (T1.out _).mono ?_
    rintro e w' ⟨rfl, rfl⟩
    have BA := B1
    clear B1 J1 T1
    go_wp2_with fail
  all_goals
    refine (DO.out _ BA).mono ?_
    rintro e w6 ⟨u2, rfl, hu2, b6⟩
    have B6 := BA.trans (b6.mono BA.size)
    clear b6 BA
    obtain ⟨r, b, I1, S1, Y1⟩ := bothOf u2 (by unfold maxLen; omega)
    have I1' := Lib.hid I1
    have S1' := Lib.hid S1
    have Y1' := Lib.hid Y1
    clear I1 S1 Y1
    go_wp2_with fail
    refine (I1'.out _).mono ?_
    rintro e w7 ⟨rfl, b7⟩
    have B7 := B6.trans (b7.mono B6.size)
    go_wp2_with fail
    refine (S1'.out _).mono ?_
    rintro e w8 ⟨rfl, b8⟩
    have B8 := B7.trans (b8.mono B7.size)
    clear b7 b8 B6 B7 I1' S1'
    go_wp2_with fail
    refine (DH.out _ B8).mono ?_
    rintro e w9 ⟨v2, rfl, hv2, b9⟩
    have B9 := B8.trans (b9.mono B8.size)
    clear b9 B8
    obtain ⟨r2, b2, I2, S2, Y2⟩ := bothHex v2 (by unfold maxLen; omega)
    have I2' := Lib.hid I2
    have S2' := Lib.hid S2
    have Y2' := Lib.hid Y2
    clear I2 S2 Y2
    go_wp2_with fail
    refine (I2'.out _).mono ?_
    rintro e w10 ⟨rfl, b10⟩
    have B10 := B9.trans (b10.mono B9.size)
    go_wp2_with fail
    refine (S2'.out _).mono ?_
    rintro e wB ⟨rfl, b11⟩
    have BB := B10.trans (b11.mono B10.size)
    clear b10 b11 B9 B10 I2' S2'
    have hbb : (b != b) = false := by simp
    have hbb2 : (b2 != b2) = false := by simp
    cases b
    · clear Y1'
      cases b2
      · clear Y2'
        go_wp2_with fail
        refine (DA.out _ BB).mono ?_
        rintro e wC ⟨z, rfl, b12⟩
        have BC := BB.trans (b12.mono BB.size)
        clear b12 BB
        obtain ⟨r3, b3, I3, S3⟩ := bothAt z
        have I3' := Lib.hid I3
        have S3' := Lib.hid S3
        clear I3 S3
        go_wp2_with fail
        refine (I3'.out _).mono ?_
        rintro e w' ⟨rfl, rfl⟩
        go_wp2_with fail
        refine (S3'.out _).mono ?_
        rintro e w' ⟨rfl, rfl⟩
        clear I3' S3'
        go_wp2_with fail
        refine (DL.out _ BC).mono ?_
        rintro e wD ⟨z2, rfl, b13⟩
        have BD := BC.trans (b13.mono BC.size)
        clear b13 BC
        obtain ⟨r4, b4, I4, S4⟩ := bothLen z2
        have I4' := Lib.hid I4
        have S4' := Lib.hid S4
        clear I4 S4
        go_wp2_with fail
        refine (I4'.out _).mono ?_
        rintro e w' ⟨rfl, rfl⟩
        go_wp2_with fail
        refine (S4'.out _).mono ?_
        rintro e w' ⟨rfl, rfl⟩
        clear I4' S4'
        have e3 : (b3 == b3) = true := by simp
        have e4 : (b4 == b4) = true := by simp
        have e5 : (r4 == r4) = true := by simp
        go_wp2
        go_ret
        exact ⟨by simp, BD⟩
      · have H2 := Lib.hid (Y2'.out rfl)
        clear Y2'
        go_wp2_with fail
        refine (H2.out _).mono ?_
        rintro e wE ⟨rfl, b14⟩
        have BE := BB.trans (b14.mono BB.size)
        clear b14 BB H2
        go_wp2_with fail
        refine (DA.out _ BE).mono ?_
        rintro e wC ⟨z, rfl, b12⟩
        have BC := BE.trans (b12.mono BE.size)
        clear b12 BE
        obtain ⟨r3, b3, I3, S3⟩ := bothAt z
        have I3' := Lib.hid I3
        have S3' := Lib.hid S3
        clear I3 S3
        go_wp2_with fail
        refine (I3'.out _).mono ?_
        rintro e w' ⟨rfl, rfl⟩
        go_wp2_with fail
        refine (S3'.out _).mono ?_
        rintro e w' ⟨rfl, rfl⟩
        clear I3' S3'
        go_wp2_with fail
        refine (DL.out _ BC).mono ?_
        rintro e wD ⟨z2, rfl, b13⟩
        have BD := BC.trans (b13.mono BC.size)
        clear b13 BC
        obtain ⟨r4, b4, I4, S4⟩ := bothLen z2
        have I4' := Lib.hid I4
        have S4' := Lib.hid S4
        clear I4 S4
        go_wp2_with fail
        refine (I4'.out _).mono ?_
        rintro e w' ⟨rfl, rfl⟩
        go_wp2_with fail
        refine (S4'.out _).mono ?_
        rintro e w' ⟨rfl, rfl⟩
        clear I4' S4'
        have e3 : (b3 == b3) = true := by simp
        have e4 : (b4 == b4) = true := by simp
        have e5 : (r4 == r4) = true := by simp
        go_wp2
        go_ret
        exact ⟨by simp, BD⟩
    · have H1 := Lib.hid (Y1'.out rfl)
      clear Y1'
      have hr6 : r.size ≤ 600 := H1.out.1
      have H1' := Lib.hid H1.out.2
      clear H1
      go_wp2_with fail
      refine (H1'.out _).mono ?_
      rintro e wF ⟨rfl, b15⟩
      have BF := BB.trans (b15.mono BB.size)
      clear b15 BB H1'
      cases b2
      · clear Y2'
        go_wp2_with fail
        refine (DA.out _ BF).mono ?_
        rintro e wC ⟨z, rfl, b12⟩
        have BC := BF.trans (b12.mono BF.size)
        clear b12 BF
        obtain ⟨r3, b3, I3, S3⟩ := bothAt z
        have I3' := Lib.hid I3
        have S3' := Lib.hid S3
        clear I3 S3
        go_wp2_with fail
        refine (I3'.out _).mono ?_
        rintro e w' ⟨rfl, rfl⟩
        go_wp2_with fail
        refine (S3'.out _).mono ?_
        rintro e w' ⟨rfl, rfl⟩
        clear I3' S3'
        go_wp2_with fail
        refine (DL.out _ BC).mono ?_
        rintro e wD ⟨z2, rfl, b13⟩
        have BD := BC.trans (b13.mono BC.size)
        clear b13 BC
        obtain ⟨r4, b4, I4, S4⟩ := bothLen z2
        have I4' := Lib.hid I4
        have S4' := Lib.hid S4
        clear I4 S4
        go_wp2_with fail
        refine (I4'.out _).mono ?_
        rintro e w' ⟨rfl, rfl⟩
        go_wp2_with fail
        refine (S4'.out _).mono ?_
        rintro e w' ⟨rfl, rfl⟩
        clear I4' S4'
        have e3 : (b3 == b3) = true := by simp
        have e4 : (b4 == b4) = true := by simp
        have e5 : (r4 == r4) = true := by simp
        go_wp2
        go_ret
        exact ⟨by simp, BD⟩
      · have H2 := Lib.hid (Y2'.out rfl)
        clear Y2'
        go_wp2_with fail
        refine (H2.out _).mono ?_
        rintro e wE ⟨rfl, b14⟩
        have BE := BF.trans (b14.mono BF.size)
        clear b14 BF H2
        go_wp2_with fail
        refine (DA.out _ BE).mono ?_
        rintro e wC ⟨z, rfl, b12⟩
        have BC := BE.trans (b12.mono BE.size)
        clear b12 BE
        obtain ⟨r3, b3, I3, S3⟩ := bothAt z
        have I3' := Lib.hid I3
        have S3' := Lib.hid S3
        clear I3 S3
        go_wp2_with fail
        refine (I3'.out _).mono ?_
        rintro e w' ⟨rfl, rfl⟩
        go_wp2_with fail
        refine (S3'.out _).mono ?_
        rintro e w' ⟨rfl, rfl⟩
        clear I3' S3'
        go_wp2_with fail
        refine (DL.out _ BC).mono ?_
        rintro e wD ⟨z2, rfl, b13⟩
        have BD := BC.trans (b13.mono BC.size)
        clear b13 BC
        obtain ⟨r4, b4, I4, S4⟩ := bothLen z2
        have I4' := Lib.hid I4
        have S4' := Lib.hid S4
        clear I4 S4
        go_wp2_with fail
        refine (I4'.out _).mono ?_
        rintro e w' ⟨rfl, rfl⟩
        go_wp2_with fail
        refine (S4'.out _).mono ?_
        rintro e w' ⟨rfl, rfl⟩
        clear I4' S4'
        have e3 : (b3 == b3) = true := by simp
        have e4 : (b4 == b4) = true := by simp
        have e5 : (r4 == r4) = true := by simp
        go_wp2
        go_ret
        exact ⟨by simp, BD⟩
end Go.Proofs.Ytehmlkcnhccjmaa.LawSigns
