/-
  What the law on secrets draws: two signatures with one nonce.
-/
import Derived.Test.YtfoclgijhkibeabDoorDrawQX
import Derived.Deep.Cut
namespace Go.Proofs.YtfoclgijhkibeabDoor.DrawV
open Go.ChangeShapes Go.WideShapes Go.ChangeAt Go.RowKit
open Go.Proofs.YtfoclgijhkibeabDoor.Mem Go.Proofs.YtfoclgijhkibeabDoor.Ints Go.Proofs.YtfoclgijhkibeabDoor.Cur Go.Proofs.YtfoclgijhkibeabDoor.DrawM Go.Proofs.YtfoclgijhkibeabDoor.Strs Go.Proofs.YtfoclgijhkibeabDoor.Key Go.Proofs.YtfoclgijhkibeabDoor.Cha Go.Proofs.YtfoclgijhkibeabDoor.Chb Go.Proofs.YtfoclgijhkibeabDoor.Rec Go.Proofs.YtfoclgijhkibeabDoor.Sgt Go.Proofs.YtfoclgijhkibeabDoor.DrawN Go.Proofs.YtfoclgijhkibeabDoor.DrawO Go.Proofs.YtfoclgijhkibeabDoor.DrawQ
set_option linter.unusedVariables false
set_option maxRecDepth 100000

/-- What is carried along: the cursor, the two boxes of the results, and what lies below. -/
structure At (w W : World) (p B K : Nat) : Prop where
  cur : Cur W p B K
  one : W.heap[w.heap.size]? = some (.cells #[.int .i64 0, .int .i64 0] 28)
  two : W.heap[w.heap.size + 1]? = some (.cells #[.int .i64 0, .int .i64 0] 28)
  bel : Below w.heap.size w W
theorem At.upd {w W W' : World} {p B K K' : Nat} (h : At w W p B K) (hp : w.heap.size + 1 < p) (u : Upd p W W') (c : Cur W' p B K') : At w W' p B K' :=
  ⟨c, rowUpd h.one u (by omega), rowUpd h.two u (by omega), h.bel.trans (u.below (by omega) h.bel.size)⟩
theorem At.below {w W W' : World} {p B K : Nat} (h : At w W p B K) (b : Below W.heap.size W W') : At w W' p B K :=
  ⟨curBel h.cur b, bx h.one b, bx h.two b, h.bel.trans (b.mono h.bel.size)⟩
theorem At.mono {w W : World} {p B K K' : Nat} (h : At w W p B K) (hK : K ≤ K') : At w W p B K' := ⟨h.cur.mono hK, h.one, h.two, h.bel⟩
theorem belDrew {B : Nat} {w W : World} (h : Below B w W) : Below B w W.drew := ⟨h.os, h.tape, h.output, h.size, h.block⟩
theorem At.lt {w W : World} {p B K : Nat} (h : At w W p B K) : w.heap.size + 1 < W.heap.size := bx_lt h.two
set_option maxHeartbeats 8000000 in
theorem drawSecret (A : Option Addr) (n c : Nat) (cs : List UInt8) (w : World) (hn : n ≤ maxLen) (hx : Rd w w.heap.size 1 A n (Cur.bytes cs)) :
    Calls Tryd.prog 12 #[.slice A n c] w fun e w' => ∃ (k : Int) (s : ByteArray) (R S : Int) (t : ByteArray) (Q U : Int), e = .returned (.tuple #[.int .i64 k, .string s, .agg #[.int .i64 R, .int .i64 S], .string t, .agg #[.int .i64 Q, .int .i64 U]]) ∧ s.size ≤ 201 ∧ t.size ≤ 201 ∧ Below w.heap.size w w' := by
  have b0 := al2 w (.cells #[.int .i64 0, .int .i64 0] 28) (.cells #[.int .i64 0, .int .i64 0] 28)
  obtain ⟨k0, k1⟩ := nw2 w (.cells #[.int .i64 0, .int .i64 0] 28) (.cells #[.int .i64 0, .int .i64 0] 28)
  have hx0 := (hx.below b0 (Nat.le_refl _)).mono b0.size
  have hc0 := boxed_cur A n c cs _ hn hx0
  have aB := al1 ((w.alloc (.cells #[.int .i64 0, .int .i64 0] 28)).alloc (.cells #[.int .i64 0, .int .i64 0] 28)) (.cells #[.slice A n c, .int .i64 0, .int .u64 0] 73)
  simp only [World.size_alloc] at hc0
  have T := Lib.hid (At.mk (w := w) hc0 (bx k0 aB) (bx k1 aB) (b0.trans (aB.mono b0.size)))
  clear hc0 hx0 b0 k0 k1 aB hx
  go_enter Tryd.func12, Tryd.ntmps12
  go_wp2_with fail
  generalize World.alloc (World.alloc (World.alloc w _) _) _ = W0 at *
  generalize hp : w.heap.size + 1 + 1 = p at *
  have hp1 : w.heap.size + 1 < p := by omega
  refine (secret p _ 0 W0 (by omega) T.out.cur).mono ?_
  rintro e w1 ⟨n0, rfl, -, -, hc, hu⟩
  replace T := Lib.hid (T.out.upd hp1 hu hc)
  clear hc hu
  obtain ⟨k, bk, -, KS, -, -⟩ := keyBoth n0
  have HKS := Lib.hid KS
  clear KS
  go_wp2_with fail
  refine (HKS.out _).mono ?_
  rintro e w' ⟨rfl, rfl⟩
  clear HKS
  go_wp2_with fail
  refine (secret p _ _ w1 (by omega) T.out.cur).mono ?_
  rintro e w2 ⟨m0, rfl, -, -, hc, hu⟩
  replace T := Lib.hid (T.out.upd hp1 hu hc)
  clear hc hu
  go_wp2_with fail
  refine (message p _ _ w2 (by omega) T.out.cur).mono ?_
  rintro e w3 ⟨s, rfl, hs, hc, hu⟩
  replace T := Lib.hid (T.out.upd hp1 hu hc)
  clear hc hu
  go_wp2_with fail
  refine (message p _ _ w3 (by omega) T.out.cur).mono ?_
  rintro e w4 ⟨t, rfl, ht, hc, hu⟩
  replace T := Lib.hid (T.out.upd hp1 hu hc)
  clear hc hu
  obtain ⟨R, S, b1, -, TS, -, -⟩ := withBoth n0 m0 s (by unfold maxLen; omega)
  have HTS := Lib.hid TS
  clear TS
  unfold pv at HTS
  go_wp2_with fail
  refine (HTS.out _).mono ?_
  rintro e w5 ⟨rfl, b⟩
  have aB := al1 w5 (.cells #[.int .i64 R, .int .i64 S] 28)
  have X := Lib.hid (nw1 w5 (.cells #[.int .i64 R, .int .i64 S] 28))
  have hg := (T.out.below b).lt
  have hgp := (T.out.below b).cur.lt
  replace T := Lib.hid ((T.out.below b).below aB)
  clear b aB HTS
  go_wp2_with fail
  generalize World.alloc w5 _ = W5 at *
  generalize w5.heap.size = g at *
  refine (one p _ _ 6 W5 (by omega) (by omega) T.out.cur).mono ?_
  rintro e w6 ⟨bo, rfl, hc, hu⟩
  replace T := Lib.hid (T.out.upd hp1 hu hc)
  replace X := Lib.hid (rowUpd X.out hu (by omega))
  clear hc hu
  go_upto_if 42 with (fail)
  go_cut [11] from 18 (fun s11 wc => ∃ m9 : Int, s11 = .int .i64 m9 ∧ At w wc p p 60 ∧ wc.heap[g]? = some (.cells #[.int .i64 R, .int .i64 S] 28))
  case first =>
    cases bo
    · go_wp2
      go_meet
      case rel => exact ⟨m0, rfl, T.out.mono (by omega), X.out⟩
    · go_wp2_with fail
      refine (secret p _ _ w6 (by omega) T.out.cur).mono ?_
      rintro e w7 ⟨m9, rfl, -, -, hc, hu⟩
      replace T := Lib.hid (T.out.upd hp1 hu hc)
      replace X := Lib.hid (rowUpd X.out hu (by omega))
      clear hc hu
      go_wp2
      go_meet
      case rel => exact ⟨m9, rfl, T.out.mono (by omega), X.out⟩
  case rest =>
    obtain ⟨m9, rfl, T0, X0⟩ := hcut
    clear T X
    have T := Lib.hid T0
    have X := Lib.hid X0
    clear T0 X0
    generalize wc = V0 at *
    obtain ⟨Q, U, b2, -, TS, -, -⟩ := withBoth n0 m9 t (by unfold maxLen; omega)
    have HTS := Lib.hid TS
    clear TS
    unfold pv at HTS
    go_wp2_with fail
    refine (HTS.out _).mono ?_
    rintro e w8 ⟨rfl, b⟩
    have aB := al1 w8 (.cells #[.int .i64 Q, .int .i64 U] 28)
    have Y := Lib.hid (nw1 w8 (.cells #[.int .i64 Q, .int .i64 U] 28))
    have hh := (T.out.below b).lt
    have hgh := bx_lt (bx X.out b)
    replace T := Lib.hid ((T.out.below b).below aB)
    replace X := Lib.hid (bx (bx X.out b) aB)
    clear b aB HTS
    go_wp2_with fail
    generalize World.alloc w8 _ = W8 at *
    generalize w8.heap.size = h at *
    obtain ⟨c0, c1⟩ := row2 X.out
    obtain ⟨c2, c3⟩ := row2 Y.out
    obtain ⟨d0, d1⟩ := row2 T.out.one
    obtain ⟨d2, d3⟩ := row2 T.out.two
    obtain ⟨f0, f1⟩ := frz2 T.out.one
    obtain ⟨f2, f3⟩ := frz2 T.out.two
    have zz := T.out.lt
    go_region_held3 (fun w' => w'.cell? ⟨g, 0, none⟩ = some (.int .i64 R) ∧ w'.cell? ⟨g, 1, none⟩ = some (.int .i64 S) ∧ w'.cell? ⟨h, 0, none⟩ = some (.int .i64 Q) ∧ w'.cell? ⟨h, 1, none⟩ = some (.int .i64 U))
      (first | (refine ⟨?_, ?_, ?_, ?_⟩ <;> with_reducible assumption) | (refine ⟨?_, ?_, ?_, ?_⟩ <;> ((repeat (first | with_reducible assumption | with_reducible refine cell_dr ?_ | refine cell_set2 ?_ (by omega))); done)) | (go_keep; done)) (fail)
    all_goals
      go_wp2
      refine bodyPost_ret (v := .tuple #[.int .i64 k, .string s, .agg #[.int .i64 R, .int .i64 S], .string t, .agg #[.int .i64 Q, .int .i64 U]]) (by simp [results, Tryd.results12, go_sem, d0, d1, d2, d3]) rfl ⟨k, s, R, S, t, Q, U, rfl, hs, ht, ?_⟩
      (repeat (first | exact T.out.bel | refine belDrew ?_ | refine Below.setCell ?_ (by simp) _)); done
end Go.Proofs.YtfoclgijhkibeabDoor.DrawV
