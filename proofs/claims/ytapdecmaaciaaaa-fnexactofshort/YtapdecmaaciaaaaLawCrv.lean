/-
  The walks of the laws on ZeroPoint, OnCurve, NegPoint and ShortPoint.
-/
import Derived.Test.YtapdecmaaciaaaaCrv3
namespace Go.Proofs.Ytapdecmaaciaaaa.LawCrv
open Go.ChangeShapes Go.WideShapes Go.ChangeAt Go.RowKit
open Go.Proofs.Ytapdecmaaciaaaa.Mem Go.Proofs.Ytapdecmaaciaaaa.Num Go.Proofs.Ytapdecmaaciaaaa.Mod Go.Proofs.Ytapdecmaaciaaaa.Pow Go.Proofs.Ytapdecmaaciaaaa.Kind Go.Proofs.Ytapdecmaaciaaaa.Ed Go.Proofs.Ytapdecmaaciaaaa.Grp Go.Proofs.Ytapdecmaaciaaaa.Crv Go.Proofs.Ytapdecmaaciaaaa.Crv2 Go.Proofs.Ytapdecmaaciaaaa.Crv3
set_option linter.unusedVariables false
set_option maxRecDepth 100000
theorem rel {P : Program} {f : Nat} {args : Array Value} {v : Value} (W0 : World) (C : ∀ W, Calls P f args W fun e w' => e = .returned v ∧ Below W.heap.size W w') (W : World) (h : Below W0.heap.size W0 W) :
    Calls P f args W fun e w' => e = .returned v ∧ Below W0.heap.size W0 w' := (C W).mono fun e w' q => ⟨q.1, then_ (n := 0) h q.2⟩
namespace Z
theorem walk (P D : Int) (w0 : (Lit.int .i64 P).wf = true) (w1 : (Lit.int .i64 D).wf = true) (w : World) :
    Calls Try.prog 6 #[pv P D] w fun e w' => e = .returned (.bool true) ∧ Below w.heap.size w w' := by
  have T := Lib.hid (fun W => toCurve P D W)
  have C1 := Lib.hid (fun W => specZero P D W)
  have C2 := Lib.hid (fun W => implZero P D W)
  have Q := Lib.hid (fun X Y W => eqPoint X Y W)
  clear w0 w1
  have hv : ∃ Y : Int, (if okC P D then pv 0 1 else pv 0 0) = pv 0 Y := by cases okC P D <;> exact ⟨_, rfl⟩
  obtain ⟨Y, hv⟩ := hv
  rw [hv] at C1 C2
  clear hv
  generalize okC P D = b at *
  unfold pv at *
  go_enter Try.func6, Try.ntmps6
  go_wp2_with fail
  refine (T.out _).mono ?_
  rintro e v1 ⟨rfl, b1⟩
  obtain ⟨c0, c1⟩ := row2 (bx (nw1 w _) b1)
  have B1 := then_ (n := 0) (al1 _ _) b1
  have K1 := Lib.hid (bx (nw1 w _) b1)
  clear b1
  go_wp2_with fail
  refine (C1.out _).mono ?_
  rintro e v2 ⟨rfl, b2⟩
  have K2 := Lib.hid (bx K1.out b2)
  obtain ⟨d0, d1⟩ := row2 K2.out
  have hz2 : w.heap.size < v2.heap.size := bx_lt K2.out
  have B2 := Lib.hid (then_ (n := 0) B1 b2)
  clear b2 c0 c1 K1 B1
  go_wp2_with fail
  refine (T.out _).mono ?_
  rintro e v3 ⟨rfl, b3⟩
  have K3 := Lib.hid (bx (nw1 v2 _) b3)
  have B3 := Lib.hid (then_ (n := 0) B2.out (then_ (n := 0) (al1 _ _) b3))
  clear b3 d0 d1 B2 hz2 K2
  go_wp2_with fail
  refine (C2.out _).mono ?_
  rintro e v4 ⟨rfl, b4⟩
  have K4 := Lib.hid (bx K3.out b4)
  obtain ⟨d0, d1⟩ := row2 K4.out
  have hz4 : v2.heap.size < v4.heap.size := bx_lt K4.out
  have B4 := Lib.hid (then_ (n := 0) B3.out b4)
  clear b4 K3 B3
  go_wp2_with fail
  refine (Q.out _ _ _).mono ?_
  rintro e v5 ⟨rfl, b5⟩
  have B5 := (then_ (n := 0) B4.out (then_ (n := 0) (al1 _ _) b5))
  clear b5 K4 B4 d0 d1
  go_wp2
  go_ret
  exact ⟨rfl, B5⟩
end Z
namespace O
set_option maxHeartbeats 1000000 in
theorem walk (P D X Y : Int) (w0 : (Lit.int .i64 P).wf = true) (w1 : (Lit.int .i64 D).wf = true) (w2 : (Lit.int .i64 X).wf = true) (w3 : (Lit.int .i64 Y).wf = true) (w : World) :
    Calls Try.prog 4 #[pv P D, pv X Y] w fun e w' => e = .returned (.bool true) ∧ Below w.heap.size w w' := by
  clear w0 w1 w2 w3
  have C1 := Lib.hid (fun W => specOn P D X Y W)
  have C2 := Lib.hid (fun W => implOn P D X Y W)
  have T := Lib.hid (fun W => toCurve P D W)
  have U := Lib.hid (fun W => toPoint X Y W)
  generalize okA P D X Y = b at *
  generalize (okC P D && inF P X Y) = b' at *
  unfold pv at *
  go_enter Try.func4, Try.ntmps4
  go_wp2_with fail
  obtain ⟨k0, k1⟩ := nw2 w (.cells #[.int .i64 P, .int .i64 D] 23) (.cells #[.int .i64 X, .int .i64 Y] 29)
  have B0 := Lib.hid (al2 w (.cells #[.int .i64 P, .int .i64 D] 23) (.cells #[.int .i64 X, .int .i64 Y] 29))
  generalize World.alloc (World.alloc w _) _ = W0 at *
  have H0 := Lib.hid k0
  have H1 := Lib.hid k1
  obtain ⟨c0, c1⟩ := row2 k0
  obtain ⟨c2, c3⟩ := row2 k1
  have RT := Lib.hid (rel W0 T.out)
  have RU := Lib.hid (rel W0 U.out)
  have R1 := Lib.hid (rel W0 C1.out)
  have R2 := Lib.hid (rel W0 C2.out)
  have D1 : Below W0.heap.size W0 W0.drew := (Below.refl _ W0).drew
  clear T U C1 C2 k0 k1
  go_region_held3 (fun w' => w'.cell? ⟨w.heap.size, 0, none⟩ = some (.int .i64 P) ∧ w'.cell? ⟨w.heap.size, 1, none⟩ = some (.int .i64 D) ∧ w'.cell? ⟨w.heap.size + 1, 0, none⟩ = some (.int .i64 X) ∧ w'.cell? ⟨w.heap.size + 1, 1, none⟩ = some (.int .i64 Y))
    (first | (refine ⟨?_, ?_, ?_, ?_⟩ <;> with_reducible assumption) | (go_keep; done))
    (first
      | (go_at_call 16; (with_reducible refine (RT.out _ ?hb).mono ?_); (case hb => with_reducible assumption); rintro e v1 ⟨rfl, b1⟩; obtain ⟨p0, p1⟩ := row2 (bx H0.out b1); obtain ⟨p2, p3⟩ := row2 (bx H1.out b1))
      | (go_at_call 19; (with_reducible refine (RU.out _ ?hb).mono ?_); (case hb => with_reducible assumption); rintro e v2 ⟨rfl, b2⟩; obtain ⟨q0, q1⟩ := row2 (bx H0.out b2); obtain ⟨q2, q3⟩ := row2 (bx H1.out b2))
      | (go_at_call 18; (with_reducible refine (R1.out _ ?hb).mono ?_); (case hb => with_reducible assumption); rintro e v3 ⟨rfl, b3⟩; obtain ⟨r0, r1⟩ := row2 (bx H0.out b3); obtain ⟨r2, r3⟩ := row2 (bx H1.out b3)))
  rename_i hH
  have B3 := Lib.hid b3
  have D3 : Below W0.heap.size W0 v3.drew := b3.drew
  clear hH b1 b2 b3 D1 R1 c0 c1 c2 c3 p0 p1 p2 p3 q0 q1 q2 q3
  go_wp2_with fail
  go_region_held3 (fun w' => w'.cell? ⟨w.heap.size, 0, none⟩ = some (.int .i64 P) ∧ w'.cell? ⟨w.heap.size, 1, none⟩ = some (.int .i64 D) ∧ w'.cell? ⟨w.heap.size + 1, 0, none⟩ = some (.int .i64 X) ∧ w'.cell? ⟨w.heap.size + 1, 1, none⟩ = some (.int .i64 Y))
    (first | (refine ⟨?_, ?_, ?_, ?_⟩ <;> with_reducible assumption) | (go_keep; done))
    (first
      | (go_at_call 16; (with_reducible refine (RT.out _ ?hb).mono ?_); (case hb => with_reducible assumption); rintro e v1 ⟨rfl, b1⟩; obtain ⟨p0, p1⟩ := row2 (bx H0.out b1); obtain ⟨p2, p3⟩ := row2 (bx H1.out b1))
      | (go_at_call 19; (with_reducible refine (RU.out _ ?hb).mono ?_); (case hb => with_reducible assumption); rintro e v2 ⟨rfl, b2⟩; obtain ⟨q0, q1⟩ := row2 (bx H0.out b2); obtain ⟨q2, q3⟩ := row2 (bx H1.out b2))
      | (go_at_call 20; (with_reducible refine (R2.out _ ?hb).mono ?_); (case hb => with_reducible assumption); rintro e v6 ⟨rfl, b6⟩; obtain ⟨s0, s1⟩ := row2 (bx H0.out b6); obtain ⟨s2, s3⟩ := row2 (bx H1.out b6)))
  rename_i hH
  have B := then_ (n := 0) B0.out b6
  clear hH b1 b2 b6 D3 R2 p0 p1 p2 p3 q0 q1 q2 q3 r0 r1 r2 r3 s0 s1 s2 s3
  go_wp2
  go_ret
  exact ⟨rfl, B⟩
end O
end Go.Proofs.Ytapdecmaaciaaaa.LawCrv
