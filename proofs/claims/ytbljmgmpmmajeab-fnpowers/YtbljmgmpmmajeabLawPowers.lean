/-
  The walk of the law on powers: for every two slices of bytes it returns true and changes nothing that was in memory.
-/
import Derived.Test.YtbljmgmpmmajeabDrawE
import Derived.Deep.Cut
namespace Go.Proofs.Ytbljmgmpmmajeab.LawPowers
open Go.ChangeShapes Go.WideShapes Go.ChangeAt Go.RowKit
open Go.Proofs.Ytbljmgmpmmajeab.Mem Go.Proofs.Ytbljmgmpmmajeab.Ints Go.Proofs.Ytbljmgmpmmajeab.Num Go.Proofs.Ytbljmgmpmmajeab.Mod Go.Proofs.Ytbljmgmpmmajeab.Pow Go.Proofs.Ytbljmgmpmmajeab.DrawM Go.Proofs.Ytbljmgmpmmajeab.DrawE Go.Proofs.Ytbljmgmpmmajeab.EucS
set_option linter.unusedVariables false
set_option maxRecDepth 100000

theorem thn {w w1 w2 : World} (h : Below w.heap.size w w1) (b : Below w1.heap.size w1 w2) : Below w.heap.size w w2 := h.trans (b.mono h.size)

set_option maxHeartbeats 20000000 in
theorem walk (A : Option Addr) (n c : Nat) (cs : List UInt8) (D : Option Addr) (m d : Nat) (ds : List UInt8) (hn : n ≤ maxLen) (hm : m ≤ maxLen) (w : World) (hx : Rd w w.heap.size 1 A n (Cur.bytes cs)) (hy : Rd w w.heap.size 1 D m (Cur.bytes ds)) :
    Calls Try.prog 3 #[.slice A n c, .slice D m d] w fun e w' => e = .returned (.bool true) ∧ Below w.heap.size w w' := by
  by_cases hbig : 1048576 < wrap64 ((n : Int) + (m : Int))
  · clear hx hy
    go_enter Try.func3, Try.ntmps3
    go_wp2
    go_ret
    exact ⟨rfl, Below.refl _ _⟩
  have hbig' : decide (1048576 < wrap64 ((n : Int) + (m : Int))) = false := by simpa using hbig
  have DP := Lib.hid (drawPower A n c cs w hn hx)
  have RY := Lib.hid (fun W (h : Below w.heap.size w W) => (hy.below h (Nat.le_refl _)).mono h.size)
  have DN := Lib.hid (fun W h => numberOf D m d ds _ W hm (RY.out W h))
  have DI := Lib.hid (fun W h => drawInverse D m d ds W hm (RY.out W h))
  have DU := Lib.hid (fun W h => drawEu D m d ds W hm (RY.out W h))
  have DR := Lib.hid (fun W h => drawPr D m d ds W hm (RY.out W h))
  clear hx hy RY
  go_enter Try.func3, Try.ntmps3
  go_wp2_with fail
  refine DP.out.mono ?_
  rintro e w1 ⟨a, k, p, rfl, -, -, -, -, b⟩
  have BW := Lib.hid b
  obtain ⟨v, ok, f1, f2, f7⟩ := powAll a k p
  have F1 := Lib.hid f1
  have F2 := Lib.hid f2
  have F7 := Lib.hid f7
  clear f1 f2 f7 b DP hbig
  go_wp2_with fail
  refine (F1.out _).mono ?_
  rintro e w' ⟨rfl, rfl⟩
  go_wp2_with fail
  refine (F2.out _).mono ?_
  rintro e w' ⟨rfl, rfl⟩
  clear F1 F2
  go_upto_if 74 with (fail)
  go_cut [12] from 40 (fun s12 wc => Below w.heap.size w wc)
  case first =>
    cases ok
    · go_wp2
      go_meet
      case rel => exact BW.out
    · obtain ⟨R, K, Q, N, f, rfl, rfl, rfl, rfl, hA, hN, h3, h4, hK, g1, g2, g3⟩ := F7.out rfl
      have G1 := Lib.hid g1
      have G2 := Lib.hid g2
      have G3 := Lib.hid g3
      clear g1 g2 g3 F7 DI DU DR
      go_wp2_with fail
      refine (DN.out _ BW.out).mono ?_
      rintro e w' ⟨z, rfl, z0, z1, rfl⟩
      obtain ⟨j, hj, hjl⟩ : ∃ j : Nat, z % 1000 = j ∧ j < 1000 := ⟨(z % 1000).toNat, by omega, by omega⟩
      obtain ⟨x, y, two, hx, i1, i2, i3⟩ := G3.out j (by omega)
      have I1 := Lib.hid i1
      have I2 := Lib.hid i2
      have I3 := Lib.hid i3
      have HJ := Lib.hid hj
      clear i1 i2 i3 hj G3 DN
      go_wp2_with fail
      rw [HJ.out]
      refine (I1.out _).mono ?_
      rintro e w' ⟨rfl, rfl⟩
      clear HJ z0 z1
      go_wp2_with fail
      refine (I2.out _).mono ?_
      rintro e w' ⟨rfl, rfl⟩
      go_wp2_with fail
      refine (G1.out _).mono ?_
      rintro e w' ⟨rfl, rfl⟩
      clear G1 I1 I2
      have md := mul_md N x Q
      have bd := mul_bd N x Q hN hx h4
      cases two
      · clear I3 md
        rcases G2.out with ⟨rfl, rfl⟩ | ⟨hz, rfl⟩
        · clear G2
          go_wp2
          go_meet
          case rel => exact BW.out
        · clear G2
          have hz' : ((R : Int) = 0) = False := by simp; omega
          go_wp2
          go_meet
          case rel => exact BW.out
      · rw [← I3.out rfl] at md
        clear I3
        rcases G2.out with ⟨rfl, rfl⟩ | ⟨hz, rfl⟩
        · clear G2
          go_wp2
          go_meet
          case rel => exact BW.out
        · clear G2
          go_wp2
          go_meet
          case rel => exact BW.out
  case rest =>
    have BW := Lib.hid hcut
    clear hcut F7 DN
    generalize wc = V0 at *
    go_wp2_with fail
    refine (DI.out _ BW.out).mono ?_
    rintro e v1 ⟨a2, q2, rfl, -, -, -, -, b⟩
    replace BW := Lib.hid (thn BW.out b)
    obtain ⟨i2, ok2, f1, f2, f7⟩ := invBoth a2 q2
    have F1 := Lib.hid f1
    have F2 := Lib.hid f2
    have F7 := Lib.hid f7
    clear f1 f2 f7 b DI
    go_wp2_with fail
    refine (F1.out _).mono ?_
    rintro e w' ⟨rfl, rfl⟩
    go_wp2_with fail
    refine (F2.out _).mono ?_
    rintro e w' ⟨rfl, rfl⟩
    clear F1 F2
    cases ok2
    case' false =>
      clear F7
      go_wp2_with fail
    case' true =>
      obtain ⟨B, I, Q, rfl, rfl, rfl, hB, hI, h3, h4, hone⟩ := F7.out rfl
      have md : (B : Int) * (I : Int) % (Q : Int) = 1 := by rw [mul_md, hone]; rfl
      have bd := mul_bd B I Q hB hI h4
      clear F7 hone
      go_wp2_with fail
      clear md bd
    all_goals
      refine (DU.out _ BW.out).mono ?_
      rintro e v2 ⟨a3, b3, rfl, b⟩
      replace BW := Lib.hid (thn BW.out b)
      obtain ⟨g, x, y, ok3, f1, f2, f7⟩ := euBoth a3 b3
      have F1 := Lib.hid f1
      have F2 := Lib.hid f2
      have F7 := Lib.hid f7
      clear f1 f2 f7 b DU
      go_wp2_with fail
      refine (F1.out _).mono ?_
      rintro e v3 ⟨rfl, b⟩
      replace BW := Lib.hid (thn BW.out b)
      clear b
      go_wp2_with fail
      refine (F2.out _).mono ?_
      rintro e v4 ⟨rfl, b⟩
      replace BW := Lib.hid (thn BW.out b)
      clear b F1 F2
      cases ok3
      case' false =>
        clear F7
        go_wp2_with fail
      case' true =>
        obtain ⟨n3, m3, rfl, rfl, hn3, hm3, h03, he⟩ := F7.out rfl
        obtain ⟨g', x', y', he', g1, g2, hx, hy, hs, hd1, hd2⟩ := eu_facts n3 m3 hn3 hm3 h03
        obtain ⟨rfl, rfl, rfl⟩ : g = g' ∧ x = x' ∧ y = y' := by rw [he'] at he; simpa using he
        have bx := mbd x n3 hx hn3
        have bY := mbd y m3 hy hm3
        clear F7 he he' h03
        go_wp2_with fail
        clear bx bY hs hd1 hd2 hx hy g1 g2
    all_goals
      refine (DR.out _ BW.out).mono ?_
      rintro e v5 ⟨z5, rfl, b⟩
      replace BW := Lib.hid (thn BW.out b)
      obtain ⟨r, ok5, f1, f2⟩ := prBoth z5
      have F1 := Lib.hid f1
      have F2 := Lib.hid f2
      clear f1 f2 b DR
      go_wp2_with fail
      refine (F1.out _).mono ?_
      rintro e w' ⟨rfl, rfl⟩
      go_wp2_with fail
      refine (F2.out _).mono ?_
      rintro e w' ⟨rfl, rfl⟩
      clear F1 F2
      have BF := BW.out
      go_wp2
      go_ret
      exact ⟨rfl, BF⟩
end Go.Proofs.Ytbljmgmpmmajeab.LawPowers
