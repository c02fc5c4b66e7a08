/-
  Points of a short form: contracts of both sides.
-/
import Derived.Test.YtapdecmaaciaaaaCnt
namespace Go.Proofs.Ytapdecmaaciaaaa.Shrt
open Go.ChangeShapes Go.WideShapes Go.ChangeAt Go.RowKit
open Go.Proofs.Ytapdecmaaciaaaa.Mem Go.Proofs.Ytapdecmaaciaaaa.Num Go.Proofs.Ytapdecmaaciaaaa.Mod Go.Proofs.Ytapdecmaaciaaaa.Pow Go.Proofs.Ytapdecmaaciaaaa.Kind Go.Proofs.Ytapdecmaaciaaaa.Ed Go.Proofs.Ytapdecmaaciaaaa.Grp Go.Proofs.Ytapdecmaaciaaaa.Crv Go.Proofs.Ytapdecmaaciaaaa.Crv2 Go.Proofs.Ytapdecmaaciaaaa.Crv3 Go.Proofs.Ytapdecmaaciaaaa.Add Go.Proofs.Ytapdecmaaciaaaa.Times Go.Proofs.Ytapdecmaaciaaaa.Cnt
set_option linter.unusedVariables false
set_option maxRecDepth 100000
set_option linter.unusedSectionVars false
section
variable {p : Nat} [NeZero p]
theorem roots_only (hp : Pr p) {x r : Nat} (hx : x < p) (hr : r < p) (h : x * x % p = r * r % p) : x = r ∨ x + r = p := by
  rcases root_two (x := (⟨x, hx⟩ : Fin p)) (z := ⟨r, hr⟩) hp (Fin.ext (by rw [Fin.val_mul, Fin.val_mul]; exact h)) with e | e
  · exact Or.inl (congrArg Fin.val e)
  · have e2 : (⟨x, hx⟩ : Fin p) + ⟨r, hr⟩ = 0 := by rw [e]; grind
    have e3 := congrArg Fin.val e2
    rw [Fin.val_add] at e3
    have e4 : (x + r) % p = 0 := by simpa using e3
    by_cases hl : x + r < p
    · rw [Nat.mod_eq_of_lt hl] at e4; left; omega
    · right
      rw [Nat.mod_eq_sub_mod (by omega), Nat.mod_eq_of_lt (by omega)] at e4; omega
/-- A number below p that is the X of a point with the short form n. -/
def isX (d : Fin p) (n x : Nat) : Prop := x * x % p = (sqX d (rs p (n / 2 : Nat))).val ∧ 2 * (n / 2) + x % 2 = n
theorem on_isX {d : Fin p} (hc : Cv p d) {n x : Nat} (hx : x < p) (hn : n < 2 * p) : onE p (vl d) x (n / 2 : Nat) = true ↔ x * x % p = (sqX d (rs p (n / 2 : Nat))).val := by
  rw [onE_iff (by have := hc.pr.ge; omega), on_sq hc]
  have v : (rs p (x : Int)).val = x := by have := vl_rsN hx; simp only [vl] at this; omega
  constructor
  · intro h; rw [← h, Fin.val_mul, v]
  · intro h; apply Fin.ext; rw [Fin.val_mul, v, h]
set_option maxHeartbeats 2000000 in
theorem specSh {d : Fin p} (hc : Cv p d) (hC : okC p (vl d) = true) (h5 : 5 ≤ p) (h9 : p ≤ 199) (n : Nat) (hn : n < 2 * p) (x : Nat) (hx : x ≤ p) (hy : x < p → isX d n x) (hl : ∀ j, j < x → ¬ isX d n j) (w : World) :
    Calls Try.prog 36 #[pv p (vl d), .int .i64 n] w fun e w' => e = .returned (.tuple #[if x < p then pv x (n / 2 : Nat) else pv 0 0, .bool (decide (x < p))]) ∧ Below w.heap.size w w' := by
  have C1 := Lib.hid (fun W => specGood p (vl d) W)
  rw [hC] at C1
  have d0 := vl_ge d; have d1 := vl_lt d
  have C2 := Lib.hid (fun W => inYes (n : Int) 0 (2 * (p : Int) - 1) W (by omega) (by omega))
  have C3 := Lib.hid (fun (x : Nat) (hx : x < p) W => specOnE p (vl d) x ((n / 2 : Nat) : Int) W (by omega) (by omega) d0 d1 (by omega) (by omega) (by omega) (by omega))
  have C4 := Lib.hid (fun (x : Nat) (hx : x < p) W => specShortA (x : Int) ((n / 2 : Nat) : Int) W (by omega) (by omega) (by omega) (by omega))
  have en : (n : Int) / 2 = ((n / 2 : Nat) : Int) := by omega
  rw [← en] at C3 C4 ⊢
  have y0 : 0 ≤ (n : Int) / 2 := by omega
  have y1 : (n : Int) / 2 ≤ 199 := by omega
  have XY : Hid (∀ j, j < p → (onE p (vl d) j ((n : Int) / 2) = true ↔ j * j % p = (sqX d (rs p (n / 2 : Nat))).val)) := Lib.hid (fun j hj => by rw [en]; exact on_isX hc hj hn)
  have SH : Hid (∀ j : Nat, (2 * ((n : Int) / 2) + (j : Int) % 2 = n ↔ 2 * (n / 2) + j % 2 = n)) := Lib.hid (fun j => by omega)
  have HY := Lib.hid hy
  have HL := Lib.hid hl
  clear en hy hl
  unfold pv at *
  go_enter Try.func36, Try.ntmps36
  go_wp2_with fail
  refine (C1.out _).mono ?_
  rintro e w1 ⟨rfl, b1⟩
  obtain ⟨k0, k1⟩ := box_a b1
  obtain ⟨c0, c1⟩ := row2 k0
  have B1 := then_ (n := 0) (al2 _ _ _) b1
  clear b1 C1
  go_wp2_with fail
  refine (C2.out _).mono ?_
  rintro e w2 ⟨rfl, rfl⟩
  have H0 : Hid (Bx w1 w.heap.size 25 p (vl d)) := Lib.hid k0
  have H1 : Hid (Bx w1 (w.heap.size + 1) 32 0 0) := Lib.hid k1
  have HB := Lib.hid B1
  clear k0 k1 B1 C2
  go_wp2_with fail
  clear c0 c1
  go_loopw [6] (fun i wr => ∃ j : Nat, j ≤ x ∧ i = .int .i64 j ∧ Hid (Bx wr w.heap.size 25 p (vl d)) ∧ Hid (Bx wr (w.heap.size + 1) 32 0 0) ∧ Hid (Below w.heap.size w wr)) (fun i _ => p - (intOf i).toNat)
  case atStart => exact ⟨0, by omega, rfl, H0, H1, HB⟩
  case round =>
    obtain ⟨j, hj, rfl, G0, G1, GB⟩ := hrel
    clear H0 H1 HB
    obtain ⟨c0, c1⟩ := G0.out.cells
    by_cases hlt : j < p
    · have t1 : (j : Int) < (p : Int) := by omega
      have z1 := G1.out.lt
      have z0 : w.heap.size < wr.heap.size := by omega
      have D3 := Lib.hid (fun W => C3.out j hlt W)
      have D4 := Lib.hid (fun W => C4.out j hlt W)
      have kA := al1 wr (.cells #[.int .i64 (j : Int), .int .i64 ((n : Int) / 2)] 32)
      have F0 := Lib.hid (G0.out.below kA)
      have F1 := Lib.hid (G1.out.below kA)
      have F2 : Hid (Bx (wr.alloc (.cells #[.int .i64 (j : Int), .int .i64 ((n : Int) / 2)] 32)) wr.heap.size 32 j ((n : Int) / 2)) := Lib.hid (nw1 _ _)
      have FB := Lib.hid (then_ (n := 0) GB.out kA)
      clear kA
      go_wp2_with fail
      generalize World.alloc wr _ = W2 at *
      generalize wr.heap.size = g at *
      have ng0 : ¬ g = w.heap.size := by omega
      have ng1 : ¬ g = w.heap.size + 1 := by omega
      refine (D3.out _).mono ?_
      rintro e w3 ⟨rfl, b3⟩
      have F0 := Lib.hid (F0.out.below b3)
      have F1 := Lib.hid (F1.out.below b3)
      have F2 := Lib.hid (F2.out.below b3)
      have FB := Lib.hid (then_ (n := 0) FB.out b3)
      clear b3 c0 c1
      obtain ⟨c2, c3⟩ := F2.out.cells
      cases ho : onE p (vl d) j ((n : Int) / 2)
      · have hne : j ≠ x := fun e => by
          subst e
          have := (XY.out j hlt).2 (HY.out hlt).1
          rw [ho] at this; cases this
        clear ho
        go_wp2
        go_roundw
        case rel => exact ⟨j + 1, by omega, by go_num, F0, F1, FB⟩
        case measure => simp [intOf]; omega
      · have HO := Lib.hid ho
        clear ho
        go_wp2_with fail
        refine (D4.out _).mono ?_
        rintro e w4 ⟨rfl, b4⟩
        have F0 := Lib.hid (F0.out.below b4)
        have F1 := Lib.hid (F1.out.below b4)
        have F2 := Lib.hid (F2.out.below b4)
        have FB := Lib.hid (then_ (n := 0) FB.out b4)
        clear b4 c2 c3
        obtain ⟨c2, c3⟩ := F2.out.cells
        obtain ⟨c4, c5⟩ := F1.out.cells
        obtain ⟨f4, f5⟩ := F1.out.frz
        have hz := F1.out.lt
        by_cases hs : 2 * ((n : Int) / 2) + (j : Int) % 2 = n
        · have hX : isX d n j := ⟨(XY.out j hlt).1 HO.out, (SH.out j).1 hs⟩
          have he : j = x := by
            refine Classical.byContradiction fun hne => ?_
            exact HL.out j (by omega) hX
          subst he
          have hdec : decide (j < p) = true := by simpa using hlt
          have V : Hid ((if j < p then Value.agg #[.int .i64 (j : Int), .int .i64 ((n : Int) / 2)] else .agg #[.int .i64 0, .int .i64 0]) = .agg #[.int .i64 (j : Int), .int .i64 ((n : Int) / 2)]) := Lib.hid (if_pos hlt)
          have HD := Lib.hid hdec
          clear hdec hX
          go_wp2
          refine bodyPost_ret (v := .tuple #[.agg #[.int .i64 (j : Int), .int .i64 ((n : Int) / 2)], .bool true]) (by simp [results, Try.results36, go_sem, c4, c5]) rfl ⟨by first | rfl | rw [V.out, HD.out] | simp [hlt], ?_⟩
          repeat (first | exact FB.out | refine Below.setCell ?_ (by simp; done) _)
        · have hne : j ≠ x := fun e => by
            subst e
            exact hs ((SH.out j).2 (HY.out hlt).2)
          go_wp2
          go_roundw
          case rel => exact ⟨j + 1, by omega, by go_num, F0, F1, FB⟩
          case measure => simp [intOf]; omega
    · obtain rfl : j = p := by omega
      have hxp : ¬ x < j := by omega
      have hdec : decide (x < j) = false := by simpa using hxp
      have V : Hid ((if x < j then Value.agg #[.int .i64 (x : Int), .int .i64 ((n : Int) / 2)] else .agg #[.int .i64 0, .int .i64 0]) = .agg #[.int .i64 0, .int .i64 0]) := Lib.hid (if_neg hxp)
      have HD := Lib.hid hdec
      obtain ⟨c4, c5⟩ := G1.out.cells
      obtain ⟨f4, f5⟩ := G1.out.frz
      have hz := G1.out.lt
      clear hdec
      go_wp2
      refine bodyPost_ret (v := .tuple #[.agg #[.int .i64 0, .int .i64 0], .bool false]) (by simp [results, Try.results36, go_sem, c4, c5]) rfl ⟨by first | rfl | rw [V.out, HD.out] | simp [hxp], ?_⟩
      repeat (first | exact GB.out | refine Below.setCell ?_ (by simp; done) _)
end
end Go.Proofs.Ytapdecmaaciaaaa.Shrt
