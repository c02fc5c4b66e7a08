/-
  Checking a signature: contracts of both sides, and the walk of the law on CheckSigned.
-/
import Derived.Test.YtbljmgmpmmajeaaDoorChd
namespace Go.Proofs.YtbljmgmpmmajeaaDoor.Chk
open Go.ChangeShapes Go.WideShapes Go.ChangeAt Go.RowKit
open Go.Proofs.YtbljmgmpmmajeaaDoor.Mem Go.Proofs.YtbljmgmpmmajeaaDoor.Num Go.Proofs.YtbljmgmpmmajeaaDoor.Mod Go.Proofs.YtbljmgmpmmajeaaDoor.Pow Go.Proofs.YtbljmgmpmmajeaaDoor.Sch Go.Proofs.YtbljmgmpmmajeaaDoor.Key Go.Proofs.YtbljmgmpmmajeaaDoor.Txt Go.Proofs.YtbljmgmpmmajeaaDoor.Cha Go.Proofs.YtbljmgmpmmajeaaDoor.Chb Go.Proofs.YtbljmgmpmmajeaaDoor.Rec Go.Proofs.YtbljmgmpmmajeaaDoor.Chc Go.Proofs.YtbljmgmpmmajeaaDoor.Chd
set_option linter.unusedVariables false
set_option maxRecDepth 100000

theorem retB {a b : Bool} (h : a = b) : Ending.returned (.bool a) = .returned (.bool b) := by rw [h]
/-- A signature's two numbers in their ranges. -/
def okX (R S : Int) : Bool := decide (1 ≤ R) && decide (R ≤ 2026) && decide (0 ≤ S) && decide (S ≤ 1012)
theorem okX_yes {R S : Int} (h : okX R S = true) : ∃ r s : Nat, R = r ∧ S = s ∧ 1 ≤ r ∧ r ≤ 2026 ∧ s ≤ 1012 := by
  simp only [okX, Bool.and_eq_true, decide_eq_true_eq] at h
  exact ⟨R.toNat, S.toNat, by omega, by omega, by omega, by omega, by omega⟩
theorem okX_of {r s : Nat} (h1 : 1 ≤ r) (h2 : r ≤ 2026) (h3 : s ≤ 1012) : okX r s = true := by simp [okX]; omega
/-- A signature holds. -/
def hold (k : Nat) (t : ByteArray) (r s : Nat) : Bool := decide (pw 4 s = r * pw k (chal r k t) % 2027)
theorem hold_int (k : Nat) (t : ByteArray) (r s x y z : Nat) (h1 : pw 4 s = y) (h2 : pw k x = z) (h3 : chal r k t = x) : hold k t r s = ((y : Int) == (r : Int) * (z : Int) % 2027) := by
  unfold hold
  rw [h3, h1, h2, Bool.eq_iff_iff]
  simp only [decide_eq_true_eq, beq_iff_eq]
  omega
set_option maxHeartbeats 1000000 in
theorem wellFormed (R S : Int) (w : World) : Calls Tryd.prog 81 #[pv R S] w fun e w' => e = .returned (.bool (okX R S)) ∧ Below w.heap.size w w' := by
  unfold pv
  have E : Hid (okX R S = (decide (1 ≤ R) && decide (R ≤ 2026) && decide (0 ≤ S) && decide (S ≤ 1012))) := Lib.hid rfl
  go_enter Tryd.func81, Tryd.ntmps81
  go_wp2
  all_goals
    go_ret
    refine ⟨retB ?_, al1 _ _⟩
    rw [E.out, Bool.eq_iff_iff]; simp; try omega
set_option maxHeartbeats 1000000 in
theorem claimOf (k : Int) (t : ByteArray) (R S : Int) (w : World) : Calls Tryd.prog 60 #[.int .i64 k, .string t, pv R S] w fun e w' => e = .returned (.agg #[.int .i64 k, .string t, .int .i64 R, .int .i64 S]) ∧ Below w.heap.size w w' := by
  unfold pv
  go_enter Tryd.func60, Tryd.ntmps60
  go_wp2
  refine bodyPost_ret (v := .agg #[.int .i64 k, .string t, .int .i64 R, .int .i64 S]) (by simp [results, Tryd.results60, go_sem]) rfl ⟨rfl, ?_⟩
  repeat (first | exact Below.refl _ _ | refine Below.setCell ?_ (by simp; done) _ | refine Below.alloc ?_ (by simp <;> omega) _)
set_option maxHeartbeats 1000000 in
theorem clValid (k : Int) (t : ByteArray) (R S : Int) (w : World) (hl : t.size ≤ maxLen) :
    Calls Tryd.prog 61 #[.agg #[.int .i64 k, .string t, .int .i64 R, .int .i64 S]] w fun e w' => e = .returned (.bool ((okK k && okT t) && okX R S)) ∧ Below w.heap.size w w' := by
  have C1 := Lib.hid (fun W => stValid k t W hl)
  have C2 := Lib.hid (fun W => wellFormed R S W)
  generalize (okK k && okT t) = a at *
  generalize okX R S = b at *
  unfold pv at *
  cases a
  · go_enter Tryd.func61, Tryd.ntmps61
    go_wp2_with fail
    refine (C1.out _).mono ?_
    rintro e w1 ⟨rfl, b1⟩
    have B := then_ (n := 0) (al1 _ _) b1
    clear b1
    go_wp2
    go_ret
    exact ⟨rfl, B⟩
  · go_enter Tryd.func61, Tryd.ntmps61
    go_wp2_with fail
    refine (C1.out _).mono ?_
    rintro e w1 ⟨rfl, b1⟩
    obtain ⟨c0, c1, c2, c3⟩ := row4 (box_1 b1)
    have B := then_ (n := 0) (al1 _ _) b1
    clear b1
    go_wp2_with fail
    refine (C2.out _).mono ?_
    rintro e w2 ⟨rfl, b2⟩
    have B2 := then_ (n := 0) B b2
    clear b2 B c0 c1 c2 c3
    go_wp2
    go_ret
    exact ⟨rfl, B2⟩
set_option maxHeartbeats 1000000 in
theorem clOwn (k : Nat) (t : ByteArray) (r s : Nat) (w : World) (hk : k ≤ 2026) (hr : r ≤ 2026) (ht : t.size ≤ 200) (hT : Tb w) :
    Calls Tryd.prog 66 #[.agg #[.int .i64 k, .string t, .int .i64 r, .int .i64 s]] w fun e w' => e = .returned (.int .i64 (chal r k t : Nat)) ∧ Below w.heap.size w w' := by
  have C := Lib.hid (fun W (h : Tb W) => stChal r k t W (by omega) (by omega) ht h)
  have HT := Lib.hid (fun W (h : Below w.heap.size w W) => hT.below h)
  generalize chal r k t = x at *
  clear hT
  go_enter Tryd.func66, Tryd.ntmps66
  go_wp2_with fail
  refine (C.out _ (HT.out _ (al1 _ _))).mono ?_
  rintro e w1 ⟨rfl, b1⟩
  have B := then_ (n := 0) (al1 _ _) b1
  clear b1 C HT
  go_wp2
  go_ret
  exact ⟨rfl, B⟩
set_option maxHeartbeats 2000000 in
theorem clHolds (k : Nat) (t : ByteArray) (r s : Nat) (w : World) (hk : k ≤ 2026) (hr : r ≤ 2026) (hs : s ≤ 1012) (ht : t.size ≤ 200) (hT : Tb w) :
    Calls Tryd.prog 62 #[.agg #[.int .i64 k, .string t, .int .i64 r, .int .i64 s]] w fun e w' => e = .returned (.bool (hold k t r s)) ∧ Below w.heap.size w w' := by
  have hx := chal_lt r k t
  have C1 := Lib.hid (fun W => big4 s W (by omega))
  have C2 := Lib.hid (fun W => bigPower k (chal r k t) W (by omega) (by omega))
  have C3 := Lib.hid (fun W (h : Tb W) => clOwn k t r s W hk hr ht h)
  have E := Lib.hid (hold_int k t r s _ _ _ rfl rfl rfl)
  have HT := Lib.hid (fun W (h : Below w.heap.size w W) => hT.below h)
  have hz := pw_lt k (chal r k t)
  generalize hold k t r s = b at *
  generalize pw k (chal r k t) = z at *
  generalize chal r k t = x at *
  generalize pw 4 s = y at *
  clear hT
  have k0 := nw1 w (.cells #[.int .i64 k, .string t, .int .i64 r, .int .i64 s] 83)
  have B0 := Lib.hid (al1 w (.cells #[.int .i64 k, .string t, .int .i64 r, .int .i64 s] 83))
  go_enter Tryd.func62, Tryd.ntmps62
  go_wp2_with fail
  generalize World.alloc w _ = W0 at *
  have H0 := Lib.hid k0
  obtain ⟨c0, c1, c2, c3⟩ := row4 k0
  have CC := Lib.hid (fun W (h : Below W0.heap.size W0 W) => (C3.out W (HT.out W (then_ (n := 0) B0.out h))).mono (fun e w' (q : e = .returned (.int .i64 (x : Nat)) ∧ Below W.heap.size W w') => (show e = .returned (.int .i64 (x : Nat)) ∧ Below W0.heap.size W0 w' from ⟨q.1, then_ (n := 0) h q.2⟩)))
  have D0 := Below.refl W0.heap.size W0
  have D1 : Below W0.heap.size W0 W0.drew := D0.drew
  have mb : 0 ≤ (r : Int) * (z : Int) ∧ (r : Int) * (z : Int) ≤ 4104676 := by
    have := Nat.mul_le_mul hr (show z ≤ 2026 by omega)
    exact ⟨by rw [← Int.natCast_mul]; omega, by rw [← Int.natCast_mul]; omega⟩
  have q1 : IntKind.i64.wrap ((r : Int) * (z : Int)) = (r : Int) * (z : Int) := IntWalk.i64_in _ (by omega)
  have q3 : ((r : Int) * (z : Int)).tmod 2027 = ((r : Int) * (z : Int)) % 2027 := Int.tmod_eq_emod_of_nonneg (by omega)
  clear k0 C3 HT mb
  go_region_held3 (fun w' => w'.cell? ⟨w.heap.size, 0, none⟩ = some (.int .i64 k) ∧ w'.cell? ⟨w.heap.size, 1, none⟩ = some (.string t) ∧ w'.cell? ⟨w.heap.size, 2, none⟩ = some (.int .i64 r) ∧ w'.cell? ⟨w.heap.size, 3, none⟩ = some (.int .i64 s))
    (first | (refine ⟨?_, ?_, ?_, ?_⟩ <;> with_reducible assumption) | (go_keep; done) | (simp [*, go_sem]; done))
    (first
      | (go_at_call 66; (with_reducible refine (CC.out _ ?hb).mono ?_); (case hb => with_reducible assumption); rintro e vd ⟨rfl, bd⟩; obtain ⟨d0, d1, d2, d3⟩ := row4 (bx H0.out bd))
      | (go_at_call 69; (with_reducible refine (C1.out _).mono ?_); rintro e w' ⟨rfl, rfl⟩)
      | (go_at_call 69; (with_reducible refine (C2.out _).mono ?_); rintro e w' ⟨rfl, rfl⟩))
  all_goals
    go_wp2
    go_ret
    exact ⟨by rw [E.out]; rfl, then_ (n := 0) B0.out bd⟩
end Go.Proofs.YtbljmgmpmmajeaaDoor.Chk
