/-
  CheckSigned by both sides, and the walk of its law.
-/
import Derived.Test.YtfoclgijhkibeabDoorChd
namespace Go.Proofs.YtfoclgijhkibeabDoor.Chk
open Go.ChangeShapes Go.WideShapes Go.ChangeAt Go.RowKit
open Go.Proofs.YtfoclgijhkibeabDoor.Mem Go.Proofs.YtfoclgijhkibeabDoor.Num Go.Proofs.YtfoclgijhkibeabDoor.Mod Go.Proofs.YtfoclgijhkibeabDoor.Pow Go.Proofs.YtfoclgijhkibeabDoor.Sch Go.Proofs.YtfoclgijhkibeabDoor.Key Go.Proofs.YtfoclgijhkibeabDoor.Txt Go.Proofs.YtfoclgijhkibeabDoor.Cha Go.Proofs.YtfoclgijhkibeabDoor.Chb Go.Proofs.YtfoclgijhkibeabDoor.Rec Go.Proofs.YtfoclgijhkibeabDoor.Chc Go.Proofs.YtfoclgijhkibeabDoor.Chd
set_option linter.unusedVariables false
set_option maxRecDepth 100000

theorem retB {a b : Bool} (h : a = b) : Ending.returned (.bool a) = .returned (.bool b) := by rw [h]
/-- A signature's two numbers in their ranges. -/
def okX (R S : Int) : Bool := decide (1 ≤ R) && decide (R ≤ 2026) && decide (0 ≤ S) && decide (S ≤ 1012)
theorem okX_yes {R S : Int} (h : okX R S = true) : ∃ r s : Nat, R = r ∧ S = s ∧ 1 ≤ r ∧ r ≤ 2026 ∧ s ≤ 1012 := by
  simp only [okX, Bool.and_eq_true, decide_eq_true_eq] at h
  exact ⟨R.toNat, S.toNat, by omega, by omega, by omega, by omega, by omega⟩
theorem okX_of {r s : Nat} (h1 : 1 ≤ r) (h2 : r ≤ 2026) (h3 : s ≤ 1012) : okX r s = true := by simp [okX]; omega
/-- A signature holds. -/
def hold (k : Nat) (t : ByteArray) (r s : Nat) : Bool := decide (pw 4 s = r * pw k (chal r k t) % 2027)
theorem hold_int (k : Nat) (t : ByteArray) (r s x y z : Nat) (h1 : pw 4 s = y) (h2 : pw k x = z) (h3 : chal r k t = x) : hold k t r s = ((y : Int) == (r : Int) * (z : Int) % 2027) := by
  unfold hold
  rw [h3, h1, h2, Bool.eq_iff_iff]
  simp only [decide_eq_true_eq, beq_iff_eq]
  omega
set_option maxHeartbeats 1000000 in
theorem wellFormed (R S : Int) (w : World) : Calls Tryd.prog 109 #[pv R S] w fun e w' => e = .returned (.bool (okX R S)) ∧ Below w.heap.size w w' := by
  unfold pv
  have E : Hid (okX R S = (decide (1 ≤ R) && decide (R ≤ 2026) && decide (0 ≤ S) && decide (S ≤ 1012))) := Lib.hid rfl
  go_enter Tryd.func109, Tryd.ntmps109
  go_wp2
  all_goals
    go_ret
    refine ⟨retB ?_, al1 _ _⟩
    rw [E.out, Bool.eq_iff_iff]; simp; try omega
set_option maxHeartbeats 1000000 in
theorem claimOf (k : Int) (t : ByteArray) (R S : Int) (w : World) : Calls Tryd.prog 53 #[.int .i64 k, .string t, pv R S] w fun e w' => e = .returned (.agg #[.int .i64 k, .string t, .int .i64 R, .int .i64 S]) ∧ Below w.heap.size w w' := by
  unfold pv
  go_enter Tryd.func53, Tryd.ntmps53
  go_wp2
  refine bodyPost_ret (v := .agg #[.int .i64 k, .string t, .int .i64 R, .int .i64 S]) (by simp [results, Tryd.results53, go_sem]) rfl ⟨rfl, ?_⟩
  repeat (first | exact Below.refl _ _ | refine Below.setCell ?_ (by simp; done) _ | refine Below.alloc ?_ (by simp <;> omega) _)
set_option maxHeartbeats 1000000 in
theorem clValid (k : Int) (t : ByteArray) (R S : Int) (w : World) (hl : t.size ≤ maxLen) :
    Calls Tryd.prog 54 #[.agg #[.int .i64 k, .string t, .int .i64 R, .int .i64 S]] w fun e w' => e = .returned (.bool ((okK k && okT t) && okX R S)) ∧ Below w.heap.size w w' := by
  have C1 := Lib.hid (fun W => stValid k t W hl)
  have C2 := Lib.hid (fun W => wellFormed R S W)
  generalize (okK k && okT t) = a at *
  generalize okX R S = b at *
  unfold pv at *
  cases a
  · go_enter Tryd.func54, Tryd.ntmps54
    go_wp2_with fail
    refine (C1.out _).mono ?_
    rintro e w1 ⟨rfl, b1⟩
    have B := then_ (n := 0) (al1 _ _) b1
    clear b1
    go_wp2
    go_ret
    exact ⟨rfl, B⟩
  · go_enter Tryd.func54, Tryd.ntmps54
    go_wp2_with fail
    refine (C1.out _).mono ?_
    rintro e w1 ⟨rfl, b1⟩
    obtain ⟨c0, c1, c2, c3⟩ := row4 (box_1 b1)
    have B := then_ (n := 0) (al1 _ _) b1
    clear b1
    go_wp2_with fail
    refine (C2.out _).mono ?_
    rintro e w2 ⟨rfl, b2⟩
    have B2 := then_ (n := 0) B b2
    clear b2 B c0 c1 c2 c3
    go_wp2
    go_ret
    exact ⟨rfl, B2⟩
set_option maxHeartbeats 1000000 in
theorem clOwn (k : Nat) (t : ByteArray) (r s : Nat) (w : World) (hk : k ≤ 2026) (hr : r ≤ 2026) (ht : t.size ≤ 200) (hT : Tb w) :
    Calls Tryd.prog 57 #[.agg #[.int .i64 k, .string t, .int .i64 r, .int .i64 s]] w fun e w' => e = .returned (.int .i64 (chal r k t : Nat)) ∧ Below w.heap.size w w' := by
  have C := Lib.hid (fun W (h : Tb W) => stChal r k t W (by omega) (by omega) ht h)
  have HT := Lib.hid (fun W (h : Below w.heap.size w W) => hT.below h)
  generalize chal r k t = x at *
  clear hT
  go_enter Tryd.func57, Tryd.ntmps57
  go_wp2_with fail
  refine (C.out _ (HT.out _ (al1 _ _))).mono ?_
  rintro e w1 ⟨rfl, b1⟩
  have B := then_ (n := 0) (al1 _ _) b1
  clear b1 C HT
  go_wp2
  go_ret
  exact ⟨rfl, B⟩
set_option maxHeartbeats 2000000 in
theorem clHolds (k : Nat) (t : ByteArray) (r s : Nat) (w : World) (hk : k ≤ 2026) (hr : r ≤ 2026) (hs : s ≤ 1012) (ht : t.size ≤ 200) (hT : Tb w) :
    Calls Tryd.prog 55 #[.agg #[.int .i64 k, .string t, .int .i64 r, .int .i64 s]] w fun e w' => e = .returned (.bool (hold k t r s)) ∧ Below w.heap.size w w' := by
  have hx := chal_lt r k t
  have C1 := Lib.hid (fun W => big4 s W (by omega))
  have C2 := Lib.hid (fun W => bigPower k (chal r k t) W (by omega) (by omega))
  have C3 := Lib.hid (fun W (h : Tb W) => clOwn k t r s W hk hr ht h)
  have E := Lib.hid (hold_int k t r s _ _ _ rfl rfl rfl)
  have HT := Lib.hid (fun W (h : Below w.heap.size w W) => hT.below h)
  have hz := pw_lt k (chal r k t)
  generalize hold k t r s = b at *
  generalize pw k (chal r k t) = z at *
  generalize chal r k t = x at *
  generalize pw 4 s = y at *
  clear hT
  have k0 := nw1 w (.cells #[.int .i64 k, .string t, .int .i64 r, .int .i64 s] 86)
  have B0 := Lib.hid (al1 w (.cells #[.int .i64 k, .string t, .int .i64 r, .int .i64 s] 86))
  go_enter Tryd.func55, Tryd.ntmps55
  go_wp2_with fail
  generalize World.alloc w _ = W0 at *
  have H0 := Lib.hid k0
  obtain ⟨c0, c1, c2, c3⟩ := row4 k0
  have CC := Lib.hid (fun W (h : Below W0.heap.size W0 W) => (C3.out W (HT.out W (then_ (n := 0) B0.out h))).mono (fun e w' (q : e = .returned (.int .i64 (x : Nat)) ∧ Below W.heap.size W w') => (show e = .returned (.int .i64 (x : Nat)) ∧ Below W0.heap.size W0 w' from ⟨q.1, then_ (n := 0) h q.2⟩)))
  have D0 := Below.refl W0.heap.size W0
  have D1 : Below W0.heap.size W0 W0.drew := D0.drew
  have mb : 0 ≤ (r : Int) * (z : Int) ∧ (r : Int) * (z : Int) ≤ 4104676 := by
    have := Nat.mul_le_mul hr (show z ≤ 2026 by omega)
    exact ⟨by rw [← Int.natCast_mul]; omega, by rw [← Int.natCast_mul]; omega⟩
  have q1 : IntKind.i64.wrap ((r : Int) * (z : Int)) = (r : Int) * (z : Int) := IntWalk.i64_in _ (by omega)
  have q3 : ((r : Int) * (z : Int)).tmod 2027 = ((r : Int) * (z : Int)) % 2027 := Int.tmod_eq_emod_of_nonneg (by omega)
  clear k0 C3 HT mb
  go_region_held3 (fun w' => w'.cell? ⟨w.heap.size, 0, none⟩ = some (.int .i64 k) ∧ w'.cell? ⟨w.heap.size, 1, none⟩ = some (.string t) ∧ w'.cell? ⟨w.heap.size, 2, none⟩ = some (.int .i64 r) ∧ w'.cell? ⟨w.heap.size, 3, none⟩ = some (.int .i64 s))
    (first | (refine ⟨?_, ?_, ?_, ?_⟩ <;> with_reducible assumption) | (go_keep; done) | (simp [*, go_sem]; done))
    (first
      | (go_at_call 57; (with_reducible refine (CC.out _ ?hb).mono ?_); (case hb => with_reducible assumption); rintro e vd ⟨rfl, bd⟩; obtain ⟨d0, d1, d2, d3⟩ := row4 (bx H0.out bd))
      | (go_at_call 48; (with_reducible refine (C1.out _).mono ?_); rintro e w' ⟨rfl, rfl⟩)
      | (go_at_call 48; (with_reducible refine (C2.out _).mono ?_); rintro e w' ⟨rfl, rfl⟩))
  all_goals
    go_wp2
    go_ret
    exact ⟨by rw [E.out]; rfl, then_ (n := 0) B0.out bd⟩
end Go.Proofs.YtfoclgijhkibeabDoor.Chk

namespace Go.Proofs.YtfoclgijhkibeabDoor.Chl
open Go.ChangeShapes Go.WideShapes Go.ChangeAt Go.RowKit
open Go.Proofs.YtfoclgijhkibeabDoor.Mem Go.Proofs.YtfoclgijhkibeabDoor.Num Go.Proofs.YtfoclgijhkibeabDoor.Mod Go.Proofs.YtfoclgijhkibeabDoor.Pow Go.Proofs.YtfoclgijhkibeabDoor.Sch Go.Proofs.YtfoclgijhkibeabDoor.Key Go.Proofs.YtfoclgijhkibeabDoor.Txt Go.Proofs.YtfoclgijhkibeabDoor.Cha Go.Proofs.YtfoclgijhkibeabDoor.Chb Go.Proofs.YtfoclgijhkibeabDoor.Rec Go.Proofs.YtfoclgijhkibeabDoor.Chc Go.Proofs.YtfoclgijhkibeabDoor.Chd Go.Proofs.YtfoclgijhkibeabDoor.Chk
set_option linter.unusedVariables false
set_option maxRecDepth 100000

theorem inB (n a b : Int) (w : World) : Calls Tryd.prog 87 #[.int .i64 n, .int .i64 a, .int .i64 b] w fun e w' => e = .returned (.bool (decide (a ≤ n) && decide (n ≤ b))) ∧ w = w' := by
  by_cases h : n < a ∨ b < n
  · have e : (decide (a ≤ n) && decide (n ≤ b)) = false := by simp; omega
    rw [e]; exact inNo n a b w h
  · have e : (decide (a ≤ n) && decide (n ≤ b)) = true := by simp; omega
    rw [e]; exact inYes n a b w (by omega) (by omega)
set_option maxHeartbeats 1000000 in
theorem l6Signed (R S : Int) (w : World) : Calls Tryd.prog 114 #[pv R S] w fun e w' => e = .returned (.bool (okX R S)) ∧ Below w.heap.size w w' := by
  have C1 := Lib.hid (fun W => inB R 1 2026 W)
  have C2 := Lib.hid (fun W => inB S 0 1012 W)
  have E : Hid (okX R S = ((decide (1 ≤ R) && decide (R ≤ 2026)) && (decide (0 ≤ S) && decide (S ≤ 1012)))) := Lib.hid (by unfold okX; simp only [Bool.and_assoc])
  generalize (decide (1 ≤ R) && decide (R ≤ 2026)) = a at *
  generalize (decide (0 ≤ S) && decide (S ≤ 1012)) = b at *
  unfold pv
  cases a
  · go_enter Tryd.func114, Tryd.ntmps114
    go_wp2_with fail
    refine (C1.out _).mono ?_
    rintro e w' ⟨rfl, rfl⟩
    go_wp2
    go_ret
    exact ⟨by rw [E.out]; rfl, al1 _ _⟩
  · go_enter Tryd.func114, Tryd.ntmps114
    go_wp2_with fail
    refine (C1.out _).mono ?_
    rintro e w' ⟨rfl, rfl⟩
    go_wp2_with fail
    refine (C2.out _).mono ?_
    rintro e w' ⟨rfl, rfl⟩
    go_wp2
    go_ret
    exact ⟨by rw [E.out]; rfl, al1 _ _⟩
theorem spec4 (n : Nat) (w : World) (h : n ≤ 1000000000) : Calls Tryd.prog 118 #[.int .i64 4, .int .i64 n, .int .i64 2027] w fun e w' => e = .returned (.int .i64 (pw 4 n : Nat)) ∧ w = w' := specPw 4 n w (by omega) h
set_option maxHeartbeats 2000000 in
theorem l6Check (k : Nat) (t : ByteArray) (r s : Nat) (w : World) (hk : k ≤ 2026) (hr : r ≤ 2026) (hs : s ≤ 1012) (ht : t.size ≤ 200) :
    Calls Tryd.prog 115 #[.int .i64 k, .string t, pv r s] w fun e w' => e = .returned (.bool (hold k t r s)) ∧ Below w.heap.size w w' := by
  have hx := chal_lt r k t
  have C1 := Lib.hid (fun W => spec4 s W (by omega))
  have C2 := Lib.hid (fun W => specPw k (chal r k t) W (by omega) (by omega))
  have C3 := Lib.hid (fun W => l6Challenge r k t W (by omega) (by omega) ht)
  have E := Lib.hid (hold_int k t r s _ _ _ rfl rfl rfl)
  have hz := pw_lt k (chal r k t)
  generalize hold k t r s = b at *
  generalize pw k (chal r k t) = z at *
  generalize chal r k t = x at *
  generalize pw 4 s = y at *
  unfold pv
  have k0 := nw1 w (.cells #[.int .i64 r, .int .i64 s] 28)
  have B0 := Lib.hid (al1 w (.cells #[.int .i64 r, .int .i64 s] 28))
  go_enter Tryd.func115, Tryd.ntmps115
  go_wp2_with fail
  generalize World.alloc w _ = W0 at *
  have H0 := Lib.hid k0
  obtain ⟨c0, c1⟩ := row2 k0
  have CC := Lib.hid (rel2 W0 C3.out)
  have D0 := Below.refl W0.heap.size W0
  have D1 : Below W0.heap.size W0 W0.drew := D0.drew
  have mb : 0 ≤ (r : Int) * (z : Int) ∧ (r : Int) * (z : Int) ≤ 4104676 := by
    have := Nat.mul_le_mul hr (show z ≤ 2026 by omega)
    exact ⟨by rw [← Int.natCast_mul]; omega, by rw [← Int.natCast_mul]; omega⟩
  have q1 : IntKind.i64.wrap ((r : Int) * (z : Int)) = (r : Int) * (z : Int) := IntWalk.i64_in _ (by omega)
  have q3 : ((r : Int) * (z : Int)).tmod 2027 = ((r : Int) * (z : Int)) % 2027 := Int.tmod_eq_emod_of_nonneg (by omega)
  clear k0 C3 mb
  go_region_held3 (fun w' => w'.cell? ⟨w.heap.size, 0, none⟩ = some (.int .i64 r) ∧ w'.cell? ⟨w.heap.size, 1, none⟩ = some (.int .i64 s))
    (first | (refine ⟨?_, ?_⟩ <;> with_reducible assumption) | (go_keep; done) | (simp [*, go_sem]; done))
    (first
      | (go_at_call 63; (with_reducible refine (CC.out _ ?hb).mono ?_); (case hb => with_reducible assumption); rintro e vd ⟨rfl, dd, bd⟩; obtain ⟨d0, d1⟩ := row2 (bx H0.out bd))
      | (go_at_call 118; (with_reducible refine (C1.out _).mono ?_); rintro e w' ⟨rfl, rfl⟩)
      | (go_at_call 118; (with_reducible refine (C2.out _).mono ?_); rintro e w' ⟨rfl, rfl⟩))
  all_goals
    go_wp2
    go_ret
    exact ⟨by rw [E.out]; rfl, then_ (n := 0) B0.out bd⟩
set_option maxHeartbeats 1000000 in
theorem implCheck (k : Nat) (t : ByteArray) (r s : Nat) (w : World) (h1 : okK k = true) (hk : k ≤ 2026) (h2 : okX r s = true) (hr : r ≤ 2026) (hs : s ≤ 1012) (ht : t.size ≤ 200) (hT : Tb w) :
    Calls Tryd.prog 17 #[.int .i64 k, .string t, pv r s] w fun e w' => e = .returned (.tuple #[.bool (hold k t r s), .bool true]) ∧ Below w.heap.size w w' := by
  have C1 := Lib.hid (fun W => claimOf k t r s W)
  have C2 := Lib.hid (fun W => clValid k t r s W (by unfold maxLen; omega))
  rw [h1, h2, okT_of ht] at C2
  have C3 := Lib.hid (fun W (h : Tb W) => clHolds k t r s W hk hr hs ht h)
  have HT := Lib.hid (fun W (h : Below w.heap.size w W) => hT.below h)
  generalize hold k t r s = b at *
  clear hT h1 h2
  unfold pv at *
  go_enter Tryd.func17, Tryd.ntmps17
  go_wp2_with fail
  refine (C1.out _).mono ?_
  rintro e w1 ⟨rfl, b1⟩
  have B := then_ (n := 0) (al1 _ _) b1
  have B1 := B.alloc B.size (.cells #[.int .i64 k, .string t, .int .i64 r, .int .i64 s] 86)
  clear b1 C1 B
  go_wp2_with fail
  refine (C2.out _).mono ?_
  rintro e w2 ⟨rfl, b2⟩
  obtain ⟨c0, c1, c2, c3⟩ := row4 (box_1 b2)
  have B2 := then_ (n := 0) B1 b2
  have HTb := Lib.hid (HT.out _ B2)
  clear b2 C2 B1 HT
  go_wp2_with fail
  refine (C3.out _ HTb.out).mono ?_
  rintro e w3 ⟨rfl, b3⟩
  have B3 := then_ (n := 0) B2 b3
  clear b3 B2 C3 HTb c0 c1 c2 c3
  go_wp2
  go_ret2
  exact ⟨rfl, B3⟩
set_option maxHeartbeats 1000000 in
theorem implCheckNo (k : Int) (t : ByteArray) (R S : Int) (w : World) (hl : t.size ≤ maxLen) (h : ((okK k && okT t) && okX R S) = false) :
    Calls Tryd.prog 17 #[.int .i64 k, .string t, pv R S] w fun e w' => e = .returned (.tuple #[.bool false, .bool false]) ∧ Below w.heap.size w w' := by
  have C1 := Lib.hid (fun W => claimOf k t R S W)
  have C2 := Lib.hid (fun W => clValid k t R S W hl)
  rw [h] at C2
  clear h
  unfold pv at *
  go_enter Tryd.func17, Tryd.ntmps17
  go_wp2_with fail
  refine (C1.out _).mono ?_
  rintro e w1 ⟨rfl, b1⟩
  have B := then_ (n := 0) (al1 _ _) b1
  have B1 := B.alloc B.size (.cells #[.int .i64 k, .string t, .int .i64 R, .int .i64 S] 86)
  clear b1 C1 B
  go_wp2_with fail
  refine (C2.out _).mono ?_
  rintro e w2 ⟨rfl, b2⟩
  have B2 := then_ (n := 0) B1 b2
  clear b2 C2 B1
  go_wp2
  go_ret2
  exact ⟨rfl, B2⟩
set_option maxHeartbeats 1000000 in
theorem specCheckNo (k : Int) (t : ByteArray) (R S : Int) (w : World) (hl : t.size ≤ maxLen) (h : ((okK k && okT t) && okX R S) = false) :
    Calls Tryd.prog 62 #[.int .i64 k, .string t, pv R S] w fun e w' => e = .returned (.tuple #[.bool false, .bool false]) ∧ Below w.heap.size w w' := by
  have K := Lib.hid (fun W => specKey k W)
  have T := Lib.hid (fun W => l6Text t W hl)
  have X := Lib.hid (fun W => l6Signed R S W)
  generalize okK k = a at *
  generalize okT t = b at *
  generalize okX R S = c at *
  unfold pv at *
  cases a
  · clear h
    go_enter Tryd.func62, Tryd.ntmps62
    go_wp2_with fail
    refine (K.out _).mono ?_
    rintro e w' ⟨rfl, rfl⟩
    go_wp2
    go_ret2
    exact ⟨rfl, al1 _ _⟩
  · cases b
    · clear h
      go_enter Tryd.func62, Tryd.ntmps62
      go_wp2_with fail
      refine (K.out _).mono ?_
      rintro e w' ⟨rfl, rfl⟩
      go_wp2_with fail
      refine (T.out _).mono ?_
      rintro e w' ⟨rfl, rfl⟩
      go_wp2
      go_ret2
      exact ⟨rfl, al1 _ _⟩
    · obtain rfl : c = false := by simpa using h
      clear h
      go_enter Tryd.func62, Tryd.ntmps62
      go_wp2_with fail
      refine (K.out _).mono ?_
      rintro e w' ⟨rfl, rfl⟩
      go_wp2_with fail
      refine (T.out _).mono ?_
      rintro e w' ⟨rfl, rfl⟩
      go_wp2_with fail
      refine (X.out _).mono ?_
      rintro e w1 ⟨rfl, b1⟩
      have B := then_ (n := 0) (al1 _ _) b1
      clear b1
      go_wp2
      go_ret2
      exact ⟨rfl, B⟩
set_option maxHeartbeats 1000000 in
theorem specCheck (k : Nat) (t : ByteArray) (r s : Nat) (w : World) (h1 : okK k = true) (hk : k ≤ 2026) (h2 : okX r s = true) (hr : r ≤ 2026) (hs : s ≤ 1012) (ht : t.size ≤ 200) :
    Calls Tryd.prog 62 #[.int .i64 k, .string t, pv r s] w fun e w' => e = .returned (.tuple #[.bool (hold k t r s), .bool true]) ∧ Below w.heap.size w w' := by
  have K := Lib.hid (fun W => specKey k W)
  rw [h1] at K
  have T := Lib.hid (fun W => l6Text t W (by unfold maxLen; omega))
  rw [okT_of ht] at T
  have X := Lib.hid (fun W => l6Signed r s W)
  rw [h2] at X
  have C3 := Lib.hid (fun W => l6Check k t r s W hk hr hs ht)
  generalize hold k t r s = b at *
  clear h1 h2
  unfold pv at *
  go_enter Tryd.func62, Tryd.ntmps62
  go_wp2_with fail
  refine (K.out _).mono ?_
  rintro e w' ⟨rfl, rfl⟩
  go_wp2_with fail
  refine (T.out _).mono ?_
  rintro e w' ⟨rfl, rfl⟩
  go_wp2_with fail
  refine (X.out _).mono ?_
  rintro e w1 ⟨rfl, b1⟩
  obtain ⟨c0, c1⟩ := row2 (box_1 b1)
  have B := then_ (n := 0) (al1 _ _) b1
  clear b1 X
  go_wp2_with fail
  refine (C3.out _).mono ?_
  rintro e w3 ⟨rfl, b3⟩
  have B3 := then_ (n := 0) B b3
  clear b3 B C3 c0 c1
  go_wp2
  go_ret2
  exact ⟨rfl, B3⟩
/-- Both give one answer. -/
theorem checkBoth (k : Int) (t : ByteArray) (R S : Int) (hl : t.size ≤ maxLen) : ∃ (x b : Bool), (∀ W, Tb W → Calls Tryd.prog 17 #[.int .i64 k, .string t, pv R S] W fun e w' => e = .returned (.tuple #[.bool x, .bool b]) ∧ Below W.heap.size W w') ∧ (∀ W, Calls Tryd.prog 62 #[.int .i64 k, .string t, pv R S] W fun e w' => e = .returned (.tuple #[.bool x, .bool b]) ∧ Below W.heap.size W w') ∧ b = ((okK k && okT t) && okX R S) ∧ x = (b && hold k.toNat t R.toNat S.toNat) := by
  cases h : ((okK k && okT t) && okX R S)
  · exact ⟨false, false, fun W _ => implCheckNo k t R S W hl h, fun W => specCheckNo k t R S W hl h, rfl, rfl⟩
  · simp only [Bool.and_eq_true] at h
    obtain ⟨⟨h1, h2⟩, h3⟩ := h
    obtain ⟨n, rfl, h4, h5⟩ := okK_yes h1
    obtain ⟨r, s, rfl, rfl, h6, h7, h8⟩ := okX_yes h3
    exact ⟨hold n t r s, true, fun W hT => implCheck n t r s W h1 h5 h3 h7 h8 (okT_yes h2) hT, fun W => specCheck n t r s W h1 h5 h3 h7 h8 (okT_yes h2), rfl, by simp⟩
end Go.Proofs.YtfoclgijhkibeabDoor.Chl
