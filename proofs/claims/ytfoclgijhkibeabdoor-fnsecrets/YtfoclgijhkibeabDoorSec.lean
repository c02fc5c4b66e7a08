/-
  The secret told by two signatures with one nonce: contracts of the reference.
-/
import Derived.Test.YtfoclgijhkibeabDoorChlX
namespace Go.Proofs.YtfoclgijhkibeabDoor.Sec
open Go.ChangeShapes Go.WideShapes Go.ChangeAt Go.RowKit
open Go.Proofs.YtfoclgijhkibeabDoor.Mem Go.Proofs.YtfoclgijhkibeabDoor.Num Go.Proofs.YtfoclgijhkibeabDoor.Mod Go.Proofs.YtfoclgijhkibeabDoor.Pow Go.Proofs.YtfoclgijhkibeabDoor.Sch Go.Proofs.YtfoclgijhkibeabDoor.Key Go.Proofs.YtfoclgijhkibeabDoor.Txt Go.Proofs.YtfoclgijhkibeabDoor.Cha Go.Proofs.YtfoclgijhkibeabDoor.Chb Go.Proofs.YtfoclgijhkibeabDoor.Rec Go.Proofs.YtfoclgijhkibeabDoor.Chc Go.Proofs.YtfoclgijhkibeabDoor.Chd Go.Proofs.YtfoclgijhkibeabDoor.Chk Go.Proofs.YtfoclgijhkibeabDoor.Chl
set_option linter.unusedVariables false
set_option maxRecDepth 100000

def dd (e f : Nat) : Nat := (e + 1013 - f) % 1013
theorem dd_lt (e f : Nat) : dd e f < 1013 := Nat.mod_lt _ (by omega)
theorem dd_int (e f : Nat) (he : e < 1013) (hf : f < 1013) : ((e : Int) - (f : Int) + 1013) % 1013 = ((dd e f : Nat) : Int) := by unfold dd; omega
def pws (d k p : Nat) : Nat := d ^ k % p
theorem pws_lt (d k p : Nat) (h : 0 < p) : pws d k p < p := Nat.mod_lt _ h
def inv (d : Nat) : Nat := pws d (1013 - 2) 1013
theorem inv_lt (d : Nat) : inv d < 1013 := pws_lt d _ 1013 (by omega)
theorem l4Inv (a p : Nat) (w : World) (hp : Pr p) (ha : a < p) : Calls Tryd.prog 64 #[.int .i64 a, .int .i64 p] w fun e w' => e = .returned (.int .i64 ((pws a (p - 2) p : Nat) : Int)) ∧ w = w' := l4Inverse a p w hp ha
theorem implInv (a p : Nat) (w : World) (hp : Pr p) (ha : a < p) (h0 : 0 < a) : Calls Tryd.prog 58 #[.int .i64 a, .int .i64 p] w fun e w' => e = .returned (.tuple #[.int .i64 ((pws a (p - 2) p : Nat) : Int), .bool true]) ∧ w = w' := implInverse a p w hp ha h0
def sx (e f s1 s2 : Nat) : Nat := dd s1 s2 * inv (dd e f) % 1013
theorem sx_lt (e f s1 s2 : Nat) : sx e f s1 s2 < 1013 := Nat.mod_lt _ (by omega)
def okF (k e f s1 s2 : Nat) : Bool := decide (dd e f ≠ 0) && (decide (sx e f s1 s2 ≠ 0) && decide (pw 4 (sx e f s1 s2) = k))
theorem sx_int (e f s1 s2 d i : Nat) (h1 : dd s1 s2 = d) (h2 : inv (dd e f) = i) : ((sx e f s1 s2 : Nat) : Int) = (d : Int) * (i : Int) % 1013 := by
  unfold sx; rw [h1, h2]; simp
theorem mul_bd2 (x n : Nat) (hx : x < 1013) (hn : n < 1013) : 0 ≤ (x : Int) * (n : Int) ∧ (x : Int) * (n : Int) ≤ 1024144 := by
  have := Nat.mul_le_mul (show x ≤ 1012 by omega) (show n ≤ 1012 by omega)
  exact ⟨by rw [← Int.natCast_mul]; omega, by rw [← Int.natCast_mul]; omega⟩
/-- What must hold ahead of the reckoning: one of five is wanting, or none. -/
theorem five (b1 b2 x1 x2 : Bool) (R Q : Int) : b1 = false ∨ (b1 = true ∧ b2 = false) ∨ (b1 = true ∧ b2 = true ∧ x1 = false) ∨ (b1 = true ∧ b2 = true ∧ x1 = true ∧ x2 = false) ∨ (b1 = true ∧ b2 = true ∧ x1 = true ∧ x2 = true ∧ R ≠ Q) ∨ (b1 = true ∧ b2 = true ∧ x1 = true ∧ x2 = true ∧ R = Q) := by
  cases b1 <;> cases b2 <;> cases x1 <;> cases x2 <;> simp <;> exact (Decidable.em _).symm
set_option maxHeartbeats 4000000 in
theorem specSecNo (k : Int) (a : ByteArray) (R S : Int) (b : ByteArray) (Q U : Int) (w : World) (b1 b2 x1 x2 : Bool)
    (C1 : Hid (∀ W, Calls Tryd.prog 62 #[.int .i64 k, .string a, pv R S] W fun e w' => e = .returned (.tuple #[.bool x1, .bool b1]) ∧ Below W.heap.size W w'))
    (C2 : Hid (∀ W, Calls Tryd.prog 62 #[.int .i64 k, .string b, pv Q U] W fun e w' => e = .returned (.tuple #[.bool x2, .bool b2]) ∧ Below W.heap.size W w'))
    (h : ¬ (b1 = true ∧ b2 = true ∧ x1 = true ∧ x2 = true ∧ R = Q)) :
    Calls Tryd.prog 13 #[.int .i64 k, .string a, pv R S, .string b, pv Q U] w fun e w' => e = .returned (.tuple #[.int .i64 0, .bool false]) ∧ Below w.heap.size w w' := by
  have h5 := five b1 b2 x1 x2 R Q
  unfold pv at *
  obtain ⟨k0, k1⟩ := nw2 w (.cells #[.int .i64 R, .int .i64 S] 28) (.cells #[.int .i64 Q, .int .i64 U] 28)
  have B0 := Lib.hid (al2 w (.cells #[.int .i64 R, .int .i64 S] 28) (.cells #[.int .i64 Q, .int .i64 U] 28))
  have H0 := Lib.hid k0
  have H1 := Lib.hid k1
  clear k0 k1
  rcases h5 with rfl | ⟨rfl, rfl⟩ | ⟨rfl, rfl, rfl⟩ | ⟨rfl, rfl, rfl, rfl⟩ | ⟨rfl, rfl, rfl, rfl, hne⟩ | h5
  case inr.inr.inr.inr.inr => exact absurd h5 h
  all_goals
    clear h
    go_enter Tryd.func13, Tryd.ntmps13
    go_wp2_with fail
    refine (C1.out _).mono ?_
    rintro e v1 ⟨rfl, bb1⟩
    generalize World.alloc (World.alloc w _) _ = W0 at *
    have H2 := Lib.hid (bx H0.out bb1)
    have H3 := Lib.hid (bx H1.out bb1)
    have B1 := Lib.hid (then_ (n := 0) B0.out bb1)
    obtain ⟨c2, c3⟩ := row2 H3.out
    clear bb1 B0 H0 H1 C1
    go_wp2_with fail
    refine (C2.out _).mono ?_
    rintro e v2 ⟨rfl, bb2⟩
    obtain ⟨d0, d1⟩ := row2 (bx H2.out bb2)
    obtain ⟨d2, d3⟩ := row2 (bx H3.out bb2)
    have B2 := then_ (n := 0) B1.out bb2
    clear bb2 B1 H2 H3 C2 c2 c3
    go_wp2
    go_ret2
    exact ⟨rfl, B2⟩
theorem okF_eq (k e f s u d x y : Nat) (h1 : dd e f = d) (h2 : sx e f s u = x) (h3 : pw 4 x = y) : okF k e f s u = (decide (d ≠ 0) && (decide (x ≠ 0) && decide (y = k))) := by unfold okF; rw [h2, h1, h3]
theorem sub_bd (e f : Nat) (he : e < 1013) (hf : f < 1013) : -1013 ≤ (e : Int) - (f : Int) ∧ (e : Int) - (f : Int) ≤ 1013 := by omega
theorem dd_tmod (e f d : Nat) (he : e < 1013) (hf : f < 1013) (h : dd e f = d) : ((e : Int) - (f : Int) + 1013).tmod 1013 = (d : Int) := by
  rw [Int.tmod_eq_emod_of_nonneg (by omega), dd_int e f he hf, h]
theorem inverse (d : Nat) (w : World) (hd : d < 1013) : Calls Tryd.prog 64 #[.int .i64 d, .int .i64 1013] w fun e w' => e = .returned (.int .i64 (inv d : Nat)) ∧ w = w' := l4Inv d 1013 w pr_small hd
set_option maxHeartbeats 4000000 in
theorem specSec (k : Nat) (a : ByteArray) (r s : Nat) (b : ByteArray) (u : Nat) (w : World) (hk : k ≤ 2026) (hr : r ≤ 2026) (hs : s < 1013) (hu : u < 1013) (ha : a.size ≤ 200) (hb : b.size ≤ 200)
    (C1 : Hid (∀ W, Calls Tryd.prog 62 #[.int .i64 k, .string a, pv r s] W fun e w' => e = .returned (.tuple #[.bool true, .bool true]) ∧ Below W.heap.size W w'))
    (C2 : Hid (∀ W, Calls Tryd.prog 62 #[.int .i64 k, .string b, pv r u] W fun e w' => e = .returned (.tuple #[.bool true, .bool true]) ∧ Below W.heap.size W w')) :
    Calls Tryd.prog 13 #[.int .i64 k, .string a, pv r s, .string b, pv r u] w fun e w' => e = .returned (.tuple #[.int .i64 (if okF k (chal r k a) (chal r k b) s u then (sx (chal r k a) (chal r k b) s u : Nat) else 0), .bool (okF k (chal r k a) (chal r k b) s u)]) ∧ Below w.heap.size w w' := by
  have L1 := Lib.hid (fun W => l6Challenge r k a W (by omega) (by omega) ha)
  have L2 := Lib.hid (fun W => l6Challenge r k b W (by omega) (by omega) hb)
  have he := chal_lt r k a
  have hf := chal_lt r k b
  generalize chal r k a = e at *
  generalize chal r k b = f at *
  have E := Lib.hid (okF_eq k e f s u _ _ _ rfl rfl rfl)
  have HX := Lib.hid (sx_int e f s u _ _ rfl rfl)
  have hx := sx_lt e f s u
  have HD := Lib.hid (dd_tmod e f _ he hf rfl)
  have HD2 := Lib.hid (dd_tmod s u _ hs hu rfl)
  have hd := dd_lt e f
  have hd2 := dd_lt s u
  have hi := inv_lt (dd e f)
  have I := Lib.hid (fun W => inverse (dd e f) W hd)
  have K := Lib.hid (fun W => l6Key (sx e f s u) W (by omega))
  generalize okF k e f s u = ok at *
  generalize pw 4 (sx e f s u) = y at *
  generalize sx e f s u = x at *
  generalize inv (dd e f) = i at *
  generalize dd e f = d at *
  generalize dd s u = d2 at *
  have mb := mul_bd2 d2 i hd2 hi
  obtain ⟨n1, n2⟩ := sub_bd e f he hf
  obtain ⟨n3, n4⟩ := sub_bd s u hs hu
  have q1 : IntKind.i64.wrap ((e : Int) - (f : Int)) = (e : Int) - (f : Int) := IntWalk.i64_in _ (by omega)
  have q2 : IntKind.i64.wrap ((e : Int) - (f : Int) + 1013) = (e : Int) - (f : Int) + 1013 := IntWalk.i64_in _ (by omega)
  have q3 : IntKind.i64.wrap ((s : Int) - (u : Int)) = (s : Int) - (u : Int) := IntWalk.i64_in _ (by omega)
  have q4 : IntKind.i64.wrap ((s : Int) - (u : Int) + 1013) = (s : Int) - (u : Int) + 1013 := IntWalk.i64_in _ (by omega)
  have q5 : IntKind.i64.wrap ((d2 : Int) * (i : Int)) = (d2 : Int) * (i : Int) := IntWalk.i64_in _ (by omega)
  have q6 : ((d2 : Int) * (i : Int)).tmod 1013 = (x : Int) := by rw [Int.tmod_eq_emod_of_nonneg (by omega), HX.out]
  have Q1 := Lib.hid q1
  have Q2 := Lib.hid q2
  have Q3 := Lib.hid q3
  have Q4 := Lib.hid q4
  have Q5 := Lib.hid q5
  have Q6 := Lib.hid q6
  clear q1 q2 q3 q4 q5 q6 mb n1 n2 n3 n4 HX
  obtain ⟨V, hV⟩ : ∃ V : Int, (if ok then ((x : Nat) : Int) else 0) = V := ⟨_, rfl⟩
  rw [hV]
  have HV := Lib.hid hV
  clear hV
  unfold pv at *
  obtain ⟨k0, k1⟩ := nw2 w (.cells #[.int .i64 r, .int .i64 s] 28) (.cells #[.int .i64 r, .int .i64 u] 28)
  have B0 := Lib.hid (al2 w (.cells #[.int .i64 r, .int .i64 s] 28) (.cells #[.int .i64 r, .int .i64 u] 28))
  have H0 := Lib.hid k0
  have H1 := Lib.hid k1
  clear k0 k1
  go_enter Tryd.func13, Tryd.ntmps13
  go_wp2_with fail
  refine (C1.out _).mono ?_
  rintro e v1 ⟨rfl, bb1⟩
  generalize World.alloc (World.alloc w _) _ = W0 at *
  have H2 := Lib.hid (bx H0.out bb1)
  have H3 := Lib.hid (bx H1.out bb1)
  have B1 := Lib.hid (then_ (n := 0) B0.out bb1)
  obtain ⟨c2, c3⟩ := row2 H3.out
  clear bb1 B0 H0 H1 C1
  go_wp2_with fail
  refine (C2.out _).mono ?_
  rintro e v2 ⟨rfl, bb2⟩
  have H0 := Lib.hid (bx H2.out bb2)
  have H1 := Lib.hid (bx H3.out bb2)
  have B2 := Lib.hid (then_ (n := 0) B1.out bb2)
  clear bb2 B1 H2 H3 C2 c2 c3
  obtain ⟨d0, d1⟩ := row2 H0.out
  obtain ⟨d2', d3⟩ := row2 H1.out
  go_wp2_with fail
  have R1 := Lib.hid (rel2 v2 L1.out)
  have R2 := Lib.hid (rel2 v2 L2.out)
  have D0 := Below.refl v2.heap.size v2
  have D1 : Below v2.heap.size v2 v2.drew := D0.drew
  go_cut [17] from 54 (fun s17 wc => s17 = .int .i64 d ∧ Below v2.heap.size v2 wc)
  case first =>
    have q1 := Q1.out
    have q2 := Q2.out
    have q3 := HD.out
    clear L1 L2 I K
    go_region_held3 (fun w' => w'.cell? ⟨w.heap.size, 0, none⟩ = some (.int .i64 r) ∧ w'.cell? ⟨w.heap.size + 1, 0, none⟩ = some (.int .i64 r))
      (first | (refine ⟨?_, ?_⟩ <;> with_reducible assumption) | (go_keep; done) | (simp [*, go_sem]; done))
      (first
        | (go_at_call 63; (with_reducible refine (R1.out _ ?hb).mono ?_); (case hb => with_reducible assumption); rintro e va ⟨rfl, da, ba⟩; obtain ⟨p0, p1⟩ := row2 (bx H0.out ba); obtain ⟨p2, p3⟩ := row2 (bx H1.out ba))
        | (go_at_call 63; (with_reducible refine (R2.out _ ?hb).mono ?_); (case hb => with_reducible assumption); rintro e vb ⟨rfl, db, bb⟩; obtain ⟨r0, r1⟩ := row2 (bx H0.out bb); obtain ⟨r2, r3⟩ := row2 (bx H1.out bb)))
    all_goals
      go_wp2
      go_meet
      case rel => exact ⟨rfl, by with_reducible assumption⟩
  case rest =>
    obtain ⟨rfl, bc⟩ := hcut
    generalize wc = v3 at *
    have J0 := Lib.hid (bx H0.out bc)
    have J1 := Lib.hid (bx H1.out bc)
    have B3 := Lib.hid (then_ (n := 0) B2.out bc)
    clear R1 R2 L1 L2 D0 D1 bc B2 H0 H1 d0 d1 d2' d3
    by_cases hd0 : d = 0
    · obtain ⟨rfl, rfl⟩ : ok = false ∧ V = 0 := by have e1 : ok = false := by {rw [E.out]; simp [hd0]}; exact ⟨e1, by rw [← HV.out, e1]; rfl⟩
      have hd1 : (d : Int) = 0 := by omega
      clear E HV
      go_wp2
      go_ret2
      exact ⟨rfl, B3.out⟩
    · have hd1 : ((d : Int) == 0) = false := by simp; omega
      obtain ⟨d0, d1⟩ := row2 J0.out
      obtain ⟨d2', d3⟩ := row2 J1.out
      go_wp2_with fail
      go_cut [18] from 71 (fun s18 wc => s18 = .int .i64 x ∧ Below v3.heap.size v3 wc)
      case first =>
        have q1 := Q3.out
        have q2 := Q4.out
        have q3 := HD2.out
        have q4 := Q5.out
        have q5 := Q6.out
        have D0 := Below.refl v3.heap.size v3
        have D1 : Below v3.heap.size v3 v3.drew := D0.drew
        clear K
        go_region_held3 (fun w' => w'.cell? ⟨w.heap.size, 1, none⟩ = some (.int .i64 s) ∧ w'.cell? ⟨w.heap.size + 1, 1, none⟩ = some (.int .i64 u))
          (first | (refine ⟨?_, ?_⟩ <;> with_reducible assumption) | (go_keep; done) | (simp [*, go_sem]; done))
          ((go_at_call 64; (with_reducible refine (I.out _).mono ?_); rintro e w' ⟨rfl, rfl⟩))
        all_goals
          go_wp2
          go_meet
          case rel => exact ⟨rfl, by with_reducible assumption⟩
      case rest =>
        obtain ⟨rfl, bc⟩ := hcut
        generalize wc = v4 at *
        have B4 := Lib.hid (then_ (n := 0) B3.out bc)
        clear bc B3 J0 J1 d0 d1 d2' d3 I
        by_cases hx0 : x = 0
        · obtain ⟨rfl, rfl⟩ : ok = false ∧ V = 0 := by have e1 : ok = false := by {rw [E.out]; simp [hx0]}; exact ⟨e1, by rw [← HV.out, e1]; rfl⟩
          have hx1 : (x : Int) = 0 := by omega
          clear E HV
          go_wp2
          go_ret2
          exact ⟨rfl, B4.out⟩
        · have hx1 : ¬ (x : Int) = 0 := by omega
          by_cases hy : y = k
          · obtain ⟨rfl, rfl⟩ : ok = true ∧ V = (x : Int) := by have e1 : ok = true := by {rw [E.out]; simp [hx0, hy, hd0]}; exact ⟨e1, by rw [← HV.out, e1]; rfl⟩
            have hy1 : (y : Int) = (k : Int) := by omega
            clear E HV
            go_wp2_with fail
            refine (K.out _).mono ?_
            rintro e w' ⟨rfl, rfl⟩
            go_wp2
            go_ret2
            exact ⟨rfl, B4.out⟩
          · obtain ⟨rfl, rfl⟩ : ok = false ∧ V = 0 := by have e1 : ok = false := by {rw [E.out]; simp [hy]}; exact ⟨e1, by rw [← HV.out, e1]; rfl⟩
            have hy1 : ((y : Int) != (k : Int)) = true := by rw [bne_iff_ne]; omega
            clear E HV
            go_wp2_with fail
            refine (K.out _).mono ?_
            rintro e w' ⟨rfl, rfl⟩
            go_wp2
            go_ret2
            exact ⟨rfl, B4.out⟩
end Go.Proofs.YtfoclgijhkibeabDoor.Sec
