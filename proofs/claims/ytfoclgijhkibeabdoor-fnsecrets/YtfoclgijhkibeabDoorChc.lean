/-
  Challenges by the program and the reference: contracts, and the walk of the law on ChallengeOf.
-/
import Derived.Test.YtfoclgijhkibeabDoorChb
import Derived.Test.YtfoclgijhkibeabDoorRec
namespace Go.Proofs.YtfoclgijhkibeabDoor.Chc
open Go.ChangeShapes Go.WideShapes Go.ChangeAt Go.RowKit
open Go.Proofs.YtfoclgijhkibeabDoor.Mem Go.Proofs.YtfoclgijhkibeabDoor.Num Go.Proofs.YtfoclgijhkibeabDoor.Mod Go.Proofs.YtfoclgijhkibeabDoor.Pow Go.Proofs.YtfoclgijhkibeabDoor.Sch Go.Proofs.YtfoclgijhkibeabDoor.Key Go.Proofs.YtfoclgijhkibeabDoor.Txt Go.Proofs.YtfoclgijhkibeabDoor.Cha Go.Proofs.YtfoclgijhkibeabDoor.Chb Go.Proofs.YtfoclgijhkibeabDoor.Rec
set_option linter.unusedVariables false
set_option maxRecDepth 100000

theorem stValid (k : Int) (t : ByteArray) (w : World) (hm : t.size ≤ maxLen) :
    Calls Tryd.prog 51 #[.agg #[.int .i64 k, .string t]] w fun e w' => e = .returned (.bool (okK k && okT t)) ∧ Below w.heap.size w w' := by
  have C1 := Lib.hid (fun W => implKey k W)
  have C2 := Lib.hid (fun W => isMessage t W hm)
  generalize okK k = a at *
  generalize okT t = b at *
  cases a
  · go_enter Tryd.func51, Tryd.ntmps51
    go_wp2_with fail
    refine (C1.out _).mono ?_
    rintro e w' ⟨rfl, rfl⟩
    go_wp2
    go_ret
    exact ⟨rfl, al1 _ _⟩
  · go_enter Tryd.func51, Tryd.ntmps51
    go_wp2_with fail
    refine (C1.out _).mono ?_
    rintro e w' ⟨rfl, rfl⟩
    go_wp2_with fail
    refine (C2.out _).mono ?_
    rintro e w' ⟨rfl, rfl⟩
    go_wp2
    go_ret
    exact ⟨rfl, al1 _ _⟩
theorem relT {r : Nat} {t : ByteArray} {W0 : World} (HT : ∀ W, Below W0.heap.size W0 W → Tb W) (W : World) (hn : r ≤ 100000) (h : Below W0.heap.size W0 W) :
    Calls Tryd.prog 108 #[.int .i64 r] W fun e w' => e = .returned (.string (nu r)) ∧ Below W.heap.size W w' ∧ Below W0.heap.size W0 w' :=
  (itoa r W hn (HT W h)).mono fun e w' q => ⟨q.1, q.2, then_ (n := 0) h q.2⟩
theorem relD {s : ByteArray} {W0 : World} (HT : ∀ W, Below W0.heap.size W0 W → Tb W) (W : World) (hs : s.size ≤ 600) (h : Below W0.heap.size W0 W) :
    Calls Tryd.prog 107 #[.string s] W fun e w' => e = .returned (.int .i64 (four s : Nat)) ∧ Below W.heap.size W w' ∧ Below W0.heap.size W0 w' :=
  (digestNumber s W hs (HT W h).1 (HT W h).2.1).mono fun e w' q => ⟨q.1, q.2, then_ (n := 0) h q.2⟩
set_option maxHeartbeats 2000000 in
theorem stChal (r k : Nat) (t : ByteArray) (w : World) (hr : r ≤ 100000) (hk : k ≤ 100000) (ht : t.size ≤ 200) (hT : Tb w) :
    Calls Tryd.prog 52 #[.agg #[.int .i64 k, .string t], .int .i64 r] w fun e w' => e = .returned (.int .i64 (chal r k t : Nat)) ∧ Below w.heap.size w w' := by
  have s1 := nu_size r hr
  have s2 := nu_size k hk
  obtain ⟨a1, a2, a3, a4, a5⟩ := ct_sizes (nu r) (nu k) t
  have h4 := four_lt (ct r k t)
  have E : Hid ((chal r k t : Int) = (four (ct r k t) : Int) % 1013) := Lib.hid (by unfold chal; omega)
  have hct : (ct r k t).size ≤ 600 := by unfold ct; omega
  have k0 := nw1 w (.cells #[.int .i64 k, .string t] 79)
  have B0 := Lib.hid (al1 w (.cells #[.int .i64 k, .string t] 79))
  have HT0 : ∀ W, Below w.heap.size w W → Tb W := fun W h => hT.below h
  have q1 : ∀ W, (Op.stringOp .add ⟨#[99]⟩ (nu r)).run Tryd.prog W = .ok (.string (⟨#[99]⟩ ++ nu r)) W := fun W => run_string_add_sum W _ _ (by show 1 + _ ≤ _; omega)
  have q2 : ∀ W, (Op.stringOp .add (⟨#[99]⟩ ++ nu r) ⟨#[46]⟩).run Tryd.prog W = .ok (.string (⟨#[99]⟩ ++ nu r ++ ⟨#[46]⟩)) W := fun W => run_string_add_sum W _ _ (by rw [a1]; show _ + 1 ≤ _; omega)
  have q3 : ∀ W, (Op.stringOp .add (⟨#[99]⟩ ++ nu r ++ ⟨#[46]⟩) (nu k)).run Tryd.prog W = .ok (.string (⟨#[99]⟩ ++ nu r ++ ⟨#[46]⟩ ++ nu k)) W := fun W => run_string_add_sum W _ _ (by rw [a2]; omega)
  have q4 : ∀ W, (Op.stringOp .add (⟨#[99]⟩ ++ nu r ++ ⟨#[46]⟩ ++ nu k) ⟨#[46]⟩).run Tryd.prog W = .ok (.string (⟨#[99]⟩ ++ nu r ++ ⟨#[46]⟩ ++ nu k ++ ⟨#[46]⟩)) W := fun W => run_string_add_sum W _ _ (by rw [a3]; show _ + 1 ≤ _; omega)
  have q5 : ∀ W, (Op.stringOp .add (⟨#[99]⟩ ++ nu r ++ ⟨#[46]⟩ ++ nu k ++ ⟨#[46]⟩) t).run Tryd.prog W = .ok (.string (⟨#[99]⟩ ++ nu r ++ ⟨#[46]⟩ ++ nu k ++ ⟨#[46]⟩ ++ t)) W := fun W => run_string_add_sum W _ _ (by rw [a4]; omega)
  clear a1 a2 a3 a4 a5
  go_enter Tryd.func52, Tryd.ntmps52
  go_wp2_with fail
  generalize World.alloc w _ = W0 at *
  have HT := Lib.hid (fun W (h : Below W0.heap.size W0 W) => HT0 W (then_ (n := 0) B0.out h))
  have C1 := Lib.hid (fun W => relT (r := r) (t := t) HT.out W hr)
  have C2 := Lib.hid (fun W => relT (r := k) (t := t) HT.out W hk)
  have C3 := Lib.hid (fun W => relD (s := ct r k t) HT.out W hct)
  have H0 := Lib.hid k0
  obtain ⟨c0, c1⟩ := row2 k0
  have BW := Below.refl W0.heap.size W0
  have BD : Below W0.heap.size W0 W0.drew := BW.drew
  generalize four (ct r k t) = x at *
  unfold ct at C3
  generalize nu r = u at *
  generalize nu k = v at *
  have hm : (x : Int).tmod 1013 = (x : Int) % 1013 := Int.tmod_eq_emod_of_nonneg (by omega)
  clear HT0 hT HT k0 hct s1 s2
  go_region_held3 (fun w' => w'.cell? ⟨w.heap.size, 0, none⟩ = some (.int .i64 k) ∧ w'.cell? ⟨w.heap.size, 1, none⟩ = some (.string t))
    (first | (refine ⟨?_, ?_⟩ <;> with_reducible assumption) | (go_keep; done) | (simp [*, go_sem]; done))
    (first
      | (go_at_call 107; (with_reducible refine (C3.out _ ?hb).mono ?_); (case hb => with_reducible assumption); rintro e vd ⟨rfl, dd, bd⟩; obtain ⟨pd0, pd1⟩ := row2 (bx H0.out bd))
      | (go_at_call 108; (with_reducible refine (C1.out _ ?hb).mono ?_); (case hb => with_reducible assumption); rintro e vr ⟨rfl, dr, br⟩; obtain ⟨pr0, pr1⟩ := row2 (bx H0.out br))
      | (go_at_call 108; (with_reducible refine (C2.out _ ?hb).mono ?_); (case hb => with_reducible assumption); rintro e vk ⟨rfl, dk, bk⟩; obtain ⟨pk0, pk1⟩ := row2 (bx H0.out bk)))
  all_goals
    go_wp2
    go_ret
    exact ⟨by rw [E.out]; rfl, then_ (n := 0) B0.out bd⟩
end Go.Proofs.YtfoclgijhkibeabDoor.Chc
