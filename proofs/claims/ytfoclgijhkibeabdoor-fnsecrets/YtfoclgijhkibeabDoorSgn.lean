/-
  Signing: contracts of both sides.
-/
import Derived.Test.YtfoclgijhkibeabDoorChc
namespace Go.Proofs.YtfoclgijhkibeabDoor.Sgn
open Go.ChangeShapes Go.WideShapes Go.ChangeAt Go.RowKit
open Go.Proofs.YtfoclgijhkibeabDoor.Mem Go.Proofs.YtfoclgijhkibeabDoor.Num Go.Proofs.YtfoclgijhkibeabDoor.Mod Go.Proofs.YtfoclgijhkibeabDoor.Pow Go.Proofs.YtfoclgijhkibeabDoor.Sch Go.Proofs.YtfoclgijhkibeabDoor.Key Go.Proofs.YtfoclgijhkibeabDoor.Txt Go.Proofs.YtfoclgijhkibeabDoor.Cha Go.Proofs.YtfoclgijhkibeabDoor.Chb Go.Proofs.YtfoclgijhkibeabDoor.Rec Go.Proofs.YtfoclgijhkibeabDoor.Chc
set_option linter.unusedVariables false
set_option maxRecDepth 100000

/-- The second part of a signature. -/
def sS (n m : Nat) (t : ByteArray) : Nat := (m + chal (pw 4 m) (pw 4 n) t * n) % 1013
theorem mul_bd (x n : Nat) (hx : x < 1013) (hn : n ≤ 1012) : 0 ≤ (x : Int) * (n : Int) ∧ (x : Int) * (n : Int) ≤ 1024144 := by
  have := Nat.mul_le_mul (show x ≤ 1012 by omega) hn
  exact ⟨by rw [← Int.natCast_mul]; omega, by rw [← Int.natCast_mul]; omega⟩
theorem sS_int (n m : Nat) (t : ByteArray) (x : Nat) (h : chal (pw 4 m) (pw 4 n) t = x) : ((sS n m t : Nat) : Int) = ((m : Int) + (x : Int) * (n : Int)) % 1013 := by
  unfold sS; rw [h]; simp
set_option maxHeartbeats 1000000 in
theorem l6Sign (n m : Nat) (t : ByteArray) (w : World) (hn : n ≤ 1012) (hm : m ≤ 1012) (ht : t.size ≤ 200) :
    Calls Tryd.prog 113 #[.int .i64 n, .int .i64 m, .string t] w fun e w' => e = .returned (pv (pw 4 m : Nat) (sS n m t : Nat)) ∧ Below w.heap.size w w' := by
  have r1 := pw_lt 4 m
  have r2 := pw_lt 4 n
  have C1 := Lib.hid (fun W => l6Key m W (by omega))
  have C2 := Lib.hid (fun W => l6Key n W (by omega))
  have C3 := Lib.hid (fun W => l6Challenge (pw 4 m) (pw 4 n) t W (by omega) (by omega) ht)
  have hx := chal_lt (pw 4 m) (pw 4 n) t
  have E := Lib.hid (sS_int n m t _ rfl)
  generalize sS n m t = z at *
  generalize chal (pw 4 m) (pw 4 n) t = x at *
  generalize pw 4 m = a at *
  generalize pw 4 n = b at *
  have mb := mul_bd x n hx hn
  unfold pv
  go_enter Tryd.func113, Tryd.ntmps113
  go_wp2_with fail
  refine (C1.out _).mono ?_
  rintro e w' ⟨rfl, rfl⟩
  go_wp2_with fail
  refine (C2.out _).mono ?_
  rintro e w' ⟨rfl, rfl⟩
  go_wp2_with fail
  refine (C3.out _).mono ?_
  rintro e w1 ⟨rfl, b1⟩
  have k0 := box_1 b1
  obtain ⟨c0, c1⟩ := row2 k0
  obtain ⟨f0, f1⟩ := frz2 k0
  have hz := bx_lt k0
  have B := then_ (n := 0) (al1 _ _) b1
  clear b1 k0 C1 C2 C3
  go_wp2
  refine bodyPost_ret (v := .agg #[.int .i64 (a : Nat), .int .i64 (z : Nat)]) (by simp [results, Tryd.results113, go_sem, c0, c1, E.out]) rfl ⟨rfl, ?_⟩
  repeat (first | exact B | refine Below.setCell ?_ (by simp) _)
set_option maxHeartbeats 2000000 in
theorem signedWith (n m : Nat) (t : ByteArray) (w : World) (hn : n ≤ 1012) (hm : m ≤ 1012) (ht : t.size ≤ 200) (hT : Tb w) :
    Calls Tryd.prog 50 #[.agg #[.int .i64 (pw 4 n : Nat), .string t, .int .i64 n], .int .i64 m] w fun e w' => e = .returned (pv (pw 4 m : Nat) (sS n m t : Nat)) ∧ Below w.heap.size w w' := by
  have r1 := pw_lt 4 m
  have r2 := pw_lt 4 n
  have C1 := Lib.hid (fun W => big4 m W (by omega))
  have C3 := Lib.hid (fun W (h : Tb W) => stChal (pw 4 m) (pw 4 n) t W (by omega) (by omega) ht h)
  have hx := chal_lt (pw 4 m) (pw 4 n) t
  have E := Lib.hid (sS_int n m t _ rfl)
  have HT := Lib.hid (fun W (h : Below w.heap.size w W) => hT.below h)
  generalize sS n m t = z at *
  generalize chal (pw 4 m) (pw 4 n) t = x at *
  generalize pw 4 m = a at *
  generalize pw 4 n = b at *
  have mb := mul_bd x n hx hn
  clear hT
  unfold pv
  go_enter Tryd.func50, Tryd.ntmps50
  go_wp2_with fail
  obtain ⟨k0, k1⟩ := nw2 w (.cells #[.int .i64 b, .string t, .int .i64 n] 81) (.cells #[.int .i64 0, .int .i64 0] 28)
  have B0 := Lib.hid (al2 w (.cells #[.int .i64 b, .string t, .int .i64 n] 81) (.cells #[.int .i64 0, .int .i64 0] 28))
  generalize World.alloc (World.alloc w _) _ = W0 at *
  refine (C1.out _).mono ?_
  rintro e w' ⟨rfl, rfl⟩
  have H0 := Lib.hid k0
  have H1 := Lib.hid k1
  obtain ⟨c0, c1, c2⟩ := row3 k0
  have D1 : Hid (Below W0.heap.size W0 W0.drew) := Lib.hid (Below.refl _ W0).drew
  have HD := Lib.hid (HT.out _ (then_ (n := 0) B0.out D1.out))
  have CC := Lib.hid (fun W (h : Below W0.heap.size W0 W) => (C3.out W (HT.out W (then_ (n := 0) B0.out h))).mono (fun e w' (q : e = .returned (.int .i64 (x : Nat)) ∧ Below W.heap.size W w') => (show e = .returned (.int .i64 (x : Nat)) ∧ Below W0.heap.size W0 w' from ⟨q.1, then_ (n := 0) h q.2⟩)))
  have q1 : IntKind.i64.wrap ((x : Int) * (n : Int)) = (x : Int) * (n : Int) := IntWalk.i64_in _ (by omega)
  have q2 : IntKind.i64.wrap ((m : Int) + (x : Int) * (n : Int)) = (m : Int) + (x : Int) * (n : Int) := IntWalk.i64_in _ (by omega)
  have q3 : ((m : Int) + (x : Int) * (n : Int)).tmod 1013 = ((m : Int) + (x : Int) * (n : Int)) % 1013 := Int.tmod_eq_emod_of_nonneg (by omega)
  clear k0 k1 C1 C3 HT HD mb
  go_wp2_with fail
  go_region_held3 (fun w' => w'.cell? ⟨w.heap.size, 0, none⟩ = some (.int .i64 b) ∧ w'.cell? ⟨w.heap.size, 1, none⟩ = some (.string t) ∧ w'.cell? ⟨w.heap.size, 2, none⟩ = some (.int .i64 n))
    (first | (go_keep; done) | (refine ⟨?_, ?_, ?_⟩ <;> with_reducible assumption) | (simp [*, go_sem]; done))
    ((go_at_call 52; (with_reducible refine (CC.out _ ?hb).mono ?_); (case hb => exact D1.out); rintro e w1 ⟨rfl, b1⟩; obtain ⟨d0, d1, d2⟩ := row3 (bx H0.out b1); obtain ⟨d4, d5⟩ := row2 (bx H1.out b1); obtain ⟨f4, f5⟩ := frz2 (bx H1.out b1)))
  rename_i hH
  have B : Below w.heap.size w w1 := then_ (n := 0) B0.out b1
  have hz : w.heap.size + 1 < w1.heap.size := bx_lt (bx H1.out b1)
  clear hH b1 d0 d1 d2 c0 c1 c2 CC q1 q2 q3
  go_wp2
  refine bodyPost_ret (v := .agg #[.int .i64 (a : Nat), .int .i64 (z : Nat)]) (by simp [results, Tryd.results50, go_sem, d4, d5, E.out]) rfl ⟨rfl, ?_⟩
  repeat (first | exact B | refine Below.setCell ?_ (by simp) _)
set_option maxHeartbeats 1000000 in
theorem implWith (n m : Nat) (t : ByteArray) (w : World) (hn1 : 1 ≤ n) (hn : n ≤ 1012) (hm1 : 1 ≤ m) (hm : m ≤ 1012) (ht : t.size ≤ 200) (hT : Tb w) :
    Calls Tryd.prog 9 #[.int .i64 n, .int .i64 m, .string t] w fun e w' => e = .returned (.tuple #[pv (pw 4 m : Nat) (sS n m t : Nat), .bool true]) ∧ Below w.heap.size w w' := by
  have K := Lib.hid (fun W => implFor n W hn1 hn)
  have S := Lib.hid (fun W => isSecret (m : Int) W)
  rw [okS_of hm1 hm] at S
  have T := Lib.hid (fun W => isMessage t W (by unfold maxLen; omega))
  rw [okT_of ht] at T
  have C := Lib.hid (fun W (h : Tb W) => signedWith n m t W hn hm ht h)
  have HT := Lib.hid (fun W (h : Below w.heap.size w W) => hT.below h)
  generalize sS n m t = z at *
  generalize pw 4 m = a at *
  generalize pw 4 n = b at *
  unfold pv at *
  clear hT
  go_enter Tryd.func9, Tryd.ntmps9
  go_wp2_with fail
  refine (K.out _).mono ?_
  rintro e w' ⟨rfl, rfl⟩
  go_wp2_with fail
  refine (S.out _).mono ?_
  rintro e w' ⟨rfl, rfl⟩
  go_wp2_with fail
  refine (T.out _).mono ?_
  rintro e w' ⟨rfl, rfl⟩
  go_wp2_with fail
  refine (C.out _ (HT.out _ (al2 _ _ _))).mono ?_
  rintro e w1 ⟨rfl, b1⟩
  obtain ⟨k0, k1⟩ := box_2 b1
  obtain ⟨c0, c1⟩ := row2 k0
  obtain ⟨f0, f1⟩ := frz2 k0
  have hz := bx_lt k0
  have B := then_ (n := 0) (al2 _ _ _) b1
  clear b1 k0 k1 C HT K S T
  go_wp2
  refine bodyPost_ret (v := .tuple #[.agg #[.int .i64 (a : Nat), .int .i64 (z : Nat)], .bool true]) (by simp [results, Tryd.results9, go_sem, c0, c1]) rfl ⟨rfl, ?_⟩
  repeat (first | exact B | refine Below.setCell ?_ (by simp) _)
set_option maxHeartbeats 1000000 in
theorem specWith (n m : Nat) (t : ByteArray) (w : World) (hn1 : 1 ≤ n) (hn : n ≤ 1012) (hm1 : 1 ≤ m) (hm : m ≤ 1012) (ht : t.size ≤ 200) :
    Calls Tryd.prog 60 #[.int .i64 n, .int .i64 m, .string t] w fun e w' => e = .returned (.tuple #[pv (pw 4 m : Nat) (sS n m t : Nat), .bool true]) ∧ Below w.heap.size w w' := by
  have K := Lib.hid (fun W => l6Secret (n : Int) W)
  rw [okS_of hn1 hn] at K
  have S := Lib.hid (fun W => l6Secret (m : Int) W)
  rw [okS_of hm1 hm] at S
  have T := Lib.hid (fun W => l6Text t W (by unfold maxLen; omega))
  rw [okT_of ht] at T
  have C := Lib.hid (fun W => l6Sign n m t W hn hm ht)
  generalize sS n m t = z at *
  generalize pw 4 m = a at *
  unfold pv at *
  go_enter Tryd.func60, Tryd.ntmps60
  go_wp2_with fail
  refine (K.out _).mono ?_
  rintro e w' ⟨rfl, rfl⟩
  go_wp2_with fail
  refine (S.out _).mono ?_
  rintro e w' ⟨rfl, rfl⟩
  go_wp2_with fail
  refine (T.out _).mono ?_
  rintro e w' ⟨rfl, rfl⟩
  go_wp2_with fail
  refine (C.out _).mono ?_
  rintro e w1 ⟨rfl, b1⟩
  have k0 := box_1 b1
  obtain ⟨c0, c1⟩ := row2 k0
  obtain ⟨f0, f1⟩ := frz2 k0
  have hz := bx_lt k0
  have B := then_ (n := 0) (al1 _ _) b1
  clear b1 k0 C K S T
  go_wp2
  refine bodyPost_ret (v := .tuple #[.agg #[.int .i64 (a : Nat), .int .i64 (z : Nat)], .bool true]) (by simp [results, Tryd.results60, go_sem, c0, c1]) rfl ⟨rfl, ?_⟩
  repeat (first | exact B | refine Below.setCell ?_ (by simp) _)
def noW (n m : Int) (t : ByteArray) : Prop := okS n = false ∨ okS m = false ∨ okT t = false
set_option maxHeartbeats 1000000 in
theorem implWithNo (n m : Int) (t : ByteArray) (w : World) (hl : t.size ≤ maxLen) (h : noW n m t) :
    Calls Tryd.prog 9 #[.int .i64 n, .int .i64 m, .string t] w fun e w' => e = .returned (.tuple #[pv 0 0, .bool false]) ∧ Below w.heap.size w w' := by
  unfold noW at h
  have S := Lib.hid (fun W => isSecret m W)
  have T := Lib.hid (fun W => isMessage t W hl)
  unfold pv
  cases hn : okS n
  · have K := Lib.hid (fun W => implForNo n W hn)
    clear h hn
    go_enter Tryd.func9, Tryd.ntmps9
    go_wp2_with fail
    refine (K.out _).mono ?_
    rintro e w' ⟨rfl, rfl⟩
    go_wp2
    refine bodyPost_ret (v := .tuple #[.agg #[.int .i64 0, .int .i64 0], .bool false]) (by simp [results, Tryd.results9, go_sem]) rfl ⟨rfl, ?_⟩
    repeat (first | exact al1 _ _ | refine Below.setCell ?_ (by simp) _)
  · obtain ⟨k, rfl, h1, h2⟩ := okS_yes hn
    have K := Lib.hid (fun W => implFor k W h1 h2)
    generalize pw 4 k = b at *
    have h' : okS m = false ∨ okT t = false := by simpa [hn] using h
    clear h hn
    generalize okS m = c at *
    generalize okT t = d at *
    cases c
    · clear h'
      go_enter Tryd.func9, Tryd.ntmps9
      go_wp2_with fail
      refine (K.out _).mono ?_
      rintro e w' ⟨rfl, rfl⟩
      go_wp2_with fail
      refine (S.out _).mono ?_
      rintro e w' ⟨rfl, rfl⟩
      go_wp2
      refine bodyPost_ret (v := .tuple #[.agg #[.int .i64 0, .int .i64 0], .bool false]) (by simp [results, Tryd.results9, go_sem]) rfl ⟨rfl, ?_⟩
      repeat (first | exact al1 _ _ | refine Below.setCell ?_ (by simp) _)
    · obtain rfl : d = false := by simpa using h'
      clear h'
      go_enter Tryd.func9, Tryd.ntmps9
      go_wp2_with fail
      refine (K.out _).mono ?_
      rintro e w' ⟨rfl, rfl⟩
      go_wp2_with fail
      refine (S.out _).mono ?_
      rintro e w' ⟨rfl, rfl⟩
      go_wp2_with fail
      refine (T.out _).mono ?_
      rintro e w' ⟨rfl, rfl⟩
      go_wp2
      refine bodyPost_ret (v := .tuple #[.agg #[.int .i64 0, .int .i64 0], .bool false]) (by simp [results, Tryd.results9, go_sem]) rfl ⟨rfl, ?_⟩
      repeat (first | exact al1 _ _ | refine Below.setCell ?_ (by simp) _)
set_option maxHeartbeats 1000000 in
theorem specWithNo (n m : Int) (t : ByteArray) (w : World) (hl : t.size ≤ maxLen) (h : noW n m t) :
    Calls Tryd.prog 60 #[.int .i64 n, .int .i64 m, .string t] w fun e w' => e = .returned (.tuple #[pv 0 0, .bool false]) ∧ Below w.heap.size w w' := by
  unfold noW at h
  have K := Lib.hid (fun W => l6Secret n W)
  have S := Lib.hid (fun W => l6Secret m W)
  have T := Lib.hid (fun W => l6Text t W hl)
  unfold pv
  generalize okS n = a at *
  generalize okS m = c at *
  generalize okT t = d at *
  cases a
  · clear h
    go_enter Tryd.func60, Tryd.ntmps60
    go_wp2_with fail
    refine (K.out _).mono ?_
    rintro e w' ⟨rfl, rfl⟩
    go_wp2
    refine bodyPost_ret (v := .tuple #[.agg #[.int .i64 0, .int .i64 0], .bool false]) (by simp [results, Tryd.results60, go_sem]) rfl ⟨rfl, ?_⟩
    repeat (first | exact al1 _ _ | refine Below.setCell ?_ (by simp) _)
  · cases c
    · clear h
      go_enter Tryd.func60, Tryd.ntmps60
      go_wp2_with fail
      refine (K.out _).mono ?_
      rintro e w' ⟨rfl, rfl⟩
      go_wp2_with fail
      refine (S.out _).mono ?_
      rintro e w' ⟨rfl, rfl⟩
      go_wp2
      refine bodyPost_ret (v := .tuple #[.agg #[.int .i64 0, .int .i64 0], .bool false]) (by simp [results, Tryd.results60, go_sem]) rfl ⟨rfl, ?_⟩
      repeat (first | exact al1 _ _ | refine Below.setCell ?_ (by simp) _)
    · obtain rfl : d = false := by simpa using h
      clear h
      go_enter Tryd.func60, Tryd.ntmps60
      go_wp2_with fail
      refine (K.out _).mono ?_
      rintro e w' ⟨rfl, rfl⟩
      go_wp2_with fail
      refine (S.out _).mono ?_
      rintro e w' ⟨rfl, rfl⟩
      go_wp2_with fail
      refine (T.out _).mono ?_
      rintro e w' ⟨rfl, rfl⟩
      go_wp2
      refine bodyPost_ret (v := .tuple #[.agg #[.int .i64 0, .int .i64 0], .bool false]) (by simp [results, Tryd.results60, go_sem]) rfl ⟨rfl, ?_⟩
      repeat (first | exact al1 _ _ | refine Below.setCell ?_ (by simp) _)
end Go.Proofs.YtfoclgijhkibeabDoor.Sgn
