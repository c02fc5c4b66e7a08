/-
  The order of strings by their UTF-16 units: contracts of the reference and of the program, and the walk of the law on LessPairs. For every two strings both answer alike. The program's side takes that the library's two tables of UTF-8 are as its text lays them.
-/
import Derived.Test.YtgbdieghphbcfabDoorRunes
import Derived.Test.YtgbdieghphbcfabDoorPairs
namespace Go.Proofs.YtgbdieghphbcfabDoor.Less
open Go.ChangeShapes Go.WideShapes Go.ChangeAt Go.RowKit
open Go.Proofs.YtgbdieghphbcfabDoor.Mem Go.Proofs.YtgbdieghphbcfabDoor.Rune Go.Proofs.YtgbdieghphbcfabDoor.Ints Go.Proofs.YtgbdieghphbcfabDoor.Mark Go.Proofs.YtgbdieghphbcfabDoor.Pairs Go.Proofs.YtgbdieghphbcfabDoor.Runes Go.Proofs.YtgbdieghphbcfabDoor.Utf Go.Proofs.YtgbdieghphbcfabDoor.At
set_option linter.unusedVariables false

def cmpL : List Int → List Int → Int
  | [], [] => 0
  | [], _ :: _ => -1
  | _ :: _, [] => 1
  | a :: x, b :: y => if a < b then -1 else if b < a then 1 else cmpL x y
theorem cmpL_eq {a : Int} (x y : List Int) : cmpL (a :: x) (a :: y) = cmpL x y := by rw [cmpL, if_neg (by omega), if_neg (by omega)]
theorem cmpL_lt {a b : Int} (x y : List Int) (h : a < b) : cmpL (a :: x) (b :: y) = -1 := by rw [cmpL, if_pos h]
theorem cmpL_gt {a b : Int} (x y : List Int) (h : b < a) : cmpL (a :: x) (b :: y) = 1 := by rw [cmpL, if_neg (by omega), if_pos h]
theorem cmpL_end (x : List Int) (y : List Int) (h : x = []) : cmpL x y = if 0 < y.length then -1 else 0 := by
  subst h
  cases y <;> simp [cmpL]
theorem drop_cons {zs : List Int} {k : Nat} (h : k < zs.length) : zs.drop k = zs[k] :: zs.drop (k + 1) := List.drop_eq_getElem_cons h
set_option maxHeartbeats 1000000 in
theorem l2Less (A D : Option Addr) (n m c d : Nat) (xs ys : List Int) (B B' : Nat) (w : World) (hn : n ≤ 1048576) (hm : m ≤ 1048576) (hx : Rd w B 1 A n (ints xs)) (hy : Rd w B' 1 D m (ints ys)) :
    Calls Tryd.prog 48 #[.slice A n c, .slice D m d] w fun e w' => e = .returned (.bool (decide (cmpL xs ys < 0))) ∧ ∃ q, w' = w.drewN q := by
  have lx := hx.len
  have ly := hy.len
  subst lx
  subst ly
  have HX := Lib.hid hx
  have HY := Lib.hid hy
  clear hx hy
  go_enter Tryd.func48, Tryd.ntmps48
  go_wp2
  go_loopw [9] (fun i wr => ∃ k q : Nat, k ≤ xs.length ∧ k ≤ ys.length ∧ i = .int .i64 k ∧ wr = w.drewN q ∧ cmpL xs ys = cmpL (xs.drop k) (ys.drop k)) (fun i _ => xs.length - (intOf i).toNat)
  case atStart => exact ⟨0, 0, by omega, by omega, rfl, rfl, rfl⟩
  case round =>
    obtain ⟨k, q, hk, hk', rfl, rfl, heq⟩ := hrel
    have HQ := Lib.hid heq
    clear heq
    by_cases hlt : k < xs.length
    · obtain ⟨b, off, hl, rfl, _, hc⟩ := HX.out.int hlt
      have i0 : (0 : Int) ≤ (k : Int) := by omega
      have i1 : (k : Int) < (xs.length : Int) := by omega
      by_cases hly : k < ys.length
      · obtain ⟨b', off', hl', rfl, _, hc'⟩ := HY.out.int hly
        have i2 : (k : Int) < (ys.length : Int) := by omega
        have t0 : decide ((ys.length : Int) ≤ (k : Int)) = false := by simp; omega
        rw [drop_cons hl, drop_cons hl'] at HQ
        by_cases h1 : ys[k] < xs[k]
        · have E := Lib.hid (HQ.out.trans (cmpL_gt _ _ h1))
          have t1 : decide (ys[k] < xs[k]) = true := by simpa using h1
          clear HQ
          go_wp2
          go_ret
          exact ⟨by rw [E.out]; rfl, _, rfl⟩
        · have t1 : decide (ys[k] < xs[k]) = false := by simpa using h1
          by_cases h2 : xs[k] < ys[k]
          · have E := Lib.hid (HQ.out.trans (cmpL_lt _ _ h2))
            have t2 : decide (xs[k] < ys[k]) = true := by simpa using h2
            clear HQ
            go_wp2
            go_ret
            exact ⟨by rw [E.out]; rfl, _, rfl⟩
          · have t2 : decide (xs[k] < ys[k]) = false := by simpa using h2
            have HQ2 := Lib.hid (show cmpL xs ys = cmpL (xs.drop (k + 1)) (ys.drop (k + 1)) by rw [HQ.out, show xs[k] = ys[k] from by omega, cmpL_eq])
            clear HQ
            go_wp2
            go_roundw
            case rel => exact ⟨k + 1, _, by omega, by omega, by go_num, rfl, HQ2.out⟩
            case measure => simp [intOf]; omega
      · have t0 : decide ((ys.length : Int) ≤ (k : Int)) = true := by simp; omega
        have t0' : (ys.length : Int) ≤ (k : Int) := by omega
        rw [drop_cons hl, List.drop_eq_nil_of_le (show ys.length ≤ k by omega)] at HQ
        have E := Lib.hid (show cmpL xs ys = 1 by rw [HQ.out, cmpL])
        clear HQ
        go_wp2
        go_ret
        exact ⟨by rw [E.out]; rfl, _, rfl⟩
    · have e := HQ.out
      rw [cmpL_end _ _ (List.drop_eq_nil_of_le (by omega)), List.length_drop] at e
      have E := Lib.hid (show decide (cmpL xs ys < 0) = decide (xs.length < ys.length) by
        rw [e]; apply decide_eq_decide.2; split <;> omega)
      clear e HQ
      go_wp2
      go_ret
      exact ⟨by rw [E.out]; rfl, _, rfl⟩
set_option maxHeartbeats 1000000 in
theorem compareS (A D : Option Addr) (n m c d : Nat) (xs ys : List Int) (B B' : Nat) (w : World) (hn : n ≤ 1048576) (hm : m ≤ 1048576) (hx : Rd w B 1 A n (ints xs)) (hy : Rd w B' 1 D m (ints ys)) :
    Calls Tryd.prog 51 #[.slice A n c, .slice D m d] w fun e w' => e = .returned (.int .i64 (cmpL xs ys)) ∧ ∃ q, w' = w.drewN q := by
  have lx := hx.len
  have ly := hy.len
  subst lx
  subst ly
  have HX := Lib.hid hx
  have HY := Lib.hid hy
  have CC := Lib.hid (fun x y W => Tryd.cmp_Compare_int x y W)
  clear hx hy
  go_enter Tryd.func51, Tryd.ntmps51
  go_wp2
  go_loopw [11] (fun i wr => ∃ k q : Nat, k ≤ xs.length ∧ k ≤ ys.length ∧ i = .int .i64 k ∧ wr = w.drewN q ∧ cmpL xs ys = cmpL (xs.drop k) (ys.drop k)) (fun i _ => xs.length - (intOf i).toNat)
  case atStart => exact ⟨0, 0, by omega, by omega, rfl, rfl, rfl⟩
  case round =>
    obtain ⟨k, q, hk, hk', rfl, rfl, heq⟩ := hrel
    have HQ := Lib.hid heq
    clear heq
    by_cases hlt : k < xs.length
    · obtain ⟨b, off, hl, rfl, _, hc⟩ := HX.out.int hlt
      have i0 : (0 : Int) ≤ (k : Int) := by omega
      have i1 : (k : Int) < (xs.length : Int) := by omega
      by_cases hly : k < ys.length
      · obtain ⟨b', off', hl', rfl, _, hc'⟩ := HY.out.int hly
        have i2 : (k : Int) < (ys.length : Int) := by omega
        rw [drop_cons hl, drop_cons hl'] at HQ
        have C1 := Lib.hid (fun W => CC.out xs[k] ys[k] W)
        by_cases h1 : ys[k] < xs[k]
        · have E := Lib.hid (HQ.out.trans (cmpL_gt _ _ h1))
          rw [show Lib.compareInt xs[k] ys[k] = 1 from by unfold Lib.compareInt; rw [if_neg (by omega), if_pos h1]] at C1
          clear HQ
          go_wp2_with (go_at_call 64; refine (C1.out _).mono ?_; rintro e w' ⟨rfl, rfl⟩)
          go_ret
          exact ⟨by rw [E.out]; rfl, _, rfl⟩
        · by_cases h2 : xs[k] < ys[k]
          · have E := Lib.hid (HQ.out.trans (cmpL_lt _ _ h2))
            rw [show Lib.compareInt xs[k] ys[k] = -1 from by unfold Lib.compareInt; rw [if_pos h2]] at C1
            clear HQ
            go_wp2_with (go_at_call 64; refine (C1.out _).mono ?_; rintro e w' ⟨rfl, rfl⟩)
            go_ret
            exact ⟨by rw [E.out]; rfl, _, rfl⟩
          · have HQ2 := Lib.hid (show cmpL xs ys = cmpL (xs.drop (k + 1)) (ys.drop (k + 1)) by rw [HQ.out, show xs[k] = ys[k] from by omega, cmpL_eq])
            rw [show Lib.compareInt xs[k] ys[k] = 0 from by unfold Lib.compareInt; rw [if_neg h2, if_neg h1]] at C1
            clear HQ
            go_wp2_with (go_at_call 64; refine (C1.out _).mono ?_; rintro e w' ⟨rfl, rfl⟩)
            go_roundw
            case rel => exact ⟨k + 1, _, by omega, by omega, by go_num, rfl, HQ2.out⟩
            case measure => simp [intOf]; omega
      · have t0' : (ys.length : Int) ≤ (k : Int) := by omega
        rw [drop_cons hl, List.drop_eq_nil_of_le (show ys.length ≤ k by omega)] at HQ
        have E := Lib.hid (show cmpL xs ys = 1 by rw [HQ.out, cmpL])
        clear HQ
        go_wp2
        go_ret
        exact ⟨by rw [E.out]; rfl, _, rfl⟩
    · have e := HQ.out
      rw [cmpL_end _ _ (List.drop_eq_nil_of_le (by omega)), List.length_drop] at e
      by_cases hfin : xs.length < ys.length
      · have E := Lib.hid (show cmpL xs ys = -1 by rw [e, if_pos (by omega)])
        have t : (xs.length : Int) < (ys.length : Int) := by omega
        clear e HQ
        go_wp2
        go_ret
        exact ⟨by rw [E.out]; rfl, _, rfl⟩
      · have E := Lib.hid (show cmpL xs ys = 0 by rw [e, if_neg (by omega)])
        have t : (ys.length : Int) ≤ (xs.length : Int) := by omega
        clear e HQ
        go_wp2
        go_ret
        exact ⟨by rw [E.out]; rfl, _, rfl⟩
theorem runesG_good (f : Nat) : ∀ (l : List UInt8) (rs : List Int), runesG f l = some rs → ∀ z ∈ rs, goodR z = true := by
  induction f with
  | zero =>
    intro l rs h z hz
    obtain rfl := Option.some.inj h
    cases hz
  | succ f ih =>
    intro l rs h z hz
    unfold runesG at h
    split at h
    · obtain rfl := Option.some.inj h
      cases hz
    · split at h
      · cases h
      · rename_i hne hb
        cases hr : runesG f (List.drop (Lib.decodeL l).2 l) with
        | none => rw [hr] at h; cases h
        | some r2 =>
          rw [hr] at h
          obtain rfl := Option.some.inj h
          rcases List.mem_cons.1 hz with h1 | h1
          · rw [h1]; exact (enc_decode hne hb).1
          · exact ih _ r2 hr z h1
theorem resR_good (s : ByteArray) : ∀ z ∈ resR s, goodR z = true := by
  unfold resR
  split
  · split
    · rename_i o ho
      split
      · exact runesG_good _ _ o ho
      · intro z hz; cases hz
    · intro z hz; cases hz
  · intro z hz; cases hz
theorem resR_60 (s : ByteArray) : (resR s).length ≤ 60 := by
  unfold resR
  split
  · split
    · split
      · assumption
      · simp
    · simp
  · simp
theorem resR_ok (s : ByteArray) : okL (resR s) = true := by
  unfold okL
  rw [List.all_eq_true.2 (resR_good s), decide_eq_true (resR_60 s)]; rfl
theorem pairsR_len (s : ByteArray) : (pairs (resR s)).length ≤ 120 := by have := pairs_len (resR s); have := resR_60 s; omega
theorem noR {s : ByteArray} (h : okR s = false) : resR s = [] := by
  by_cases hs : s.size ≤ 240
  · unfold okR at h
    unfold resR
    rw [if_pos hs] at h ⊢
    split
    · rename_i o ho
      rw [ho] at h
      rw [if_neg (of_decide_eq_false h)]
    · rfl
  · exact (r_long (by omega)).1
set_option maxHeartbeats 1000000 in
theorem implUnits (s : ByteArray) (w : World) (hm : s.size ≤ maxLen) (hT : Lib.Utf8Tabs 0 1 w) :
    Calls Tryd.prog 50 #[.string s] w fun e w' => ∃ v, e = .returned (.tuple #[v, .bool (okR s)]) ∧ w'.ownsRow w.heap.size 3 1 v (pairs (resR s)).length (ints (pairs (resR s))) ∧ Below w.heap.size w w' := by
  have C := Lib.hid (implRunes s w hm hT)
  have D := Lib.hid (fun A c B W (hB : B ≤ W.heap.size) h => implPairs A (resR s).length c (resR s) B W (by have := resR_60 s; omega) hB h)
  rw [resR_ok s, resP_yes (resR_ok s)] at D
  rcases hk : okR s with _ | _
  · rw [noR hk]
    rw [hk] at C
    clear hk D hT
    go_enter Tryd.func50, Tryd.ntmps50
    go_wp2_with fail
    refine C.out.mono ?_
    rintro e w1 ⟨v, rfl, ho, hb⟩
    clear ho
    go_wp2
    go_ret2
    exact ⟨_, rfl, World.ownsRow_nil _ _ _ _, hb⟩
  · rw [hk] at C
    clear hk hT
    generalize pairs (resR s) = ps at *
    generalize resR s = rs at *
    go_enter Tryd.func50, Tryd.ntmps50
    go_wp2_with fail
    refine C.out.mono ?_
    rintro e w1 ⟨v, rfl, ho, hb⟩
    obtain ⟨A1, c1, rfl⟩ := own_shape ho
    have R1 := Rd.own ho
    have hsz := hb.size
    clear ho
    go_wp2_with fail
    refine (D.out A1 c1 _ w1 (Nat.le_refl _) R1).mono ?_
    rintro e w2 ⟨v2, rfl, ho2, hb2⟩
    have HO := Lib.hid (own_base ho2 hsz)
    have hb3 := hb.trans (hb2.mono hsz)
    clear ho2 hb2 R1
    go_wp2
    go_ret2
    exact ⟨_, rfl, HO.out, hb3⟩
def lessV (a b : ByteArray) : Value := if okR a && okR b then .tuple #[.bool (decide (cmpL (pairs (resR a)) (pairs (resR b)) < 0)), .bool true] else .tuple #[.bool false, .bool false]
set_option maxHeartbeats 2000000 in
theorem implLess (a b : ByteArray) (w : World) (ha : a.size ≤ maxLen) (hb : b.size ≤ maxLen) (hT : Lib.Utf8Tabs 0 1 w) :
    Calls Tryd.prog 16 #[.string a, .string b] w fun e w' => e = .returned (lessV a b) ∧ Below w.heap.size w w' := by
  have C := Lib.hid (implUnits a w ha hT)
  have D := Lib.hid (fun W (h : Below w.heap.size w W) => implUnits b W hb (Utf8Tabs_below hT h))
  have Q := Lib.hid (fun A1 A2 c1 c2 B B' W h1 h2 => compareS A1 A2 (pairs (resR a)).length (pairs (resR b)).length c1 c2 (pairs (resR a)) (pairs (resR b)) B B' W (by have := pairsR_len a; omega) (by have := pairsR_len b; omega) h1 h2)
  unfold lessV
  generalize pairs (resR a) = xs at *
  generalize pairs (resR b) = ys at *
  generalize okR a = ok1 at *
  generalize okR b = ok2 at *
  clear hT
  go_enter Tryd.func16, Tryd.ntmps16
  go_wp2_with fail
  refine C.out.mono ?_
  rintro e w1 ⟨v1, rfl, ho1, hb1⟩
  obtain ⟨A1, c1, rfl⟩ := own_shape ho1
  have hsz := hb1.size
  go_wp2_with fail
  refine (D.out w1 hb1).mono ?_
  rintro e w2 ⟨v2, rfl, ho2, hb2⟩
  obtain ⟨A2, c2, rfl⟩ := own_shape ho2
  have R1 := (Rd.own ho1).below hb2 (Nat.le_refl _)
  have R2 := Rd.own ho2
  have hb3 := hb1.trans (hb2.mono hsz)
  have HR1 := Lib.hid R1
  have HR2 := Lib.hid R2
  clear ho1 ho2 R1 R2 hb1 hb2
  cases ok1
  · go_wp2
    go_ret2
    exact ⟨rfl, hb3⟩
  cases ok2
  · go_wp2
    go_ret2
    exact ⟨rfl, hb3⟩
  · go_wp2_with fail
    refine (Q.out A1 A2 c1 c2 _ _ w2 HR1.out HR2.out).mono ?_
    rintro e w' ⟨rfl, q, rfl⟩
    have hb4 := below_drewN hb3 q
    generalize w2.drewN q = w3 at *
    go_wp2
    go_ret2
    exact ⟨rfl, hb4⟩
set_option maxHeartbeats 2000000 in
theorem specLess (a b : ByteArray) (w : World) (ha : a.size ≤ maxLen) (hb : b.size ≤ maxLen) :
    Calls Tryd.prog 15 #[.string a, .string b] w fun e w' => e = .returned (lessV a b) ∧ Below w.heap.size w w' := by
  have C := Lib.hid (specRunes a w ha)
  have D := Lib.hid (fun W => specRunes b W hb)
  have P1 := Lib.hid (fun A c B W (hB : B ≤ W.heap.size) h => l2Pairs A (resR a).length c (resR a) B W (resR_60 a) hB (resR_good a) h)
  have P2 := Lib.hid (fun A c B W (hB : B ≤ W.heap.size) h => l2Pairs A (resR b).length c (resR b) B W (resR_60 b) hB (resR_good b) h)
  have Q := Lib.hid (fun A1 A2 c1 c2 B B' W h1 h2 => l2Less A1 A2 (pairs (resR a)).length (pairs (resR b)).length c1 c2 (pairs (resR a)) (pairs (resR b)) B B' W (by have := pairsR_len a; omega) (by have := pairsR_len b; omega) h1 h2)
  unfold lessV
  generalize pairs (resR a) = xs at *
  generalize pairs (resR b) = ys at *
  generalize resR a = ra at *
  generalize resR b = rb at *
  generalize okR a = ok1 at *
  generalize okR b = ok2 at *
  go_enter Tryd.func15, Tryd.ntmps15
  go_wp2_with fail
  refine C.out.mono ?_
  rintro e w1 ⟨v1, rfl, ho1, hb1⟩
  obtain ⟨A1, c1, rfl⟩ := own_shape ho1
  have hsz := hb1.size
  go_wp2_with fail
  refine (D.out w1).mono ?_
  rintro e w2 ⟨v2, rfl, ho2, hb2⟩
  obtain ⟨A2, c2, rfl⟩ := own_shape ho2
  have hsz2 := hb2.size
  have R1 := (Rd.own ho1).below hb2 (Nat.le_refl _)
  have R2 := Rd.own ho2
  have hb3 := hb1.trans (hb2.mono hsz)
  have HR1 := Lib.hid R1
  have HR2 := Lib.hid R2
  clear ho1 ho2 R1 R2 hb1 hb2
  cases ok1
  · go_wp2
    go_ret2
    exact ⟨rfl, hb3⟩
  cases ok2
  · go_wp2
    go_ret2
    exact ⟨rfl, hb3⟩
  · go_wp2_with fail
    refine (P1.out A1 c1 _ w2 hsz2 HR1.out).mono ?_
    rintro e w3 ⟨v3, rfl, ho3, hb4⟩
    obtain ⟨A3, c3, rfl⟩ := own_shape ho3
    have hsz3 := hb4.size
    have HR2' := Lib.hid (HR2.out.below hb4 (Nat.le_refl _))
    have hb5 := hb3.trans (hb4.mono (by omega))
    have HO3 := Lib.hid ho3
    clear ho3 hb4 HR2
    go_wp2_with fail
    refine (P2.out A2 c2 _ w3 hsz3 HR2'.out).mono ?_
    rintro e w4 ⟨v4, rfl, ho4, hb6⟩
    obtain ⟨A4, c4, rfl⟩ := own_shape ho4
    have R3 := Lib.hid ((Rd.own HO3.out).below hb6 (Nat.le_refl _))
    have R4 := Lib.hid (Rd.own ho4)
    have hb7 := hb5.trans (hb6.mono (by omega))
    clear ho4 hb6 HO3 HR2'
    go_wp2_with fail
    refine (Q.out A3 A4 c3 c4 _ _ w4 R3.out R4.out).mono ?_
    rintro e w' ⟨rfl, q, rfl⟩
    have hb8 := below_drewN hb7 q
    generalize w4.drewN q = w5 at *
    go_wp2
    go_ret2
    exact ⟨rfl, hb8⟩
theorem lessV_cases (a b : ByteArray) : ∃ x y : Bool, lessV a b = .tuple #[.bool x, .bool y] := by
  unfold lessV; split <;> exact ⟨_, _, rfl⟩
theorem walk (a0 a1 : ByteArray) (w0 : a0.size ≤ maxLen) (w1 : a1.size ≤ maxLen) (w : World) (hT : Lib.Utf8Tabs 0 1 w) :
    Calls Tryd.prog 5 #[.string a0, .string a1] w fun e w' => e = .returned (.bool true) ∧ Below w.heap.size w w' := by
  have S := Lib.hid (specLess a0 a1 w w0 w1)
  have I := Lib.hid (fun W (h : Below w.heap.size w W) => implLess a0 a1 W w0 w1 (Utf8Tabs_below hT h))
  obtain ⟨x, y, e⟩ := lessV_cases a0 a1
  rw [e] at S I
  unfold maxLen at w0 w1
  clear hT e
  by_cases h : 1048576 < a0.size
  · go_enter Tryd.func5, Tryd.ntmps5
    go_wp2
    go_ret
    exact ⟨rfl, Below.refl _ _⟩
  by_cases h' : 1048576 < a1.size
  · go_enter Tryd.func5, Tryd.ntmps5
    go_wp2
    go_ret
    exact ⟨rfl, Below.refl _ _⟩
  go_enter Tryd.func5, Tryd.ntmps5
  go_wp2_with fail
  refine S.out.mono ?_
  rintro e w1 ⟨rfl, hb1⟩
  go_wp2_with fail
  refine (I.out w1 hb1).mono ?_
  rintro e w2 ⟨rfl, hb2⟩
  have hb := hb1.trans (hb2.mono hb1.size)
  clear hb1 hb2
  cases x <;> cases y
  all_goals
    go_wp2
    go_ret
    exact ⟨rfl, hb⟩
end Go.Proofs.YtgbdieghphbcfabDoor.Less
