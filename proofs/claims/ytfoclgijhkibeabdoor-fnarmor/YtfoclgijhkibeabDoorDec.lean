/-
  Base64 taken back: what both decoders read of a group, the contracts of the reference's search of a sign and of the program's group.
-/
import Derived.Test.YtfoclgijhkibeabDoorSigI
import Derived.Test.YtfoclgijhkibeabDoorShelf
namespace Go.Proofs.YtfoclgijhkibeabDoor.Dec
open Go.ChangeShapes Go.WideShapes Go.ChangeAt Go.RowKit
open Go.Proofs.YtfoclgijhkibeabDoor.Mem Go.Proofs.YtfoclgijhkibeabDoor.SigM Go.Proofs.YtfoclgijhkibeabDoor.SigS Go.Proofs.YtfoclgijhkibeabDoor.SigI
set_option linter.unusedVariables false
set_option maxRecDepth 100000

def sInt (c : UInt8) : Int := match idx c with
  | some n => n
  | none => -1
theorem al_get (j : Nat) (h : j < 64) : alpha[j]'(by simpa [alpha] using h) = al j := by
  unfold al; rw [List.getD_eq_getElem?_getD, List.getElem?_eq_getElem (by simpa [alpha] using h)]; rfl
theorem idx_hit (c : UInt8) (k : Nat) (hk : k < 64) (h : al k = c) (hn : ∀ j, j < k → al j ≠ c) : sInt c = k := by
  have : idx c = some k := by
    unfold idx
    rw [List.findIdx?_eq_some_iff_getElem]
    refine ⟨by simpa [alpha] using hk, by rw [al_get k hk, h]; simp, fun j hj => ?_⟩
    rw [al_get j (by omega)]
    simpa using hn j hj
  unfold sInt; rw [this]
theorem idx_miss (c : UInt8) (hn : ∀ j, j < 64 → al j ≠ c) : sInt c = -1 := by
  have : idx c = none := by
    unfold idx
    rw [List.findIdx?_eq_none_iff]
    intro x hx
    obtain ⟨j, hj, rfl⟩ := List.getElem_of_mem hx
    have hj' : j < 64 := by simpa [alpha] using hj
    rw [al_get j hj']
    simpa using hn j hj'
  unfold sInt; rw [this]
theorem index_all : ∀ n : Fin 256, Lib.indexByte alpha (UInt8.ofNat n.1) = sInt (UInt8.ofNat n.1) := by decide +kernel
theorem index_sign (c : UInt8) : Lib.indexByte alpha c = sInt c := by
  have := index_all ⟨c.toNat, c.toNat_lt⟩
  simpa using this
theorem sInt_val (c : UInt8) : max 0 (sInt c) = (val c : Int) := by
  unfold sInt val
  cases h : idx c with
  | none => rfl
  | some n => simp
theorem sInt_ge (c : UInt8) : -1 ≤ sInt c ∧ sInt c ≤ 63 := by
  unfold sInt
  cases h : idx c with
  | none => simp
  | some n => have := idx_lt c n h; simp; omega
theorem sInt_yes (c : UInt8) (h : 0 ≤ sInt c) : (idx c).isSome = true ∧ sInt c = (val c : Int) := by
  unfold sInt val at *
  cases h' : idx c with
  | none => rw [h'] at h; simp at h
  | some n => simp
theorem sInt_no (c : UInt8) (h : ¬ 0 ≤ sInt c) : (idx c).isSome = false ∧ val c = 0 := by
  unfold sInt val at *
  cases h' : idx c with
  | none => simp
  | some n => rw [h'] at h; simp at h

def numL (x : List UInt8) (j : Nat) : Nat := (x.take j).foldl (fun n c => n * 64 + val c) 0
def cntL (x : List UInt8) (j : Nat) : Nat := ((x.take j).filter fun c => (idx c).isSome).length
theorem numL_step (x : List UInt8) (j : Nat) (h : j < x.length) : numL x (j + 1) = numL x j * 64 + val (x.getD j 0) := by
  unfold numL
  rw [List.take_succ_eq_append_getElem h, List.foldl_append, List.getD_eq_getElem?_getD, List.getElem?_eq_getElem h]; rfl
theorem cntL_step (x : List UInt8) (j : Nat) (h : j < x.length) : cntL x (j + 1) = cntL x j + (if (idx (x.getD j 0)).isSome then 1 else 0) := by
  unfold cntL
  rw [List.take_succ_eq_append_getElem h, List.filter_append, List.length_append, List.getD_eq_getElem?_getD, List.getElem?_eq_getElem h]
  congr 1
  simp [List.filter_cons]
  split <;> rfl
theorem numL_lt (x : List UInt8) : ∀ j, numL x j < 64 ^ j := by
  intro j
  induction j with
  | zero => simp [numL]
  | succ j ih =>
    by_cases h : j < x.length
    · rw [numL_step x j h, Nat.pow_succ]
      have := val_lt (x.getD j 0)
      omega
    · have : numL x (j + 1) = numL x j := by unfold numL; rw [List.take_of_length_le (by omega), List.take_of_length_le (by omega)]
      rw [this, Nat.pow_succ]; omega
theorem cntL_le (x : List UInt8) (j : Nat) : cntL x j ≤ j := by
  unfold cntL
  exact Nat.le_trans (List.length_filter_le _ _) (List.length_take_le _ _)
theorem numL4 (a b c d : UInt8) : numL [a, b, c, d] 4 = num a b c d := by simp [numL, num]
theorem cntL4 (a b c d : UInt8) : cntL [a, b, c, d] 4 = many a b c d := by
  rw [cntL_step _ 3 (by simp), cntL_step _ 2 (by simp), cntL_step _ 1 (by simp), cntL_step _ 0 (by simp)]
  simp [cntL, many]
theorem four (x : List UInt8) (h : x.length = 4) : ∃ a b c d, x = [a, b, c, d] := by
  match x, h with
  | [a, b, c, d], _ => exact ⟨a, b, c, d, rfl⟩
theorem decS_append (k : Nat) : ∀ (a b : List UInt8), a.length = 4 * k → decS (a ++ b) = decS a ++ decS b := by
  induction k with
  | zero => intro a b h; have : a = [] := List.eq_nil_of_length_eq_zero (by omega); subst this; rfl
  | succ k ih =>
    intro a b h
    match a, h with
    | x :: y :: z :: u :: r, h =>
      simp only [List.length_cons] at h
      simp only [List.cons_append, decS, ih r b (by omega), List.append_assoc]
    | [], h => simp at h
    | [_], h => simp at h; omega
    | [_, _], h => simp at h; omega
    | [_, _, _], h => simp at h; omega
theorem decI_append (k : Nat) : ∀ (a b : List UInt8), a.length = 4 * k → decI (a ++ b) = decI a ++ decI b := by
  induction k with
  | zero => intro a b h; have : a = [] := List.eq_nil_of_length_eq_zero (by omega); subst this; rfl
  | succ k ih =>
    intro a b h
    match a, h with
    | x :: y :: z :: u :: r, h =>
      simp only [List.length_cons] at h
      simp only [List.cons_append, decI, ih r b (by omega), List.append_assoc]
    | [], h => simp at h
    | [_], h => simp at h; omega
    | [_, _], h => simp at h; omega
    | [_, _, _], h => simp at h; omega
theorem take4 (l : List UInt8) (m : Nat) : l.take (m + 4) = l.take m ++ (l.drop m).take 4 := List.take_add
theorem decS_step (l : List UInt8) (m : Nat) (h4 : m % 4 = 0) (hm : m + 4 ≤ l.length) : decS (l.take (m + 4)) = decS (l.take m) ++ decS ((l.drop m).take 4) := by
  rw [take4, decS_append (m / 4) _ _ (by rw [List.length_take]; omega)]
theorem decI_step (l : List UInt8) (m : Nat) (h4 : m % 4 = 0) (hm : m + 4 ≤ l.length) : decI (l.take (m + 4)) = decI (l.take m) ++ decI ((l.drop m).take 4) := by
  rw [take4, decI_append (m / 4) _ _ (by rw [List.length_take]; omega)]
theorem decS_four (x : List UInt8) (h : x.length = 4) : decS x = prt (numL x 4) (cntL x 4 - 1) := by
  obtain ⟨a, b, c, d, rfl⟩ := four x h
  rw [numL4, cntL4]; simp [decS, grpS]
theorem decI_four (x : List UInt8) (h : x.length = 4) : decI x = prt (numL x 4) (if x.getD 2 0 = 61 then 1 else if x.getD 3 0 = 61 then 2 else 3) := by
  obtain ⟨a, b, c, d, rfl⟩ := four x h
  rw [numL4]; simp [decI, grpI]
theorem part_len (n k : Nat) (h : k ≤ 3) : (prt n k).length = k := by simp [prt]; omega
theorem part_snoc (n k : Nat) (h : k < 3) : prt n (k + 1) = prt n k ++ [byt n k] := by
  match k, h with
  | 0, _ | 1, _ | 2, _ => rfl
  | k + 3, h => omega

set_option maxHeartbeats 1000000 in
theorem l3Sign (c : UInt8) (w : World) : Calls Tryd.prog 121 #[.int .u8 (c.toNat : Int)] w fun e w' => e = .returned (.int .i64 (sInt c)) ∧ w = w' := by
  go_enter Tryd.func121, Tryd.ntmps121
  go_wp2
  go_loop [3] (fun i => ∃ k : Nat, k ≤ 64 ∧ i = .int .i64 k ∧ Hid (∀ j, j < k → al j ≠ c)) (fun i => 64 - (intOf i).toNat)
  case atStart => exact ⟨0, by omega, rfl, Lib.hid (fun j hj => by omega)⟩
  case round =>
    obtain ⟨k, hk, rfl, HN⟩ := hrel
    by_cases hlt : k < 64
    · go_wp2
      · rename_i e1 e2 _
        rw [al_at _ rfl] at e2
        have e3 : al k = c := by apply UInt8.toNat_inj.1; have := eq_of_beq e2; omega
        have HI := Lib.hid (idx_hit c k hlt e3 HN.out)
        go_ret
        exact ⟨ret_int HI.out.symm, rfl⟩
      · rename_i e1 e2
        rw [al_at _ rfl] at e2
        have e3 : al k ≠ c := by rintro rfl; simp at e2
        go_round
        case rel => exact ⟨k + 1, by omega, by go_num, Lib.hid (fun j hj => by
          by_cases h : j = k
          · subst h; exact e3
          · exact HN.out j (by omega))⟩
        case measure => simp [intOf]; omega
    · obtain rfl : k = 64 := by omega
      have HI := Lib.hid (idx_miss c HN.out)
      go_wp2
      go_ret
      exact ⟨ret_int HI.out.symm, rfl⟩

theorem indexOf (s : ByteArray) (hs : s.data.toList = alpha) (c : UInt8) (w : World) : Calls Tryd.prog 140 #[.string s, .int .u8 (c.toNat : Int)] w fun e w' => e = .returned (.int .i64 (sInt c)) ∧ w = w' := by
  refine (Tryd.strings_IndexByte s (c.toNat : Int) w).mono ?_
  rintro e w' ⟨rfl, rfl⟩
  refine ⟨?_, rfl⟩
  rw [hs, show ((c.toNat : Int)).toNat.toUInt8 = c by simp, index_sign]
theorem or6u (x y : Int) (h0 : 0 ≤ x) (h1 : x ≤ 16777215) (h2 : 0 ≤ y) (h3 : y < 64) : bits .or .u32 (x * 64) y = x * 64 + y :=
  bits_join .u32 32 (by decide) (fun n h0 h1 => by rw [IntKind.wrap_u32]; omega) 6 (x * 64) y (by omega) (by omega) (by omega) h2 (by omega) (by omega)
theorem byt_val (n i : Nat) : Value.int .u8 (((n / 2 ^ (16 - 8 * i) : Nat) : Int) % 256) = byteV (byt n i) := by
  unfold byteV byt
  rw [UInt8.toNat_ofNat']
  congr 1
def cut (x : List UInt8) : Nat := if x.getD 2 0 = 61 then 1 else if x.getD 3 0 = 61 then 2 else 3

set_option maxHeartbeats 2000000 in
theorem loose (g m : Nat) (x : List UInt8) (w : World) (hg : g < w.heap.size) (hx : x.length = 4) (hc : ∀ j, j < 4 → w.cell? ⟨g, m + j, none⟩ = some (.int .u8 ((x.getD j 0).toNat : Int))) :
    Calls Tryd.prog 126 #[.slice (some ⟨g, m, none⟩) 4 4] w fun e w' => e = .returned (.slice (some ⟨w.heap.size, 0, none⟩) (cut x) 3) ∧ w' = w.alloc (.cells #[byteV (byt (numL x 4) 0), byteV (byt (numL x 4) 1), byteV (byt (numL x 4) 2)] 5) := by
  have HX := Lib.hid hx
  have HC := Lib.hid hc
  clear hx hc
  go_enter Tryd.func126, Tryd.ntmps126
  go_wp2
  go_loop [3, 10] (fun n i => ∃ j : Nat, j ≤ 4 ∧ i = .int .i64 j ∧ n = .int .u32 (numL x j)) (fun _ i => 4 - (intOf i).toNat)
  case atStart => exact ⟨0, by omega, rfl, rfl⟩
  case round =>
    obtain ⟨j, hj, rfl, rfl⟩ := hrel
    by_cases hlt : j < 4
    · have hcj := HC.out j hlt
      have HS := Lib.hid (numL_step x j (by rw [HX.out]; exact hlt))
      have hnj : numL x j ≤ 16777215 := by
        have h1 := numL_lt x j
        have h2 : 64 ^ j ≤ 64 ^ 4 := Nat.pow_le_pow_right (by omega) hj
        omega
      have hmx := sInt_val (x.getD j 0)
      have hvl := val_lt (x.getD j 0)
      have hor := or6u (numL x j : Int) (val (x.getD j 0) : Int) (by omega) (by omega) (by omega) (by omega)
      have hge := sInt_ge (x.getD j 0)
      generalize x.getD j 0 = c at *
      generalize numL x j = d at *
      go_wp2_with (go_at_call 140; refine (indexOf _ (by rfl) c _).mono ?_; rintro e w' ⟨rfl, rfl⟩)
      go_round
      case rel => exact ⟨j + 1, by omega, by go_num, by rw [HS.out, Int.natCast_add, Int.natCast_mul]; rfl⟩
      case measure => simp [intOf]; omega
    · obtain rfl : j = 4 := by omega
      have hn := numL_lt x 4
      have c2 := HC.out 2 (by omega)
      have c3 := HC.out 3 (by omega)
      have B0 := byt_val (numL x 4) 0
      have B1 := byt_val (numL x 4) 1
      have B2 := byt_val (numL x 4) 2
      have HK : Hid (cut x = if x.getD 2 0 = 61 then 1 else if x.getD 3 0 = 61 then 2 else 3) := Lib.hid rfl
      generalize x.getD 2 0 = a at *
      generalize x.getD 3 0 = b at *
      generalize hd : numL x 4 = d at *
      have HD := Lib.hid hd
      clear hd
      simp only [Nat.reduceMul, Nat.reduceSub, Nat.reducePow, Nat.div_one, Int.natCast_ediv, Int.cast_ofNat_Int] at B0 B1 B2
      have hn' : d < 16777216 := hn
      have HB0 : Hid (Value.int .u8 ((d : Int) / 65536) = byteV (byt d 0)) := Lib.hid (by rw [← B0]; congr 1; omega)
      have HB1 := Lib.hid B1
      have HB2 := Lib.hid B2
      clear B0 B1 B2
      by_cases ha : a = 61
      · subst ha
        rw [if_pos rfl] at HK
        go_wp2
        go_ret
        exact ⟨by rw [HK.out]; rfl, by rw [HD.out, ← HB0.out, ← HB1.out, ← HB2.out]⟩
      · have ha' : (((a.toNat : Nat) : Int) == 61) = false := by
          simp only [beq_eq_false_iff_ne, ne_eq]
          intro h; apply ha; apply UInt8.toNat_inj.1; show a.toNat = 61; omega
        rw [if_neg ha] at HK
        by_cases hb : b = 61
        · subst hb
          rw [if_pos rfl] at HK
          go_wp2
          go_ret
          exact ⟨by rw [HK.out]; rfl, by rw [HD.out, ← HB0.out, ← HB1.out, ← HB2.out]⟩
        · have hb' : (((b.toNat : Nat) : Int) == 61) = false := by
            simp only [beq_eq_false_iff_ne, ne_eq]
            intro h; apply hb; apply UInt8.toNat_inj.1; show b.toNat = 61; omega
          rw [if_neg hb] at HK
          go_wp2
          go_ret
          exact ⟨by rw [HK.out]; rfl, by rw [HD.out, ← HB0.out, ← HB1.out, ← HB2.out]⟩
end Go.Proofs.YtfoclgijhkibeabDoor.Dec
