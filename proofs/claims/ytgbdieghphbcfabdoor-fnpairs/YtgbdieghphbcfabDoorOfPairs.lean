/-
  Runes of UTF-16 units: contracts of the reference and of the program. For every list of numbers both answer alike; the answer's row is the call's own.
-/
import Derived.Test.YtgbdieghphbcfabDoorPairs
import Derived.Test.YtgbdieghphbcfabDoorMark
namespace Go.Proofs.YtgbdieghphbcfabDoor.OfPairs
open Go.ChangeShapes Go.WideShapes Go.ChangeAt Go.RowKit
open Go.Proofs.YtgbdieghphbcfabDoor.Mem Go.Proofs.YtgbdieghphbcfabDoor.Rune Go.Proofs.YtgbdieghphbcfabDoor.Ints Go.Proofs.YtgbdieghphbcfabDoor.Mark Go.Proofs.YtgbdieghphbcfabDoor.Pairs
set_option linter.unusedVariables false

def isHi (a : Int) : Bool := decide (55296 ≤ a ∧ a ≤ 56319)
def isLo (a : Int) : Bool := decide (56320 ≤ a ∧ a ≤ 57343)
def comb (a b : Int) : Int := 65536 + (a - 55296) * 1024 + (b - 56320)
/-- What the reference reads: a lone half stays as it is. -/
def loose : List Int → Option (List Int)
  | [] => some []
  | [a] => if 0 ≤ a ∧ a ≤ 65535 then some [a] else none
  | a :: b :: r => if isHi a && isLo b then (loose r).map (comb a b :: ·) else if 0 ≤ a ∧ a ≤ 65535 then (loose (b :: r)).map (a :: ·) else none
/-- What the program reads at the front. -/
def front : List Int → Option (Int × Nat)
  | [] => none
  | a :: r => if a < 65536 ∧ goodR a = true then some (a, 1) else
    match r with
    | [] => none
    | b :: _ => if isHi a && isLo b then some (comb a b, 2) else none
theorem loose_single (a : Int) : loose [a] = if 0 ≤ a ∧ a ≤ 65535 then some [a] else none := by simp only [loose]
theorem loose_two (a b : Int) (r : List Int) : loose (a :: b :: r) = if (isHi a && isLo b) = true then (loose r).map (comb a b :: ·) else if 0 ≤ a ∧ a ≤ 65535 then (loose (b :: r)).map (a :: ·) else none := by simp only [loose]
theorem front_single (a : Int) : front [a] = if a < 65536 ∧ goodR a = true then some (a, 1) else none := rfl
theorem front_two (a b : Int) (r : List Int) : front (a :: b :: r) = if a < 65536 ∧ goodR a = true then some (a, 1) else if (isHi a && isLo b) = true then some (comb a b, 2) else none := rfl
def resO (l : List Int) : List Int := if l.length ≤ 120 then (match loose l with | some o => if okL o then o else [] | none => []) else []
def okO (l : List Int) : Bool := if l.length ≤ 120 then (match loose l with | some o => okL o | none => false) else false
theorem resO_len (l : List Int) : (resO l).length ≤ 120 := by
  unfold resO
  split
  · split
    · split
      · rename_i h
        unfold okL at h
        have h2 := of_decide_eq_true (Bool.and_eq_true_iff.1 h).2
        omega
      · simp
    · simp
  · simp
theorem long_no {l : List Int} (h : 120 < l.length) : resO l = [] ∧ okO l = false := by
  unfold resO okO; rw [if_neg (by omega), if_neg (by omega)]; exact ⟨rfl, rfl⟩
theorem none_no {l : List Int} (h : loose l = none) : resO l = [] ∧ okO l = false := by
  unfold resO okO; rw [h]; constructor <;> split <;> rfl
theorem bad_no {l o : List Int} (h : loose l = some o) (hb : okL o = false) : resO l = [] ∧ okO l = false := by
  unfold resO okO; rw [h]; simp only [hb]; constructor <;> split <;> rfl
theorem good_yes {l o : List Int} (hl : l.length ≤ 120) (h : loose l = some o) (hb : okL o = true) : resO l = o ∧ okO l = true := by
  unfold resO okO; rw [h, if_pos hl, if_pos hl]; simp only [hb, if_true, and_self]
theorem isHi_bd {a : Int} : isHi a = true ↔ (55296 ≤ a ∧ a ≤ 56319) := by unfold isHi; exact decide_eq_true_iff
theorem isLo_bd {a : Int} : isLo a = true ↔ (56320 ≤ a ∧ a ≤ 57343) := by unfold isLo; exact decide_eq_true_iff
theorem comb_good {a b : Int} (h : (isHi a && isLo b) = true) : goodR (comb a b) = true := by
  obtain ⟨h1, h2⟩ := Bool.and_eq_true_iff.1 h
  have := isHi_bd.1 h1
  have := isLo_bd.1 h2
  exact goodR_yes (.inr (by unfold comb; omega))
theorem hi_bad {a : Int} (h : isHi a = true) : goodR a = false := goodR_no (by have := isHi_bd.1 h; omega)
/-- The front by the reference. -/
theorem loose_pair {a b : Int} {r : List Int} (h : (isHi a && isLo b) = true) : loose (a :: b :: r) = (loose r).map (comb a b :: ·) := by
  rw [loose_two, if_pos h]
theorem loose_one {a : Int} {r : List Int} (h : ∀ b t, r = b :: t → (isHi a && isLo b) = false) (ha : 0 ≤ a ∧ a ≤ 65535) : loose (a :: r) = (loose r).map (a :: ·) := by
  cases r with
  | nil => rw [loose_single, if_pos ha]; rfl
  | cons b t => rw [loose_two, h b t rfl, if_neg (by decide), if_pos ha]
theorem loose_no {a : Int} {r : List Int} (h : ∀ b t, r = b :: t → (isHi a && isLo b) = false) (ha : ¬ (0 ≤ a ∧ a ≤ 65535)) : loose (a :: r) = none := by
  cases r with
  | nil => rw [loose_single, if_neg ha]
  | cons b t => rw [loose_two, h b t rfl, if_neg (by decide), if_neg ha]
/-- The front by the program. -/
theorem front_good {a : Int} (r : List Int) (h : a < 65536 ∧ goodR a = true) : front (a :: r) = some (a, 1) := by
  cases r with
  | nil => rw [front_single, if_pos h]
  | cons b t => rw [front_two, if_pos h]
theorem front_pair {a b : Int} (r : List Int) (h : ¬ (a < 65536 ∧ goodR a = true)) (hp : (isHi a && isLo b) = true) : front (a :: b :: r) = some (comb a b, 2) := by rw [front_two, if_neg h, if_pos hp]
theorem front_fail {a : Int} {r : List Int} (h : ¬ (a < 65536 ∧ goodR a = true)) (hp : ∀ b t, r = b :: t → (isHi a && isLo b) = false) : front (a :: r) = none := by
  cases r with
  | nil => rw [front_single, if_neg h]
  | cons b t => rw [front_two, if_neg h, hp b t rfl, if_neg (by decide)]
theorem good_key {a : Int} (h : a < 65536 ∧ goodR a = true) (r : List Int) : ∀ b t, r = b :: t → (isHi a && isLo b) = false := fun b t _ => by
  rcases hh : isHi a with _ | _
  · rfl
  · rw [hi_bad hh] at h; cases h.2
theorem loose_good {a : Int} (r : List Int) (h : a < 65536 ∧ goodR a = true) : loose (a :: r) = (loose r).map (a :: ·) := by
  have hb := goodR_bd h.2
  exact loose_one (good_key h r) ⟨hb.1, by omega⟩
/-- Where the program finds no rune at the front, the reference's list has a number that is none. -/
theorem fail_bad {a : Int} {r : List Int} (h : ¬ (a < 65536 ∧ goodR a = true)) (hp : ∀ b t, r = b :: t → (isHi a && isLo b) = false) : ∀ o, loose (a :: r) = some o → o.all goodR = false := by
  intro o ho
  by_cases ha : 0 ≤ a ∧ a ≤ 65535
  · rw [loose_one hp ha] at ho
    cases hr : loose r with
    | none => rw [hr] at ho; cases ho
    | some o' =>
      rw [hr] at ho
      obtain rfl : a :: o' = o := by simpa using ho
      have : goodR a = false := by
        rcases hg : goodR a with _ | _
        · rfl
        · exact absurd ⟨by omega, hg⟩ h
      simp [this]
  · rw [loose_no hp ha] at ho; cases ho
theorem map_snoc {o : Option (List Int)} {rs : List Int} {x : Int} : (o.map (x :: ·)).map (rs ++ ·) = o.map ((rs ++ [x]) ++ ·) := by
  cases o <;> simp
theorem drop_cons {zs : List Int} {k : Nat} (h : k < zs.length) : zs.drop k = zs[k] :: zs.drop (k + 1) := List.drop_eq_getElem_cons h
def frontV : Option (Int × Nat) → Value
  | some (x, k) => .tuple #[.int .i64 x, .int .i64 k, .bool true]
  | none => .tuple #[.int .i64 0, .int .i64 0, .bool false]
theorem rd_cell {w : World} {B n : Nat} {b off : Nat} {zs : List Int} (h : Rd w B 1 (some ⟨b, off, none⟩) n (ints zs)) (k : Nat) (hk : k < zs.length) : w.cell? ⟨b, off + k, none⟩ = some (.int .i64 zs[k]) := by
  have lx := h.len
  obtain ⟨b', off', hl, e, _, hc⟩ := h.int (k := k) (by omega)
  obtain ⟨rfl, rfl⟩ : b = b' ∧ off = off' := by simpa using e
  exact hc
set_option maxHeartbeats 1000000 in
theorem frontRune (A : Option Addr) (n c : Nat) (zs : List Int) (B : Nat) (w : World) (hn0 : 0 < n) (hn : n ≤ 120) (hx : Rd w B 1 A n (ints zs)) :
    Calls Tryd.prog 60 #[.slice A n c] w fun e w' => e = .returned (frontV (front zs)) ∧ w = w' := by
  have lx := hx.len
  obtain ⟨b, off, rfl, hbB, _⟩ := hx.2 hn0
  subst lx
  obtain ⟨a, r, rfl⟩ : ∃ a r, zs = a :: r := by
    cases zs with
    | nil => simp at hn0
    | cons a r => exact ⟨a, r, rfl⟩
  have c0 := rd_cell hx 0 (by simp)
  simp only [List.getElem_cons_zero, Nat.add_zero] at c0
  have G := Lib.hid implGood
  by_cases hg : a < 65536 ∧ goodR a = true
  · rw [front_good r hg]
    obtain ⟨h1, h2⟩ := hg
    have H2 := Lib.hid h2
    clear h2 hx
    go_enter Tryd.func60, Tryd.ntmps60
    go_wp2_with (first | (go_at_call 33; refine (G.out _ _).mono ?_; rintro e' w' ⟨rfl, rfl⟩; rw [H2.out]) | go_in)
    go_ret3
    exact ⟨rfl, rfl⟩
  by_cases h1 : 65536 ≤ a
  · rw [front_fail hg (fun b t _ => by rw [show isHi a = false from by unfold isHi; exact decide_eq_false (by omega)]; rfl)]
    clear hg hx
    go_enter Tryd.func60, Tryd.ntmps60
    go_wp2
    go_ret3
    exact ⟨rfl, rfl⟩
  have h2 : goodR a = false := by
    rcases h : goodR a with _ | _
    · rfl
    · exact absurd ⟨by omega, h⟩ hg
  have H2 := Lib.hid h2
  by_cases h3 : a < 55296
  · rw [front_fail hg (fun b t _ => by rw [show isHi a = false from by unfold isHi; exact decide_eq_false (by omega)]; rfl)]
    clear hg hx h2
    go_enter Tryd.func60, Tryd.ntmps60
    go_wp2_with (first | (go_at_call 33; refine (G.out _ _).mono ?_; rintro e' w' ⟨rfl, rfl⟩; rw [H2.out]) | go_in)
    go_ret3
    exact ⟨rfl, rfl⟩
  by_cases h4 : 56320 ≤ a
  · rw [front_fail hg (fun b t _ => by rw [show isHi a = false from by unfold isHi; exact decide_eq_false (by omega)]; rfl)]
    clear hg hx h2
    go_enter Tryd.func60, Tryd.ntmps60
    go_wp2_with (first | (go_at_call 33; refine (G.out _ _).mono ?_; rintro e' w' ⟨rfl, rfl⟩; rw [H2.out]) | go_in)
    go_ret3
    exact ⟨rfl, rfl⟩
  have hh : isHi a = true := isHi_bd.2 (by omega)
  cases r with
  | nil =>
    rw [front_fail hg (fun b t h => by cases h)]
    clear hg hx h2 hh
    go_enter Tryd.func60, Tryd.ntmps60
    go_wp2_with (first | (go_at_call 33; refine (G.out _ _).mono ?_; rintro e' w' ⟨rfl, rfl⟩; rw [H2.out]) | go_in)
    go_ret3
    exact ⟨rfl, rfl⟩
  | cons d t =>
    have c1 := rd_cell hx 1 (by simp)
    simp only [List.getElem_cons_succ, List.getElem_cons_zero] at c1
    have hl1 : (((d :: t).length + 1 : Nat) : Int) ≠ 1 := by simp only [List.length_cons]; omega
    have hl2 : ((((a :: d :: t).length : Nat) : Int) == 1) = false := by rw [beq_eq_false_iff_ne]; simp only [List.length_cons]; omega
    have hl3 : 1 < (((a :: d :: t).length : Nat) : Int) := by simp only [List.length_cons]; omega
    generalize (a :: d :: t).length = m at *
    by_cases h5 : d < 56320
    · rw [front_fail hg (fun b t h => by obtain ⟨rfl, _⟩ := List.cons.inj h; rw [show isLo d = false from by unfold isLo; exact decide_eq_false (by omega)]; simp)]
      clear hg hx h2 hh hl1
      go_enter Tryd.func60, Tryd.ntmps60
      go_wp2_with (first | (go_at_call 33; refine (G.out _ _).mono ?_; rintro e' w' ⟨rfl, rfl⟩; rw [H2.out]) | go_in)
      go_ret3
      exact ⟨rfl, rfl⟩
    by_cases h6 : 57343 < d
    · rw [front_fail hg (fun b t h => by obtain ⟨rfl, _⟩ := List.cons.inj h; rw [show isLo d = false from by unfold isLo; exact decide_eq_false (by omega)]; simp)]
      clear hg hx h2 hh hl1
      go_enter Tryd.func60, Tryd.ntmps60
      go_wp2_with (first | (go_at_call 33; refine (G.out _ _).mono ?_; rintro e' w' ⟨rfl, rfl⟩; rw [H2.out]) | go_in)
      go_ret3
      exact ⟨rfl, rfl⟩
    · rw [front_pair t hg (by rw [hh, show isLo d = true from isLo_bd.2 (by omega)]; rfl)]
      clear hg hx h2 hh hl1
      unfold comb
      go_enter Tryd.func60, Tryd.ntmps60
      go_wp2_with (first | (go_at_call 33; refine (G.out _ _).mono ?_; rintro e' w' ⟨rfl, rfl⟩; rw [H2.out]) | go_in)
      go_ret3
      exact ⟨rfl, rfl⟩
theorem ints_snoc (rs : List Int) (x : Int) : ints rs ++ [.int .i64 x] = ints (rs ++ [x]) := by simp [ints]
theorem len_snoc (rs : List Int) (x : Int) : rs.length + 1 = (rs ++ [x]).length := by simp
theorem all_end {rs : List Int} {x : Int} (h : rs.all goodR = true) (hx : goodR x = true) : (rs ++ [x]).all goodR = true := by rw [List.all_append, h]; simp [hx]
theorem bad_end {zs rs l : List Int} (he : loose zs = (loose l).map (rs ++ ·)) (hb : ∀ o, loose l = some o → o.all goodR = false) : resO zs = [] ∧ okO zs = false := by
  cases h : loose l with
  | none => rw [h] at he; exact none_no he
  | some o =>
    rw [h] at he
    refine bad_no he ?_
    unfold okL
    have : (rs ++ o).all goodR = false := by rw [List.all_append, hb o h]; simp
    rw [this]; rfl
theorem rd_drop {w : World} {B n k j : Nat} {b off : Nat} {zs : List Int} (h : Rd w B 1 (some ⟨b, off, none⟩) (zs.length - k) (ints (zs.drop k))) (hj : k + j ≤ zs.length) : Rd w B 1 (some ⟨b, off + j, none⟩) (zs.length - (k + j)) (ints (zs.drop (k + j))) := by
  refine ⟨by simp [ints], fun hn => ?_⟩
  obtain ⟨b', off', e, hb, hc⟩ := h.2 (by omega)
  obtain ⟨rfl, rfl⟩ : b = b' ∧ off = off' := by simpa using e
  refine ⟨b, off + j, rfl, hb, fun i u hu => ?_⟩
  have := hc (j + i) u (by rw [← hu]; simp [ints, Nat.add_assoc])
  rw [Nat.add_assoc]; exact this
theorem rd_dropIf {w : World} {B k j c : Nat} {b off : Nat} {zs : List Int} (h : Rd w B 1 (some ⟨b, off, none⟩) (zs.length - k) (ints (zs.drop k))) (hj : k + j ≤ zs.length) (hc : zs.length - k ≤ c) : Rd w B 1 (if c = j then some ⟨b, off, none⟩ else some ⟨b, off + j, none⟩) (zs.length - k - j) (ints (zs.drop (k + j))) := by
  rw [Nat.sub_sub]
  split
  · exact ⟨by simp [ints], fun hn => by omega⟩
  · exact rd_drop (n := 0) h hj
theorem front_len {l : List Int} {x : Int} {k : Nat} (h : front l = some (x, k)) : goodR x = true ∧ (k = 1 ∨ k = 2) ∧ k ≤ l.length ∧ loose l = (loose (l.drop k)).map (x :: ·) := by
  cases l with
  | nil => cases h
  | cons a r =>
    by_cases hg : a < 65536 ∧ goodR a = true
    · rw [front_good r hg] at h
      obtain ⟨rfl, rfl⟩ : a = x ∧ 1 = k := by simpa using h
      exact ⟨hg.2, .inl rfl, by simp, loose_good r hg⟩
    · cases r with
      | nil => rw [front_fail hg (fun b t h => by cases h)] at h; cases h
      | cons d t =>
        rcases hp : (isHi a && isLo d) with _ | _
        · rw [front_fail hg (fun b t h => by obtain ⟨rfl, _⟩ := List.cons.inj h; exact hp)] at h; cases h
        · rw [front_pair t hg hp] at h
          obtain ⟨rfl, rfl⟩ : comb a d = x ∧ 2 = k := by simpa using h
          exact ⟨comb_good hp, .inr rfl, by simp, loose_pair hp⟩
theorem front_no {l : List Int} (hne : l ≠ []) (h : front l = none) : ∀ o, loose l = some o → o.all goodR = false := by
  cases l with
  | nil => exact absurd rfl hne
  | cons a r =>
    by_cases hg : a < 65536 ∧ goodR a = true
    · rw [front_good r hg] at h; cases h
    · refine fail_bad hg ?_
      intro d t hr
      subst hr
      rcases hp : (isHi a && isLo d) with _ | _
      · rfl
      · rw [front_pair t hg hp] at h; cases h
set_option maxHeartbeats 2000000 in
theorem implOf (A : Option Addr) (n c : Nat) (zs : List Int) (B : Nat) (w : World) (hn : n ≤ 1048576) (hcap : n ≤ c) (hc2 : c ≤ 9223372036854775807) (hB : B ≤ w.heap.size) (hx : Rd w B 1 A n (ints zs)) :
    Calls Tryd.prog 38 #[.slice A n c] w fun e w' => ∃ v, e = .returned (.tuple #[v, .bool (okO zs)]) ∧ w'.ownsRow w.heap.size 3 1 v (resO zs).length (ints (resO zs)) ∧ Below w.heap.size w w' := by
  obtain ⟨i0, hi, hz0, hz1, hz2⟩ := info_parts infoI
  have lx := hx.len
  subst lx
  by_cases h120 : 120 < zs.length
  · obtain ⟨h1, h2⟩ := long_no h120
    rw [h1, h2]
    clear hx h1 h2
    go_enter Tryd.func38, Tryd.ntmps38
    go_wp2
    go_ret2
    exact ⟨_, rfl, World.ownsRow_nil _ _ _ _, Below.refl _ _⟩
  have HX := Lib.hid hx
  clear hx
  have F := Lib.hid frontRune
  go_enter Tryd.func38, Tryd.ntmps38
  go_wp2_with (at_make; refine wpList_make_own _ rfl _ _ 25 rfl w.heap.size 3 i0 _ 1 Tryd.underlying25 hi hz0 hz1 .i64 .i64 _ zs.length rfl rfl (by omega) (by rw [hz2]; omega) (by unfold maxLen; omega) (by simp) ?_; intro w2 hown2 hgrow2)
  have hb2 : Below w.heap.size w w2 := (Below.refl _ _).grown hgrow2 (by simp) (fun k hk => by cases hk)
  clear hgrow2
  go_loopw [0, 4] (fun l v wr => ∃ (k : Nat) (A' : Option Addr) (c' : Nat) (rs : List Int), k ≤ zs.length ∧ l = .slice A' (zs.length - k) c' ∧ zs.length - k ≤ c' ∧ c' ≤ 9223372036854775807 ∧ Rd w B 1 A' (zs.length - k) (ints (zs.drop k)) ∧ rs.all goodR = true ∧ loose zs = (loose (zs.drop k)).map (rs ++ ·) ∧ rs.length ≤ k ∧ wr.ownsRow w.heap.size 3 1 v rs.length (ints rs) ∧ Below w.heap.size w wr)
    (fun l _ _ => slen l)
  case atStart => exact ⟨0, A, c, [], Nat.zero_le _, rfl, hcap, hc2, HX.out, rfl, by simp, Nat.le_refl _, hown2, hb2⟩
  case round =>
    obtain ⟨k, A', c', rs, hk, rfl, hcap', hcm, hR, hall, heq, hrl, hown, hb⟩ := hrel
    clear hown2 hb2 HX
    have HA := Lib.hid hall
    have HQ := Lib.hid heq
    have HO := Lib.hid hown
    have HR := Lib.hid hR
    clear hall heq hown hR
    by_cases hlt : k < zs.length
    · obtain ⟨b, off, rfl, hbB, _⟩ := HR.out.2 (by omega)
      have hpos : (0 : Int) < ((zs.length - k : Nat) : Int) := by omega
      have C := Lib.hid (F.out (some ⟨b, off, none⟩) (zs.length - k) c' (zs.drop k) B wr (by omega) (by omega) (HR.out.below hb hB))
      cases hf : front (zs.drop k) with
      | none =>
        have hne : zs.drop k ≠ [] := by rw [drop_cons hlt]; exact List.cons_ne_nil _ _
        obtain ⟨h1, h2⟩ := bad_end HQ.out (front_no hne hf)
        have E := Lib.hid (And.intro h1 h2)
        rw [hf] at C
        unfold frontV at C
        clear h1 h2 hf hne
        go_wp2_with fail
        refine C.out.mono ?_
        rintro e w' ⟨rfl, rfl⟩
        go_wp2
        go_ret2
        rw [E.out.1, E.out.2]
        exact ⟨_, rfl, World.ownsRow_nil _ _ _ _, hb⟩
      | some p =>
        obtain ⟨x, j⟩ := p
        obtain ⟨hg, hj, hjl, hlo⟩ := front_len hf
        rw [hf] at C
        unfold frontV at C
        have hj2 : k + j ≤ zs.length := by simp at hjl; omega
        have hq : loose zs = (loose (zs.drop (k + j))).map ((rs ++ [x]) ++ ·) := by
          rw [HQ.out, hlo, map_snoc, List.drop_drop]
        have HA2 := Lib.hid (all_end HA.out hg)
        have HQ2 := Lib.hid hq
        have HR2 := Lib.hid (rd_dropIf HR.out hj2 hcap')
        have HJ := Lib.hid hj
        have j0 : (0 : Int) ≤ (j : Int) := by omega
        have j1 : (j : Int) ≤ ((zs.length - k : Nat) : Int) := by omega
        have hj3 : 1 ≤ j := by omega
        clear hf hg hjl hlo hq hj
        have hsz := hb.size
        go_wp2_with fail
        refine C.out.mono ?_
        rintro e w' ⟨rfl, rfl⟩
        go_wp2_with (at_builtin; refine wpList_append_lies _ rfl _ _ _ rfl w.heap.size 3 i0 _ 1 8 Tryd.underlying25 hi hz0 hz1 hz2 rfl (by omega) _ rs.length _ rfl (HO.out.alloc _) ⟨wr.heap.size, 0, none⟩ 1 1 _ rfl rfl (World.news_of_block (heap_alloc_new wr _)) (by simp [Value.oneCell']) (by omega) (by unfold maxLen; omega) (by omega) (by have := hb.size; simp; omega) (wr.heap.size + 1) (by simp) ?_; intro g1 cap1 w1 hown1 hgrow hat hlt1)
        have hb1 : Below w.heap.size w w1 := (hb.alloc hsz _).grown hgrow (by simp; omega) (fun g hg => ownBlock_ge HO.out g hg)
        have HO2 := Lib.hid (own_congr hown1 (len_snoc rs x) (ints_snoc rs x))
        clear hown1 hgrow hat hlt1
        go_wp2
        go_roundw
        case rel => 
          refine ⟨k + j, _, _, rs ++ [x], hj2, by rw [← Nat.sub_sub], ?_, ?_, by rw [← Nat.sub_sub]; exact HR2.out, HA2.out, HQ2.out, ?_, HO2.out, hb1⟩
          · omega
          · omega
          · simp; omega
        case measure => simp [slen]; omega
    · have hfin : loose zs = some rs := by have := HQ.out; rw [List.drop_eq_nil_of_le (by omega)] at this; simpa [loose] using this
      have hz : ((zs.length - k : Nat) : Int) = 0 := by omega
      have hz' : zs.length - k = 0 := by omega
      rw [hz']
      obtain ⟨A1, c1, rfl⟩ := own_shape HO.out
      by_cases h60 : 60 < rs.length
      · obtain ⟨h1, h2⟩ := bad_no hfin (okL_long h60)
        have E := Lib.hid (And.intro h1 h2)
        clear h1 h2 hfin
        go_wp2
        go_ret2
        rw [E.out.1, E.out.2]
        exact ⟨_, rfl, World.ownsRow_nil _ _ _ _, hb⟩
      · obtain ⟨h1, h2⟩ := good_yes (by omega) hfin (by unfold okL; rw [HA.out, Bool.true_and]; exact decide_eq_true (by omega))
        have E := Lib.hid (And.intro h1 h2)
        clear h1 h2 hfin
        go_wp2
        go_ret2
        rw [E.out.1, E.out.2]
        exact ⟨_, rfl, HO.out, hb⟩
set_option maxHeartbeats 2000000 in
theorem specOf (A : Option Addr) (n c : Nat) (zs : List Int) (B : Nat) (w : World) (hn : n ≤ 1048576) (hB : B ≤ w.heap.size) (hx : Rd w B 1 A n (ints zs)) :
    Calls Tryd.prog 40 #[.slice A n c] w fun e w' => ∃ v, e = .returned (.tuple #[v, .bool (okO zs)]) ∧ w'.ownsRow w.heap.size 3 1 v (resO zs).length (ints (resO zs)) ∧ Below w.heap.size w w' := by
  obtain ⟨i0, hi, hz0, hz1, hz2⟩ := info_parts infoI
  have lx := hx.len
  subst lx
  by_cases h120 : 120 < zs.length
  · obtain ⟨h1, h2⟩ := long_no h120
    rw [h1, h2]
    clear hx h1 h2
    go_enter Tryd.func40, Tryd.ntmps40
    go_wp2
    go_ret2
    exact ⟨_, rfl, World.ownsRow_nil _ _ _ _, Below.refl _ _⟩
  have HX := Lib.hid hx
  clear hx
  have L := Lib.hid l2All
  go_enter Tryd.func40, Tryd.ntmps40
  go_wp2
  go_loopw [4, 5] (fun v i wr => ∃ (k : Nat) (rs : List Int), k ≤ zs.length ∧ i = .int .i64 k ∧ loose zs = (loose (zs.drop k)).map (rs ++ ·) ∧ rs.length ≤ k ∧ wr.ownsRow w.heap.size 3 1 v rs.length (ints rs) ∧ Below w.heap.size w wr)
    (fun _ i _ => zs.length - (intOf i).toNat)
  case atStart => exact ⟨0, [], Nat.zero_le _, rfl, by simp, Nat.le_refl _, World.ownsRow_nil _ _ _ _, Below.refl _ _⟩
  case round =>
    obtain ⟨k, rs, hk, rfl, heq, hrl, hown, hb⟩ := hrel
    have HQ := Lib.hid heq
    have HO := Lib.hid hown
    clear heq hown
    by_cases hlt : k < zs.length
    · obtain ⟨b, off, hl, rfl, hbB, hc⟩ := (HX.out.below hb hB).int hlt
      rw [drop_cons hl] at HQ
      have hi0 : (0 : Int) ≤ (k : Int) := Int.natCast_nonneg _
      have hi1 : (k : Int) < (zs.length : Int) := by omega
      have hsz := hb.size
      by_cases hpair : isHi zs[k] = true ∧ ∃ h : k + 1 < zs.length, isLo zs[k + 1] = true
      · obtain ⟨hh, hl1, hlo⟩ := hpair
        have hc1 := rd_cell (HX.out.below hb hB) (k + 1) hl1
        have hi2 : (k : Int) + 1 < (zs.length : Int) := by omega
        have hi3 : (0 : Int) ≤ (k : Int) + 1 := by omega
        rw [drop_cons hl1] at HQ
        have x0 := isHi_bd.1 hh
        have y0 := isLo_bd.1 hlo
        have hp : (isHi zs[k] && isLo zs[k + 1]) = true := by rw [hh, hlo]; rfl
        clear hh hlo
        generalize zs[k] = z at *
        generalize zs[k + 1] = d at *
        obtain ⟨x1, x2⟩ := x0
        obtain ⟨y1, y2⟩ := y0
        have t1 : decide (z ≤ 56319) = true := by simp; omega
        have t2 : decide (d ≤ 57343) = true := by simp; omega
        have HP := Lib.hid (show comb z d = 65536 + (z - 55296) * 1024 + d - 56320 by unfold comb; omega)
        have HPP := Lib.hid hp
        clear hp
        have HQ2 := Lib.hid (show loose zs = (loose (zs.drop (k + 1 + 1))).map ((rs ++ [65536 + (z - 55296) * 1024 + d - 56320]) ++ ·) by rw [HQ.out, loose_pair HPP.out, map_snoc, HP.out])
        go_wp2_with (first | go_in | (at_builtin; refine wpList_append_lies _ rfl _ _ _ rfl w.heap.size 3 i0 _ 1 8 Tryd.underlying25 hi hz0 hz1 hz2 rfl (by omega) _ rs.length _ rfl (HO.out.alloc _) ⟨wr.heap.size, 0, none⟩ 1 1 _ rfl rfl (World.news_of_block (heap_alloc_new wr _)) (by simp [Value.oneCell']) (by omega) (by unfold maxLen; omega) (by omega) (by have := hb.size; simp; omega) (wr.heap.size + 1) (by simp) ?_; intro g1 cap1 w1 hown1 hgrow hat hlt1))
        have hb1 : Below w.heap.size w w1 := (hb.alloc hsz _).grown hgrow (by simp; omega) (fun g hg => ownBlock_ge HO.out g hg)
        have HO2 := Lib.hid (own_congr hown1 (len_snoc rs (65536 + (z - 55296) * 1024 + d - 56320)) (ints_snoc rs (65536 + (z - 55296) * 1024 + d - 56320)))
        clear hown1 hgrow hat hlt1
        go_wp2
        go_roundw
        case rel => exact ⟨k + 1 + 1, _, by omega, by go_num, HQ2.out, by simp; omega, HO2.out, hb1⟩
        case measure => simp [intOf]; omega
      have hkey : ∀ b t, zs.drop (k + 1) = b :: t → (isHi zs[k] && isLo b) = false := by
        intro b t hbt
        have hl1 : k + 1 < zs.length := by
          rcases Nat.lt_or_ge (k + 1) zs.length with h | h
          · exact h
          · rw [List.drop_eq_nil_of_le h] at hbt; cases hbt
        rw [drop_cons hl1] at hbt
        obtain ⟨rfl, _⟩ := List.cons.inj hbt
        rcases hh : isHi zs[k] with _ | _
        · rfl
        · rcases hlo : isLo zs[k + 1] with _ | _
          · rfl
          · exact absurd ⟨hh, hl1, hlo⟩ hpair
      by_cases hlow : zs[k] < 55296
      · clear hpair
        generalize zs[k] = z at *
        by_cases hneg : z < 0
        · obtain ⟨h1, h2⟩ := none_no (show loose zs = none by rw [HQ.out, loose_no hkey (by omega)]; rfl)
          have E := Lib.hid (And.intro h1 h2)
          clear h1 h2 hkey
          have t : decide ((0 : Int) ≤ z) = false := by simp; omega
          go_wp2
          go_ret2
          rw [E.out.1, E.out.2]
          exact ⟨_, rfl, World.ownsRow_nil _ _ _ _, hb⟩
        have t1 : decide (z ≤ 65535) = true := by simp; omega
        have HQ2 := Lib.hid (show loose zs = (loose (zs.drop (k + 1))).map ((rs ++ [z]) ++ ·) by rw [HQ.out, loose_one hkey ⟨by omega, by omega⟩, map_snoc])
        go_wp2_with (first | go_in | (at_builtin; refine wpList_append_lies _ rfl _ _ _ rfl w.heap.size 3 i0 _ 1 8 Tryd.underlying25 hi hz0 hz1 hz2 rfl (by omega) _ rs.length _ rfl (HO.out.alloc _) ⟨wr.heap.size, 0, none⟩ 1 1 _ rfl rfl (World.news_of_block (heap_alloc_new wr _)) (by simp [Value.oneCell']) (by omega) (by unfold maxLen; omega) (by omega) (by have := hb.size; simp; omega) (wr.heap.size + 1) (by simp) ?_; intro g1 cap1 w1 hown1 hgrow hat hlt1))
        have hb1 : Below w.heap.size w w1 := (hb.alloc hsz _).grown hgrow (by simp; omega) (fun g hg => ownBlock_ge HO.out g hg)
        have HO2 := Lib.hid (own_congr hown1 (len_snoc rs z) (ints_snoc rs z))
        clear hown1 hgrow hat hlt1
        go_wp2
        go_roundw
        case rel => exact ⟨k + 1, rs ++ [z], by omega, by go_num, HQ2.out, by simp; omega, HO2.out, hb1⟩
        case measure => simp [intOf]; omega
      by_cases hhigh : 56319 < zs[k]
      · clear hpair
        generalize zs[k] = z at *
        have t0 : decide (z ≤ 56319) = false := by simp; omega
        by_cases hbig : 65535 < z
        · obtain ⟨h1, h2⟩ := none_no (show loose zs = none by rw [HQ.out, loose_no hkey (by omega)]; rfl)
          have E := Lib.hid (And.intro h1 h2)
          clear h1 h2 hkey
          have t : decide (z ≤ 65535) = false := by simp; omega
          go_wp2
          go_ret2
          rw [E.out.1, E.out.2]
          exact ⟨_, rfl, World.ownsRow_nil _ _ _ _, hb⟩
        have t1 : decide (z ≤ 65535) = true := by simp; omega
        have HQ2 := Lib.hid (show loose zs = (loose (zs.drop (k + 1))).map ((rs ++ [z]) ++ ·) by rw [HQ.out, loose_one hkey ⟨by omega, by omega⟩, map_snoc])
        go_wp2_with (first | go_in | (at_builtin; refine wpList_append_lies _ rfl _ _ _ rfl w.heap.size 3 i0 _ 1 8 Tryd.underlying25 hi hz0 hz1 hz2 rfl (by omega) _ rs.length _ rfl (HO.out.alloc _) ⟨wr.heap.size, 0, none⟩ 1 1 _ rfl rfl (World.news_of_block (heap_alloc_new wr _)) (by simp [Value.oneCell']) (by omega) (by unfold maxLen; omega) (by omega) (by have := hb.size; simp; omega) (wr.heap.size + 1) (by simp) ?_; intro g1 cap1 w1 hown1 hgrow hat hlt1))
        have hb1 : Below w.heap.size w w1 := (hb.alloc hsz _).grown hgrow (by simp; omega) (fun g hg => ownBlock_ge HO.out g hg)
        have HO2 := Lib.hid (own_congr hown1 (len_snoc rs z) (ints_snoc rs z))
        clear hown1 hgrow hat hlt1
        go_wp2
        go_roundw
        case rel => exact ⟨k + 1, rs ++ [z], by omega, by go_num, HQ2.out, by simp; omega, HO2.out, hb1⟩
        case measure => simp [intOf]; omega
      have hh : isHi zs[k] = true := isHi_bd.2 (by omega)
      by_cases hl1 : k + 1 < zs.length
      · have hc1 := rd_cell (HX.out.below hb hB) (k + 1) hl1
        have hi2 : (k : Int) + 1 < (zs.length : Int) := by omega
        have hi3 : (0 : Int) ≤ (k : Int) + 1 := by omega
        have hlo : ¬ isLo zs[k + 1] = true := fun h => hpair ⟨hh, hl1, h⟩
        rw [isLo_bd] at hlo
        clear hpair hh
        generalize zs[k] = z at *
        generalize zs[k + 1] = d at *
        have t0 : decide (z ≤ 56319) = true := by simp; omega
        have t1 : decide (z ≤ 65535) = true := by simp; omega
        by_cases h5 : d < 56320
        · clear hlo
          have HQ2 := Lib.hid (show loose zs = (loose (zs.drop (k + 1))).map ((rs ++ [z]) ++ ·) by rw [HQ.out, loose_one hkey ⟨by omega, by omega⟩, map_snoc])
          go_wp2_with (first | go_in | (at_builtin; refine wpList_append_lies _ rfl _ _ _ rfl w.heap.size 3 i0 _ 1 8 Tryd.underlying25 hi hz0 hz1 hz2 rfl (by omega) _ rs.length _ rfl (HO.out.alloc _) ⟨wr.heap.size, 0, none⟩ 1 1 _ rfl rfl (World.news_of_block (heap_alloc_new wr _)) (by simp [Value.oneCell']) (by omega) (by unfold maxLen; omega) (by omega) (by have := hb.size; simp; omega) (wr.heap.size + 1) (by simp) ?_; intro g1 cap1 w1 hown1 hgrow hat hlt1))
          have hb1 : Below w.heap.size w w1 := (hb.alloc hsz _).grown hgrow (by simp; omega) (fun g hg => ownBlock_ge HO.out g hg)
          have HO2 := Lib.hid (own_congr hown1 (len_snoc rs z) (ints_snoc rs z))
          clear hown1 hgrow hat hlt1
          go_wp2
          go_roundw
          case rel => exact ⟨k + 1, rs ++ [z], by omega, by go_num, HQ2.out, by simp; omega, HO2.out, hb1⟩
          case measure => simp [intOf]; omega
        · have t2 : decide (d ≤ 57343) = false := by simp; omega
          clear hlo
          have HQ2 := Lib.hid (show loose zs = (loose (zs.drop (k + 1))).map ((rs ++ [z]) ++ ·) by rw [HQ.out, loose_one hkey ⟨by omega, by omega⟩, map_snoc])
          go_wp2_with (first | go_in | (at_builtin; refine wpList_append_lies _ rfl _ _ _ rfl w.heap.size 3 i0 _ 1 8 Tryd.underlying25 hi hz0 hz1 hz2 rfl (by omega) _ rs.length _ rfl (HO.out.alloc _) ⟨wr.heap.size, 0, none⟩ 1 1 _ rfl rfl (World.news_of_block (heap_alloc_new wr _)) (by simp [Value.oneCell']) (by omega) (by unfold maxLen; omega) (by omega) (by have := hb.size; simp; omega) (wr.heap.size + 1) (by simp) ?_; intro g1 cap1 w1 hown1 hgrow hat hlt1))
          have hb1 : Below w.heap.size w w1 := (hb.alloc hsz _).grown hgrow (by simp; omega) (fun g hg => ownBlock_ge HO.out g hg)
          have HO2 := Lib.hid (own_congr hown1 (len_snoc rs z) (ints_snoc rs z))
          clear hown1 hgrow hat hlt1
          go_wp2
          go_roundw
          case rel => exact ⟨k + 1, rs ++ [z], by omega, by go_num, HQ2.out, by simp; omega, HO2.out, hb1⟩
          case measure => simp [intOf]; omega
      · clear hpair hh
        generalize zs[k] = z at *
        have t0 : decide (z ≤ 56319) = true := by simp; omega
        have t1 : decide (z ≤ 65535) = true := by simp; omega
        have t3 : decide ((k : Int) + 1 < (zs.length : Int)) = false := by simp; omega
        have HQ2 := Lib.hid (show loose zs = (loose (zs.drop (k + 1))).map ((rs ++ [z]) ++ ·) by rw [HQ.out, loose_one hkey ⟨by omega, by omega⟩, map_snoc])
        go_wp2_with (first | go_in | (at_builtin; refine wpList_append_lies _ rfl _ _ _ rfl w.heap.size 3 i0 _ 1 8 Tryd.underlying25 hi hz0 hz1 hz2 rfl (by omega) _ rs.length _ rfl (HO.out.alloc _) ⟨wr.heap.size, 0, none⟩ 1 1 _ rfl rfl (World.news_of_block (heap_alloc_new wr _)) (by simp [Value.oneCell']) (by omega) (by unfold maxLen; omega) (by omega) (by have := hb.size; simp; omega) (wr.heap.size + 1) (by simp) ?_; intro g1 cap1 w1 hown1 hgrow hat hlt1))
        have hb1 : Below w.heap.size w w1 := (hb.alloc hsz _).grown hgrow (by simp; omega) (fun g hg => ownBlock_ge HO.out g hg)
        have HO2 := Lib.hid (own_congr hown1 (len_snoc rs z) (ints_snoc rs z))
        clear hown1 hgrow hat hlt1
        go_wp2
        go_roundw
        case rel => exact ⟨k + 1, rs ++ [z], by omega, by go_num, HQ2.out, by simp; omega, HO2.out, hb1⟩
        case measure => simp [intOf]; omega
    · have hfin : loose zs = some rs := by have := HQ.out; rw [List.drop_eq_nil_of_le (by omega)] at this; simpa [loose] using this
      obtain ⟨A1, c1, rfl⟩ := own_shape HO.out
      have C := Lib.hid (L.out A1 rs.length c1 rs _ wr (by omega) (Rd.own HO.out))
      rcases hg : okL rs with _ | _
      · obtain ⟨h1, h2⟩ := bad_no hfin hg
        have E := Lib.hid (And.intro h1 h2)
        rw [hg] at C
        clear h1 h2 hfin hg
        go_wp2_with fail
        refine C.out.mono ?_
        rintro e w' ⟨rfl, rfl⟩
        go_wp2
        go_ret2
        rw [E.out.1, E.out.2]
        exact ⟨_, rfl, World.ownsRow_nil _ _ _ _, hb⟩
      · obtain ⟨h1, h2⟩ := good_yes (by omega) hfin hg
        have E := Lib.hid (And.intro h1 h2)
        rw [hg] at C
        clear h1 h2 hfin hg
        go_wp2_with fail
        refine C.out.mono ?_
        rintro e w' ⟨rfl, rfl⟩
        go_wp2
        go_ret2
        rw [E.out.1, E.out.2]
        exact ⟨_, rfl, HO.out, hb⟩
theorem implOfPairs (A : Option Addr) (n c : Nat) (zs : List Int) (B : Nat) (w : World) (hn : n ≤ 1048576) (hB : B ≤ w.heap.size) (hx : Rd w B 1 A n (ints zs)) :
    Calls Tryd.prog 38 #[.slice A n n] w fun e w' => ∃ v, e = .returned (.tuple #[v, .bool (okO zs)]) ∧ w'.ownsRow w.heap.size 3 1 v (resO zs).length (ints (resO zs)) ∧ Below w.heap.size w w' :=
  implOf A n n zs B w hn (Nat.le_refl _) (by omega) hB hx
end Go.Proofs.YtgbdieghphbcfabDoor.OfPairs
