/-
  The runes of a string: contracts of the reference and of the program. For every string both answer alike; the answer's row is the call's own. The program's side takes that the library's two tables of UTF-8 are as its text lays them.
-/
import Derived.Test.YtehmlkcnhccjmabDoorAt
import Derived.Test.YtehmlkcnhccjmabDoorMark
import Derived.Lib.OthersKept
namespace Go.Proofs.YtehmlkcnhccjmabDoor.Runes
open Go.ChangeShapes Go.WideShapes Go.ChangeAt Go.RowKit Go.Lib
open Go.Proofs.YtehmlkcnhccjmabDoor.Mem Go.Proofs.YtehmlkcnhccjmabDoor.Rune Go.Proofs.YtehmlkcnhccjmabDoor.Ints Go.Proofs.YtehmlkcnhccjmabDoor.Mark Go.Proofs.YtehmlkcnhccjmabDoor.Enc Go.Proofs.YtehmlkcnhccjmabDoor.Text Go.Proofs.YtehmlkcnhccjmabDoor.Utf Go.Proofs.YtehmlkcnhccjmabDoor.At
set_option linter.unusedVariables false

def runesG : Nat → List UInt8 → Option (List Int)
  | 0, _ => some []
  | f + 1, l => if l = [] then some [] else if bad l then none else (runesG f (l.drop (decodeL l).2)).map (((decodeL l).1 : Int) :: ·)
def runesD (l : List UInt8) : Option (List Int) := runesG l.length l
theorem runesG_nil (f : Nat) : runesG f [] = some [] := by cases f <;> rfl
theorem runesG_more (f : Nat) : ∀ (g : Nat) (l : List UInt8), l.length ≤ f → l.length ≤ g → runesG f l = runesG g l := by
  induction f with
  | zero =>
    intro g l h _
    obtain rfl : l = [] := List.eq_nil_of_length_eq_zero (by omega)
    rw [runesG_nil, runesG_nil]
  | succ f ih =>
    intro g l h hg
    cases g with
    | zero =>
      obtain rfl : l = [] := List.eq_nil_of_length_eq_zero (by omega)
      rw [runesG_nil, runesG_nil]
    | succ g =>
      unfold runesG
      split
      · rfl
      · split
        · rfl
        · rename_i hne hb
          have hw := (enc_decode hne hb).2.2.1
          rw [ih g (l.drop (decodeL l).2) (by rw [List.length_drop]; omega) (by rw [List.length_drop]; omega)]
theorem runesD_nil : runesD [] = some [] := rfl
theorem runesD_bad {l : List UInt8} (hne : l ≠ []) (hb : bad l) : runesD l = none := by
  unfold runesD
  obtain ⟨n, hn⟩ : ∃ n, l.length = n + 1 := ⟨l.length - 1, by have := List.length_pos_iff.2 hne; omega⟩
  rw [hn]; unfold runesG; rw [if_neg hne, if_pos hb]
theorem runesD_good {l : List UInt8} (hne : l ≠ []) (hb : ¬ bad l) : runesD l = (runesD (l.drop (decodeL l).2)).map (((decodeL l).1 : Int) :: ·) := by
  have hw := (enc_decode hne hb).2.2.1
  unfold runesD
  obtain ⟨n, hn⟩ : ∃ n, l.length = n + 1 := ⟨l.length - 1, by have := List.length_pos_iff.2 hne; omega⟩
  rw [hn]
  conv => lhs; unfold runesG
  rw [if_neg hne, if_neg hb, runesG_more n _ _ (by rw [List.length_drop]; omega) (Nat.le_refl _)]
theorem valid_runes (n : Nat) : ∀ l : List UInt8, l.length ≤ n → validD l = (runesD l).isSome := by
  induction n with
  | zero =>
    intro l h
    obtain rfl : l = [] := List.eq_nil_of_length_eq_zero (by omega)
    rfl
  | succ n ih =>
    intro l h
    by_cases hne : l = []
    · subst hne; rfl
    · rw [validD_step l hne]
      by_cases hb : bad l
      · rw [if_pos (show (decodeL l).1 = 65533 ∧ (decodeL l).2 = 1 from hb), runesD_bad hne hb]; rfl
      · have hw := (enc_decode hne hb).2.2.1
        rw [if_neg (show ¬ ((decodeL l).1 = 65533 ∧ (decodeL l).2 = 1) from hb), runesD_good hne hb, ih _ (by rw [List.length_drop]; omega)]
        cases runesD (List.drop (decodeL l).2 l) <;> rfl
theorem decode_tl (s : ByteArray) (k : Nat) (h : k < s.size) : Utf8.decode s k = decodeL (tl s k) := by
  rw [decode_at, decodeL_N, tl_len]
  have e : ∀ i, (s.get! (k + i)).toNat = ((tl s k).getD i 0).toNat := by
    intro i
    congr 1
    rw [← getD_get!']
    unfold tl
    simp [List.getD, List.getElem?_drop]
  have e0 := e 0
  rw [Nat.add_zero] at e0
  rw [e0, e 1, e 2, e 3]
theorem drop_tl (s : ByteArray) (k m : Nat) : (tl s k).drop m = tl s (k + m) := by unfold tl; rw [List.drop_drop]
theorem tl_end {s : ByteArray} {k : Nat} (h : s.size ≤ k) : tl s k = [] := List.drop_eq_nil_of_le (by rw [data_len]; exact h)
theorem count_from (s : ByteArray) (f : Nat) : ∀ (k : Nat) (rs : List Int), s.size - k ≤ f → runesD (tl s k) = some rs → runeCountFrom s f k = rs.length := by
  induction f with
  | zero =>
    intro k rs h hr
    rw [tl_end (by omega), runesD_nil] at hr
    obtain rfl := Option.some.inj hr
    rfl
  | succ f ih =>
    intro k rs h hr
    unfold runeCountFrom
    by_cases hk : k < s.size
    · rw [if_pos hk, decode_tl s k hk]
      by_cases hb : bad (tl s k)
      · rw [runesD_bad (tl_ne hk) hb] at hr; cases hr
      · have hw := (enc_decode (tl_ne hk) hb).2.2.1
        rw [runesD_good (tl_ne hk) hb, drop_tl] at hr
        cases hr2 : runesD (tl s (k + (decodeL (tl s k)).2)) with
        | none => rw [hr2] at hr; cases hr
        | some r2 =>
          rw [hr2] at hr
          obtain rfl := Option.some.inj hr
          rw [ih _ r2 (by omega) hr2]
          simp; omega
    · rw [if_neg hk]
      rw [tl_end (by omega), runesD_nil] at hr
      obtain rfl := Option.some.inj hr
      rfl
theorem tl_zero (s : ByteArray) : tl s 0 = s.data.toList := rfl
theorem count_runes {s : ByteArray} {rs : List Int} (h : runesD s.data.toList = some rs) : runeCount s = rs.length := count_from s s.size 0 rs (by omega) h
def okR (s : ByteArray) : Bool := if s.size ≤ 240 then (match runesD s.data.toList with | some o => decide (o.length ≤ 60) | none => false) else false
def resR (s : ByteArray) : List Int := if s.size ≤ 240 then (match runesD s.data.toList with | some o => if o.length ≤ 60 then o else [] | none => []) else []
theorem r_long {s : ByteArray} (h : 240 < s.size) : resR s = [] ∧ okR s = false := by
  unfold resR okR; rw [if_neg (by omega), if_neg (by omega)]; exact ⟨rfl, rfl⟩
theorem r_none {s : ByteArray} (h : runesD s.data.toList = none) : resR s = [] ∧ okR s = false := by
  unfold resR okR; rw [h]; constructor <;> split <;> rfl
theorem r_many {s : ByteArray} {o : List Int} (h : runesD s.data.toList = some o) (hl : 60 < o.length) : resR s = [] ∧ okR s = false := by
  unfold resR okR; rw [h]; simp only [show ¬ o.length ≤ 60 from by omega, decide_false, if_false]; constructor <;> split <;> rfl
theorem r_yes {s : ByteArray} {o : List Int} (hs : s.size ≤ 240) (h : runesD s.data.toList = some o) (hl : o.length ≤ 60) : resR s = o ∧ okR s = true := by
  unfold resR okR; rw [h, if_pos hs, if_pos hs]; simp only [hl, decide_true, if_true, and_self]
theorem resR_len (s : ByteArray) : (resR s).length ≤ 120 := by
  unfold resR
  split
  · split
    · split
      · omega
      · simp
    · simp
  · simp
theorem map_end {o : Option (List Int)} {rs : List Int} {x : Int} : (o.map (x :: ·)).map (rs ++ ·) = o.map ((rs ++ [x]) ++ ·) := by
  cases o <;> simp
theorem ints_snoc (rs : List Int) (x : Int) : ints rs ++ [.int .i64 x] = ints (rs ++ [x]) := by simp [ints]
theorem len_snoc (rs : List Int) (x : Int) : rs.length + 1 = (rs ++ [x]).length := by simp
/-- What the reference's inner loop returns. -/
def runesV (s : ByteArray) : Bool × List Int := match runesD s.data.toList with | some o => (true, o) | none => (false, [])
set_option maxRecDepth 100000 in
set_option maxHeartbeats 2000000 in
theorem l2Runes (s : ByteArray) (w : World) (hs : s.size ≤ 240) :
    Calls Tryd.prog 78 #[.string s] w fun e w' => ∃ v, e = .returned (.tuple #[v, .bool (runesV s).1]) ∧ w'.ownsRow w.heap.size 3 1 v (runesV s).2.length (ints (runesV s).2) ∧ Below w.heap.size w w' := by
  obtain ⟨i0, hi, hz0, hz1, hz2⟩ := info_parts infoI
  have L := Lib.hid (fun k W hk => l2At s k W hs hk)
  go_enter Tryd.func78, Tryd.ntmps78
  go_wp2
  go_loopw [4, 5] (fun v i wr => ∃ (k : Nat) (rs : List Int), k ≤ s.size ∧ i = .int .i64 k ∧ runesD s.data.toList = (runesD (tl s k)).map (rs ++ ·) ∧ rs.length ≤ k ∧ wr.ownsRow w.heap.size 3 1 v rs.length (ints rs) ∧ Below w.heap.size w wr)
    (fun _ i _ => s.size - (RowKit.intOf i).toNat)
  case atStart => exact ⟨0, [], Nat.zero_le _, rfl, by rw [tl_zero]; simp, Nat.le_refl _, World.ownsRow_nil _ _ _ _, Below.refl _ _⟩
  case round =>
    obtain ⟨k, rs, hk, rfl, heq, hrl, hown, hb⟩ := hrel
    have HQ := Lib.hid heq
    have HO := Lib.hid hown
    clear heq hown
    by_cases hlt : k < s.size
    · have hi1 : (k : Int) < (s.size : Int) := by omega
      have hsz := hb.size
      have C := Lib.hid (L.out k wr hlt)
      by_cases hbad : bad (tl s k)
      · have E := Lib.hid (show runesV s = (false, []) by unfold runesV; rw [HQ.out, runesD_bad (tl_ne hlt) hbad]; rfl)
        rw [show decL (tl s k) = (0, 0) from if_pos hbad] at C
        clear hbad
        go_wp2_with fail
        refine C.out.mono ?_
        rintro e w1 ⟨rfl, hb1⟩
        have hb2 := hb.trans (hb1.mono hsz)
        clear hb1
        go_wp2
        go_ret2
        rw [E.out]
        exact ⟨_, rfl, World.ownsRow_nil _ _ _ _, hb2⟩
      · have h3 := (enc_decode (tl_ne hlt) hbad).2.2.1
        have h4 := (enc_decode (tl_ne hlt) hbad).2.2.2
        have h5 := decodeL_rune (tl s k)
        rw [tl_len] at h4
        rw [show decL (tl s k) = decodeL (tl s k) from if_neg hbad] at C
        have hq : runesD s.data.toList = (runesD (tl s (k + (decodeL (tl s k)).2))).map ((rs ++ [((decodeL (tl s k)).1 : Int)]) ++ ·) := by
          rw [HQ.out, runesD_good (tl_ne hlt) hbad, map_end, drop_tl]
        have HQ2 := Lib.hid hq
        clear hq hbad
        generalize (decodeL (tl s k)).1 = n at *
        generalize (decodeL (tl s k)).2 = m at *
        have t : ((m : Int) == 0) = false := by rw [beq_eq_false_iff_ne]; omega
        go_wp2_with fail
        refine C.out.mono ?_
        rintro e w1 ⟨rfl, hb1⟩
        have hb2 := hb.trans (hb1.mono hsz)
        have HO1 := Lib.hid (own_below HO.out hb1 (Nat.le_refl _))
        have hsz1 := hb2.size
        clear hb1 HO
        go_wp2_with (at_builtin; refine wpList_append_lies _ rfl _ _ _ rfl w.heap.size 3 i0 _ 1 8 Tryd.underlying22 hi hz0 hz1 hz2 rfl (by omega) _ rs.length _ rfl (HO1.out.alloc _) ⟨w1.heap.size, 0, none⟩ 1 1 _ rfl rfl (World.news_of_block (heap_alloc_new w1 _)) (by simp [Value.oneCell']) (by omega) (by unfold maxLen; omega) (by omega) (by simp; omega) (w1.heap.size + 1) (by simp) ?_; intro g1 cap1 w2 hown1 hgrow hat hlt1)
        have hb3 : Below w.heap.size w w2 := (hb2.alloc hsz1 _).grown hgrow (by simp; omega) (fun g hg => ownBlock_ge HO1.out g hg)
        have HO2 := Lib.hid (own_congr hown1 (len_snoc rs (n : Int)) (ints_snoc rs (n : Int)))
        clear hown1 hgrow hat hlt1
        go_wp2
        go_roundw
        case rel => exact ⟨k + m, _, by omega, by go_num, HQ2.out, by simp; omega, HO2.out, hb3⟩
        case measure => simp [RowKit.intOf]; omega
    · have E := Lib.hid (show runesV s = (true, rs) by unfold runesV; rw [HQ.out, tl_end (by omega), runesD_nil]; simp)
      go_wp2
      go_ret2
      rw [E.out]
      exact ⟨_, rfl, HO.out, hb⟩
set_option maxRecDepth 100000 in
set_option maxHeartbeats 1000000 in
theorem specRunes (s : ByteArray) (w : World) (hm : s.size ≤ maxLen) :
    Calls Tryd.prog 32 #[.string s] w fun e w' => ∃ v, e = .returned (.tuple #[v, .bool (okR s)]) ∧ w'.ownsRow w.heap.size 3 1 v (resR s).length (ints (resR s)) ∧ Below w.heap.size w w' := by
  unfold maxLen at hm
  by_cases hs : 240 < s.size
  · obtain ⟨h1, h2⟩ := r_long hs
    rw [h1, h2]
    clear h1 h2
    have t : decide ((s.size : Int) ≤ 240) = false := by simp; omega
    go_enter Tryd.func32, Tryd.ntmps32
    go_wp2
    go_ret2
    exact ⟨_, rfl, World.ownsRow_nil _ _ _ _, Below.refl _ _⟩
  have hs' : (s.size : Int) ≤ 240 := by omega
  have C := Lib.hid (l2Runes s w (by omega))
  unfold runesV at C
  cases hr : runesD s.data.toList with
  | none =>
    obtain ⟨h1, h2⟩ := r_none hr
    rw [h1, h2]
    rw [hr] at C
    clear h1 h2 hr
    go_enter Tryd.func32, Tryd.ntmps32
    go_wp2_with (first | (go_at_call 78; refine C.out.mono ?_; rintro e w1 ⟨v, rfl, ho, hb⟩; have HO := Lib.hid ho; obtain ⟨A1, c1, rfl⟩ := own_shape ho; clear ho) | go_in)
    go_ret2
    exact ⟨_, rfl, World.ownsRow_nil _ _ _ _, hb⟩
  | some o =>
    rw [hr] at C
    simp only at C
    by_cases h60 : 60 < o.length
    · obtain ⟨h1, h2⟩ := r_many hr h60
      rw [h1, h2]
      clear h1 h2 hr
      go_enter Tryd.func32, Tryd.ntmps32
      go_wp2_with (first | (go_at_call 78; refine C.out.mono ?_; rintro e w1 ⟨v, rfl, ho, hb⟩; have HO := Lib.hid ho; obtain ⟨A1, c1, rfl⟩ := own_shape ho; clear ho) | go_in)
      go_ret2
      exact ⟨_, rfl, World.ownsRow_nil _ _ _ _, hb⟩
    · obtain ⟨h1, h2⟩ := r_yes (by omega) hr (by omega)
      rw [h1, h2]
      clear h1 h2 hr
      go_enter Tryd.func32, Tryd.ntmps32
      go_wp2_with (first | (go_at_call 78; refine C.out.mono ?_; rintro e w1 ⟨v, rfl, ho, hb⟩; have HO := Lib.hid ho; obtain ⟨A1, c1, rfl⟩ := own_shape ho; clear ho) | go_in)
      go_ret2
      exact ⟨_, rfl, HO.out, hb⟩
theorem own_not_iter {w : World} {base e size n p k : Nat} {v : Value} {xs : List Value} {s : ByteArray} (h : w.ownsRow base e size v n xs) (hp : w.heap[p]? = some (.stringIter s k)) : v.ownBlock ≠ some p := by
  intro hv
  rcases h.2 with ⟨rfl, _⟩ | ⟨g, cap, cur, rfl, _, hh, _⟩
  · simp [Value.ownBlock] at hv
  · have : g = p := by simpa [Value.ownBlock] using hv
    subst this
    rw [hp] at hh; cases hh
theorem own_iter {w : World} {base e size n p k : Nat} {v : Value} {xs : List Value} {s : ByteArray} (h : w.ownsRow base e size v n xs) (hp : w.heap[p]? = some (.stringIter s k)) (s' : ByteArray) (k' : Nat) : (w.iterAt p s' k').ownsRow base e size v n xs := by
  refine ⟨h.1, ?_⟩
  rcases h.2 with h0 | ⟨g, cap, cur, h1, h2, h3, h4⟩
  · exact .inl h0
  · refine .inr ⟨g, cap, cur, h1, h2, ?_, h4⟩
    rw [Lib.iterAt_other w p g s' k' (fun e => by subst e; rw [hp] at h3; cases h3)]
    exact h3
set_option maxRecDepth 100000 in
set_option maxHeartbeats 2000000 in
theorem implRunes (s : ByteArray) (w : World) (hm : s.size ≤ maxLen) (hT : Lib.Utf8Tabs 1 2 w) :
    Calls Tryd.prog 31 #[.string s] w fun e w' => ∃ v, e = .returned (.tuple #[v, .bool (okR s)]) ∧ w'.ownsRow w.heap.size 3 1 v (resR s).length (ints (resR s)) ∧ Below w.heap.size w w' := by
  obtain ⟨i0, hi, hz0, hz1, hz2⟩ := info_parts infoI
  unfold maxLen at hm
  by_cases hs : 240 < s.size
  · obtain ⟨h1, h2⟩ := r_long hs
    rw [h1, h2]
    clear h1 h2 hT
    have t : (240 : Int) < (s.size : Int) := by omega
    go_enter Tryd.func31, Tryd.ntmps31
    go_wp2
    go_ret2
    exact ⟨_, rfl, World.ownsRow_nil _ _ _ _, Below.refl _ _⟩
  have hs' : (s.size : Int) ≤ 240 := by omega
  have V := Lib.hid (Tryd.utf8_ValidString s w (by omega) hT)
  have RC := Lib.hid (fun W => Tryd.utf8_RuneCountInString s W (by omega))
  rw [valid_runes s.data.toList.length s.data.toList (Nat.le_refl _)] at V
  clear hT
  cases hr : runesD s.data.toList with
  | none =>
    obtain ⟨h1, h2⟩ := r_none hr
    rw [h1, h2]
    rw [hr, Option.isSome_none] at V
    clear h1 h2 hr
    go_enter Tryd.func31, Tryd.ntmps31
    go_wp2_with (first | (go_at_call 75; refine V.out.mono ?_; rintro e w1 ⟨rfl, hb1⟩) | (go_at_call 76; refine (RC.out _).mono ?_; rintro e w2 ⟨rfl, ps, rfl⟩) | go_in)
    go_ret2
    exact ⟨_, rfl, World.ownsRow_nil _ _ _ _, hb1⟩
  | some o =>
    have hcnt := count_runes hr
    rw [hcnt] at RC
    rw [hr, Option.isSome_some] at V
    by_cases h60 : 60 < o.length
    · obtain ⟨h1, h2⟩ := r_many hr h60
      rw [h1, h2]
      clear h1 h2 hr hcnt
      go_enter Tryd.func31, Tryd.ntmps31
      go_wp2_with (first | (go_at_call 75; refine V.out.mono ?_; rintro e w1 ⟨rfl, hb1⟩) | (go_at_call 76; refine (RC.out _).mono ?_; rintro e w2 ⟨rfl, ps, rfl⟩) | go_in)
      go_ret2
      exact ⟨_, rfl, World.ownsRow_nil _ _ _ _, hb1.alloc hb1.size _⟩
    · obtain ⟨h1, h2⟩ := r_yes (by omega) hr (by omega)
      rw [h1, h2]
      have HR := Lib.hid hr
      clear h1 h2 hr hcnt
      go_enter Tryd.func31, Tryd.ntmps31
      go_wp2_with (first | (go_at_call 75; refine V.out.mono ?_; rintro e w1 ⟨rfl, hb1⟩) | (go_at_call 76; refine (RC.out _).mono ?_; rintro e w2 ⟨rfl, ps, rfl⟩) | (at_make; refine wpList_make_own _ rfl _ _ 22 rfl w.heap.size 3 i0 _ 1 Tryd.underlying22 hi hz0 hz1 .i64 .i64 _ s.size rfl rfl (by omega) (by rw [hz2]; omega) (by unfold maxLen; omega) (by have := hb1.size; simp [World.iter]; omega) ?_; intro w2 hown2 hgrow2) | go_in)
      have hb2 : Below w.heap.size w w2 := (hb1.alloc hb1.size (.stringIter s ps)).grown hgrow2 (by have := hb1.size; simp; omega) (fun k hk => by cases hk)
      have hsz2 := hb2.size
      have hown3 : (w2.iter s 0).ownsRow w.heap.size 3 1 _ _ _ := own_below hown2 ((Below.refl w2.heap.size w2).alloc (Nat.le_refl _) _) (Nat.le_refl _)
      have hb3 : Below w.heap.size w (w2.iter s 0) := hb2.alloc hsz2 _
      clear hgrow2 hown2 hb1 hb2
      go_loopw [4] (fun v wr => ∃ (k : Nat) (rs : List Int), k ≤ s.size ∧ some o = (runesD (tl s k)).map (rs ++ ·) ∧ rs.length ≤ k ∧ wr.heap[w2.heap.size]? = some (.stringIter s k) ∧ wr.ownsRow w.heap.size 3 1 v rs.length (ints rs) ∧ Below w.heap.size w wr)
        (fun _ wr => s.size - wr.iterPos w2.heap.size)
      case atStart => exact ⟨0, [], Nat.zero_le _, by rw [tl_zero, HR.out]; rfl, Nat.le_refl _, World.iter_heap _ _ _, hown3, hb3⟩
      case round =>
        obtain ⟨k, rs, hk, heq, hrl, hit, hown, hb⟩ := hrel
        clear hown3 hb3 HR
        have HQ := Lib.hid heq
        clear heq
        by_cases hlt : k < s.size
        · have hbad : ¬ bad (tl s k) := fun h => by have := HQ.out; rw [runesD_bad (tl_ne hlt) h] at this; cases this
          have h3 := (enc_decode (tl_ne hlt) hbad).2.2.1
          have h4 := (enc_decode (tl_ne hlt) hbad).2.2.2
          have h5 := decodeL_rune (tl s k)
          rw [tl_len] at h4
          have hq : some o = (runesD (tl s (k + (decodeL (tl s k)).2))).map ((rs ++ [((decodeL (tl s k)).1 : Int)]) ++ ·) := by
            rw [HQ.out, runesD_good (tl_ne hlt) hbad, map_end, drop_tl]
          have HQ2 := Lib.hid hq
          have hnx : ∀ ty, (Instr.next (.pointer (some ⟨w2.heap.size, 0, none⟩)) true ty).run Tryd.prog wr = _ := fun ty => Lib.run_next_any_at wr w2.heap.size s k ty hit hlt
          rw [decode_tl s k hlt] at hnx
          clear hq hbad
          have hmeas : wr.iterPos w2.heap.size = k := by unfold World.iterPos; rw [hit]
          generalize (decodeL (tl s k)).1 = n at *
          generalize (decodeL (tl s k)).2 = m at *
          have hit1 := Lib.iterAt_heap wr w2.heap.size s k (k + m) hit
          have hown1 := own_iter hown hit s (k + m)
          have hb1 : Below w.heap.size w (wr.iterAt w2.heap.size s (k + m)) := Lib.below_iterAt hb hsz2 s (k + m)
          have hsz1 := hb1.size
          generalize wr.iterAt w2.heap.size s (k + m) = W1 at *
          have HO1 := Lib.hid hown1
          have HI1 := Lib.hid hit1
          clear hown hit hb hown1 hit1
          go_wp2_with (at_builtin; refine wpList_append_lies _ rfl _ _ _ rfl w.heap.size 3 i0 _ 1 8 Tryd.underlying22 hi hz0 hz1 hz2 rfl (by omega) _ rs.length _ rfl (HO1.out.alloc _) ⟨W1.heap.size, 0, none⟩ 1 1 _ rfl rfl (World.news_of_block (heap_alloc_new W1 _)) (by simp [Value.oneCell']) (by omega) (by unfold maxLen; omega) (by omega) (by simp; omega) (W1.heap.size + 1) (by simp) ?_; intro g1 cap1 w3 hown1 hgrow hat hlt1)
          have hb3 : Below w.heap.size w w3 := (hb1.alloc hsz1 _).grown hgrow (by simp; omega) (fun g hg => ownBlock_ge HO1.out g hg)
          have hlp : w2.heap.size < W1.heap.size := (Array.getElem?_eq_some_iff.1 HI1.out).1
          have hit3 : w3.heap[w2.heap.size]? = some (.stringIter s (k + m)) := (hgrow.block w2.heap.size (by simp; omega) (fun h => own_not_iter HO1.out HI1.out h.symm)).trans ((Below.heap_alloc _ _ _ hlp).trans HI1.out)
          have HO2 := Lib.hid (own_congr hown1 (len_snoc rs (n : Int)) (ints_snoc rs (n : Int)))
          have HI3 := Lib.hid hit3
          clear hown1 hgrow hat hlt1 hit3
          go_wp2
          go_roundw
          case rel => exact ⟨k + m, _, by omega, HQ2.out, by simp; omega, HI3.out, HO2.out, hb3⟩
          case measure => rw [hmeas]; unfold World.iterPos; rw [HI3.out]; simp only; omega
        · have hnx : ∀ ty, (Instr.next (.pointer (some ⟨w2.heap.size, 0, none⟩)) true ty).run Tryd.prog wr = _ := fun ty => Lib.run_next_end_at wr w2.heap.size s k ty hit hlt
          have E := Lib.hid (show o = rs by have := HQ.out; rw [tl_end (by omega), runesD_nil] at this; simpa using this)
          have HO := Lib.hid hown
          clear hown
          go_wp2
          go_ret2
          rw [E.out]
          exact ⟨_, rfl, HO.out, hb⟩
end Go.Proofs.YtehmlkcnhccjmabDoor.Runes
