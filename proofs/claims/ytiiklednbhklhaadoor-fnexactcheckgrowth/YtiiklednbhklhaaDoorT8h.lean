/-
  Both roots that a proof of growth tells, by the reference.
-/
import Derived.Test.YtiiklednbhklhaaDoorT8d
namespace Go.Proofs.YtiiklednbhklhaaDoor.T8h
open Go.ChangeShapes Go.WideShapes Go.ChangeAt Go.RowKit
open Go.Proofs.YtiiklednbhklhaaDoor.Mem Go.Proofs.YtiiklednbhklhaaDoor.Ints Go.Proofs.YtiiklednbhklhaaDoor.Strs Go.Proofs.YtiiklednbhklhaaDoor.ShaComp Go.Proofs.YtiiklednbhklhaaDoor.Digest Go.Proofs.YtiiklednbhklhaaDoor.Mkl Go.Proofs.YtiiklednbhklhaaDoor.Sib Go.Proofs.YtiiklednbhklhaaDoor.Spl Go.Proofs.YtiiklednbhklhaaDoor.Slq Go.Proofs.YtiiklednbhklhaaDoor.Rec Go.Proofs.YtiiklednbhklhaaDoor.T8 Go.Proofs.YtiiklednbhklhaaDoor.T8s Go.Proofs.YtiiklednbhklhaaDoor.T8i Go.Proofs.YtiiklednbhklhaaDoor.T8r Go.Proofs.YtiiklednbhklhaaDoor.T8k Go.Proofs.YtiiklednbhklhaaDoor.T8l Go.Proofs.YtiiklednbhklhaaDoor.T8u Go.Proofs.YtiiklednbhklhaaDoor.T8v Go.Proofs.YtiiklednbhklhaaDoor.T8c
set_option linter.unusedVariables false
set_option maxRecDepth 100000

def gnS (first many : Nat) (one : ByteArray) (b : Bool) (p : List ByteArray) : ByteArray × ByteArray × Bool :=
  (bs (grown dig first many (tl one) b (p.map tl)).1, bs (grown dig first many (tl one) b (p.map tl)).2.1, (grown dig first many (tl one) b (p.map tl)).2.2)
theorem gnS_begin (many : Nat) (one : ByteArray) (p : List ByteArray) : gnS many many one true p = (one, one, decide (p.length = 0)) := by
  unfold gnS; rw [grown_all dig _ _ _ _ _ rfl]; simp [bs_tl]
theorem gnS_one (many : Nat) (one x : ByteArray) : gnS many many one false [x] = (x, x, true) := by
  unfold gnS; rw [grown_all dig _ _ _ _ _ rfl]; simp [bs_tl]
theorem gnS_not (many : Nat) (one : ByteArray) (p : List ByteArray) (h : p.length ≠ 1) : gnS many many one false p = (⟨#[]⟩, ⟨#[]⟩, false) := by
  unfold gnS; rw [grown_all dig _ _ _ _ _ rfl, if_neg (by decide), if_neg (by simpa using h)]; rfl
theorem gnS_nil (first many : Nat) (one : ByteArray) (b : Bool) (h1 : 1 ≤ first) (h : first < many) : gnS first many one b [] = (⟨#[]⟩, ⟨#[]⟩, false) := by
  unfold gnS; rw [List.map_nil, grown_nil dig _ _ _ _ h1 h]; rfl
theorem gnS_two (first many : Nat) (one : ByteArray) (b : Bool) (q : List ByteArray) (x : ByteArray) (h1 : 1 ≤ first) (h : first < many) : gnS first many one b (q ++ [x]) =
    if first ≤ split many then ((gnS first (split many) one b q).1, bs (pairD dig (tl (gnS first (split many) one b q).2.1) (tl x)), (gnS first (split many) one b q).2.2)
    else (bs (pairD dig (tl x) (tl (gnS (first - split many) (many - split many) one false q).1)), bs (pairD dig (tl x) (tl (gnS (first - split many) (many - split many) one false q).2.1)), (gnS (first - split many) (many - split many) one false q).2.2) := by
  unfold gnS
  rw [List.map_append, List.map_cons, List.map_nil, grown_two dig _ _ _ _ _ _ h1 h]
  split <;> rfl
theorem gn_le (n : Nat) : ∀ first many one b (p : List ByteArray), many ≤ n → 1 ≤ first → first ≤ many → one.size ≤ 500 → (∀ s ∈ p, s.size ≤ 500) → (gnS first many one b p).1.size ≤ 500 ∧ (gnS first many one b p).2.1.size ≤ 500 := by
  induction n with
  | zero => intro first many one b p h h1 h2; omega
  | succ n ih =>
    intro first many one b p h h1 h2 ho hp
    by_cases he : first = many
    · subst he
      cases b
      · by_cases hl : p.length = 1
        · obtain ⟨x, rfl⟩ := List.length_eq_one_iff.1 hl
          rw [gnS_one]
          exact ⟨hp x (by simp), hp x (by simp)⟩
        · rw [gnS_not _ _ _ hl]
          exact ⟨by show 0 ≤ 500; omega, by show 0 ≤ 500; omega⟩
      · rw [gnS_begin]
        exact ⟨ho, ho⟩
    · cases hl : p.length with
      | zero =>
        obtain rfl := List.eq_nil_of_length_eq_zero hl
        rw [gnS_nil _ _ _ _ h1 (by omega)]
        exact ⟨by show 0 ≤ 500; omega, by show 0 ≤ 500; omega⟩
      | succ m =>
        obtain ⟨q, x, rfl, hq⟩ := snoc_len p hl
        have hpq : ∀ s ∈ q, s.size ≤ 500 := fun s h => hp s (List.mem_append.2 (.inl h))
        obtain ⟨s1, s2, s3⟩ := split_lt (show 2 ≤ many by omega)
        have hd : ∀ a b : List UInt8, (bs (pairD dig a b)).size ≤ 500 := fun a b => by rw [bs_size]; simp only [pairD, dig32]; omega
        rw [gnS_two _ _ _ _ _ _ h1 (by omega)]
        split
        · exact ⟨(ih _ _ _ _ _ (by omega) h1 (by omega) ho hpq).1, hd _ _⟩
        · exact ⟨hd _ _, hd _ _⟩

set_option maxHeartbeats 4000000 in
theorem l8Grown (N : Nat) : ∀ (first many : Nat) (one : ByteArray) (begin : Bool) (A : Option Addr) (n c B : Nat) (l : List ByteArray) (w : World), many ≤ N → 1 ≤ first → first ≤ many → many ≤ 20 → n ≤ 1000 → n ≤ c → one.size ≤ 500 → (∀ s ∈ l, s.size ≤ 500) → B ≤ w.heap.size → Rd w B 1 A n (svs l) →
    Calls Tryd.prog 81 #[.int .i64 (first : Int), .int .i64 (many : Int), .string one, .bool begin, .slice A n c] w fun e w' => e = .returned (.tuple #[.string (gnS first many one begin l).1, .string (gnS first many one begin l).2.1, .bool (gnS first many one begin l).2.2]) ∧ Below w.heap.size w w' := by
  induction N with
  | zero => intro first many one begin A n c B l w h1 h2 h3; omega
  | succ N ih =>
    intro first many one begin A n c B l w hN h1 h2 h20 hn hc ho hl hB hx
    have hlen := rd_len hx
    by_cases hm : first = many
    · subst hm
      cases begin
      · by_cases hn1 : n = 1
        · subst hn1
          obtain ⟨x, rfl⟩ := List.length_eq_one_iff.1 hlen
          rw [gnS_one]
          obtain ⟨b, off, hll, rfl, hb, hcell⟩ := rd_str hx (k := 0) (by omega)
          simp only [List.getElem_cons_zero, Nat.add_zero] at hcell
          clear ih hx hl hlen
          go_enter Tryd.func81, Tryd.ntmps81
          go_wp2
          go_quiet (fail)
          go_wp2
          go_ret3
          exact ⟨rfl, by repeat (first | exact Below.refl _ _ | refine Below.drew ?_ | refine Rec.below_drewN ?_ _)⟩
        · rw [gnS_not _ _ _ (by omega)]
          have j1 : ((n : Int) != 1) = true := by rw [bne_iff_ne]; omega
          clear ih hx hl hlen
          go_enter Tryd.func81, Tryd.ntmps81
          go_wp2
          go_ret3
          exact ⟨rfl, Below.refl _ _⟩
      · rw [gnS_begin]
        have E : Hid (decide (l.length = 0) = ((n : Int) == 0)) := Lib.hid (by rw [hlen]; by_cases h : n = 0 <;> simp [h])
        generalize decide (l.length = 0) = bb at *
        clear ih hx hl hlen
        go_enter Tryd.func81, Tryd.ntmps81
        go_wp2
        go_ret3
        exact ⟨by rw [E.out]; rfl, Below.refl _ _⟩
    · by_cases h0 : n = 0
      · subst h0
        obtain rfl := List.eq_nil_of_length_eq_zero hlen
        rw [gnS_nil _ _ _ _ h1 (by omega)]
        have j0 : ¬ ((first : Int) = (many : Int)) := by omega
        clear ih hx hl
        go_enter Tryd.func81, Tryd.ntmps81
        go_wp2
        go_ret3
        exact ⟨rfl, Below.refl _ _⟩
      · obtain ⟨m, rfl⟩ : ∃ m, n = m + 1 := ⟨n - 1, by omega⟩
        obtain ⟨q, x, rfl, hq⟩ := snoc_len l hlen
        obtain ⟨b, off, hll, rfl, hb, hcell⟩ := rd_str hx (k := m) (by omega)
        have hxe : (q ++ [x])[m] = x := by rw [List.getElem_append_right (by omega)]; simp [hq]
        rw [hxe] at hcell
        have hxq := rd_takeS m hx (by omega)
        rw [List.take_left' hq] at hxq
        have hxs := hl x (by simp)
        have hqs : ∀ s ∈ q, s.size ≤ 500 := fun s h => hl s (List.mem_append.2 (.inl h))
        obtain ⟨s1, s2, s3⟩ := split_lt (show 2 ≤ many by omega)
        have EU := gnS_two first many one begin q x h1 (by omega)
        rw [EU]
        have CS := Lib.hid (fun W => specSplit many W (by omega) h20)
        have q1 := sl_h b off (m + 1) c m (by omega) (by omega)
        by_cases hks : first ≤ split many
        · rw [if_pos hks]
          have hle := gn_le (many - 1) (first) (split many) one begin q (by omega) (by omega) (by omega) ho hqs
          have C1 := Lib.hid (fun W (h : Below w.heap.size w W) => ih (first) (split many) one begin (some ⟨b, off, none⟩) m c B q W (by omega) (by omega) (by omega) (by omega) (by omega) (by omega) ho hqs (by have := h.size; omega) (hxq.below h hB))
          have C2 := Lib.hid (fun W => T8.l8Pair (gnS first (split many) one begin q).2.1 x W (by omega) (by omega))
          clear ih hx hxq hl hqs EU hlen
          generalize bs (pairD dig (tl (gnS first (split many) one begin q).2.1) (tl x)) = d3 at *
          generalize (gnS first (split many) one begin q).1 = d1 at *
          generalize (gnS first (split many) one begin q).2.1 = d2 at *
          generalize (gnS first (split many) one begin q).2.2 = bb at *
          generalize split many = s at *
          have j0 : ¬ ((first : Int) = (many : Int)) := by omega
          have j1 : ¬ (((m + 1 : Nat) : Int) = 0) := by omega
          have j2 : ¬ ((m : Int) + 1 = 0) := by omega
          go_enter Tryd.func81, Tryd.ntmps81
          go_wp2_with fail
          refine (CS.out _).mono ?_
          rintro e w' ⟨rfl, rfl⟩
          go_wp2_with fail
          refine (C1.out _ (Below.refl _ _)).mono ?_
          rintro e w1 ⟨rfl, b1⟩
          go_wp2_with fail
          refine (C2.out _).mono ?_
          rintro e w2 ⟨rfl, b2⟩
          go_wp2
          go_ret3
          exact ⟨rfl, then_ (n := 0) b1 b2⟩
        · rw [if_neg hks]
          have hle := gn_le (many - 1) (first - split many) (many - split many) one false q (by omega) (by omega) (by omega) ho hqs
          have C1 := Lib.hid (fun W (h : Below w.heap.size w W) => ih (first - split many) (many - split many) one false (some ⟨b, off, none⟩) m c B q W (by omega) (by omega) (by omega) (by omega) (by omega) (by omega) ho hqs (by have := h.size; omega) (hxq.below h hB))
          rw [show ((many - split many : Nat) : Int) = (many : Int) - ((split many : Nat) : Int) by omega, show ((first - split many : Nat) : Int) = (first : Int) - ((split many : Nat) : Int) by omega] at C1
          have C2 := Lib.hid (fun W => T8.l8Pair x (gnS (first - split many) (many - split many) one false q).1 W (by omega) (by omega))
          have C3 := Lib.hid (fun W => T8.l8Pair x (gnS (first - split many) (many - split many) one false q).2.1 W (by omega) (by omega))
          clear ih hx hxq hl hqs EU hlen
          generalize bs (pairD dig (tl x) (tl (gnS (first - split many) (many - split many) one false q).1)) = d3 at *
          generalize bs (pairD dig (tl x) (tl (gnS (first - split many) (many - split many) one false q).2.1)) = d4 at *
          generalize (gnS (first - split many) (many - split many) one false q).1 = d1 at *
          generalize (gnS (first - split many) (many - split many) one false q).2.1 = d2 at *
          generalize (gnS (first - split many) (many - split many) one false q).2.2 = bb at *
          generalize split many = s at *
          have j0 : ¬ ((first : Int) = (many : Int)) := by omega
          have j1 : ¬ (((m + 1 : Nat) : Int) = 0) := by omega
          have j2 : ¬ ((m : Int) + 1 = 0) := by omega
          go_enter Tryd.func81, Tryd.ntmps81
          go_wp2_with fail
          refine (CS.out _).mono ?_
          rintro e w' ⟨rfl, rfl⟩
          go_wp2_with fail
          refine (C1.out _ (Below.refl _ _)).mono ?_
          rintro e w1 ⟨rfl, b1⟩
          go_wp2_with fail
          refine (C2.out _).mono ?_
          rintro e w2 ⟨rfl, b2⟩
          go_wp2_with fail
          refine (C3.out _).mono ?_
          rintro e w3 ⟨rfl, b3⟩
          go_wp2
          go_ret3
          exact ⟨rfl, then_ (n := 0) b1 (then_ (n := 0) b2 b3)⟩
end Go.Proofs.YtiiklednbhklhaaDoor.T8h
