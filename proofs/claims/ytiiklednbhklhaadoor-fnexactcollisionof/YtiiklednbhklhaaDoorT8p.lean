/-
  Proofs of inclusion and of growth, by the reference.
-/
import Derived.Test.YtiiklednbhklhaaDoorT8r
namespace Go.Proofs.YtiiklednbhklhaaDoor.T8p
open Go.ChangeShapes Go.WideShapes Go.ChangeAt Go.RowKit
open Go.Proofs.YtiiklednbhklhaaDoor.Mem Go.Proofs.YtiiklednbhklhaaDoor.Ints Go.Proofs.YtiiklednbhklhaaDoor.Strs Go.Proofs.YtiiklednbhklhaaDoor.ShaComp Go.Proofs.YtiiklednbhklhaaDoor.Digest Go.Proofs.YtiiklednbhklhaaDoor.Mkl Go.Proofs.YtiiklednbhklhaaDoor.Sib Go.Proofs.YtiiklednbhklhaaDoor.Spl Go.Proofs.YtiiklednbhklhaaDoor.Slq Go.Proofs.YtiiklednbhklhaaDoor.Rec Go.Proofs.YtiiklednbhklhaaDoor.T8 Go.Proofs.YtiiklednbhklhaaDoor.T8s Go.Proofs.YtiiklednbhklhaaDoor.T8i
set_option linter.unusedVariables false
set_option maxRecDepth 100000

def pfS (l : List ByteArray) (k : Nat) : List ByteArray := (proof dig (l.map tl) k).map bs
def gwS (l : List ByteArray) (first : Nat) (b : Bool) : List ByteArray := (growth dig (l.map tl) first b).map bs
def rtS (l : List ByteArray) : ByteArray := bs (root dig (l.map tl))
theorem pf_two (l : List ByteArray) (k : Nat) (h : 2 ≤ l.length) : pfS l k = if k < split l.length then pfS (l.take (split l.length)) k ++ [rtS (l.drop (split l.length))] else pfS (l.drop (split l.length)) (k - split l.length) ++ [rtS (l.take (split l.length))] := by
  unfold pfS rtS
  rw [proof_two dig _ k (by simpa using h), List.length_map, ← List.map_take, ← List.map_drop]
  split <;> simp
theorem gw_two (l : List ByteArray) (first : Nat) (b : Bool) (h1 : 1 ≤ first) (h : first < l.length) : gwS l first b = if first ≤ split l.length then gwS (l.take (split l.length)) first b ++ [rtS (l.drop (split l.length))] else gwS (l.drop (split l.length)) (first - split l.length) false ++ [rtS (l.take (split l.length))] := by
  unfold gwS rtS
  rw [growth_two dig _ first b h1 (by simpa using h), List.length_map, ← List.map_take, ← List.map_drop]
  split <;> simp
theorem pf_len (n : Nat) : ∀ (l : List ByteArray) (k : Nat), l.length ≤ n → (pfS l k).length ≤ n := by
  induction n with
  | zero => intro l k h; obtain rfl := List.eq_nil_of_length_eq_zero (show l.length = 0 by omega); unfold pfS; rw [proof_one dig _ _ (by simp)]; simp
  | succ n ih =>
    intro l k h
    by_cases h2 : 2 ≤ l.length
    · have hs := split_lt h2
      rw [pf_two l k h2]
      split
      · have := ih (l.take (split l.length)) k (by rw [List.length_take]; omega); simp; omega
      · have := ih (l.drop (split l.length)) (k - split l.length) (by rw [List.length_drop]; omega); simp; omega
    · unfold pfS; rw [proof_one dig _ _ (by simp; omega)]; simp
theorem gw_len (n : Nat) : ∀ (l : List ByteArray) (f : Nat) (b : Bool), l.length ≤ n → 1 ≤ f → f ≤ l.length → (gwS l f b).length ≤ n + 1 := by
  induction n with
  | zero => intro l f b h h1 h2; omega
  | succ n ih =>
    intro l f b h h1 h2
    by_cases h3 : f = l.length
    · unfold gwS; rw [growth_all dig _ _ _ (by simpa using h3)]; cases b <;> simp
    · have h4 : 2 ≤ l.length := by omega
      have hs := split_lt h4
      rw [gw_two l f b h1 (by omega)]
      split
      · have := ih (l.take (split l.length)) f b (by rw [List.length_take]; omega) h1 (by rw [List.length_take]; omega); simp; omega
      · have := ih (l.drop (split l.length)) (f - split l.length) false (by rw [List.length_drop]; omega) (by omega) (by rw [List.length_drop]; omega); simp; omega
theorem root32 (l : List ByteArray) : (rtS l).size = 32 := by unfold rtS; exact T8s.root32 _
theorem svs_snoc (l : List ByteArray) (x : ByteArray) : svs l ++ [.string x] = svs (l ++ [x]) := by simp [svs]
theorem own_lit (W : World) (base : Nat) (d : ByteArray) (h : base ≤ W.heap.size) : (W.alloc (.cells #[.string d] 9)).ownsRow base 9 1 (.slice (some ⟨W.heap.size, 0, none⟩) 1 1) [d].length (svs [d]) :=
  ⟨rfl, .inr ⟨W.heap.size, 1, _, rfl, h, nw1 W _, Nat.le_refl _, by unfold maxLen; omega, rfl, rfl⟩⟩

set_option maxHeartbeats 4000000 in
theorem l8Proof (n : Nat) : ∀ (A : Option Addr) (m c k B : Nat) (l : List ByteArray) (w : World), m ≤ n → k < m → m ≤ 20 → m ≤ c → 1 ≤ m → leaves l → B ≤ w.heap.size → Rd w B 1 A m (svs l) →
    Calls Tryd.prog 52 #[.slice A m c, .int .i64 (k : Int)] w fun e w' => ∃ v, e = .returned v ∧ w'.ownsRow w.heap.size 9 1 v (pfS l k).length (svs (pfS l k)) ∧ Below w.heap.size w w' := by
  obtain ⟨i0, hi, hz0, hz1, hz2⟩ := info_parts infoS
  induction n with
  | zero => intro A m c k B l w hn hk h20 hc hm1 hl hB hx; omega
  | succ n ih =>
    intro A m c k B l w hn hk h20 hc hm1 hl hB hx
    have hlen := rd_len hx
    by_cases h1 : m = 1
    · subst h1
      have e0 : pfS l k = [] := by unfold pfS; rw [proof_one dig _ _ (by simp; omega)]; rfl
      rw [e0]
      clear ih hx
      go_enter Tryd.func52, Tryd.ntmps52
      go_wp2
      go_ret
      exact ⟨_, rfl, World.ownsRow_nil _ _ _ _, Below.refl _ _⟩
    · have h2 : 2 ≤ m := by omega
      obtain ⟨s1, s2, s3⟩ := split_lt h2
      obtain ⟨b, off, rfl, hb, _⟩ := hx.2 (by omega)
      by_cases hks : k < split m
      · have EP := pf_two l k (by omega)
        rw [hlen, if_pos (by omega)] at EP
        rw [EP]
        have hbd := pf_len 20 (l.take (split m)) k (by simp; omega)
        have C1 := Lib.hid (fun W (h : Below w.heap.size w W) => (ih (some ⟨b, off, none⟩) (split m) c k B (l.take (split m)) W (by omega) (by omega) (by omega) (by omega) (by omega) (leaves_take hl _) (by have := h.size; omega) (rd_takeS _ (hx.below h hB) (by omega))).mono (fun e w' (q : ∃ v, e = .returned v ∧ w'.ownsRow W.heap.size 9 1 v (pfS (l.take (split m)) k).length (svs (pfS (l.take (split m)) k)) ∧ Below W.heap.size W w') => (show ∃ v, e = .returned v ∧ w'.ownsRow w.heap.size 9 1 v (pfS (l.take (split m)) k).length (svs (pfS (l.take (split m)) k)) ∧ Below W.heap.size W w' ∧ Below w.heap.size w w' from by obtain ⟨v, q1, q2, q3⟩ := q; exact ⟨v, q1, own_base q2 h.size, q3, then_ (n := 0) h q3⟩)))
        have C2 := Lib.hid (fun W (h : Below w.heap.size w W) => (T8s.l8Root 20 (some ⟨b, off + split m, none⟩) (m - split m) (c - split m) B (l.drop (split m)) W (by omega) (by omega) (by omega) (leaves_drop hl _) (by have := h.size; omega) (rd_dropS _ (hx.below h hB) (by omega))).mono (fun e w' (q : _ ∧ _) => (show _ ∧ Below W.heap.size W w' ∧ Below w.heap.size w w' from ⟨q.1, q.2, then_ (n := 0) h q.2⟩)))
        rw [show bs (root dig ((l.drop (split m)).map tl)) = rtS (l.drop (split m)) from rfl] at C2
        have CS := Lib.hid (specSplit m w h2 h20)
        have q1 := sl_h b off m c (split m) (by omega) (by omega)
        have q2 := sl_l b off m c (split m) (by omega) (by omega)
        clear ih hl hx EP hlen
        generalize (pfS (l.take (split m)) k) = pf at *
        generalize rtS (l.drop (split m)) = d2 at *
        generalize split m = s at *
        rw [← svs_snoc, List.length_append, List.length_singleton]
        have D1 : Hid (Below w.heap.size w w.drew) := Lib.hid (Below.refl _ w).drew
        have hD1 : w.heap.size ≤ w.drew.heap.size := Nat.le_refl _
        go_enter Tryd.func52, Tryd.ntmps52
        go_wp2_with fail
        refine CS.out.mono ?_
        rintro e w' ⟨rfl, rfl⟩
        go_wp2_with fail
        go_region_held3 (fun _ => True) (trivial)
          (first
            | (go_at_call 52; (with_reducible refine (C1.out _ ?hb).mono ?_); (case hb => (first | exact D1.out | assumption | exact al_ok (by assumption) | exact (al_ok (by assumption)).drew)); rintro e w1 ⟨v, rfl, o1, b1, bb1⟩; have O1 := Lib.hid o1; clear o1)
            | (go_at_call 55; (with_reducible refine (C2.out _ ?hb).mono ?_); (case hb => (first | exact D1.out | assumption)); rintro e w2 ⟨rfl, b2, bb2⟩; have F2 := Lib.hid (fun (v' : Value) o => own_belowS (base := w.heap.size) (e := 9) (size := 1) (n := pf.length) (v := v') (xs := svs pf) o b2 (Nat.le_refl _)))
            | (refine step_append_lies _ (by rfl) _ _ _ (by rfl) w.heap.size 9 i0 _ 1 16 Tryd.underlying23 hi hz0 hz1 hz2 rfl (by omega) v pf.length (svs pf) (by rfl) ?own _ 1 1 [.string d2] (by rfl) (by rfl) ?news (by simp [Value.oneCell']) (by omega) (by unfold maxLen; omega) (by omega) ?base _ rfl ?_; (case own => (first | exact (F2.out _ O1.out).alloc _ | exact O1.out.alloc _ | exact O1.out)); (case news => (first | exact World.news_of_block (cs := #[.string d2]) (t := 9) (fr := (0, 0)) (heap_alloc_new _ _) | exact World.news_of_block (cs := #[.string d2]) (t := 9) (fr := (0, 0)) (bx (nw1 _ _) b1))); (case base => (first | exact bb1.size | exact bb2.size | exact (al_ok bb2).size | exact (al_ok bb1).size)); intro g cap w5 hown1 hgrow hat hlt1; have HO5 := Lib.hid hown1; have HG5 := Lib.hid hgrow; clear hown1 hgrow hat hlt1))
        all_goals
          have hge : ∀ k, v.ownBlock = some k → w.heap.size ≤ k := fun k h => (O1.out.lt _ h).1
          have B5 : Below w.heap.size w w5 := by
            first
              | exact (al_ok bb2).grown HG5.out (al_ok bb2).size hge
              | exact (al_ok bb1).grown HG5.out (al_ok bb1).size hge
              | exact bb1.grown HG5.out bb1.size hge
              | exact (al_ok bb2).drew.grown HG5.out (al_ok bb2).size hge
              | exact (al_ok bb1).drew.grown HG5.out (al_ok bb1).size hge
          clear hge HG5
          go_wp2
          go_ret
          exact ⟨_, rfl, HO5.out, B5⟩
      · have EP := pf_two l k (by omega)
        rw [hlen, if_neg (by omega)] at EP
        rw [EP]
        have hbd := pf_len 20 (l.drop (split m)) (k - split m) (by simp; omega)
        have C1 := Lib.hid (fun W (h : Below w.heap.size w W) => (ih (some ⟨b, off + split m, none⟩) (m - split m) (c - split m) (k - split m) B (l.drop (split m)) W (by omega) (by omega) (by omega) (by omega) (by omega) (leaves_drop hl _) (by have := h.size; omega) (rd_dropS _ (hx.below h hB) (by omega))).mono (fun e w' (q : ∃ v, e = .returned v ∧ w'.ownsRow W.heap.size 9 1 v (pfS (l.drop (split m)) (k - split m)).length (svs (pfS (l.drop (split m)) (k - split m))) ∧ Below W.heap.size W w') => (show ∃ v, e = .returned v ∧ w'.ownsRow w.heap.size 9 1 v (pfS (l.drop (split m)) (k - split m)).length (svs (pfS (l.drop (split m)) (k - split m))) ∧ Below W.heap.size W w' ∧ Below w.heap.size w w' from by obtain ⟨v, q1, q2, q3⟩ := q; exact ⟨v, q1, own_base q2 h.size, q3, then_ (n := 0) h q3⟩)))
        rw [show ((k - split m : Nat) : Int) = (k : Int) - ((split m : Nat) : Int) by omega] at C1
        have C2 := Lib.hid (fun W (h : Below w.heap.size w W) => (T8s.l8Root 20 (some ⟨b, off, none⟩) (split m) c B (l.take (split m)) W (by omega) (by omega) (by omega) (leaves_take hl _) (by have := h.size; omega) (rd_takeS _ (hx.below h hB) (by omega))).mono (fun e w' (q : _ ∧ _) => (show _ ∧ Below W.heap.size W w' ∧ Below w.heap.size w w' from ⟨q.1, q.2, then_ (n := 0) h q.2⟩)))
        rw [show bs (root dig ((l.take (split m)).map tl)) = rtS (l.take (split m)) from rfl] at C2
        have CS := Lib.hid (specSplit m w h2 h20)
        have q1 := sl_h b off m c (split m) (by omega) (by omega)
        have q2 := sl_l b off m c (split m) (by omega) (by omega)
        clear ih hl hx EP hlen
        generalize (pfS (l.drop (split m)) (k - split m)) = pf at *
        generalize rtS (l.take (split m)) = d2 at *
        generalize split m = s at *
        have hw : IntKind.i64.wrap ((k : Int) - (s : Int)) = (k : Int) - (s : Int) := IntWalk.i64_in _ (by omega)
        rw [← svs_snoc, List.length_append, List.length_singleton]
        have D1 : Hid (Below w.heap.size w w.drew) := Lib.hid (Below.refl _ w).drew
        have hD1 : w.heap.size ≤ w.drew.heap.size := Nat.le_refl _
        go_enter Tryd.func52, Tryd.ntmps52
        go_wp2_with fail
        refine CS.out.mono ?_
        rintro e w' ⟨rfl, rfl⟩
        go_wp2_with fail
        go_region_held3 (fun _ => True) (trivial)
          (first
            | (go_at_call 52; (with_reducible refine (C1.out _ ?hb).mono ?_); (case hb => (first | exact D1.out | assumption | exact al_ok (by assumption) | exact (al_ok (by assumption)).drew)); rintro e w1 ⟨v, rfl, o1, b1, bb1⟩; have O1 := Lib.hid o1; clear o1)
            | (go_at_call 55; (with_reducible refine (C2.out _ ?hb).mono ?_); (case hb => (first | exact D1.out | assumption)); rintro e w2 ⟨rfl, b2, bb2⟩; have F2 := Lib.hid (fun (v' : Value) o => own_belowS (base := w.heap.size) (e := 9) (size := 1) (n := pf.length) (v := v') (xs := svs pf) o b2 (Nat.le_refl _)))
            | (refine step_append_lies _ (by rfl) _ _ _ (by rfl) w.heap.size 9 i0 _ 1 16 Tryd.underlying23 hi hz0 hz1 hz2 rfl (by omega) v pf.length (svs pf) (by rfl) ?own _ 1 1 [.string d2] (by rfl) (by rfl) ?news (by simp [Value.oneCell']) (by omega) (by unfold maxLen; omega) (by omega) ?base _ rfl ?_; (case own => (first | exact (F2.out _ O1.out).alloc _ | exact O1.out.alloc _ | exact O1.out)); (case news => (first | exact World.news_of_block (cs := #[.string d2]) (t := 9) (fr := (0, 0)) (heap_alloc_new _ _) | exact World.news_of_block (cs := #[.string d2]) (t := 9) (fr := (0, 0)) (bx (nw1 _ _) b1))); (case base => (first | exact bb1.size | exact bb2.size | exact (al_ok bb2).size | exact (al_ok bb1).size)); intro g cap w5 hown1 hgrow hat hlt1; have HO5 := Lib.hid hown1; have HG5 := Lib.hid hgrow; clear hown1 hgrow hat hlt1))
        all_goals
          have hge : ∀ k, v.ownBlock = some k → w.heap.size ≤ k := fun k h => (O1.out.lt _ h).1
          have B5 : Below w.heap.size w w5 := by
            first
              | exact (al_ok bb2).grown HG5.out (al_ok bb2).size hge
              | exact (al_ok bb1).grown HG5.out (al_ok bb1).size hge
              | exact bb1.grown HG5.out bb1.size hge
              | exact (al_ok bb2).drew.grown HG5.out (al_ok bb2).size hge
              | exact (al_ok bb1).drew.grown HG5.out (al_ok bb1).size hge
          clear hge HG5
          go_wp2
          go_ret
          exact ⟨_, rfl, HO5.out, B5⟩

set_option maxHeartbeats 4000000 in
theorem l8Growth (n : Nat) : ∀ (A : Option Addr) (m c k : Nat) (begin : Bool) (B : Nat) (l : List ByteArray) (w : World), m ≤ n → 1 ≤ k → k ≤ m → m ≤ 20 → m ≤ c → leaves l → B ≤ w.heap.size → Rd w B 1 A m (svs l) →
    Calls Tryd.prog 78 #[.slice A m c, .int .i64 (k : Int), .bool begin] w fun e w' => ∃ v, e = .returned v ∧ w'.ownsRow w.heap.size 9 1 v (gwS l k begin).length (svs (gwS l k begin)) ∧ Below w.heap.size w w' := by
  obtain ⟨i0, hi, hz0, hz1, hz2⟩ := info_parts infoS
  induction n with
  | zero => intro A m c k begin B l w hn hk1 hk h20 hc hl hB hx; omega
  | succ n ih =>
    intro A m c k begin B l w hn hk1 hk h20 hc hl hB hx
    have hlen := rd_len hx
    by_cases h1 : k = m
    · subst h1
      have e0 : gwS l k begin = if begin then [] else [rtS l] := by
        unfold gwS rtS; rw [growth_all dig _ _ _ (by simpa using hlen.symm)]; cases begin <;> rfl
      rw [e0]
      cases begin
      · have C := Lib.hid (T8s.l8Root 20 A k c B l w (by omega) (by omega) hc hl hB hx)
        rw [show bs (root dig (l.map tl)) = rtS l from rfl] at C
        rw [if_neg (by decide)]
        clear ih hx e0 hl
        generalize rtS l = d at *
        go_enter Tryd.func78, Tryd.ntmps78
        go_wp2_with fail
        refine C.out.mono ?_
        rintro e w1 ⟨rfl, b1⟩
        go_wp2
        go_ret
        exact ⟨_, rfl, own_lit w1 w.heap.size d b1.size, al_ok b1⟩
      · rw [if_pos rfl]
        clear ih hx e0 hl
        go_enter Tryd.func78, Tryd.ntmps78
        go_wp2
        go_ret
        exact ⟨_, rfl, World.ownsRow_nil _ _ _ _, Below.refl _ _⟩
    · have h2 : 2 ≤ m := by omega
      obtain ⟨s1, s2, s3⟩ := split_lt h2
      obtain ⟨b, off, rfl, hb, _⟩ := hx.2 (by omega)
      by_cases hks : k ≤ split m
      · have EP := gw_two l k begin (by omega) (by omega)
        rw [hlen, if_pos (by omega)] at EP
        rw [EP]
        have hbd := gw_len 20 (l.take (split m)) k begin (by simp; omega) (by omega) (by simp; omega)
        have C1 := Lib.hid (fun W (h : Below w.heap.size w W) => (ih (some ⟨b, off, none⟩) (split m) c k begin B (l.take (split m)) W (by omega) (by omega) (by omega) (by omega) (by omega) (leaves_take hl _) (by have := h.size; omega) (rd_takeS _ (hx.below h hB) (by omega))).mono (fun e w' (q : ∃ v, e = .returned v ∧ w'.ownsRow W.heap.size 9 1 v (gwS (l.take (split m)) k begin).length (svs (gwS (l.take (split m)) k begin)) ∧ Below W.heap.size W w') => (show ∃ v, e = .returned v ∧ w'.ownsRow w.heap.size 9 1 v (gwS (l.take (split m)) k begin).length (svs (gwS (l.take (split m)) k begin)) ∧ Below W.heap.size W w' ∧ Below w.heap.size w w' from by obtain ⟨v, q1, q2, q3⟩ := q; exact ⟨v, q1, own_base q2 h.size, q3, then_ (n := 0) h q3⟩)))
        have C2 := Lib.hid (fun W (h : Below w.heap.size w W) => (T8s.l8Root 20 (some ⟨b, off + split m, none⟩) (m - split m) (c - split m) B (l.drop (split m)) W (by omega) (by omega) (by omega) (leaves_drop hl _) (by have := h.size; omega) (rd_dropS _ (hx.below h hB) (by omega))).mono (fun e w' (q : _ ∧ _) => (show _ ∧ Below W.heap.size W w' ∧ Below w.heap.size w w' from ⟨q.1, q.2, then_ (n := 0) h q.2⟩)))
        rw [show bs (root dig ((l.drop (split m)).map tl)) = rtS (l.drop (split m)) from rfl] at C2
        have CS := Lib.hid (specSplit m w h2 h20)
        have q1 := sl_h b off m c (split m) (by omega) (by omega)
        have q2 := sl_l b off m c (split m) (by omega) (by omega)
        clear ih hl hx EP hlen
        generalize (gwS (l.take (split m)) k begin) = pf at *
        generalize rtS (l.drop (split m)) = d2 at *
        generalize split m = s at *
        rw [← svs_snoc, List.length_append, List.length_singleton]
        have D1 : Hid (Below w.heap.size w w.drew) := Lib.hid (Below.refl _ w).drew
        have hD1 : w.heap.size ≤ w.drew.heap.size := Nat.le_refl _
        go_enter Tryd.func78, Tryd.ntmps78
        go_wp2_with fail
        refine CS.out.mono ?_
        rintro e w' ⟨rfl, rfl⟩
        go_wp2_with fail
        go_region_held3 (fun _ => True) (trivial)
          (first
            | (go_at_call 78; (with_reducible refine (C1.out _ ?hb).mono ?_); (case hb => (first | exact D1.out | assumption | exact al_ok (by assumption) | exact (al_ok (by assumption)).drew)); rintro e w1 ⟨v, rfl, o1, b1, bb1⟩; have O1 := Lib.hid o1; clear o1)
            | (go_at_call 55; (with_reducible refine (C2.out _ ?hb).mono ?_); (case hb => (first | exact D1.out | assumption)); rintro e w2 ⟨rfl, b2, bb2⟩; have F2 := Lib.hid (fun (v' : Value) o => own_belowS (base := w.heap.size) (e := 9) (size := 1) (n := pf.length) (v := v') (xs := svs pf) o b2 (Nat.le_refl _)))
            | (refine step_append_lies _ (by rfl) _ _ _ (by rfl) w.heap.size 9 i0 _ 1 16 Tryd.underlying23 hi hz0 hz1 hz2 rfl (by omega) v pf.length (svs pf) (by rfl) ?own _ 1 1 [.string d2] (by rfl) (by rfl) ?news (by simp [Value.oneCell']) (by omega) (by unfold maxLen; omega) (by omega) ?base _ rfl ?_; (case own => (first | exact (F2.out _ O1.out).alloc _ | exact O1.out.alloc _ | exact O1.out)); (case news => (first | exact World.news_of_block (cs := #[.string d2]) (t := 9) (fr := (0, 0)) (heap_alloc_new _ _) | exact World.news_of_block (cs := #[.string d2]) (t := 9) (fr := (0, 0)) (bx (nw1 _ _) b1))); (case base => (first | exact bb1.size | exact bb2.size | exact (al_ok bb2).size | exact (al_ok bb1).size)); intro g cap w5 hown1 hgrow hat hlt1; have HO5 := Lib.hid hown1; have HG5 := Lib.hid hgrow; clear hown1 hgrow hat hlt1))
        all_goals
          have hge : ∀ k, v.ownBlock = some k → w.heap.size ≤ k := fun k h => (O1.out.lt _ h).1
          have B5 : Below w.heap.size w w5 := by
            first
              | exact (al_ok bb2).grown HG5.out (al_ok bb2).size hge
              | exact (al_ok bb1).grown HG5.out (al_ok bb1).size hge
              | exact bb1.grown HG5.out bb1.size hge
              | exact (al_ok bb2).drew.grown HG5.out (al_ok bb2).size hge
              | exact (al_ok bb1).drew.grown HG5.out (al_ok bb1).size hge
          clear hge HG5
          go_wp2
          go_ret
          exact ⟨_, rfl, HO5.out, B5⟩
      · have EP := gw_two l k begin (by omega) (by omega)
        rw [hlen, if_neg (by omega)] at EP
        rw [EP]
        have hbd := gw_len 20 (l.drop (split m)) (k - split m) false (by simp; omega) (by omega) (by simp; omega)
        have C1 := Lib.hid (fun W (h : Below w.heap.size w W) => (ih (some ⟨b, off + split m, none⟩) (m - split m) (c - split m) (k - split m) false B (l.drop (split m)) W (by omega) (by omega) (by omega) (by omega) (by omega) (leaves_drop hl _) (by have := h.size; omega) (rd_dropS _ (hx.below h hB) (by omega))).mono (fun e w' (q : ∃ v, e = .returned v ∧ w'.ownsRow W.heap.size 9 1 v (gwS (l.drop (split m)) (k - split m) false).length (svs (gwS (l.drop (split m)) (k - split m) false)) ∧ Below W.heap.size W w') => (show ∃ v, e = .returned v ∧ w'.ownsRow w.heap.size 9 1 v (gwS (l.drop (split m)) (k - split m) false).length (svs (gwS (l.drop (split m)) (k - split m) false)) ∧ Below W.heap.size W w' ∧ Below w.heap.size w w' from by obtain ⟨v, q1, q2, q3⟩ := q; exact ⟨v, q1, own_base q2 h.size, q3, then_ (n := 0) h q3⟩)))
        rw [show ((k - split m : Nat) : Int) = (k : Int) - ((split m : Nat) : Int) by omega] at C1
        have C2 := Lib.hid (fun W (h : Below w.heap.size w W) => (T8s.l8Root 20 (some ⟨b, off, none⟩) (split m) c B (l.take (split m)) W (by omega) (by omega) (by omega) (leaves_take hl _) (by have := h.size; omega) (rd_takeS _ (hx.below h hB) (by omega))).mono (fun e w' (q : _ ∧ _) => (show _ ∧ Below W.heap.size W w' ∧ Below w.heap.size w w' from ⟨q.1, q.2, then_ (n := 0) h q.2⟩)))
        rw [show bs (root dig ((l.take (split m)).map tl)) = rtS (l.take (split m)) from rfl] at C2
        have CS := Lib.hid (specSplit m w h2 h20)
        have q1 := sl_h b off m c (split m) (by omega) (by omega)
        have q2 := sl_l b off m c (split m) (by omega) (by omega)
        clear ih hl hx EP hlen
        generalize (gwS (l.drop (split m)) (k - split m) false) = pf at *
        generalize rtS (l.take (split m)) = d2 at *
        generalize split m = s at *
        have hw : IntKind.i64.wrap ((k : Int) - (s : Int)) = (k : Int) - (s : Int) := IntWalk.i64_in _ (by omega)
        rw [← svs_snoc, List.length_append, List.length_singleton]
        have D1 : Hid (Below w.heap.size w w.drew) := Lib.hid (Below.refl _ w).drew
        have hD1 : w.heap.size ≤ w.drew.heap.size := Nat.le_refl _
        go_enter Tryd.func78, Tryd.ntmps78
        go_wp2_with fail
        refine CS.out.mono ?_
        rintro e w' ⟨rfl, rfl⟩
        go_wp2_with fail
        go_region_held3 (fun _ => True) (trivial)
          (first
            | (go_at_call 78; (with_reducible refine (C1.out _ ?hb).mono ?_); (case hb => (first | exact D1.out | assumption | exact al_ok (by assumption) | exact (al_ok (by assumption)).drew)); rintro e w1 ⟨v, rfl, o1, b1, bb1⟩; have O1 := Lib.hid o1; clear o1)
            | (go_at_call 55; (with_reducible refine (C2.out _ ?hb).mono ?_); (case hb => (first | exact D1.out | assumption)); rintro e w2 ⟨rfl, b2, bb2⟩; have F2 := Lib.hid (fun (v' : Value) o => own_belowS (base := w.heap.size) (e := 9) (size := 1) (n := pf.length) (v := v') (xs := svs pf) o b2 (Nat.le_refl _)))
            | (refine step_append_lies _ (by rfl) _ _ _ (by rfl) w.heap.size 9 i0 _ 1 16 Tryd.underlying23 hi hz0 hz1 hz2 rfl (by omega) v pf.length (svs pf) (by rfl) ?own _ 1 1 [.string d2] (by rfl) (by rfl) ?news (by simp [Value.oneCell']) (by omega) (by unfold maxLen; omega) (by omega) ?base _ rfl ?_; (case own => (first | exact (F2.out _ O1.out).alloc _ | exact O1.out.alloc _ | exact O1.out)); (case news => (first | exact World.news_of_block (cs := #[.string d2]) (t := 9) (fr := (0, 0)) (heap_alloc_new _ _) | exact World.news_of_block (cs := #[.string d2]) (t := 9) (fr := (0, 0)) (bx (nw1 _ _) b1))); (case base => (first | exact bb1.size | exact bb2.size | exact (al_ok bb2).size | exact (al_ok bb1).size)); intro g cap w5 hown1 hgrow hat hlt1; have HO5 := Lib.hid hown1; have HG5 := Lib.hid hgrow; clear hown1 hgrow hat hlt1))
        all_goals
          have hge : ∀ k, v.ownBlock = some k → w.heap.size ≤ k := fun k h => (O1.out.lt _ h).1
          have B5 : Below w.heap.size w w5 := by
            first
              | exact (al_ok bb2).grown HG5.out (al_ok bb2).size hge
              | exact (al_ok bb1).grown HG5.out (al_ok bb1).size hge
              | exact bb1.grown HG5.out bb1.size hge
              | exact (al_ok bb2).drew.grown HG5.out (al_ok bb2).size hge
              | exact (al_ok bb1).drew.grown HG5.out (al_ok bb1).size hge
          clear hge HG5
          go_wp2
          go_ret
          exact ⟨_, rfl, HO5.out, B5⟩
end Go.Proofs.YtiiklednbhklhaaDoor.T8p
