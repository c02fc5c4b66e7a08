/-
  The first clash of a proof with a list, by the reference.
-/
import Derived.Test.YtiiklednbhklhaaDoorT8d
namespace Go.Proofs.YtiiklednbhklhaaDoor.T8y
open Go.ChangeShapes Go.WideShapes Go.ChangeAt Go.RowKit
open Go.Proofs.YtiiklednbhklhaaDoor.Mem Go.Proofs.YtiiklednbhklhaaDoor.Ints Go.Proofs.YtiiklednbhklhaaDoor.Strs Go.Proofs.YtiiklednbhklhaaDoor.ShaComp Go.Proofs.YtiiklednbhklhaaDoor.Digest Go.Proofs.YtiiklednbhklhaaDoor.Mkl Go.Proofs.YtiiklednbhklhaaDoor.Sib Go.Proofs.YtiiklednbhklhaaDoor.Spl Go.Proofs.YtiiklednbhklhaaDoor.Slq Go.Proofs.YtiiklednbhklhaaDoor.Rec Go.Proofs.YtiiklednbhklhaaDoor.T8 Go.Proofs.YtiiklednbhklhaaDoor.T8s Go.Proofs.YtiiklednbhklhaaDoor.T8i Go.Proofs.YtiiklednbhklhaaDoor.T8r Go.Proofs.YtiiklednbhklhaaDoor.T8k Go.Proofs.YtiiklednbhklhaaDoor.T8l Go.Proofs.YtiiklednbhklhaaDoor.T8u Go.Proofs.YtiiklednbhklhaaDoor.T8v Go.Proofs.YtiiklednbhklhaaDoor.T8c
set_option linter.unusedVariables false
set_option maxRecDepth 100000

def bs3 (r : List UInt8 × List UInt8 × List UInt8) : ByteArray × ByteArray × ByteArray := (bs r.1, bs r.2.1, bs r.2.2)
def abS (a b m t : ByteArray) : ByteArray × ByteArray × ByteArray := bs3 (above dig (tl a) (tl b) (tl m) (tl t))
def caS (l : List ByteArray) (k : Nat) (leaf : ByteArray) (p : List ByteArray) : ByteArray × ByteArray × ByteArray := bs3 (clash dig (l.map tl) k (tl leaf) (p.map tl))
theorem tl_inj {a b : ByteArray} (h : tl a = tl b) : a = b := by rw [← bs_tl a, ← bs_tl b, h]
theorem tl_o (m : ByteArray) : tl (o1 ++ m) = 1 :: tl m := by rw [tl_app]; rfl
theorem abS_keep (a b m t : ByteArray) (h : ¬ (a = ⟨#[]⟩ ∧ m ≠ t ∧ tdS (o1 ++ m) = tdS (o1 ++ t))) : abS a b m t = (a, b, tdS (o1 ++ m)) := by
  unfold abS above tdS
  rw [if_neg]
  · unfold bs3; simp only [bs_tl, tl_o]
  · rintro ⟨h1, h2, h3⟩
    exact h ⟨tl_inj h1, fun e => h2 (by rw [e]), by unfold tdS; rw [tl_o, tl_o, h3]⟩
theorem abS_new (b m t : ByteArray) (h : m ≠ t) (e : tdS (o1 ++ m) = tdS (o1 ++ t)) : abS ⟨#[]⟩ b m t = (o1 ++ m, o1 ++ t, tdS (o1 ++ m)) := by
  unfold abS above
  rw [if_pos ⟨rfl, fun q => h (tl_inj q), by have := bs_inj e; rwa [tl_o, tl_o] at this⟩]
  unfold bs3 tdS
  simp only [← tl_o, bs_tl]
theorem caS_two (l : List ByteArray) (k : Nat) (leaf : ByteArray) (q : List ByteArray) (x : ByteArray) (h : 2 ≤ l.length) : caS l k leaf (q ++ [x]) =
    if k < split l.length then abS (caS (l.take (split l.length)) k leaf q).1 (caS (l.take (split l.length)) k leaf q).2.1 ((caS (l.take (split l.length)) k leaf q).2.2 ++ x) (bs (root dig ((l.take (split l.length)).map tl)) ++ bs (root dig ((l.drop (split l.length)).map tl)))
    else abS (caS (l.drop (split l.length)) (k - split l.length) leaf q).1 (caS (l.drop (split l.length)) (k - split l.length) leaf q).2.1 (x ++ (caS (l.drop (split l.length)) (k - split l.length) leaf q).2.2) (bs (root dig ((l.take (split l.length)).map tl)) ++ bs (root dig ((l.drop (split l.length)).map tl))) := by
  unfold caS
  rw [List.map_append, List.map_cons, List.map_nil, clash_two dig _ _ _ _ _ (by simpa using h), List.length_map, ← List.map_take, ← List.map_drop]
  split <;> (unfold abS bs3; simp only [tl_app, tl_bs])
theorem caS_len (n : Nat) : ∀ (l : List ByteArray) k leaf (p : List ByteArray), (caS l k leaf p).2.2.size = 32 := by
  intro l k leaf p
  unfold caS bs3
  rw [bs_size]
  unfold clash
  split
  · split <;> exact dig32 _
  · split <;> (dsimp only; unfold above; split <;> exact dig32 _)
set_option maxHeartbeats 1000000 in
theorem l8Above (a b m t : ByteArray) (w : World) (hm : m.size ≤ 600) (ht : t.size ≤ 600) : Calls Tryd.prog 91 #[.string a, .string b, .string m, .string t] w fun e w' => e = .returned (.tuple #[.string (abS a b m t).1, .string (abS a b m t).2.1, .string (abS a b m t).2.2]) ∧ Below w.heap.size w w' := by
  have q1 : ∀ W, (Op.stringOp .add ⟨#[1]⟩ m).run Tryd.prog W = .ok (.string (o1 ++ m)) W := fun W => run_string_add_sum W _ _ (by show 1 + _ ≤ _; omega)
  have q2 : ∀ W, (Op.stringOp .add ⟨#[1]⟩ t).run Tryd.prog W = .ok (.string (o1 ++ t)) W := fun W => run_string_add_sum W _ _ (by show 1 + _ ≤ _; omega)
  have h1 : (o1 ++ m).size = 1 + m.size := by rw [ByteArray.size_append]; rfl
  have h2 : (o1 ++ t).size = 1 + t.size := by rw [ByteArray.size_append]; rfl
  have C1 := Lib.hid (fun W => l1Digest (o1 ++ m) W (by rw [h1]; omega))
  have C2 := Lib.hid (fun W => l1Digest (o1 ++ t) W (by rw [h2]; omega))
  rw [show (⟨(dig (o1 ++ m).data.toList).toArray⟩ : ByteArray) = tdS (o1 ++ m) from rfl] at C1
  rw [show (⟨(dig (o1 ++ t).data.toList).toArray⟩ : ByteArray) = tdS (o1 ++ t) from rfl] at C2
  by_cases ha : a = ⟨#[]⟩
  · subst ha
    by_cases hmt : m = t
    · rw [abS_keep _ _ _ _ (fun q => q.2.1 hmt)]
      subst hmt
      generalize tdS (o1 ++ m) = d at *
      clear h1 h2
      go_enter Tryd.func91, Tryd.ntmps91
      go_wp2_with fail
      refine (C1.out _).mono ?_
      rintro e w1 ⟨rfl, b1⟩
      go_wp2
      go_ret3
      exact ⟨rfl, b1⟩
    · have hne : (m.toList != t.toList) = true := by have := str_ne hmt; simp only [bne, this]; rfl
      have hne' : (m.toList == t.toList) = false := str_ne hmt
      by_cases hd : tdS (o1 ++ m) = tdS (o1 ++ t)
      · rw [abS_new _ _ _ hmt hd]
        rw [← hd] at C2
        generalize tdS (o1 ++ m) = d at *
        clear h1 h2 hd
        go_enter Tryd.func91, Tryd.ntmps91
        go_wp2_with fail
        refine (C1.out _).mono ?_
        rintro e w1 ⟨rfl, b1⟩
        go_wp2_with fail
        refine (C2.out _).mono ?_
        rintro e w2 ⟨rfl, b2⟩
        go_wp2
        go_ret3
        exact ⟨rfl, then_ (n := 0) b1 b2⟩
      · rw [abS_keep _ _ _ _ (fun q => hd q.2.2)]
        have hnd : ((tdS (o1 ++ m)).toList == (tdS (o1 ++ t)).toList) = false := str_ne hd
        generalize tdS (o1 ++ m) = d at *
        generalize tdS (o1 ++ t) = d2 at *
        clear h1 h2 hd
        go_enter Tryd.func91, Tryd.ntmps91
        go_wp2_with fail
        refine (C1.out _).mono ?_
        rintro e w1 ⟨rfl, b1⟩
        go_wp2_with fail
        refine (C2.out _).mono ?_
        rintro e w2 ⟨rfl, b2⟩
        go_wp2
        go_ret3
        exact ⟨rfl, then_ (n := 0) b1 b2⟩
  · rw [abS_keep _ _ _ _ (fun q => ha q.1)]
    have hna : (a.toList == (⟨#[]⟩ : ByteArray).toList) = false := str_ne ha
    have e0 : (⟨#[]⟩ : ByteArray).toList = [] := by rw [ByteArray.toList_eq]
    have hna2 : a.toList.isEmpty = false := by
      rw [e0] at hna
      cases h : a.toList with
      | nil => rw [h] at hna; cases hna
      | cons x r => rfl
    generalize tdS (o1 ++ m) = d at *
    clear h1 h2
    go_enter Tryd.func91, Tryd.ntmps91
    go_wp2_with fail
    refine (C1.out _).mono ?_
    rintro e w1 ⟨rfl, b1⟩
    go_wp2
    go_ret3
    exact ⟨rfl, b1⟩

set_option maxHeartbeats 4000000 in
theorem l8Clash (N : Nat) : ∀ (l : List ByteArray) (k : Nat) (leaf : ByteArray) (p : List ByteArray) (A : Option Addr) (n c : Nat) (A' : Option Addr) (m c' B B' : Nat) (w : World), n ≤ N → k < n → n ≤ 20 → n ≤ c → leaves l → leaf.size ≤ 500 → (∀ s ∈ p, s.size ≤ 500) → m ≤ 1000 → m ≤ c' → (upS n k leaf p).2 = true → B ≤ w.heap.size → B' ≤ w.heap.size → Rd w B 1 A n (svs l) → Rd w B' 1 A' m (svs p) →
    Calls Tryd.prog 67 #[.slice A n c, .int .i64 (k : Int), .string leaf, .slice A' m c'] w fun e w' => e = .returned (.tuple #[.string (caS l k leaf p).1, .string (caS l k leaf p).2.1, .string (caS l k leaf p).2.2]) ∧ Below w.heap.size w w' := by
  induction N with
  | zero => intro l k leaf p A n c A' m c' B B' w h1 h2; omega
  | succ N ih =>
    intro l k leaf p A n c A' m c' B B' w hN hk h20 hc hl hlf hps hm hc' hu hB hB' hx hy
    have hlen := rd_len hx
    have hplen := rd_len hy
    by_cases h1 : n = 1
    · subst h1
      obtain ⟨x, rfl⟩ := List.length_eq_one_iff.1 hlen
      obtain ⟨b, off, hll, rfl, hb, hcell⟩ := rd_str hx (k := 0) (by omega)
      simp only [List.getElem_cons_zero, Nat.add_zero] at hcell
      have hxs := hl x (by simp)
      have C1 := Lib.hid (fun W => T8.l8Leaf leaf W (by omega))
      have C2 := Lib.hid (fun W => T8.l8Leaf x W (by omega))
      have q1 : ∀ W, (Op.stringOp .add ⟨#[0]⟩ leaf).run Tryd.prog W = .ok (.string (z1 ++ leaf)) W := fun W => run_string_add_sum W _ _ (by show 1 + _ ≤ _; omega)
      have q2 : ∀ W, (Op.stringOp .add ⟨#[0]⟩ x).run Tryd.prog W = .ok (.string (z1 ++ x)) W := fun W => run_string_add_sum W _ _ (by show 1 + _ ≤ _; omega)
      have EC : caS [x] k leaf p = if leaf ≠ x ∧ bs (leafD dig (tl leaf)) = bs (leafD dig (tl x)) then (z1 ++ leaf, z1 ++ x, bs (leafD dig (tl leaf))) else (⟨#[]⟩, ⟨#[]⟩, bs (leafD dig (tl leaf))) := by
        unfold caS
        rw [List.map_cons, List.map_nil, clash_one]
        have hz : ∀ s : ByteArray, bs (0 :: tl s) = z1 ++ s := fun s => by rw [← bs_tl (z1 ++ s), tl_app]; rfl
        by_cases h : leaf ≠ x ∧ bs (leafD dig (tl leaf)) = bs (leafD dig (tl x))
        · rw [if_pos h, if_pos ⟨fun e => h.1 (tl_inj e), bs_inj h.2⟩]
          unfold bs3; simp only [hz]
        · rw [if_neg h, if_neg (fun q => h ⟨fun e => q.1 (by rw [e]), by rw [q.2]⟩)]
          rfl
      rw [EC]
      clear ih hx hy hl hps hu hlen hplen EC
      by_cases hlx : leaf = x
      · rw [if_neg (fun q => q.1 hlx)]
        subst hlx
        generalize bs (leafD dig (tl leaf)) = d at *
        clear q1 q2
        go_enter Tryd.func67, Tryd.ntmps67
        go_wp2_with fail
        refine (C1.out _).mono ?_
        rintro e w1 ⟨rfl, b1⟩
        have hcell1 := (b1.cell (p := ⟨b, off, none⟩) (by show b < _; omega)).trans hcell
        go_wp2
        go_ret3
        exact ⟨rfl, b1⟩
      · have hne : (leaf.toList == x.toList) = false := str_ne hlx
        have hne' : (leaf.toList != x.toList) = true := by simp only [bne, hne]; rfl
        by_cases hd : bs (leafD dig (tl leaf)) = bs (leafD dig (tl x))
        · rw [if_pos ⟨hlx, hd⟩]
          rw [← hd] at C2
          generalize bs (leafD dig (tl leaf)) = d at *
          clear hd
          go_enter Tryd.func67, Tryd.ntmps67
          go_wp2_with fail
          refine (C1.out _).mono ?_
          rintro e w1 ⟨rfl, b1⟩
          have hcell1 := (b1.cell (p := ⟨b, off, none⟩) (by show b < _; omega)).trans hcell
          go_wp2_with fail
          refine (C2.out _).mono ?_
          rintro e w2 ⟨rfl, b2⟩
          have B2 := then_ (n := 0) b1 b2
          have hcell2 := (B2.cell (p := ⟨b, off, none⟩) (by show b < _; omega)).trans hcell
          clear hcell1 hcell
          go_wp2
          go_quiet (fail)
          go_wp2
          go_ret3
          exact ⟨rfl, Rec.below_drewN B2 _⟩
        · rw [if_neg (fun q => hd q.2)]
          have hnd : ((bs (leafD dig (tl leaf))).toList == (bs (leafD dig (tl x))).toList) = false := str_ne hd
          generalize bs (leafD dig (tl leaf)) = d at *
          generalize bs (leafD dig (tl x)) = d2 at *
          clear hd q1 q2
          go_enter Tryd.func67, Tryd.ntmps67
          go_wp2_with fail
          refine (C1.out _).mono ?_
          rintro e w1 ⟨rfl, b1⟩
          have hcell1 := (b1.cell (p := ⟨b, off, none⟩) (by show b < _; omega)).trans hcell
          go_wp2_with fail
          refine (C2.out _).mono ?_
          rintro e w2 ⟨rfl, b2⟩
          go_wp2
          go_ret3
          exact ⟨rfl, then_ (n := 0) b1 b2⟩
    · have h2 : 2 ≤ n := by omega
      have hm0 : m ≠ 0 := by
        intro h0
        obtain rfl := List.eq_nil_of_length_eq_zero (hplen.trans h0)
        rw [upS_nil _ _ _ h2] at hu
        cases hu
      obtain ⟨m, rfl⟩ : ∃ m', m = m' + 1 := ⟨m - 1, by omega⟩
      obtain ⟨q, x, rfl, hq⟩ := snoc_len p hplen
      obtain ⟨pb, po, hll, rfl, hpb, hcell⟩ := rd_str hy (k := m) (by omega)
      have hxe : (q ++ [x])[m] = x := by rw [List.getElem_append_right (by omega)]; simp [hq]
      rw [hxe] at hcell
      have hyq := rd_takeS m hy (by omega)
      rw [List.take_left' hq] at hyq
      have hxs := hps x (by simp)
      have hqs : ∀ s ∈ q, s.size ≤ 500 := fun s h => hps s (List.mem_append.2 (.inl h))
      obtain ⟨s1, s2, s3⟩ := split_lt h2
      obtain ⟨b, off, rfl, hb, _⟩ := hx.2 (by omega)
      have EU := caS_two l k leaf q x (by omega)
      rw [hlen] at EU
      rw [EU]
      have q1 := sl_h b off n c (split n) (by omega) (by omega)
      have q2 := sl_l b off n c (split n) (by omega) (by omega)
      have q5 := sl_h pb po (m + 1) c' m (by omega) (by omega)
      have CS := Lib.hid (specSplit n w h2 h20)
      have R1 := Lib.hid (fun W (h : Below w.heap.size w W) => (T8s.l8Root 20 (some ⟨b, off, none⟩) (split n) c B (l.take (split n)) W (by omega) (by omega) (by omega) (leaves_take hl _) (by have := h.size; omega) (rd_takeS _ (hx.below h hB) (by omega))).mono (fun e w' (q : _ ∧ _) => (show _ ∧ Below w.heap.size w w' from ⟨q.1, then_ (n := 0) h q.2⟩)))
      have R2 := Lib.hid (fun W (h : Below w.heap.size w W) => (T8s.l8Root 20 (some ⟨b, off + split n, none⟩) (n - split n) (c - split n) B (l.drop (split n)) W (by omega) (by omega) (by omega) (leaves_drop hl _) (by have := h.size; omega) (rd_dropS _ (hx.below h hB) (by omega))).mono (fun e w' (q : _ ∧ _) => (show _ ∧ Below w.heap.size w w' from ⟨q.1, then_ (n := 0) h q.2⟩)))
      have r32 := T8s.root32 ((l.take (split n)).map tl)
      have r32' := T8s.root32 ((l.drop (split n)).map tl)
      generalize bs (root dig ((l.take (split n)).map tl)) = r1 at *
      generalize bs (root dig ((l.drop (split n)).map tl)) = r2 at *
      have hts : (r1 ++ r2).size ≤ 600 := by rw [ByteArray.size_append]; omega
      have q3 : ∀ W, (Op.stringOp .add r1 r2).run Tryd.prog W = .ok (.string (r1 ++ r2)) W := fun W => run_string_add_sum W _ _ (by omega)
      have EUP := upS_two n k leaf q x h2
      rw [EUP] at hu
      clear EUP
      by_cases hks : k < split n
      · rw [if_pos hks] at hu
        have hu' : (upS (split n) k leaf q).2 = true := hu
        rw [if_pos hks]
        have CC := Lib.hid (fun W (h : Below w.heap.size w W) => ih (l.take (split n)) k leaf q (some ⟨b, off, none⟩) (split n) c (some ⟨pb, po, none⟩) m c' B B' W (by omega) (by omega) (by omega) (by omega) (leaves_take hl _) hlf hqs (by omega) (by omega) hu' (by have := h.size; omega) (by have := h.size; omega) (rd_takeS _ (hx.below h hB) (by omega)) (hyq.below h hB'))
        have hd32 := caS_len 0 (l.take (split n)) k leaf q
        have hms : ((caS (l.take (split n)) k leaf q).2.2 ++ x).size ≤ 600 := by rw [ByteArray.size_append]; omega
        have q4 : ∀ W, (Op.stringOp .add (caS (l.take (split n)) k leaf q).2.2 x).run Tryd.prog W = .ok (.string ((caS (l.take (split n)) k leaf q).2.2 ++ x)) W := fun W => run_string_add_sum W _ _ (by omega)
        have CA := Lib.hid (fun W => l8Above (caS (l.take (split n)) k leaf q).1 (caS (l.take (split n)) k leaf q).2.1 ((caS (l.take (split n)) k leaf q).2.2 ++ x) (r1 ++ r2) W hms hts)
        generalize abS (caS (l.take (split n)) k leaf q).1 (caS (l.take (split n)) k leaf q).2.1 ((caS (l.take (split n)) k leaf q).2.2 ++ x) (r1 ++ r2) = res at *
        generalize (caS (l.take (split n)) k leaf q).2.2 ++ x = mine at *
        generalize (caS (l.take (split n)) k leaf q).1 = d1 at *
        generalize (caS (l.take (split n)) k leaf q).2.1 = d2 at *
        generalize (caS (l.take (split n)) k leaf q).2.2 = d3 at *
        generalize r1 ++ r2 = th at *
        clear ih hl hx hy hyq hps hqs hlen EU hd32 hms hts hu hu' r32 r32' hxs
        generalize split n = s at *
        have D1 : Hid (Below w.heap.size w w.drew) := Lib.hid (Below.refl _ w).drew
        have j1 : ¬ ((n : Int) = 1) := by omega
        go_enter Tryd.func67, Tryd.ntmps67
        go_wp2_with fail
        refine CS.out.mono ?_
        rintro e w' ⟨rfl, rfl⟩
        go_wp2_with fail
        go_region_held3 (fun _ => True) (trivial)
          (first
            | (go_at_call 55; (with_reducible refine (R1.out _ ?hb).mono ?_); (case hb => (first | exact D1.out | assumption)); rintro e w1 ⟨rfl, b1⟩)
            | (go_at_call 55; (with_reducible refine (R2.out _ ?hb).mono ?_); (case hb => (first | exact D1.out | assumption)); rintro e w2 ⟨rfl, b2⟩))
        all_goals
          go_wp2_with fail
          refine (CC.out _ (by assumption)).mono ?_
          rintro e w4 ⟨rfl, b4⟩
          go_wp2_with fail
          refine (CA.out _).mono ?_
          rintro e w5 ⟨rfl, b5⟩
          go_wp2
          go_ret3
          exact ⟨rfl, then_ (n := 0) (then_ (n := 0) (by assumption) b4) b5⟩
      · rw [if_neg hks] at hu
        have hu' : (upS (n - split n) (k - split n) leaf q).2 = true := hu
        rw [if_neg hks]
        have CC := Lib.hid (fun W (h : Below w.heap.size w W) => ih (l.drop (split n)) (k - split n) leaf q (some ⟨b, off + split n, none⟩) (n - split n) (c - split n) (some ⟨pb, po, none⟩) m c' B B' W (by omega) (by omega) (by omega) (by omega) (leaves_drop hl _) hlf hqs (by omega) (by omega) hu' (by have := h.size; omega) (by have := h.size; omega) (rd_dropS _ (hx.below h hB) (by omega)) (hyq.below h hB'))
        rw [show ((k - split n : Nat) : Int) = (k : Int) - ((split n : Nat) : Int) by omega] at CC
        have hd32 := caS_len 0 (l.drop (split n)) (k - split n) leaf q
        have hms : (x ++ (caS (l.drop (split n)) (k - split n) leaf q).2.2).size ≤ 600 := by rw [ByteArray.size_append]; omega
        have q4 : ∀ W, (Op.stringOp .add x (caS (l.drop (split n)) (k - split n) leaf q).2.2).run Tryd.prog W = .ok (.string (x ++ (caS (l.drop (split n)) (k - split n) leaf q).2.2)) W := fun W => run_string_add_sum W _ _ (by omega)
        have CA := Lib.hid (fun W => l8Above (caS (l.drop (split n)) (k - split n) leaf q).1 (caS (l.drop (split n)) (k - split n) leaf q).2.1 (x ++ (caS (l.drop (split n)) (k - split n) leaf q).2.2) (r1 ++ r2) W hms hts)
        generalize abS (caS (l.drop (split n)) (k - split n) leaf q).1 (caS (l.drop (split n)) (k - split n) leaf q).2.1 (x ++ (caS (l.drop (split n)) (k - split n) leaf q).2.2) (r1 ++ r2) = res at *
        generalize x ++ (caS (l.drop (split n)) (k - split n) leaf q).2.2 = mine at *
        generalize (caS (l.drop (split n)) (k - split n) leaf q).1 = d1 at *
        generalize (caS (l.drop (split n)) (k - split n) leaf q).2.1 = d2 at *
        generalize (caS (l.drop (split n)) (k - split n) leaf q).2.2 = d3 at *
        generalize r1 ++ r2 = th at *
        clear ih hl hx hy hyq hps hqs hlen EU hd32 hms hts hu hu' r32 r32' hxs
        generalize split n = s at *
        have D1 : Hid (Below w.heap.size w w.drew) := Lib.hid (Below.refl _ w).drew
        have j1 : ¬ ((n : Int) = 1) := by omega
        go_enter Tryd.func67, Tryd.ntmps67
        go_wp2_with fail
        refine CS.out.mono ?_
        rintro e w' ⟨rfl, rfl⟩
        go_wp2_with fail
        go_region_held3 (fun _ => True) (trivial)
          (first
            | (go_at_call 55; (with_reducible refine (R1.out _ ?hb).mono ?_); (case hb => (first | exact D1.out | assumption)); rintro e w1 ⟨rfl, b1⟩)
            | (go_at_call 55; (with_reducible refine (R2.out _ ?hb).mono ?_); (case hb => (first | exact D1.out | assumption)); rintro e w2 ⟨rfl, b2⟩))
        all_goals
          go_wp2_with fail
          refine (CC.out _ (by assumption)).mono ?_
          rintro e w4 ⟨rfl, b4⟩
          go_wp2_with fail
          refine (CA.out _).mono ?_
          rintro e w5 ⟨rfl, b5⟩
          go_wp2
          go_ret3
          exact ⟨rfl, then_ (n := 0) (then_ (n := 0) (by assumption) b4) b5⟩
end Go.Proofs.YtiiklednbhklhaaDoor.T8y
