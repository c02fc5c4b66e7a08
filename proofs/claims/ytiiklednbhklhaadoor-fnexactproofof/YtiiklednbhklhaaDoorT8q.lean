/-
  Proofs of inclusion, by both sides, and the law on ProofOf.
-/
import Derived.Test.YtiiklednbhklhaaDoorT8l
import Derived.Test.YtiiklednbhklhaaDoorT8p
import Derived.Test.YtiiklednbhklhaaDoorT8w
import Derived.Test.YtiiklednbhklhaaDoorMkg
namespace Go.Proofs.YtiiklednbhklhaaDoor.T8q
open Go.ChangeShapes Go.WideShapes Go.ChangeAt Go.RowKit
open Go.Proofs.YtiiklednbhklhaaDoor.Mem Go.Proofs.YtiiklednbhklhaaDoor.Ints Go.Proofs.YtiiklednbhklhaaDoor.Strs Go.Proofs.YtiiklednbhklhaaDoor.ShaComp Go.Proofs.YtiiklednbhklhaaDoor.Digest Go.Proofs.YtiiklednbhklhaaDoor.Mkl Go.Proofs.YtiiklednbhklhaaDoor.Sib Go.Proofs.YtiiklednbhklhaaDoor.Spl Go.Proofs.YtiiklednbhklhaaDoor.Slq Go.Proofs.YtiiklednbhklhaaDoor.Rec Go.Proofs.YtiiklednbhklhaaDoor.T8 Go.Proofs.YtiiklednbhklhaaDoor.T8s Go.Proofs.YtiiklednbhklhaaDoor.T8i Go.Proofs.YtiiklednbhklhaaDoor.T8r Go.Proofs.YtiiklednbhklhaaDoor.T8k Go.Proofs.YtiiklednbhklhaaDoor.T8l Go.Proofs.YtiiklednbhklhaaDoor.T8p Go.Proofs.YtiiklednbhklhaaDoor.Itr Go.Proofs.YtiiklednbhklhaaDoor.Mkg
set_option linter.unusedVariables false
set_option maxRecDepth 100000

theorem prs_pf (l : List ByteArray) (k : Nat) (h : k < l.length) : prs l (sib 0 l.length k (k + 1)) = pfS l k := by
  have e := proof_sib dig (l.map tl) l.length 0 l.length k (by omega) (by simp) (by omega) h
  rw [show sub (l.map tl) 0 l.length = l.map tl by have := sub_all (l.map tl); simpa using this, Nat.sub_zero] at e
  unfold pfS prs
  rw [e, List.map_map]
  rfl
theorem okL_iff (l : List ByteArray) : okL l = true ↔ leaves l ∧ l.length ≤ 20 := by simp [okL, leaves]
set_option maxHeartbeats 1000000 in
theorem proofBoth (l : List ByteArray) (n : Nat) (K : Int) (hn : n ≤ 1048576) (hl : l.length = n) (hs : ∀ s ∈ l, s.size ≤ maxLen) (w0 : (Lit.int .i64 K).wf = true) : ∃ (p : List ByteArray) (ok : Bool), p.length ≤ 100 ∧ (ok = true → n ≤ 20) ∧ (ok = true → okL l = true ∧ 0 ≤ K ∧ K < n ∧ p = pfS l K.toNat) ∧ (ok = false → p = [] ∧ ¬ (okL l = true ∧ 0 ≤ K ∧ K < n)) ∧
    (∀ A c B w, n ≤ c → B ≤ w.heap.size → Rd w B 1 A n (svs l) → Calls Tryd.prog 15 #[.slice A n c, .int .i64 K] w fun e w' => ∃ v, e = .returned (.tuple #[v, .bool ok]) ∧ w'.ownsRow w.heap.size 9 1 v p.length (svs p) ∧ Below w.heap.size w w') ∧
    (∀ A c B w, n ≤ c → B ≤ w.heap.size → Rd w B 1 A n (svs l) → Tbl w → Calls Tryd.prog 14 #[.slice A n c, .int .i64 K] w fun e w' => ∃ v, e = .returned (.tuple #[v, .bool ok]) ∧ w'.ownsRow w.heap.size 9 1 v p.length (svs p) ∧ Below w.heap.size w w') := by
  have CL := Lib.hid (fun A c B w (hx : Rd w B 1 A n (svs l)) => T8i.l8Leaves A n c l B w hn hs hx)
  have CI := Lib.hid (fun A c B w (hx : Rd w B 1 A n (svs l)) => T8i.areLeaves A n c l B w hn hs hx)
  by_cases hok : okL l = true ∧ 0 ≤ K ∧ K < n
  · obtain ⟨h1, h2, h3⟩ := hok
    obtain ⟨hlv, h20⟩ := okL_yes h1
    obtain ⟨k, rfl⟩ : ∃ k : Nat, K = k := ⟨K.toNat, by omega⟩
    have hk : k < n := by omega
    have hpl := pf_len 20 l k h20
    rw [h1] at CL CI
    refine ⟨pfS l k, true, by omega, fun _ => by omega, fun _ => ⟨h1, h2, h3, by rw [Int.toNat_natCast]⟩, fun h => (by cases h), fun A c B w hc hB hx => ?_, fun A c B w hc hB hx hT => ?_⟩
    · have C0 := Lib.hid (CL.out A c B w hx)
      have C1 := Lib.hid (T8p.l8Proof n A n c k B l w (Nat.le_refl _) hk (by omega) hc (by omega) hlv hB hx)
      clear hx CL CI hlv h1 w0 hs hl h20 h2
      generalize pfS l k = pf at *
      go_enter Tryd.func15, Tryd.ntmps15
      go_wp2_with fail
      refine C0.out.mono ?_
      rintro e w' ⟨rfl, rfl⟩
      go_wp2_with fail
      refine C1.out.mono ?_
      rintro e w1 ⟨v, rfl, o1, b1⟩
      have HO := Lib.hid o1
      clear o1
      go_wp2
      go_ret2
      exact ⟨v, rfl, HO.out, b1⟩
    · have C0 := Lib.hid (CI.out A c B w hx)
      have CS := Lib.hid (fun W => leafSpan k W (by omega))
      have C1 := Lib.hid (fun W (h : Below w.heap.size w W) => (T8l.siblingRoots k (k + 1) A n c B l W (rch_leaf n 0 n k (by omega) (by omega) hk) (by omega) hlv (by have := h.size; omega) (hx.below h hB) (hT.below h)).mono (fun e w' (q : ∃ v, e = .returned v ∧ w'.ownsRow W.heap.size 9 1 v (sib 0 n k (k + 1)).length (svs (prs l (sib 0 n k (k + 1)))) ∧ Below W.heap.size W w') => (show ∃ v, e = .returned v ∧ w'.ownsRow w.heap.size 9 1 v (sib 0 n k (k + 1)).length (svs (prs l (sib 0 n k (k + 1)))) ∧ Below w.heap.size w w' from by obtain ⟨v, q1, q2, q3⟩ := q; exact ⟨v, q1, own_base q2 h.size, then_ (n := 0) h q3⟩)))
      have e1 : prs l (sib 0 n k (k + 1)) = pfS l k := by rw [← hl]; exact prs_pf l k (by omega)
      have e2 : (sib 0 n k (k + 1)).length = (pfS l k).length := by rw [← e1]; simp [prs]
      rw [e1, e2] at C1
      clear hx CL CI hlv h1 w0 hs hl h20 h2 hT e1 e2
      generalize pfS l k = pf at *
      unfold sp at CS C1
      rw [show ((k + 1 : Nat) : Int) = (k : Int) + 1 by omega] at CS C1
      go_enter Tryd.func14, Tryd.ntmps14
      go_wp2_with fail
      refine C0.out.mono ?_
      rintro e w' ⟨rfl, rfl⟩
      go_wp2_with fail
      refine (CS.out _).mono ?_
      rintro e w1 ⟨rfl, b1⟩
      go_wp2_with fail
      refine (C1.out _ b1).mono ?_
      rintro e w2 ⟨v, rfl, o2, b2⟩
      have HO := Lib.hid o2
      clear o2
      go_wp2
      go_ret2
      exact ⟨v, rfl, HO.out, b2⟩
  · refine ⟨[], false, by simp, fun h => (by cases h), fun h => (by cases h), fun _ => ⟨rfl, hok⟩, fun A c B w hc hB hx => ?_, fun A c B w hc hB hx hT => ?_⟩
    · have C0 := Lib.hid (CL.out A c B w hx)
      clear hx CL CI
      cases hl1 : okL l
      · rw [hl1] at C0
        clear hok hl1
        go_enter Tryd.func15, Tryd.ntmps15
        go_wp2_with fail
        refine C0.out.mono ?_
        rintro e w' ⟨rfl, rfl⟩
        go_wp2
        go_ret2
        exact ⟨_, rfl, World.ownsRow_nil _ _ _ _, Below.refl _ _⟩
      · rw [hl1] at C0 hok
        by_cases h2 : K < 0
        · clear hok hl1
          go_enter Tryd.func15, Tryd.ntmps15
          go_wp2_with fail
          refine C0.out.mono ?_
          rintro e w' ⟨rfl, rfl⟩
          go_wp2
          go_ret2
          exact ⟨_, rfl, World.ownsRow_nil _ _ _ _, Below.refl _ _⟩
        · have h3 : (n : Int) ≤ K := by
            apply Classical.byContradiction; intro h; exact hok ⟨rfl, by omega, by omega⟩
          clear hok hl1
          go_enter Tryd.func15, Tryd.ntmps15
          go_wp2_with fail
          refine C0.out.mono ?_
          rintro e w' ⟨rfl, rfl⟩
          go_wp2
          go_ret2
          exact ⟨_, rfl, World.ownsRow_nil _ _ _ _, Below.refl _ _⟩
    · have C0 := Lib.hid (CI.out A c B w hx)
      clear hx CL CI hT
      cases hl1 : okL l
      · rw [hl1] at C0
        clear hok hl1
        go_enter Tryd.func14, Tryd.ntmps14
        go_wp2_with fail
        refine C0.out.mono ?_
        rintro e w' ⟨rfl, rfl⟩
        go_wp2
        go_ret2
        exact ⟨_, rfl, World.ownsRow_nil _ _ _ _, Below.refl _ _⟩
      · rw [hl1] at C0 hok
        by_cases h2 : K < 0
        · clear hok hl1
          go_enter Tryd.func14, Tryd.ntmps14
          go_wp2_with fail
          refine C0.out.mono ?_
          rintro e w' ⟨rfl, rfl⟩
          go_wp2
          go_ret2
          exact ⟨_, rfl, World.ownsRow_nil _ _ _ _, Below.refl _ _⟩
        · have h3 : (n : Int) ≤ K := by
            apply Classical.byContradiction; intro h; exact hok ⟨rfl, by omega, by omega⟩
          clear hok hl1
          go_enter Tryd.func14, Tryd.ntmps14
          go_wp2_with fail
          refine C0.out.mono ?_
          rintro e w' ⟨rfl, rfl⟩
          go_wp2
          go_ret2
          exact ⟨_, rfl, World.ownsRow_nil _ _ _ _, Below.refl _ _⟩

set_option maxHeartbeats 2000000 in
theorem walk (A : Option Addr) (n c : Nat) (l : List ByteArray) (kk : Int) (hn : n ≤ maxLen) (hs : ∀ s ∈ l, s.size ≤ maxLen) (w0 : (Lit.int .i64 kk).wf = true) (w : World) (hT : Tbl w) (R1 : Rd w w.heap.size 1 A n (svs l)) :
    Calls Tryd.prog 8 #[.slice A n c, .int .i64 kk] w fun e w' => e = .returned (.bool true) ∧ Below w.heap.size w w' := by
  have H1 := Lib.hid R1
  have HS := Lib.hid hs
  have HT := Lib.hid (fun W (h : Below w.heap.size w W) => hT.below h)
  have Z1 : Calls Tryd.prog 41 #[.slice A n c, .int .i64 1048576] w (Sz 1048576 n l w) := szStrS A n c l w.heap.size 1048576 w hn (Nat.le_refl _) hs R1
  have Z := Lib.hid Z1
  have hlen := rd_len R1
  clear R1 hs Z1 hT
  go_enter Tryd.func8, Tryd.ntmps8
  go_wp2_with fail
  refine Z.out.mono ?_
  rintro e w' ⟨z, rfl, rfl, hz0, hz1, hz2⟩
  have HZ := Lib.hid hz2
  clear hz2 Z
  by_cases hneg : z < 0
  · clear HZ
    go_wp2
    go_ret
    exact ⟨rfl, Below.refl _ _⟩
  have hnn : n ≤ 1048576 := (HZ.out (by omega)).1
  clear HZ
  obtain ⟨p, ok, hpl, hokn, -, -, S0, I0⟩ := proofBoth l n kk hnn hlen HS.out w0
  have hz0' : ¬ z < 0 := hneg
  have S := Lib.hid (fun g W (o : W.ownsRow (g : Nat) 9 1 (.slice (some ⟨g, 0, none⟩) n n) n (svs l)) => S0 _ _ _ W (Nat.le_refl n) (Nat.le_refl _) (Rd.own o))
  have I := Lib.hid (fun g W (o : W.ownsRow (g : Nat) 9 1 (.slice (some ⟨g, 0, none⟩) n n) n (svs l)) (h : Below w.heap.size w W) => I0 _ _ _ W (Nat.le_refl n) (Nat.le_refl _) (Rd.own o) (HT.out W h))
  have T := Lib.hid (fun W (h : Below w.heap.size w W) => toStrS A n c l W hnn (Rdm H1.out (Nat.le_refl _) h))
  have QR := Lib.hid (fun (A D : Option Addr) (c d : Nat) B B' W (h : Rd W B 1 A p.length (svs p)) (h' : Rd W B' 1 D p.length (svs p)) => eqSame A D p.length c d p B B' W (by omega) h h')
  have QX := Lib.hid (fun (g g' : Nat) B B' W (h : Rd W B 1 (some ⟨g, 0, none⟩) n (svs l)) (h' : Rd W B' 1 (some ⟨g', 0, none⟩) n (svs l)) => eqSame (some ⟨g, 0, none⟩) (some ⟨g', 0, none⟩) n n n l B B' W hnn h h')
  have M := Lib.hid (fun (A : Option Addr) (c base : Nat) W (hB : base ≤ W.heap.size) (h : W.ownsRow base 9 1 (.slice A p.length c) p.length (svs p)) => markS A p.length c p 1 base W (by omega) (by omega) hB h)
  have H := Lib.hid (fun (A : Option Addr) (c B : Nat) W (hB : B ≤ W.heap.size) (h : Rd W B 1 A p.length (svs (mts 1 p.length))) => heldS A p.length c 1 B W (by omega) (by omega) hB h)
  have MX := Lib.hid (fun (g base : Nat) W (hB : base ≤ W.heap.size) (h : W.ownsRow base 9 1 (.slice (some ⟨g, 0, none⟩) n n) n (svs l)) => markSg g n n l 1 base W (by omega) hnn hB h)
  obtain ⟨kp, hkp⟩ : ∃ kp, 1 + p.length = kp := ⟨_, rfl⟩
  rw [hkp] at M H
  have hk1 : 1 ≤ kp := by omega
  have hk2 : kp ≤ 200 := by omega
  obtain ⟨kn, hkn⟩ : ∃ kn, 1 + n = kn := ⟨_, rfl⟩
  rw [hkn] at MX
  have hk3 : 1 ≤ kn := by omega
  have hk4 : kn ≤ 1048577 := by omega
  have HK := Lib.hid hokn
  clear S0 I0 hkp hkn hlen HS hokn w0 HT
  generalize p.length = m at *
  have HM := Lib.hid hpl
  clear hpl
  go_wp2_with fail
  refine (T.out w (Below.refl _ _)).mono ?_
  rintro e v1 ⟨rfl, o1, b1⟩
  go_wp2_with fail
  refine (S.out _ _ o1).mono ?_
  rintro e v2 ⟨v0, rfl, o2, b2⟩
  obtain ⟨A0, c0, rfl⟩ := own_shapeS o2
  have B2 := Lib.hid (then_ (n := 0) b1 b2)
  have R0 := Lib.hid (Rd.own o2)
  have B2z : w.heap.size ≤ v2.heap.size := B2.out.size
  clear o1 b1 b2 o2
  go_wp2_with fail
  refine (T.out v2 B2.out).mono ?_
  rintro e v3 ⟨rfl, o3, b3⟩
  have B3 := Lib.hid (then_ (n := 0) B2.out b3)
  have R0' := Lib.hid (R0.out.below b3 (Nat.le_refl _))
  have z3 := b3.size
  have O3 := Lib.hid o3
  have L3 : Hid (v2.heap.size < v3.heap.size) := Lib.hid (by rcases o3.2 with ⟨h, _⟩ | ⟨g, cap, cur, h, _, hg, _⟩
                                                             · cases h
                                                             · obtain rfl : v2.heap.size = g := by simpa using (Value.slice.inj h).1
                                                               exact (Array.getElem?_eq_some_iff.1 hg).1)
  clear o3 b3 B2 R0
  go_wp2_with fail
  refine (I.out _ _ O3.out B3.out).mono ?_
  rintro e v4 ⟨vg, rfl, o4, b4⟩
  obtain ⟨Ag, cg, rfl⟩ := own_shapeS o4
  have B4 := Lib.hid (then_ (n := 0) B3.out b4)
  have R0 := Lib.hid (R0'.out.below b4 z3)
  have z4 := Nat.le_trans z3 b4.size
  have y4 := b4.size
  have O3' := Lib.hid (own_belowS O3.out b4 (Nat.le_refl _))
  have O4 := Lib.hid o4
  clear o4 b4 B3 R0' O3
  cases ok
  all_goals
    go_wp2_with fail
    refine (QR.out Ag A0 cg c0 _ _ v4 (Rd.own O4.out) R0.out).mono ?_
    rintro e w' ⟨rfl, q, rfl⟩
    have D4 := Lib.hid (Rec.below_drewN (Below.refl v4.heap.size v4) q)
    have B5 := Lib.hid (then_ (n := 0) B4.out D4.out)
    have R5 := Lib.hid (R0.out.below D4.out z4)
    have z5 := Nat.le_trans z4 D4.out.size
    have y5 := Nat.le_trans y4 D4.out.size
    have X5 := Lib.hid (own_belowS O3'.out D4.out (Nat.le_refl _))
    have G5 := Lib.hid (own_belowS O4.out D4.out (Nat.le_refl _))
    clear D4 B4 R0 O3' O4
    generalize v4.drewN q = v5 at *
    go_wp2_with fail
    refine (T.out v5 B5.out).mono ?_
    rintro e v6 ⟨rfl, o6, b6⟩
    have B6 := Lib.hid (then_ (n := 0) B5.out b6)
    have R6 := Lib.hid (R5.out.below b6 z5)
    have z6 := Nat.le_trans z5 b6.size
    have y6 := Nat.le_trans y5 b6.size
    have X6 := Lib.hid (own_belowS X5.out b6 (Nat.le_refl _))
    have G6 := Lib.hid (own_belowS G5.out b6 (Nat.le_refl _))
    have O6 := Lib.hid (Rd.own o6)
    clear o6 b6 B5 R5 X5 G5
    go_wp2_with fail
    with_reducible refine (QX.out v2.heap.size v5.heap.size v6.heap.size v6.heap.size v6 (Rd.own X6.out) O6.out).mono ?_
    rintro e w' ⟨rfl, q', rfl⟩
    have D6 := Lib.hid (Rec.below_drewN (Below.refl v6.heap.size v6) q')
    have B7 := Lib.hid (then_ (n := 0) B6.out D6.out)
    have R7 := Lib.hid (R6.out.below D6.out z6)
    have z7 := Nat.le_trans z6 D6.out.size
    have X7 := Lib.hid (own_belowS X6.out D6.out (Nat.le_refl _))
    have G7 := Lib.hid (own_belowS G6.out D6.out (Nat.le_refl _))
    have y7 : v3.heap.size ≤ (v6.drewN q').heap.size := Nat.le_trans y6 D6.out.size
    clear D6 B6 R6 X6 G6 O6
    generalize v6.drewN q' = v7 at *
    go_wp2_with fail
    refine (MX.out v2.heap.size v2.heap.size v7 z7 X7.out).mono ?_
    rintro e v8 ⟨rfl, o8, st8⟩
    have B8 := Lib.hid (B7.out.trans (st8.below (by have := B7.out.size; omega) (fun k hk => by have := B2z; omega)))
    have R8 := Lib.hid (R7.out.keep (fun b o hb => World.cell?_of_block (a := ⟨b, o, none⟩) (st8.block b (by show b < _; omega) (by show ¬ b = _; omega))))
    have G8 := Lib.hid (own_other G7.out st8 (fun k hk => by have := L3.out; omega))
    have z8 := Nat.le_trans z7 st8.size
    have y8 : v3.heap.size ≤ v8.heap.size := Nat.le_trans y7 st8.size
    clear o8 st8 B7 R7 X7 G7 MX
    go_wp2_with fail
    refine (QR.out Ag A0 cg c0 _ _ v8 (Rd.own G8.out) R8.out).mono ?_
    rintro e w' ⟨rfl, q2, rfl⟩
    have D8 := Lib.hid (Rec.below_drewN (Below.refl v8.heap.size v8) q2)
    have B9 := Lib.hid (then_ (n := 0) B8.out D8.out)
    have R9 := Lib.hid (R8.out.below D8.out z8)
    have z9 := Nat.le_trans z8 D8.out.size
    have y9 := Nat.le_trans y8 D8.out.size
    have G9 := Lib.hid (own_belowS G8.out D8.out (Nat.le_refl _))
    clear D8 B8 R8 G8
    generalize v8.drewN q2 = v9 at *
    go_wp2_with fail
    refine (M.out Ag cg v3.heap.size v9 y9 G9.out).mono ?_
    rintro e v10 ⟨rfl, o10, b10⟩
    have B10 := Lib.hid (B9.out.trans (b10.mono (by omega)))
    have R10 := Lib.hid (R9.out.below b10 (by omega))
    have z10 := Nat.le_trans z9 b10.size
    have G10 := Lib.hid o10
    clear o10 b10 B9 R9 G9 M
    go_wp2_with fail
    refine (H.out Ag cg _ v10 (Nat.le_refl _) (Rd.own G10.out)).mono ?_
    rintro e v11 ⟨rfl, b11⟩
    have B11 := Lib.hid (then_ (n := 0) B10.out b11)
    have R11 := Lib.hid (R10.out.below b11 z10)
    have z11 := Nat.le_trans z10 b11.size
    have G11 := Lib.hid (own_belowS G10.out b11 (Nat.le_refl _))
    clear b11 B10 R10 G10
    go_wp2_with fail
    refine (T.out v11 B11.out).mono ?_
    rintro e v12 ⟨rfl, o12, b12⟩
    have B12 := Lib.hid (then_ (n := 0) B11.out b12)
    have R12 := Lib.hid (R11.out.below b12 z11)
    have z12 := Nat.le_trans z11 b12.size
    have G12 := Lib.hid (own_belowS G11.out b12 (Nat.le_refl _))
    have O12 := Lib.hid o12
    clear o12 b12 B11 R11 G11
    go_wp2_with fail
    refine (I.out _ _ O12.out B12.out).mono ?_
    rintro e v13 ⟨vh, rfl, o13, b13⟩
    obtain ⟨Ah, ch, rfl⟩ := own_shapeS o13
    have B13 := Lib.hid (then_ (n := 0) B12.out b13)
    have R13 := Lib.hid (R12.out.below b13 z12)
    have G13 := Lib.hid (own_belowS G12.out b13 (Nat.le_refl _))
    have O13 := Lib.hid (Rd.own o13)
    clear o13 b13 B12 R12 G12 O12
    go_wp2_with fail
    refine (QR.out Ah A0 ch c0 _ _ v13 O13.out R13.out).mono ?_
    rintro e w' ⟨rfl, q4, rfl⟩
    have D13 := Lib.hid (Rec.below_drewN (Below.refl v13.heap.size v13) q4)
    have B14 := Lib.hid (then_ (n := 0) B13.out D13.out)
    have G14 := Lib.hid (own_belowS G13.out D13.out (Nat.le_refl _))
    clear D13 B13 R13 G13 O13
    generalize v13.drewN q4 = v14 at *
    go_wp2_with fail
    refine (H.out Ag cg _ v14 (Nat.le_refl _) (Rd.own G14.out)).mono ?_
    rintro e v15 ⟨rfl, b15⟩
    have B15 := then_ (n := 0) B14.out b15
    clear b15 B14 G14 H1 T I S QR QX H
    go_wp2
    go_ret
    exact ⟨rfl, B15⟩
end Go.Proofs.YtiiklednbhklhaaDoor.T8q
