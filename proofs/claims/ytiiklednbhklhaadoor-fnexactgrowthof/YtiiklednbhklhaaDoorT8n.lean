/-
  Proofs of growth, by both sides, and the law on GrowthOf.
-/
import Derived.Test.YtiiklednbhklhaaDoorT8l
import Derived.Test.YtiiklednbhklhaaDoorT8p
import Derived.Test.YtiiklednbhklhaaDoorT8w
import Derived.Test.YtiiklednbhklhaaDoorMkg
import Derived.Test.YtiiklednbhklhaaDoorT8g
import Derived.Test.YtiiklednbhklhaaDoorT8m
namespace Go.Proofs.YtiiklednbhklhaaDoor.T8n
open Go.ChangeShapes Go.WideShapes Go.ChangeAt Go.RowKit
open Go.Proofs.YtiiklednbhklhaaDoor.Mem Go.Proofs.YtiiklednbhklhaaDoor.Ints Go.Proofs.YtiiklednbhklhaaDoor.Strs Go.Proofs.YtiiklednbhklhaaDoor.ShaComp Go.Proofs.YtiiklednbhklhaaDoor.Digest Go.Proofs.YtiiklednbhklhaaDoor.Mkl Go.Proofs.YtiiklednbhklhaaDoor.Sib Go.Proofs.YtiiklednbhklhaaDoor.Spl Go.Proofs.YtiiklednbhklhaaDoor.Slq Go.Proofs.YtiiklednbhklhaaDoor.Rec Go.Proofs.YtiiklednbhklhaaDoor.T8 Go.Proofs.YtiiklednbhklhaaDoor.T8s Go.Proofs.YtiiklednbhklhaaDoor.T8i Go.Proofs.YtiiklednbhklhaaDoor.T8r Go.Proofs.YtiiklednbhklhaaDoor.T8k Go.Proofs.YtiiklednbhklhaaDoor.T8l Go.Proofs.YtiiklednbhklhaaDoor.T8p Go.Proofs.YtiiklednbhklhaaDoor.Itr Go.Proofs.YtiiklednbhklhaaDoor.Mkg
set_option linter.unusedVariables false
set_option maxRecDepth 100000

theorem okL_iff (l : List ByteArray) : okL l = true ↔ leaves l ∧ l.length ≤ 20 := by simp [okL, leaves]
theorem gw_sib (l : List ByteArray) (k : Nat) (h1 : 1 ≤ k) (h : k ≤ l.length) : gwS l k true = (if (last 0 l.length k).1 = 0 then [] else [prS l (last 0 l.length k).1 k]) ++ prs l (sib 0 l.length (last 0 l.length k).1 k) := by
  have e := growth_sib dig (l.map tl) l.length 0 l.length k (by omega) (by simp) (by omega) h
  have hl := (last_rch l.length 0 l.length k (by omega) (by omega) h).2
  rw [show sub (l.map tl) 0 l.length = l.map tl by have := sub_all (l.map tl); simpa using this, Nat.sub_zero, show decide (0 = 0) = true from rfl, hl] at e
  unfold gwS prs
  rw [e, List.map_append, List.map_map]
  by_cases hb : (last 0 l.length k).1 = 0
  · rw [if_pos hb, if_pos hb]; rfl
  · rw [if_neg hb, if_neg hb]
    have : prt dig (l.map tl) (last 0 l.length k) = root dig (sub (l.map tl) (last 0 l.length k).1 k) := by unfold prt; rw [hl]
    rw [this]; rfl
set_option maxHeartbeats 2000000 in
theorem implGrow (l : List ByteArray) (n k b : Nat) (A : Option Addr) (c B : Nat) (w : World) (hl : l.length = n) (h20 : n ≤ 20) (hlv : leaves l) (h1 : 1 ≤ k) (hk : k ≤ n) (hok : okL l = true) (hn : n ≤ 1048576) (hs : ∀ s ∈ l, s.size ≤ maxLen) (hb : (last 0 n k).1 = b) (hc : n ≤ c) (hB : B ≤ w.heap.size) (hx : Rd w B 1 A n (svs l)) (hT : Tbl w) :
    Calls Tryd.prog 33 #[.slice A n c, .int .i64 (k : Int)] w fun e w' => ∃ v, e = .returned (.tuple #[v, .bool true]) ∧ w'.ownsRow w.heap.size 9 1 v (gwS l k true).length (svs (gwS l k true)) ∧ Below w.heap.size w w' := by
  have C0 := Lib.hid (T8i.areLeaves A n c l B w hn hs hx)
  rw [hok] at C0
  obtain ⟨hr, hend⟩ := last_rch n 0 n k (by omega) (by omega) hk
  rw [hend, hb] at hr
  have CL := Lib.hid (fun W => T8g.lastSpan k n W h1 hk h20)
  rw [hend, hb] at CL
  have CS := Lib.hid (fun W (h : Below w.heap.size w W) => (T8l.siblingRoots b k A n c B l W hr h20 hlv (by have := h.size; omega) (hx.below h hB) (hT.below h)).mono (fun e w' (q : ∃ v, e = .returned v ∧ w'.ownsRow W.heap.size 9 1 v (sib 0 n b k).length (svs (prs l (sib 0 n b k))) ∧ Below W.heap.size W w') => (show ∃ v, e = .returned v ∧ w'.ownsRow w.heap.size 9 1 v (sib 0 n b k).length (svs (prs l (sib 0 n b k))) ∧ Below W.heap.size W w' from by obtain ⟨v, q1, q2, q3⟩ := q; exact ⟨v, q1, own_base q2 h.size, q3⟩)))
  have CT := Lib.hid (fun W (h : Below w.heap.size w W) => T8l.siblingRoots b k A n c B l W hr h20 hlv (by have := h.size; omega) (hx.below h hB) (hT.below h))
  have CR := Lib.hid (fun W b' (h : Below w.heap.size w W) (hR : Rtf W b' A n c) => T8r.root n b k A n c b' B l W (by omega) (by have := hr.in; omega) hk h20 hlv (by have := h.size; omega) (hx.below h hB) hR (hT.below h))
  have EG := gw_sib l k h1 (by omega)
  rw [hl, hb] at EG
  have hsl := sib_len n 0 n b k (by omega)
  unfold sp at CL CS CT CR
  generalize gwS l k true = gw at *
  generalize prS l b k = d at *
  generalize prs l (sib 0 n b k) = ps at *
  generalize (sib 0 n b k).length = m at *
  clear hx hT hlv hs hok hend hr
  by_cases hb0 : b = 0
  · rw [if_pos hb0, List.nil_append] at EG
    subst EG
    subst hb0
    clear CR CT
    go_enter Tryd.func33, Tryd.ntmps33
    go_wp2_with fail
    refine C0.out.mono ?_
    rintro e w' ⟨rfl, rfl⟩
    go_wp2_with fail
    refine (CL.out _).mono ?_
    rintro e w1 ⟨rfl, b1⟩
    have k2 := nw1 w1 (.cells #[.int .i64 ((0 : Nat) : Int), .int .i64 (k : Int)] 68)
    have B2 := then_ (n := 0) b1 (al1 w1 (.cells #[.int .i64 ((0 : Nat) : Int), .int .i64 (k : Int)] 68))
    obtain ⟨c0, c1⟩ := row2 k2
    go_wp2_with fail
    refine (CS.out _ B2).mono ?_
    rintro e w3 ⟨v, rfl, o3, b3⟩
    obtain ⟨c2, c3⟩ := row2 (bx k2 b3)
    have hm := (show gw.length = m from by have := o3.1; simpa [svs] using this)
    have HO := Lib.hid o3
    clear o3
    go_wp2
    go_ret2
    exact ⟨v, rfl, by rw [hm]; exact HO.out, then_ (n := 0) B2 b3⟩
  · rw [if_neg hb0] at EG
    have hbp : (0 : Int) < (b : Int) := by omega
    go_enter Tryd.func33, Tryd.ntmps33
    go_wp2_with fail
    refine C0.out.mono ?_
    rintro e w' ⟨rfl, rfl⟩
    go_wp2_with fail
    refine (CL.out _).mono ?_
    rintro e w1 ⟨rfl, b1⟩
    have k2 := nw1 w1 (.cells #[.int .i64 (b : Int), .int .i64 (k : Int)] 68)
    have B2 := then_ (n := 0) b1 (al1 w1 (.cells #[.int .i64 (b : Int), .int .i64 (k : Int)] 68))
    obtain ⟨c0, c1⟩ := row2 k2
    go_wp2_with fail
    refine (CT.out _ B2).mono ?_
    rintro e W5 ⟨v, rfl, o3, b3⟩
    have B5 := then_ (n := 0) B2 b3
    have hbox := bx k2 b3
    have hm := (show ps.length = m from by have := o3.1; simpa [svs] using this)
    have EL : gw.length = m + 1 := by rw [EG]; simp; omega
    obtain ⟨Av, cv, rfl⟩ := own_shapeS o3
    have HLT := Lib.hid (fun b (h : (Value.slice Av m cv).ownBlock = some b) => o3.lt b h)
    have HO := Lib.hid (own_base o3 B2.size)
    have hs5 : w1.heap.size < (World.alloc w1 (.cells #[.int .i64 (b : Int), .int .i64 (k : Int)] 68)).heap.size := bx_lt k2
    have HN6 : Hid (some w1.heap.size ≠ (Value.slice Av m cv).ownBlock) := Lib.hid (fun h => by have := (HLT.out _ h.symm).1; omega)
    have HN7 := Lib.hid (fun (W : World) (h : W5.heap.size ≤ W.heap.size) => (show some W.heap.size ≠ (Value.slice Av m cv).ownBlock from fun q => by have := (HLT.out _ q.symm).2; omega))
    have hb5 := bx_lt hbox
    clear k2 B2 b3 o3 c0 c1 b1 CL CS CT C0 HLT hs5
    generalize w1.heap.size = s6 at *
    have XR := Lib.hid (fun W (h : Below W5.heap.size W5 W) => (T8r.rootsOf A n c W).mono (fun e w' (q : _ ∧ _ ∧ _) => (show e = .returned (rtV W.heap.size) ∧ Rtf w' W.heap.size A n c ∧ Below W5.heap.size W5 w' from ⟨q.1, q.2.1, then_ (n := 0) h q.2.2⟩)))
    have XC := Lib.hid (fun W b' (h : Below W5.heap.size W5 W) (hR : Rtf W b' A n c) => (CR.out W b' (then_ (n := 0) B5 h) hR).mono (fun e w' (q : _ ∧ _) => (show _ ∧ Below W5.heap.size W5 w' from ⟨q.1, then_ (n := 0) h q.2⟩)))
    unfold rtV at XR
    have D1 : Hid (Below W5.heap.size W5 W5.drew) := Lib.hid (Below.refl _ W5).drew
    have H6 := Lib.hid hbox
    obtain ⟨c0, c1⟩ := row2 hbox
    clear hbox CR
    obtain ⟨c2, c3⟩ := row2 H6.out
    go_wp2_with fail
    go_region_held3 (fun w' => w'.cell? ⟨s6, 0, none⟩ = some (.int .i64 b) ∧ w'.cell? ⟨s6, 1, none⟩ = some (.int .i64 k))
      (first | (go_keep; done) | (refine ⟨?_, ?_⟩ <;> with_reducible assumption))
      (first
        | (go_at_call 53; (with_reducible refine (XR.out _ ?hb).mono ?_); (case hb => (first | exact D1.out | assumption)); rintro e' w6 ⟨rfl, rt6, b6⟩; obtain ⟨d4, d5⟩ := row2 (bx H6.out b6))
        | (go_at_call 88; (with_reducible refine (XC.out _ _ ?hb ?hR).mono ?_); (case hb => assumption); (case hR => assumption); rintro e' w7 ⟨rfl, b7⟩; obtain ⟨d6, d7⟩ := row2 (bx H6.out b7))
        | (go_at_call 77; refine (T8m.insert0 (.slice Av m cv) m w.heap.size w7.heap.size ps d _ (by omega) ?hbb ((own_belowS HO.out b7 (Nat.le_refl _)).alloc _) (nw1 w7 _) (HN7.out _ b7.size)).mono ?_; (case hbb => (have := B5.size; have := b7.size; simp; omega)); rintro e' w8 ⟨v8, rfl, o8, b8, k8⟩; have e0 := bx (bx H6.out b7) (al1 w7 (.cells #[.string d] 9)); have e1 := (k8 s6 (bx_lt e0) HN6.out).trans e0; obtain ⟨d8, d9⟩ := row2 e1))
    have HO8 : Hid (w8.ownsRow w.heap.size 9 1 v8 gw.length (svs gw)) := Lib.hid (by rw [EL, EG]; exact o8)
    have B8 : Below w.heap.size w w8 := (then_ (n := 0) B5 (b7.trans ((al1 w7 _).mono b7.size))).trans b8
    clear o8 b8 k8 e0 e1 b7 b6 rt6 HO HN6 HN7 H6 XR XC
    go_wp2
    go_ret2
    exact ⟨v8, rfl, HO8.out, B8⟩
set_option maxHeartbeats 1000000 in
theorem growthBoth (l : List ByteArray) (n : Nat) (K : Int) (hn : n ≤ 1048576) (hl : l.length = n) (hs : ∀ s ∈ l, s.size ≤ maxLen) (w0 : (Lit.int .i64 K).wf = true) : ∃ (p : List ByteArray) (ok : Bool), p.length ≤ 100 ∧ (ok = true → n ≤ 20) ∧ (ok = true → okL l = true ∧ 1 ≤ K ∧ K ≤ n ∧ p = gwS l K.toNat true) ∧ (ok = false → p = [] ∧ ¬ (okL l = true ∧ 1 ≤ K ∧ K ≤ n)) ∧
    (∀ A c B w, n ≤ c → B ≤ w.heap.size → Rd w B 1 A n (svs l) → Calls Tryd.prog 34 #[.slice A n c, .int .i64 K] w fun e w' => ∃ v, e = .returned (.tuple #[v, .bool ok]) ∧ w'.ownsRow w.heap.size 9 1 v p.length (svs p) ∧ Below w.heap.size w w') ∧
    (∀ A c B w, n ≤ c → B ≤ w.heap.size → Rd w B 1 A n (svs l) → Tbl w → Calls Tryd.prog 33 #[.slice A n c, .int .i64 K] w fun e w' => ∃ v, e = .returned (.tuple #[v, .bool ok]) ∧ w'.ownsRow w.heap.size 9 1 v p.length (svs p) ∧ Below w.heap.size w w') := by
  have CL := Lib.hid (fun A c B w (hx : Rd w B 1 A n (svs l)) => T8i.l8Leaves A n c l B w hn hs hx)
  have CI := Lib.hid (fun A c B w (hx : Rd w B 1 A n (svs l)) => T8i.areLeaves A n c l B w hn hs hx)
  by_cases hok : okL l = true ∧ 1 ≤ K ∧ K ≤ n
  · obtain ⟨h1, h2, h3⟩ := hok
    obtain ⟨hlv, h20⟩ := okL_yes h1
    obtain ⟨k, rfl⟩ : ∃ k : Nat, K = k := ⟨K.toNat, by omega⟩
    have hk1 : 1 ≤ k := by omega
    have hk : k ≤ n := by omega
    have hpl := gw_len 20 l k true h20 hk1 (by omega)
    refine ⟨gwS l k true, true, by omega, fun _ => by omega, fun _ => ⟨h1, h2, h3, by rw [Int.toNat_natCast]⟩, fun h => (by cases h), fun A c B w hc hB hx => ?_, fun A c B w hc hB hx hT => implGrow l n k _ A c B w hl (by omega) hlv hk1 hk h1 hn hs rfl hc hB hx hT⟩
    have C0 := Lib.hid (CL.out A c B w hx)
    have C1 := Lib.hid (T8p.l8Growth n A n c k true B l w (Nat.le_refl _) hk1 hk (by omega) hc hlv hB hx)
    have C2 := Lib.hid (fun W => l1B (k : Int) 1 (n : Int) W)
    rw [h1] at C0
    rw [show (decide ((1 : Int) ≤ (k : Int)) && decide ((k : Int) ≤ (n : Int))) = true by simp; omega] at C2
    clear hx CL CI hlv h1 w0 hs hl h20 h2
    generalize gwS l k true = pf at *
    go_enter Tryd.func34, Tryd.ntmps34
    go_wp2_with fail
    refine C0.out.mono ?_
    rintro e w' ⟨rfl, rfl⟩
    go_wp2_with fail
    refine (C2.out _).mono ?_
    rintro e w' ⟨rfl, rfl⟩
    go_wp2_with fail
    refine C1.out.mono ?_
    rintro e w1 ⟨v, rfl, o1, b1⟩
    have HO := Lib.hid o1
    clear o1
    go_wp2
    go_ret2
    exact ⟨v, rfl, HO.out, b1⟩
  · refine ⟨[], false, by simp, fun h => (by cases h), fun h => (by cases h), fun _ => ⟨rfl, hok⟩, fun A c B w hc hB hx => ?_, fun A c B w hc hB hx hT => ?_⟩
    · have C0 := Lib.hid (CL.out A c B w hx)
      have C2 := Lib.hid (fun W => l1B K 1 (n : Int) W)
      clear hx CL CI
      cases hl1 : okL l
      · rw [hl1] at C0
        clear hok hl1
        go_enter Tryd.func34, Tryd.ntmps34
        go_wp2_with fail
        refine C0.out.mono ?_
        rintro e w' ⟨rfl, rfl⟩
        go_wp2
        go_ret2
        exact ⟨_, rfl, World.ownsRow_nil _ _ _ _, Below.refl _ _⟩
      · rw [hl1] at C0 hok
        have h3 : ¬ (1 ≤ K ∧ K ≤ n) := fun h => hok ⟨rfl, h.1, h.2⟩
        rw [show (decide ((1 : Int) ≤ K) && decide (K ≤ (n : Int))) = false by simp; omega] at C2
        clear hok hl1 h3
        go_enter Tryd.func34, Tryd.ntmps34
        go_wp2_with fail
        refine C0.out.mono ?_
        rintro e w' ⟨rfl, rfl⟩
        go_wp2_with fail
        refine (C2.out _).mono ?_
        rintro e w' ⟨rfl, rfl⟩
        go_wp2
        go_ret2
        exact ⟨_, rfl, World.ownsRow_nil _ _ _ _, Below.refl _ _⟩
    · have C0 := Lib.hid (CI.out A c B w hx)
      clear hx CL CI hT
      cases hl1 : okL l
      · rw [hl1] at C0
        clear hok hl1
        go_enter Tryd.func33, Tryd.ntmps33
        go_wp2_with fail
        refine C0.out.mono ?_
        rintro e w' ⟨rfl, rfl⟩
        go_wp2
        go_ret2
        exact ⟨_, rfl, World.ownsRow_nil _ _ _ _, Below.refl _ _⟩
      · rw [hl1] at C0 hok
        by_cases h2 : K < 1
        · clear hok hl1
          go_enter Tryd.func33, Tryd.ntmps33
          go_wp2_with fail
          refine C0.out.mono ?_
          rintro e w' ⟨rfl, rfl⟩
          go_wp2
          go_ret2
          exact ⟨_, rfl, World.ownsRow_nil _ _ _ _, Below.refl _ _⟩
        · have h3 : (n : Int) < K := by
            apply Classical.byContradiction; intro h; exact hok ⟨rfl, by omega, by omega⟩
          clear hok hl1
          go_enter Tryd.func33, Tryd.ntmps33
          go_wp2_with fail
          refine C0.out.mono ?_
          rintro e w' ⟨rfl, rfl⟩
          go_wp2
          go_ret2
          exact ⟨_, rfl, World.ownsRow_nil _ _ _ _, Below.refl _ _⟩

set_option maxHeartbeats 2000000 in
theorem walk (A : Option Addr) (n c : Nat) (l : List ByteArray) (kk : Int) (hn : n ≤ maxLen) (hs : ∀ s ∈ l, s.size ≤ maxLen) (w0 : (Lit.int .i64 kk).wf = true) (w : World) (hT : Tbl w) (R1 : Rd w w.heap.size 1 A n (svs l)) :
    Calls Tryd.prog 10 #[.slice A n c, .int .i64 kk] w fun e w' => e = .returned (.bool true) ∧ Below w.heap.size w w' := by
  have H1 := Lib.hid R1
  have HS := Lib.hid hs
  have HT := Lib.hid (fun W (h : Below w.heap.size w W) => hT.below h)
  have Z1 : Calls Tryd.prog 41 #[.slice A n c, .int .i64 1048576] w (Sz 1048576 n l w) := szStrS A n c l w.heap.size 1048576 w hn (Nat.le_refl _) hs R1
  have Z := Lib.hid Z1
  have hlen := rd_len R1
  clear R1 hs Z1 hT
  go_enter Tryd.func10, Tryd.ntmps10
  go_wp2_with fail
  refine Z.out.mono ?_
  rintro e w' ⟨z, rfl, rfl, hz0, hz1, hz2⟩
  have HZ := Lib.hid hz2
  clear hz2 Z
  by_cases hneg : z < 0
  · clear HZ
    go_wp2
    go_ret
    exact ⟨rfl, Below.refl _ _⟩
  have hnn : n ≤ 1048576 := (HZ.out (by omega)).1
  clear HZ
  obtain ⟨p, ok, hpl, hokn, -, -, S0, I0⟩ := growthBoth l n kk hnn hlen HS.out w0
  have hz0' : ¬ z < 0 := hneg
  have S := Lib.hid (fun g W (o : W.ownsRow (g : Nat) 9 1 (.slice (some ⟨g, 0, none⟩) n n) n (svs l)) => S0 _ _ _ W (Nat.le_refl n) (Nat.le_refl _) (Rd.own o))
  have I := Lib.hid (fun g W (o : W.ownsRow (g : Nat) 9 1 (.slice (some ⟨g, 0, none⟩) n n) n (svs l)) (h : Below w.heap.size w W) => I0 _ _ _ W (Nat.le_refl n) (Nat.le_refl _) (Rd.own o) (HT.out W h))
  have T := Lib.hid (fun W (h : Below w.heap.size w W) => toStrS A n c l W hnn (Rdm H1.out (Nat.le_refl _) h))
  have QR := Lib.hid (fun (A D : Option Addr) (c d : Nat) B B' W (h : Rd W B 1 A p.length (svs p)) (h' : Rd W B' 1 D p.length (svs p)) => eqSame A D p.length c d p B B' W (by omega) h h')
  have QX := Lib.hid (fun (g g' : Nat) B B' W (h : Rd W B 1 (some ⟨g, 0, none⟩) n (svs l)) (h' : Rd W B' 1 (some ⟨g', 0, none⟩) n (svs l)) => eqSame (some ⟨g, 0, none⟩) (some ⟨g', 0, none⟩) n n n l B B' W hnn h h')
  have M := Lib.hid (fun (A : Option Addr) (c base : Nat) W (hB : base ≤ W.heap.size) (h : W.ownsRow base 9 1 (.slice A p.length c) p.length (svs p)) => markS A p.length c p 1 base W (by omega) (by omega) hB h)
  have H := Lib.hid (fun (A : Option Addr) (c B : Nat) W (hB : B ≤ W.heap.size) (h : Rd W B 1 A p.length (svs (mts 1 p.length))) => heldS A p.length c 1 B W (by omega) (by omega) hB h)
  have MX := Lib.hid (fun (g base : Nat) W (hB : base ≤ W.heap.size) (h : W.ownsRow base 9 1 (.slice (some ⟨g, 0, none⟩) n n) n (svs l)) => markSg g n n l 1 base W (by omega) hnn hB h)
  obtain ⟨kp, hkp⟩ : ∃ kp, 1 + p.length = kp := ⟨_, rfl⟩
  rw [hkp] at M H
  have hk1 : 1 ≤ kp := by omega
  have hk2 : kp ≤ 200 := by omega
  obtain ⟨kn, hkn⟩ : ∃ kn, 1 + n = kn := ⟨_, rfl⟩
  rw [hkn] at MX
  have hk3 : 1 ≤ kn := by omega
  have hk4 : kn ≤ 1048577 := by omega
  have HK := Lib.hid hokn
  clear S0 I0 hkp hkn hlen HS hokn w0 HT
  generalize p.length = m at *
  have HM := Lib.hid hpl
  clear hpl
  go_wp2_with fail
  refine (T.out w (Below.refl _ _)).mono ?_
  rintro e v1 ⟨rfl, o1, b1⟩
  go_wp2_with fail
  refine (S.out _ _ o1).mono ?_
  rintro e v2 ⟨v0, rfl, o2, b2⟩
  obtain ⟨A0, c0, rfl⟩ := own_shapeS o2
  have B2 := Lib.hid (then_ (n := 0) b1 b2)
  have R0 := Lib.hid (Rd.own o2)
  have B2z : w.heap.size ≤ v2.heap.size := B2.out.size
  clear o1 b1 b2 o2
  go_wp2_with fail
  refine (T.out v2 B2.out).mono ?_
  rintro e v3 ⟨rfl, o3, b3⟩
  have B3 := Lib.hid (then_ (n := 0) B2.out b3)
  have R0' := Lib.hid (R0.out.below b3 (Nat.le_refl _))
  have z3 := b3.size
  have O3 := Lib.hid o3
  have L3 : Hid (v2.heap.size < v3.heap.size) := Lib.hid (by rcases o3.2 with ⟨h, _⟩ | ⟨g, cap, cur, h, _, hg, _⟩
                                                             · cases h
                                                             · obtain rfl : v2.heap.size = g := by simpa using (Value.slice.inj h).1
                                                               exact (Array.getElem?_eq_some_iff.1 hg).1)
  clear o3 b3 B2 R0
  go_wp2_with fail
  refine (I.out _ _ O3.out B3.out).mono ?_
  rintro e v4 ⟨vg, rfl, o4, b4⟩
  obtain ⟨Ag, cg, rfl⟩ := own_shapeS o4
  have B4 := Lib.hid (then_ (n := 0) B3.out b4)
  have R0 := Lib.hid (R0'.out.below b4 z3)
  have z4 := Nat.le_trans z3 b4.size
  have y4 := b4.size
  have O3' := Lib.hid (own_belowS O3.out b4 (Nat.le_refl _))
  have O4 := Lib.hid o4
  clear o4 b4 B3 R0' O3
  cases ok
  all_goals
    go_wp2_with fail
    refine (QR.out Ag A0 cg c0 _ _ v4 (Rd.own O4.out) R0.out).mono ?_
    rintro e w' ⟨rfl, q, rfl⟩
    have D4 := Lib.hid (Rec.below_drewN (Below.refl v4.heap.size v4) q)
    have B5 := Lib.hid (then_ (n := 0) B4.out D4.out)
    have R5 := Lib.hid (R0.out.below D4.out z4)
    have z5 := Nat.le_trans z4 D4.out.size
    have y5 := Nat.le_trans y4 D4.out.size
    have X5 := Lib.hid (own_belowS O3'.out D4.out (Nat.le_refl _))
    have G5 := Lib.hid (own_belowS O4.out D4.out (Nat.le_refl _))
    clear D4 B4 R0 O3' O4
    generalize v4.drewN q = v5 at *
    go_wp2_with fail
    refine (T.out v5 B5.out).mono ?_
    rintro e v6 ⟨rfl, o6, b6⟩
    have B6 := Lib.hid (then_ (n := 0) B5.out b6)
    have R6 := Lib.hid (R5.out.below b6 z5)
    have z6 := Nat.le_trans z5 b6.size
    have y6 := Nat.le_trans y5 b6.size
    have X6 := Lib.hid (own_belowS X5.out b6 (Nat.le_refl _))
    have G6 := Lib.hid (own_belowS G5.out b6 (Nat.le_refl _))
    have O6 := Lib.hid (Rd.own o6)
    clear o6 b6 B5 R5 X5 G5
    go_wp2_with fail
    with_reducible refine (QX.out v2.heap.size v5.heap.size v6.heap.size v6.heap.size v6 (Rd.own X6.out) O6.out).mono ?_
    rintro e w' ⟨rfl, q', rfl⟩
    have D6 := Lib.hid (Rec.below_drewN (Below.refl v6.heap.size v6) q')
    have B7 := Lib.hid (then_ (n := 0) B6.out D6.out)
    have R7 := Lib.hid (R6.out.below D6.out z6)
    have z7 := Nat.le_trans z6 D6.out.size
    have X7 := Lib.hid (own_belowS X6.out D6.out (Nat.le_refl _))
    have G7 := Lib.hid (own_belowS G6.out D6.out (Nat.le_refl _))
    have y7 : v3.heap.size ≤ (v6.drewN q').heap.size := Nat.le_trans y6 D6.out.size
    clear D6 B6 R6 X6 G6 O6
    generalize v6.drewN q' = v7 at *
    go_wp2_with fail
    refine (MX.out v2.heap.size v2.heap.size v7 z7 X7.out).mono ?_
    rintro e v8 ⟨rfl, o8, st8⟩
    have B8 := Lib.hid (B7.out.trans (st8.below (by have := B7.out.size; omega) (fun k hk => by have := B2z; omega)))
    have R8 := Lib.hid (R7.out.keep (fun b o hb => World.cell?_of_block (a := ⟨b, o, none⟩) (st8.block b (by show b < _; omega) (by show ¬ b = _; omega))))
    have G8 := Lib.hid (own_other G7.out st8 (fun k hk => by have := L3.out; omega))
    have z8 := Nat.le_trans z7 st8.size
    have y8 : v3.heap.size ≤ v8.heap.size := Nat.le_trans y7 st8.size
    clear o8 st8 B7 R7 X7 G7 MX
    go_wp2_with fail
    refine (QR.out Ag A0 cg c0 _ _ v8 (Rd.own G8.out) R8.out).mono ?_
    rintro e w' ⟨rfl, q2, rfl⟩
    have D8 := Lib.hid (Rec.below_drewN (Below.refl v8.heap.size v8) q2)
    have B9 := Lib.hid (then_ (n := 0) B8.out D8.out)
    have R9 := Lib.hid (R8.out.below D8.out z8)
    have z9 := Nat.le_trans z8 D8.out.size
    have y9 := Nat.le_trans y8 D8.out.size
    have G9 := Lib.hid (own_belowS G8.out D8.out (Nat.le_refl _))
    clear D8 B8 R8 G8
    generalize v8.drewN q2 = v9 at *
    go_wp2_with fail
    refine (M.out Ag cg v3.heap.size v9 y9 G9.out).mono ?_
    rintro e v10 ⟨rfl, o10, b10⟩
    have B10 := Lib.hid (B9.out.trans (b10.mono (by omega)))
    have R10 := Lib.hid (R9.out.below b10 (by omega))
    have z10 := Nat.le_trans z9 b10.size
    have G10 := Lib.hid o10
    clear o10 b10 B9 R9 G9 M
    go_wp2_with fail
    refine (H.out Ag cg _ v10 (Nat.le_refl _) (Rd.own G10.out)).mono ?_
    rintro e v11 ⟨rfl, b11⟩
    have B11 := Lib.hid (then_ (n := 0) B10.out b11)
    have R11 := Lib.hid (R10.out.below b11 z10)
    have z11 := Nat.le_trans z10 b11.size
    have G11 := Lib.hid (own_belowS G10.out b11 (Nat.le_refl _))
    clear b11 B10 R10 G10
    go_wp2_with fail
    refine (T.out v11 B11.out).mono ?_
    rintro e v12 ⟨rfl, o12, b12⟩
    have B12 := Lib.hid (then_ (n := 0) B11.out b12)
    have R12 := Lib.hid (R11.out.below b12 z11)
    have z12 := Nat.le_trans z11 b12.size
    have G12 := Lib.hid (own_belowS G11.out b12 (Nat.le_refl _))
    have O12 := Lib.hid o12
    clear o12 b12 B11 R11 G11
    go_wp2_with fail
    refine (I.out _ _ O12.out B12.out).mono ?_
    rintro e v13 ⟨vh, rfl, o13, b13⟩
    obtain ⟨Ah, ch, rfl⟩ := own_shapeS o13
    have B13 := Lib.hid (then_ (n := 0) B12.out b13)
    have R13 := Lib.hid (R12.out.below b13 z12)
    have G13 := Lib.hid (own_belowS G12.out b13 (Nat.le_refl _))
    have O13 := Lib.hid (Rd.own o13)
    clear o13 b13 B12 R12 G12 O12
    go_wp2_with fail
    refine (QR.out Ah A0 ch c0 _ _ v13 O13.out R13.out).mono ?_
    rintro e w' ⟨rfl, q4, rfl⟩
    have D13 := Lib.hid (Rec.below_drewN (Below.refl v13.heap.size v13) q4)
    have B14 := Lib.hid (then_ (n := 0) B13.out D13.out)
    have G14 := Lib.hid (own_belowS G13.out D13.out (Nat.le_refl _))
    clear D13 B13 R13 G13 O13
    generalize v13.drewN q4 = v14 at *
    go_wp2_with fail
    refine (H.out Ag cg _ v14 (Nat.le_refl _) (Rd.own G14.out)).mono ?_
    rintro e v15 ⟨rfl, b15⟩
    have B15 := then_ (n := 0) B14.out b15
    clear b15 B14 G14 H1 T I S QR QX H
    go_wp2
    go_ret
    exact ⟨rfl, B15⟩
end Go.Proofs.YtiiklednbhklhaaDoor.T8n
