/-
  CheckGrowth by the program, a part behind the front; its law.
-/
import Derived.Test.YtiiklednbhklhaaDoorT8f
namespace Go.Proofs.YtiiklednbhklhaaDoor.T8fb
open Go.ChangeShapes Go.WideShapes Go.ChangeAt Go.RowKit
open Go.Proofs.YtiiklednbhklhaaDoor.Mem Go.Proofs.YtiiklednbhklhaaDoor.Ints Go.Proofs.YtiiklednbhklhaaDoor.Strs Go.Proofs.YtiiklednbhklhaaDoor.ShaComp Go.Proofs.YtiiklednbhklhaaDoor.Digest Go.Proofs.YtiiklednbhklhaaDoor.Mkl Go.Proofs.YtiiklednbhklhaaDoor.Sib Go.Proofs.YtiiklednbhklhaaDoor.Spl Go.Proofs.YtiiklednbhklhaaDoor.Slq Go.Proofs.YtiiklednbhklhaaDoor.Rec Go.Proofs.YtiiklednbhklhaaDoor.T8 Go.Proofs.YtiiklednbhklhaaDoor.T8s Go.Proofs.YtiiklednbhklhaaDoor.T8i Go.Proofs.YtiiklednbhklhaaDoor.T8r Go.Proofs.YtiiklednbhklhaaDoor.T8k Go.Proofs.YtiiklednbhklhaaDoor.T8l Go.Proofs.YtiiklednbhklhaaDoor.T8u Go.Proofs.YtiiklednbhklhaaDoor.T8v Go.Proofs.YtiiklednbhklhaaDoor.T8c Go.Proofs.YtiiklednbhklhaaDoor.T8d Go.Proofs.YtiiklednbhklhaaDoor.T8h Go.Proofs.YtiiklednbhklhaaDoor.T8f
set_option linter.unusedVariables false
set_option maxRecDepth 100000


set_option maxHeartbeats 4000000 in
theorem implG2 (first many : Int) (one two : ByteArray) (A : Option Addr) (n c B : Nat) (l : List ByteArray) (w : World) (hr : one.size ≤ maxLen) (hlf : two.size ≤ maxLen) (hn : n ≤ 1048576) (hs : ∀ s ∈ l, s.size ≤ maxLen) (hx : Rd w B 1 A n (svs l)) (hc : n ≤ c) (hB : B ≤ w.heap.size) (hT : Tbl w) (hyes : okG first many one two l) (hb0 : (last 0 many.toNat first.toNat).1 ≠ 0 ∧ 1 ≤ n) :
    Calls Tryd.prog 35 #[.int .i64 first, .int .i64 many, .string one, .string two, .slice A n c] w fun e w' => e = .returned (.tuple #[.bool (isG first many one two l), .bool true]) ∧ Below w.heap.size w w' := by
  have hlen := rd_len hx
  have EI : Hid (isG first many one two l = ansG (gnS first.toNat many.toNat one true l) one two) := Lib.hid (by unfold isG; rw [decide_eq_true hyes, Bool.true_and])
  obtain ⟨⟨p1a, p1b⟩, ⟨p2a, p2b⟩, p3, p4, p5⟩ := hyes
  obtain ⟨hd32, hd10⟩ := okD_yes p5
  obtain ⟨m, rfl⟩ : ∃ m : Nat, many = m := ⟨many.toNat, by omega⟩
  obtain ⟨j, rfl⟩ : ∃ j : Nat, first = j := ⟨first.toNat, by omega⟩
  rw [Int.toNat_natCast, Int.toNat_natCast] at EI
  have hj1 : 1 ≤ j := by omega
  have hjm : j ≤ m := by omega
  have hl500 : ∀ s ∈ l, s.size ≤ 500 := fun s h => by rw [hd32 s h]; omega
  rw [Int.toNat_natCast, Int.toNat_natCast] at hb0
  have C1 := Lib.hid (fun W => isLeafCount (m : Int) W)
  have C3 := Lib.hid (isDigest one w hr)
  have C4 := Lib.hid (isDigest two w hlf)
  have C5 := Lib.hid (T8i.isProof A n c l B w hn hs hx)
  have CL := Lib.hid (fun W => T8g.lastSpan j m W hj1 hjm (by omega))
  rw [decide_eq_true p3] at C3
  rw [decide_eq_true p4] at C4
  rw [p5] at C5
  rw [show (decide ((1 : Int) ≤ (m : Int)) && decide ((m : Int) ≤ 20)) = true by simp; omega] at C1
  obtain ⟨hrch, hend⟩ := last_rch m 0 m j (by omega) (by omega) hjm
  obtain ⟨b, hbe⟩ : ∃ b, (last 0 m j).1 = b := ⟨_, rfl⟩
  rw [hend] at hrch CL
  rw [hbe] at hrch CL hb0
  clear hend
  unfold sp at CL
  have hsl := sib_len m 0 m b j (by omega)
  generalize isG j m one two l = r at *
  obtain ⟨hb0, hn0⟩ := hb0
  have hbp : (0 : Int) < (b : Int) := by omega
  obtain ⟨n', rfl⟩ : ∃ n', n = n' + 1 := ⟨n - 1, by omega⟩
  obtain ⟨x, rr, rfl⟩ : ∃ x rr, l = x :: rr := by cases l with
    | nil => cases hlen
    | cons x rr => exact ⟨x, rr, rfl⟩
  obtain ⟨pb, off, hll, rfl, hpb, hcell⟩ := rd_str hx (k := 0) (by omega)
  simp only [List.getElem_cons_zero, Nat.add_zero] at hcell
  have HXQ := Lib.hid (fun o (h : n' = 0 ∨ o = off + 1) => rd_tail (o := o) hx (by omega))
  have hq500 : ∀ s ∈ rr, s.size ≤ 500 := fun s h => hl500 s (List.mem_cons_of_mem _ h)
  have hx500 : x.size ≤ 32 := by rw [hd32 x (by simp)]; omega
  have hhd : hd (last 0 m j).1 (tl one) ((x :: rr).map tl) = some (tl x, rr.map tl) := by unfold hd; rw [if_neg (by rw [hbe]; exact hb0)]; rfl
  have jn0 : ¬ (((n' + 1 : Nat) : Int) = 0) := by omega
  have jn1 : ¬ ((n' : Int) + 1 = 0) := by omega
  have hst0 : ∀ s ∈ stpS b (sib 0 m b j) rr, s.1.size ≤ 500 := by
    intro s hs
    unfold stpS at hs
    obtain ⟨i, hi1, hi2⟩ := List.getElem_of_mem hs
    rw [List.getElem_zipWith] at hi2
    rw [← hi2]
    exact hq500 _ (List.getElem_mem _)
  have CF := Lib.hid (fun o c' (ho : n' = 0 ∨ o = off + 1) W (h : Below w.heap.size w W) => stepsFrom b j m (some ⟨pb, o, none⟩) n' c' B rr (decide (n' = (sib 0 m b j).length)) W rfl hrch (by omega) (by omega) (by have := h.size; omega) ((HXQ.out o ho).below h hB))
  unfold sp at CF
  have hg := gn_of j m one x (x :: rr) rr hj1 hjm hhd
  rw [hbe] at hg
  have hql := rd_len (HXQ.out (off + 1) (Or.inr rfl))
  by_cases hok : n' = (sib 0 m b j).length
  case neg =>
    have hu := hg.2 (by omega)
    rw [decide_eq_false hok] at CF
    have ER : Hid (r = false) := Lib.hid (by rw [EI.out]; unfold ansG; rw [hu]; rfl)
    clear hx hs p3 p4 p5 hd32 hl500 hlen hu hg EI hst0 hhd HXQ hq500 hT hok hql hbe hrch
    go_enter Tryd.func35, Tryd.ntmps35
    go_wp2_with fail
    refine (C1.out _).mono ?_
    rintro e w' ⟨rfl, rfl⟩
    go_wp2_with fail
    refine C3.out.mono ?_
    rintro e w' ⟨rfl, rfl⟩
    go_wp2_with fail
    refine C4.out.mono ?_
    rintro e w' ⟨rfl, rfl⟩
    go_wp2_with fail
    refine C5.out.mono ?_
    rintro e w' ⟨rfl, rfl⟩
    go_wp2_with fail
    refine (CL.out _).mono ?_
    rintro e w1 ⟨rfl, b1⟩
    have k2 := nw1 w1 (.cells #[.int .i64 (b : Int), .int .i64 (j : Int)] 68)
    have B2 := then_ (n := 0) b1 (al1 w1 (.cells #[.int .i64 (b : Int), .int .i64 (j : Int)] 68))
    obtain ⟨c0, c1⟩ := row2 k2
    clear b1
    have hcell1 := (B2.cell (p := ⟨pb, off, none⟩) (by show pb < _; omega)).trans hcell
    go_wp2_with fail
    go_quiet (fail)
    have BB := Rec.below_drewN B2 nq
    obtain ⟨c2, c3⟩ := row2 (show (World.drewN (World.alloc w1 _) nq).heap[w1.heap.size]? = _ from k2)
    clear B2 k2 c0 c1
    go_wp2_with fail
    all_goals
      refine (CF.out _ _ (by omega) _ BB).mono ?_
      rintro e w3 ⟨vs, rfl, -, b3⟩
      go_wp2
      go_ret2
      exact ⟨by rw [ER.out]; rfl, then_ (n := 0) BB b3⟩
  have hu := hg.1 (by omega)
  rw [decide_eq_true hok] at CF
  have hstl : (stpS b (sib 0 m b j) rr).length = n' := by simp [stpS]; omega
  rw [hu] at EI
  have hX : x.size ≤ 32 := hx500
  have HT := Lib.hid (fun W (h : Below w.heap.size w W) => hT.below h)
  have EI' : Hid (r = (decide (oldS (stpS b (sib 0 m b j) rr) x = one) && decide (topS (stpS b (sib 0 m b j) rr) x = two))) := Lib.hid (by rw [EI.out]; unfold ansG; rfl)
  generalize stpS b (sib 0 m b j) rr = st at *
  have HST := Lib.hid hst0
  have hN20 : n' ≤ 20 := by omega
  clear hx hs p3 p4 p5 hd32 hl500 hlen hu hg EI hst0 hhd HXQ hq500 hT hok hql hbe hrch
  go_enter Tryd.func35, Tryd.ntmps35
  go_wp2_with fail
  refine (C1.out _).mono ?_
  rintro e w' ⟨rfl, rfl⟩
  go_wp2_with fail
  refine C3.out.mono ?_
  rintro e w' ⟨rfl, rfl⟩
  go_wp2_with fail
  refine C4.out.mono ?_
  rintro e w' ⟨rfl, rfl⟩
  go_wp2_with fail
  refine C5.out.mono ?_
  rintro e w' ⟨rfl, rfl⟩
  go_wp2_with fail
  refine (CL.out _).mono ?_
  rintro e w1 ⟨rfl, b1⟩
  have k2 := nw1 w1 (.cells #[.int .i64 (b : Int), .int .i64 (j : Int)] 68)
  have B2 := then_ (n := 0) b1 (al1 w1 (.cells #[.int .i64 (b : Int), .int .i64 (j : Int)] 68))
  obtain ⟨c0, c1⟩ := row2 k2
  clear b1
  have hcell1 := (B2.cell (p := ⟨pb, off, none⟩) (by show pb < _; omega)).trans hcell
  go_wp2_with fail
  go_quiet (fail)
  have BB := Rec.below_drewN B2 nq
  obtain ⟨c2, c3⟩ := row2 (show (World.drewN (World.alloc w1 _) nq).heap[w1.heap.size]? = _ from k2)
  clear B2 k2 c0 c1
  go_wp2_with fail
  all_goals
    refine (CF.out _ _ (by omega) _ BB).mono ?_
    rintro e w3 ⟨vs, rfl, o3, b3⟩
    have B3 := then_ (n := 0) BB b3
    have o3 := o3 (by first | rfl | trivial)
    obtain ⟨As, cs, rfl⟩ := own_shapeS o3
    have RS := Lib.hid (Rd.own o3)
    clear o3 b3 BB CF
    go_wp2_with fail
    go_loopw [13, 16, 73] (fun o nw i wr => ∃ k : Nat, k ≤ n' ∧ i = .int .i64 k ∧ o = .string (oldS (st.take k) x) ∧ nw = .string (topS (st.take k) x) ∧ Below w3.heap.size w3 wr) (fun _ _ i _ => n' - (intOf i).toNat)
    case atStart => exact ⟨0, by omega, rfl, rfl, rfl, Below.refl _ _⟩
    case round =>
      obtain ⟨k, hk, rfl, rfl, rfl, hb⟩ := hrel
      by_cases hlt : k < n'
      · try (exfalso; omega)
        all_goals
          obtain ⟨bp, op, u1, u2, rfl, hbp, x1, x2, y1, y2⟩ := rd_two (RS.out.below hb (Nat.le_refl _)) hlt
          have hjs : k < st.length := by omega
          obtain ⟨g1, g2⟩ := sts_at st k hjs
          obtain rfl : u1 = .string st[k].1 := Option.some.inj (x1.symm.trans g1)
          obtain rfl : u2 = .bool st[k].2 := Option.some.inj (x2.symm.trans g2)
          have hds := HST.out _ (List.getElem_mem hjs)
          have ho := oldS_le (st.take k) x hX
          have hp := topS_le (st.take k) x hX
          have EO := oldS_snoc (st.take k) st[k] x
          have EP := topS_snoc (st.take k) st[k] x
          rw [← List.take_succ_eq_append_getElem hjs] at EO EP
          have C1o := Lib.hid (fun W => stepInput st[k].1 (oldS (st.take k) x) st[k].2 W (by omega) (by omega))
          have C1p := Lib.hid (fun W => stepInput st[k].1 (topS (st.take k) x) st[k].2 W (by omega) (by omega))
          rw [show (st[k].1, st[k].2) = st[k] from rfl] at C1o C1p
          have C2o := Lib.hid (fun W (h : Below w.heap.size w W) => T8.treeDigest (inpS st[k] (oldS (st.take k) x)) W (by rw [inp_size]; omega) (HT.out W h))
          have C2p := Lib.hid (fun W (h : Below w.heap.size w W) => T8.treeDigest (inpS st[k] (topS (st.take k) x)) W (by rw [inp_size]; omega) (HT.out W h))
          rw [show bs (dig (tl (inpS st[k] (oldS (st.take k) x)))) = tdS (inpS st[k] (oldS (st.take k) x)) from rfl] at C2o
          rw [show bs (dig (tl (inpS st[k] (topS (st.take k) x)))) = tdS (inpS st[k] (topS (st.take k) x)) from rfl] at C2p
          have HEO := Lib.hid EO
          have HEP := Lib.hid EP
          generalize inpS st[k] (oldS (st.take k) x) = io at *
          generalize inpS st[k] (topS (st.take k) x) = ip at *
          generalize tdS io = dO at *
          generalize tdS ip = dp at *
          generalize oldS (st.take k) x = o at *
          generalize topS (st.take k) x = p at *
          generalize st[k].1 = d at *
          generalize hsa : st[k].2 = sa at *
          have hBw : Below w.heap.size w wr := then_ (n := 0) B3 hb
          have i0' : (0 : Int) ≤ (k : Int) := by omega
          have i1' : (k : Int) < (n' : Int) := by omega
          have B6 := al1 wr (.cells #[.string d, .bool sa] 97)
          have k6 := nw1 wr (.cells #[.string d, .bool sa] 97)
          clear x1 x2 g1 g2 hds ho hp EO EP hsa
          cases sa
          · rw [if_neg (by decide)] at HEO
            go_wp2_with fail
            obtain ⟨d0, d1⟩ := row2 k6
            go_wp2_with fail
            refine (C1p.out _).mono ?_
            rintro e w7 ⟨rfl, b7⟩
            go_wp2_with fail
            refine (C2p.out _ (hBw.trans ((B6.trans (b7.mono B6.size)).mono hBw.size))).mono ?_
            rintro e w8 ⟨rfl, b8⟩
            have B8 : Below w3.heap.size w3 w8 := hb.trans ((B6.trans ((b7.trans (b8.mono b7.size)).mono B6.size)).mono hb.size)
            go_wp2
            go_roundw
            case rel => exact ⟨k + 1, by omega, by go_num, by rw [HEO.out], by rw [HEP.out], B8⟩
            case measure => simp [intOf]; omega
          · rw [if_pos rfl] at HEO
            go_wp2_with fail
            obtain ⟨d0, d1⟩ := row2 k6
            go_wp2_with fail
            refine (C1o.out _).mono ?_
            rintro e w4 ⟨rfl, b4⟩
            obtain ⟨d2, d3⟩ := row2 (bx k6 b4)
            go_wp2_with fail
            refine (C2o.out _ (hBw.trans ((B6.trans (b4.mono B6.size)).mono hBw.size))).mono ?_
            rintro e w5 ⟨rfl, b5⟩
            obtain ⟨d4, d5⟩ := row2 (bx (bx k6 b4) b5)
            go_wp2_with fail
            refine (C1p.out _).mono ?_
            rintro e w7 ⟨rfl, b7⟩
            have B7 := B6.trans ((b4.trans ((b5.trans (b7.mono b5.size)).mono b4.size)).mono B6.size)
            go_wp2_with fail
            refine (C2p.out _ (hBw.trans (B7.mono hBw.size))).mono ?_
            rintro e w8 ⟨rfl, b8⟩
            have B8 : Below w3.heap.size w3 w8 := hb.trans ((B7.trans (b8.mono B7.size)).mono hb.size)
            go_wp2
            go_roundw
            case rel => exact ⟨k + 1, by omega, by go_num, by rw [HEO.out], by rw [HEP.out], B8⟩
            case measure => simp [intOf]; omega
      · have e1 : st.take k = st := List.take_of_length_le (by omega)
        have hkn : ¬ (k : Int) < (n' : Int) := by omega
        rw [e1]
        have B7 : Below w.heap.size w wr := then_ (n := 0) B3 hb
        generalize oldS st x = u at *
        generalize topS st x = v at *
        clear e1 HT HST RS
        by_cases hu : u = one
        · subst hu
          by_cases hv : v = two
          · subst hv
            have ER : Hid (r = true) := Lib.hid (by rw [EI'.out]; simp)
            clear EI'
            go_wp2
            go_ret2
            exact ⟨by rw [ER.out]; first | rfl | simp, B7⟩
          · have hne : (v.toList == two.toList) = false := str_ne hv
            have ER : Hid (r = false) := Lib.hid (by rw [EI'.out]; simp [hv])
            clear EI' hv
            go_wp2
            go_ret2
            exact ⟨by rw [ER.out]; first | rfl | (simp [hne]), B7⟩
        · have hne : (u.toList == one.toList) = false := str_ne hu
          have ER : Hid (r = false) := Lib.hid (by rw [EI'.out]; simp [hu])
          clear EI' hu
          go_wp2
          go_ret2
          exact ⟨by rw [ER.out]; first | rfl | (simp [hne]), B7⟩

/-- One answer of both sides. -/
theorem specG (first many : Int) (one two : ByteArray) (A : Option Addr) (n c B : Nat) (l : List ByteArray) (w : World) (hr : one.size ≤ maxLen) (hlf : two.size ≤ maxLen) (hn : n ≤ 1048576) (hs : ∀ s ∈ l, s.size ≤ maxLen) (hx : Rd w B 1 A n (svs l)) (hc : n ≤ c) (hB : B ≤ w.heap.size) : Calls Tryd.prog 37 #[.int .i64 first, .int .i64 many, .string one, .string two, .slice A n c] w fun e w' => e = .returned (.tuple #[.bool (isG first many one two l), .bool (decide (okG first many one two l))]) ∧ Below w.heap.size w w' := by
  by_cases h : okG first many one two l
  · rw [decide_eq_true h]; exact specYesG first many one two A n c B l w hr hlf hn hs hx hc hB h
  · rw [decide_eq_false h, show isG first many one two l = false by unfold isG; rw [decide_eq_false h]; rfl]
    refine (specNoG first many one two A n c B l w hr hlf hn hs hx h).mono ?_
    rintro e w' ⟨rfl, rfl⟩; exact ⟨rfl, Below.refl _ _⟩
theorem implG (first many : Int) (one two : ByteArray) (A : Option Addr) (n c B : Nat) (l : List ByteArray) (w : World) (hr : one.size ≤ maxLen) (hlf : two.size ≤ maxLen) (hn : n ≤ 1048576) (hs : ∀ s ∈ l, s.size ≤ maxLen) (hx : Rd w B 1 A n (svs l)) (hc : n ≤ c) (hB : B ≤ w.heap.size) (hT : Tbl w) : Calls Tryd.prog 35 #[.int .i64 first, .int .i64 many, .string one, .string two, .slice A n c] w fun e w' => e = .returned (.tuple #[.bool (isG first many one two l), .bool (decide (okG first many one two l))]) ∧ Below w.heap.size w w' := by
  by_cases h : okG first many one two l
  · rw [decide_eq_true h]
    by_cases h0 : (last 0 many.toNat first.toNat).1 = 0
    · exact implG0 first many one two A n c B l w hr hlf hn hs hx hc hB hT h h0
    · by_cases h1 : n = 0
      · exact implG1 first many one two A n c B l w hr hlf hn hs hx hc hB hT h ⟨h0, h1⟩
      · exact implG2 first many one two A n c B l w hr hlf hn hs hx hc hB hT h ⟨h0, by omega⟩
  · rw [decide_eq_false h, show isG first many one two l = false by unfold isG; rw [decide_eq_false h]; rfl]
    refine (implNoG first many one two A n c B l w hr hlf hn hs hx h).mono ?_
    rintro e w' ⟨rfl, rfl⟩; exact ⟨rfl, Below.refl _ _⟩

set_option maxHeartbeats 1000000 in
theorem walk (first many : Int) (one two : ByteArray) (A : Option Addr) (n c : Nat) (l : List ByteArray) (hw1 : (Lit.int .i64 first).wf = true) (hw2 : (Lit.int .i64 many).wf = true) (hr : one.size ≤ maxLen) (hlf : two.size ≤ maxLen) (hn : n ≤ maxLen) (hs : ∀ s ∈ l, s.size ≤ maxLen) (w : World) (hT : Tbl w) (R1 : Rd w w.heap.size 1 A n (svs l)) :
    Calls Tryd.prog 11 #[.int .i64 first, .int .i64 many, .string one, .string two, .slice A n c] w fun e w' => e = .returned (.bool true) ∧ Below w.heap.size w w' := by
  clear hw1 hw2
  have H1 := Lib.hid R1
  have HS := Lib.hid hs
  have HT := Lib.hid (fun W (h : Below w.heap.size w W) => hT.below h)
  have HR := Lib.hid hr
  have HL := Lib.hid hlf
  have Z1 : Calls Tryd.prog 41 #[.slice A n c, .int .i64 1048576] w (Sz 1048576 n l w) := szStrS A n c l w.heap.size 1048576 w hn (Nat.le_refl _) hs R1
  have Z := Lib.hid Z1
  unfold maxLen at hr hlf
  clear R1 hs Z1 hT
  go_enter Tryd.func11, Tryd.ntmps11
  by_cases hbig : 1048576 < one.size
  · clear Z
    go_wp2
    go_ret
    exact ⟨rfl, Below.refl _ _⟩
  by_cases hbig2 : 1048576 < two.size
  · clear Z
    go_wp2
    go_ret
    exact ⟨rfl, Below.refl _ _⟩
  go_wp2_with fail
  refine Z.out.mono ?_
  rintro e w' ⟨z, rfl, rfl, hz0, hz1, hz2⟩
  have HZ := Lib.hid hz2
  clear hz2 Z
  by_cases hneg : z < 0
  · clear HZ
    go_wp2
    go_ret
    exact ⟨rfl, Below.refl _ _⟩
  have hnn : n ≤ 1048576 := (HZ.out (by omega)).1
  clear HZ
  have S := Lib.hid (fun g W (o : W.ownsRow (g : Nat) 9 1 (.slice (some ⟨g, 0, none⟩) n n) n (svs l)) => specG first many one two (some ⟨g, 0, none⟩) n n W.heap.size l W HR.out HL.out hnn HS.out (Rd.own o) (Nat.le_refl _) (Nat.le_refl _))
  have I := Lib.hid (fun g W (o : W.ownsRow (g : Nat) 9 1 (.slice (some ⟨g, 0, none⟩) n n) n (svs l)) (h : Below w.heap.size w W) => implG first many one two (some ⟨g, 0, none⟩) n n W.heap.size l W HR.out HL.out hnn HS.out (Rd.own o) (Nat.le_refl _) (Nat.le_refl _) (HT.out W h))
  generalize isG first many one two l = r1 at *
  generalize decide (okG first many one two l) = r2 at *
  go_wp2_with fail
  refine (toStrS A n c l w hnn H1.out).mono ?_
  rintro e v1 ⟨rfl, o1, b1⟩
  go_wp2_with fail
  refine (S.out _ _ o1).mono ?_
  rintro e v2 ⟨rfl, b2⟩
  have B2 := Lib.hid (then_ (n := 0) b1 b2)
  clear o1 b1 b2
  go_wp2_with fail
  refine (toStrS A n c l v2 hnn (Rdm H1.out (Nat.le_refl _) B2.out)).mono ?_
  rintro e v3 ⟨rfl, o3, b3⟩
  have B3 := Lib.hid (then_ (n := 0) B2.out b3)
  have O3 := Lib.hid o3
  clear o3 b3 B2
  go_wp2_with fail
  refine (I.out _ _ O3.out B3.out).mono ?_
  rintro e v4 ⟨rfl, b4⟩
  have B4 := Lib.hid (then_ (n := 0) B3.out b4)
  have P3 := Lib.hid (Rdo O3.out b4)
  clear b4 B3 O3 I S HS HT
  cases r1 <;> cases r2
  all_goals
    go_wp2_with fail
    refine (toStrS A n c l v4 hnn (Rdm H1.out (Nat.le_refl _) B4.out)).mono ?_
    rintro e v5 ⟨rfl, o5, b5⟩
    have B5 := Lib.hid (then_ (n := 0) B4.out b5)
    have P3' := Lib.hid (Rdm P3.out (Nat.le_refl _) b5)
    have O5 := Lib.hid (Rd.own o5)
    clear b5 o5 B4 P3
    go_wp2_with fail
    refine (eqSame _ _ n n n l _ _ v5 hnn P3'.out O5.out).mono ?_
    rintro e v6 ⟨rfl, q, rfl⟩
    have B6 := Rec.below_drewN B5.out q
    clear B5 P3' O5 H1
    generalize v5.drewN q = v6 at *
    go_wp2
    go_ret
    exact ⟨rfl, B6⟩
end Go.Proofs.YtiiklednbhklhaaDoor.T8fb
