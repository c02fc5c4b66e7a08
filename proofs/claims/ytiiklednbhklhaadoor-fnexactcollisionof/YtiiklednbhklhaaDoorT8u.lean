/-
  The steps from a part of the leaves up, by the program.
-/
import Derived.Test.YtiiklednbhklhaaDoorT8l
namespace Go.Proofs.YtiiklednbhklhaaDoor.T8u
open Go.ChangeShapes Go.WideShapes Go.ChangeAt Go.RowKit
open Go.Proofs.YtiiklednbhklhaaDoor.Mem Go.Proofs.YtiiklednbhklhaaDoor.Ints Go.Proofs.YtiiklednbhklhaaDoor.Strs Go.Proofs.YtiiklednbhklhaaDoor.ShaComp Go.Proofs.YtiiklednbhklhaaDoor.Digest Go.Proofs.YtiiklednbhklhaaDoor.Mkl Go.Proofs.YtiiklednbhklhaaDoor.Sib Go.Proofs.YtiiklednbhklhaaDoor.Spl Go.Proofs.YtiiklednbhklhaaDoor.Slq Go.Proofs.YtiiklednbhklhaaDoor.Rec Go.Proofs.YtiiklednbhklhaaDoor.T8 Go.Proofs.YtiiklednbhklhaaDoor.T8s Go.Proofs.YtiiklednbhklhaaDoor.T8i Go.Proofs.YtiiklednbhklhaaDoor.T8r Go.Proofs.YtiiklednbhklhaaDoor.T8j Go.Proofs.YtiiklednbhklhaaDoor.T8k Go.Proofs.YtiiklednbhklhaaDoor.T8l
set_option linter.unusedVariables false
set_option maxRecDepth 100000

def sts (l : List (ByteArray × Bool)) : List Value := l.flatMap fun p => [.string p.1, .bool p.2]
theorem sts_snoc (l : List (ByteArray × Bool)) (p : ByteArray × Bool) : sts (l ++ [p]) = sts l ++ [.string p.1, .bool p.2] := by simp [sts]
theorem sts_len (l : List (ByteArray × Bool)) : (sts l).length = l.length * 2 := by
  induction l with
  | nil => rfl
  | cons p l ih => simp [sts] at ih ⊢; omega
def stpS (b : Nat) (parts : List (Nat × Nat)) (p : List ByteArray) : List (ByteArray × Bool) := parts.zipWith (fun q d => (d, decide (q.1 < b))) p
def inpS (s : ByteArray × Bool) (own : ByteArray) : ByteArray := if s.2 then o1 ++ s.1 ++ own else o1 ++ own ++ s.1
theorem inp_size (s : ByteArray × Bool) (own : ByteArray) : (inpS s own).size = 1 + s.1.size + own.size := by
  unfold inpS; split <;> (rw [ByteArray.size_append, ByteArray.size_append]; show 1 + _ + _ = _; omega)
theorem infoT : (Tryd.prog.info? 97).map (fun i => (i.zero, i.size, i.bytes)) = some (some (.agg #[.string ⟨#[]⟩, .bool false]), 2, 24) := by kernel_rfl
/-- The two cells of the element number k of a row of pairs of cells. -/
theorem rd_two {w : World} {B n k : Nat} {A : Option Addr} {xs : List Value} (h : Rd w B 2 A n xs) (hk : k < n) : ∃ b off u v, A = some ⟨b, off, none⟩ ∧ b < B ∧ xs[k * 2]? = some u ∧ xs[k * 2 + 1]? = some v ∧ w.cell? ⟨b, off + k * 2, none⟩ = some u ∧ w.cell? ⟨b, off + k * 2 + 1, none⟩ = some v := by
  obtain ⟨b, off, e, hb, hc⟩ := h.2 (by omega)
  have hl := h.1
  have h1 : k * 2 < xs.length := by omega
  have h2 : k * 2 + 1 < xs.length := by omega
  exact ⟨b, off, xs[k * 2], xs[k * 2 + 1], e, hb, List.getElem?_eq_getElem h1, List.getElem?_eq_getElem h2, hc _ _ (List.getElem?_eq_getElem h1), hc (k * 2 + 1) _ (List.getElem?_eq_getElem h2)⟩
theorem sps_at (l : List (Nat × Nat)) (k : Nat) (h : k < l.length) : (sps l)[k * 2]? = some (.int .i64 (l[k].1 : Int)) ∧ (sps l)[k * 2 + 1]? = some (.int .i64 (l[k].2 : Int)) := by
  induction l generalizing k with
  | nil => simp at h
  | cons p l ih =>
    match k with
    | 0 => simp [sps]
    | k + 1 =>
      obtain ⟨a, b⟩ := ih k (by simpa using h)
      have e : sps (p :: l) = .int .i64 (p.1 : Int) :: .int .i64 (p.2 : Int) :: sps l := by simp [sps]
      rw [e, show (k + 1) * 2 = k * 2 + 1 + 1 by omega]
      simpa using ⟨a, b⟩
theorem stepInput (d own : ByteArray) (a : Bool) (w : World) (h1 : d.size ≤ 1000) (h2 : own.size ≤ 1000) : Calls Tryd.prog 80 #[.agg #[.string d, .bool a], .string own] w fun e w' => e = .returned (.string (inpS (d, a) own)) ∧ Below w.heap.size w w' := by
  have C1 := Lib.hid (fun W => pairInput d own W h1 h2)
  have C2 := Lib.hid (fun W => pairInput own d W h2 h1)
  have e1 : inpS (d, true) own = o1 ++ d ++ own := rfl
  have e2 : inpS (d, false) own = o1 ++ own ++ d := rfl
  have B1 := al1 w (.cells #[.string d, .bool a] 97)
  cases a
  · rw [e2]
    generalize o1 ++ own ++ d = u at *
    clear e1 e2 C1
    go_enter Tryd.func80, Tryd.ntmps80
    go_wp2_with fail
    refine (C2.out _).mono ?_
    rintro e w' ⟨rfl, rfl⟩
    go_wp2
    go_ret
    exact ⟨rfl, B1⟩
  · rw [e1]
    generalize o1 ++ d ++ own = u at *
    clear e1 e2 C2
    go_enter Tryd.func80, Tryd.ntmps80
    go_wp2_with fail
    refine (C1.out _).mono ?_
    rintro e w' ⟨rfl, rfl⟩
    go_wp2
    go_ret
    exact ⟨rfl, B1⟩
set_option maxHeartbeats 4000000 in
theorem stepsFrom (b e many : Nat) (A : Option Addr) (n c B : Nat) (l : List ByteArray) (ok : Bool) (w : World) (hok : ok = decide (n = (sib 0 many b e).length)) (hr : Rch 0 many b e) (h20 : many ≤ 20) (hn : n ≤ 1048576) (hB : B ≤ w.heap.size) (hx : Rd w B 1 A n (svs l)) :
    Calls Tryd.prog 79 #[sp b e, .int .i64 (many : Int), .slice A n c] w fun e' w' => ∃ v, e' = .returned (.tuple #[v, .bool ok]) ∧ (ok = true → w'.ownsRow w.heap.size 97 2 v n (sts (stpS b (sib 0 many b e) l))) ∧ Below w.heap.size w w' := by
  obtain ⟨i0, hi, hz0, hz1, hz2⟩ := info_parts infoT
  have hin := hr.in
  have hlen := rd_len hx
  have hsl := sib_len many 0 many b e (by omega)
  have hsi := sib_in many 0 many b e (by omega)
  have CW := Lib.hid (fun W => wholeSpan many W (by omega))
  have CS := Lib.hid (fun W => siblings 0 many b e W)
  have CC := Lib.hid (fun a W => collect 0 many b e a W h20 hr)
  have HX := Lib.hid (fun W (h : Below w.heap.size w W) => hx.below h hB)
  unfold sp at *
  rw [show ((0 : Nat) : Int) = 0 from rfl] at CW CS
  generalize hps : sib 0 many b e = ps at *
  clear hps hx hr
  have B0 := al1 w (.cells #[.int .i64 (b : Int), .int .i64 (e : Int)] 68)
  have k0 := nw1 w (.cells #[.int .i64 (b : Int), .int .i64 (e : Int)] 68)
  go_enter Tryd.func79, Tryd.ntmps79
  go_wp2_with fail
  generalize World.alloc w _ = W0 at *
  have H0 := Lib.hid k0
  have D1 : Hid (Below W0.heap.size W0 W0.drew) := Lib.hid (Below.refl _ W0).drew
  have XW := Lib.hid (fun W (h : Below W0.heap.size W0 W) => (CW.out W).mono (fun e w' (q : _ ∧ _) => (show _ ∧ Below W0.heap.size W0 w' from ⟨q.1, then_ (n := 0) h q.2⟩)))
  have XS := Lib.hid (fun W (h : Below W0.heap.size W0 W) => (CS.out W).mono (fun e' w' (q : _ ∧ _) => (show e' = .returned (sbV W.heap.size) ∧ w'.heap[W.heap.size]? = some (spO 0 many) ∧ w'.heap[W.heap.size + 1]? = some (spO b e) ∧ Below W0.heap.size W0 W ∧ Below W0.heap.size W0 w' from ⟨q.1, by rw [q.2]; exact (nw2 W _ _).1, by rw [q.2]; exact (nw2 W _ _).2, h, by rw [q.2]; exact then_ (n := 0) h (al2 W _ _)⟩)))
  obtain ⟨c0, c1⟩ := row2 k0
  clear CW CS k0
  go_region_held3 (fun w' => w'.cell? ⟨w.heap.size, 0, none⟩ = some (.int .i64 b) ∧ w'.cell? ⟨w.heap.size, 1, none⟩ = some (.int .i64 e))
    (first | (go_keep; done) | (refine ⟨?_, ?_⟩ <;> with_reducible assumption))
    (first
      | (go_at_call 54; (with_reducible refine (XW.out _ ?hb).mono ?_); (case hb => (first | exact D1.out | assumption)); rintro e' w3 ⟨rfl, b3⟩; obtain ⟨d4, d5⟩ := row2 (bx H0.out b3))
      | (go_at_call 87; (with_reducible refine (XS.out _ ?hb).mono ?_); (case hb => (first | exact D1.out | assumption)); rintro e' w4 ⟨rfl, p0, p1, bb, b4⟩; obtain ⟨d6, d7⟩ := row2 (bx H0.out b4))
      | (go_at_call 99; (with_reducible refine (CC.out _ _ ?hp0 ?hp1).mono ?_); (case hp0 => assumption); (case hp1 => assumption); rintro e' w5 ⟨vp, rfl, o5, b5⟩; obtain ⟨d8, d9⟩ := row2 (bx H0.out (b4.trans (b5.mono bb.size)))))
  obtain ⟨Ap, cp, rfl⟩ := own_shapeS o5
  have B5 : Below w.heap.size w w5 := then_ (n := 0) B0 (b4.trans (b5.mono bb.size))
  have H5 := Lib.hid (bx H0.out (b4.trans (b5.mono bb.size)))
  have RP := Lib.hid (Rd.own o5)
  clear o5 b5 b4 bb p0 p1 d4 d5 d6 d7 d8 d9 b3 c0 c1 H0 D1 XW XS CC B0
  by_cases hne : n = ps.length
  case neg =>
    have t1 : ((ps.length : Int) != (n : Int)) = true := by rw [bne_iff_ne]; omega
    obtain rfl : ok = false := by rw [hok]; exact decide_eq_false hne
    clear hne HX RP
    go_wp2
    go_ret2
    exact ⟨_, rfl, (fun h => by cases h), B5⟩
  have t1 : ((ps.length : Int) != (n : Int)) = false := by rw [bne_eq_false_iff_eq]; omega
  obtain rfl : ok = true := by rw [hok]; exact decide_eq_true hne
  subst hne
  have hsl' : (stpS b ps l).length = ps.length := by simp [stpS]; omega
  have hpn : ps.length ≤ 20 := by omega
  obtain ⟨st, hst⟩ : ∃ st, stpS b ps l = st := ⟨_, rfl⟩
  have HST := Lib.hid (fun k (h1 : k < ps.length) (h2 : k < l.length) (h3 : k < st.length) => (show st[k] = (l[k], decide (ps[k].1 < b)) from by subst hst; simp [stpS]))
  rw [hst] at hsl'
  have HLEN := Lib.hid hlen
  have HSL := Lib.hid hsl'
  have HSE := Lib.hid hst
  clear hlen hsl' hst hok
  go_wp2
  go_loopw [24, 9] (fun i v wr => ∃ k : Nat, k ≤ ps.length ∧ i = .int .i64 k ∧ wr.ownsRow w5.heap.size 97 2 v k (sts (st.take k)) ∧ Below w5.heap.size w5 wr) (fun i _ _ => ps.length - (intOf i).toNat)
  case atStart => exact ⟨0, by omega, rfl, World.ownsRow_nil _ _ _ _, Below.refl _ _⟩
  case round =>
    obtain ⟨k, hk, rfl, hown, hb⟩ := hrel
    obtain ⟨Av, cv, rfl⟩ := own_shapeS hown
    have HO := Lib.hid hown
    clear hown
    by_cases hlt : k < ps.length
    · obtain ⟨bp, op, u1, u2, rfl, hbp, x1, x2, y1, y2⟩ := rd_two (RP.out.below hb (Nat.le_refl _)) hlt
      obtain ⟨g1, g2⟩ := sps_at ps k hlt
      obtain rfl : u1 = .int .i64 (ps[k].1 : Int) := Option.some.inj (x1.symm.trans g1)
      obtain rfl : u2 = .int .i64 (ps[k].2 : Int) := Option.some.inj (x2.symm.trans g2)
      have hkl : k < ps.length := hlt
      have hBw : Below w.heap.size w wr := then_ (n := 0) B5 hb
      obtain ⟨bl, ol, hll, rfl, hbl, hcl⟩ := rd_str (HX.out wr hBw) hkl
      have hks : k < st.length := by rw [HSL.out]; exact hkl
      have EST := Lib.hid (HST.out k hlt hll hks)
      have ETK := Lib.hid (List.take_succ_eq_append_getElem hks)
      obtain ⟨p1, hp1⟩ : ∃ p1, ps[k].1 = p1 := ⟨_, rfl⟩
      obtain ⟨p2, hp2⟩ : ∃ p2, ps[k].2 = p2 := ⟨_, rfl⟩
      rw [hp1] at EST y1
      rw [hp2] at y2
      generalize l[k] = x at *
      have i0' : (0 : Int) ≤ (k : Int) := by omega
      have i1' : (k : Int) < (ps.length : Int) := by omega
      have hbm := bx H5.out hb
      have B6 := al1 wr (.cells #[.int .i64 (p1 : Int), .int .i64 (p2 : Int)] 68)
      have k6 := nw1 wr (.cells #[.int .i64 (p1 : Int), .int .i64 (p2 : Int)] 68)
      have hcl6 := (B6.cell (p := ⟨bl, ol + k, none⟩) (by show bl < _; have := hBw.size; omega)).trans hcl
      have hbm6 := bx hbm B6
      clear x1 x2 g1 g2 hbm hcl hp1 hp2 HX HST
      go_wp2_with fail
      generalize hW6 : World.alloc wr _ = W6 at *
      obtain ⟨c0, c1⟩ := row2 k6
      obtain ⟨c2, c3⟩ := row2 hbm6
      have hcl7 := hcl6
      have KC := Lib.hid (fun (w7 : World) (hg : ((W6.alloc (.cells #[.string x, .bool (decide (p1 < b))] 97)).drew).grownBy w7 (Value.slice Av k cv).ownBlock) => by
        have own_ge : ∀ j, (Value.slice Av k cv).ownBlock = some j → w5.heap.size ≤ j ∧ j < wr.heap.size := fun j h => HO.out.lt _ h
        have keep : ∀ (blk o : Nat) (u : Value), W6.cell? ⟨blk, o, none⟩ = some u → blk < W6.heap.size → (blk < w5.heap.size ∨ wr.heap.size ≤ blk) → w7.cell? ⟨blk, o, none⟩ = some u := by
          intro blk o u h h1 h2
          have e1 := hg.block blk (by show blk < ((W6.alloc (.cells #[.string x, .bool (decide (p1 < b))] 97)).heap.size); simp; omega) (fun e => by have := own_ge blk e.symm; omega)
          rw [World.cell?_of_block (a := ⟨blk, o, none⟩) e1]
          exact (World.cell?_of_block (a := ⟨blk, o, none⟩) (Below.heap_alloc W6 _ blk h1)).trans h
        have z1 := B5.size
        have z2 := hb.size
        have z3 := B6.size
        have z4 : wr.heap.size < W6.heap.size := bx_lt k6
        have z5 : w.heap.size < w5.heap.size := bx_lt H5.out
        exact (show w7.cell? ⟨bl, ol + k, none⟩ = some (.string x) ∧ w7.cell? ⟨wr.heap.size, 0, none⟩ = some (.int .i64 p1) ∧ w7.cell? ⟨w.heap.size, 0, none⟩ = some (.int .i64 b) from
          ⟨keep _ _ _ hcl7 (by omega) (.inl (by omega)), keep _ _ _ c0 z4 (.inr (Nat.le_refl _)), keep _ _ _ c2 (by omega) (.inl z5)⟩))
      go_region_held3 (fun w' => w'.cell? ⟨bl, ol + k, none⟩ = some (.string x) ∧ w'.cell? ⟨wr.heap.size, 0, none⟩ = some (.int .i64 p1) ∧ w'.cell? ⟨w.heap.size, 0, none⟩ = some (.int .i64 b))
        (first | (go_keep; done) | (refine ⟨?_, ?_, ?_⟩ <;> with_reducible assumption) | (simp [*, go_sem]; done))
        (((refine step_append_lies _ (by rfl) _ _ _ (by rfl) w5.heap.size 97 i0 _ 2 24 Tryd.underlying93 hi hz0 hz1 hz2 rfl (by omega) (.slice Av k cv) k (sts (st.take k)) (by rfl) ?own _ 1 1 [.string x, .bool (decide (p1 < b))] (by rfl) (by rfl) ?news (by simp [Value.oneCell']) (by omega) (by unfold maxLen; omega) (by omega) ?base _ rfl ?_); (case own => (first | exact (own_belowS HO.out B6 (Nat.le_refl _)).drew.alloc _ | exact ((own_belowS HO.out B6 (Nat.le_refl _)).alloc _).drew)); (case news => exact World.news_of_block (cs := #[.string x, .bool (decide (p1 < b))]) (t := 97) (fr := (0, 0)) (show (W6.alloc (.cells #[.string x, .bool (decide (p1 < b))] 97)).heap[W6.heap.size]? = _ from heap_alloc_new W6 _)); (case base => (have := hb.size; have := B6.size; simp; omega)); intro g cap w7 hown1 hgrow hat hlt1; have dd := KC.out w7 hgrow; obtain ⟨dd1, dd2, dd3⟩ := dd; have HO7 := Lib.hid hown1; have HG7 := Lib.hid hgrow; clear hown1 hgrow hat hlt1))
      all_goals
        have HR7 : Hid (w7.ownsRow w5.heap.size 97 2 (.slice (some ⟨g, 0, none⟩) (k + 1) cap) (k + 1) (sts (st.take (k + 1)))) := Lib.hid (by rw [ETK.out, sts_snoc, EST.out]; exact HO7.out)
        have HB7 : Hid (Below w5.heap.size w5 w7) := Lib.hid ((((hb.trans (B6.mono hb.size)).alloc (by have := hb.size; have := B6.size; omega) _).drew).grown HG7.out (by have := hb.size; have := B6.size; show _ ≤ (W6.alloc (.cells #[.string x, .bool (decide (p1 < b))] 97)).heap.size; simp; omega) (fun j h => (HO.out.lt _ h).1))
        clear HO7 HG7 KC HO hcl6 hcl7 c0 c1 c2 c3 EST ETK
        go_wp2
        go_roundw
        case rel => exact ⟨k + 1, by omega, by go_num, HR7.out, HB7.out⟩
        case measure => simp [intOf]; omega
    · obtain rfl : k = ps.length := by omega
      have e1 : st.take ps.length = st := List.take_of_length_le (by have := HSL.out; omega)
      have HF : Hid (wr.ownsRow w.heap.size 97 2 (.slice Av ps.length cv) ps.length (sts (stpS b ps l))) := Lib.hid (by
        have := HO.out
        rw [e1] at this
        rw [HSE.out]
        exact own_base this B5.size)
      have B7 : Below w.heap.size w wr := then_ (n := 0) B5 hb
      clear e1 HX HST HO
      go_wp2
      go_ret2
      exact ⟨.slice Av ps.length cv, rfl, by first | exact HF.out | exact fun _ => HF.out, B7⟩
end Go.Proofs.YtiiklednbhklhaaDoor.T8u
