/-
  The inputs of the digests on a path, by the program.
-/
import Derived.Test.YtiiklednbhklhaaDoorT8u
import Derived.Test.YtiiklednbhklhaaDoorApk
namespace Go.Proofs.YtiiklednbhklhaaDoor.T8v
open Go.ChangeShapes Go.WideShapes Go.ChangeAt Go.RowKit
open Go.Proofs.YtiiklednbhklhaaDoor.Mem Go.Proofs.YtiiklednbhklhaaDoor.Ints Go.Proofs.YtiiklednbhklhaaDoor.Strs Go.Proofs.YtiiklednbhklhaaDoor.ShaComp Go.Proofs.YtiiklednbhklhaaDoor.Digest Go.Proofs.YtiiklednbhklhaaDoor.Mkl Go.Proofs.YtiiklednbhklhaaDoor.Sib Go.Proofs.YtiiklednbhklhaaDoor.Spl Go.Proofs.YtiiklednbhklhaaDoor.Slq Go.Proofs.YtiiklednbhklhaaDoor.Rec Go.Proofs.YtiiklednbhklhaaDoor.Apk Go.Proofs.YtiiklednbhklhaaDoor.T8 Go.Proofs.YtiiklednbhklhaaDoor.T8s Go.Proofs.YtiiklednbhklhaaDoor.T8i Go.Proofs.YtiiklednbhklhaaDoor.T8r Go.Proofs.YtiiklednbhklhaaDoor.T8k Go.Proofs.YtiiklednbhklhaaDoor.T8u
set_option linter.unusedVariables false
set_option maxRecDepth 100000

def tdS (y : ByteArray) : ByteArray := bs (dig (tl y))
theorem td32 (y : ByteArray) : (tdS y).size = 32 := by unfold tdS; rw [bs_size]; exact dig32 _
def runS (st : List (ByteArray × Bool)) (x : ByteArray) : List ByteArray := st.foldl (fun acc s => acc ++ [inpS s (tdS (acc.getLastD ⟨#[]⟩))]) [x]
theorem runS_snoc (st : List (ByteArray × Bool)) (s : ByteArray × Bool) (x : ByteArray) : runS (st ++ [s]) x = runS st x ++ [inpS s (tdS ((runS st x).getLastD ⟨#[]⟩))] := by simp [runS]
theorem runS_len (st : List (ByteArray × Bool)) (x : ByteArray) : (runS st x).length = st.length + 1 := by
  induction st using Sib.rev with
  | h0 => rfl
  | h1 l s ih => rw [runS_snoc]; simp; omega
theorem runS_size (st : List (ByteArray × Bool)) (x : ByteArray) (hx : x.size ≤ 600) (hs : ∀ s ∈ st, s.1.size ≤ 500) : ∀ y ∈ runS st x, y.size ≤ 600 := by
  induction st using Sib.rev with
  | h0 => intro y hy; obtain rfl : y = x := by simpa [runS] using hy
          exact hx
  | h1 l s ih =>
    intro y hy
    rw [runS_snoc] at hy
    rcases List.mem_append.1 hy with h | h
    · exact ih (fun s' h' => hs s' (List.mem_append.2 (.inl h'))) y h
    · obtain rfl := List.mem_singleton.1 h
      have h1 := hs s (List.mem_append.2 (.inr (List.mem_singleton.2 rfl)))
      rw [inp_size, td32]; omega
theorem getLastD_at {α : Type} (l : List α) (k : Nat) (d : α) (h : l.length = k + 1) (h' : k < l.length) : l.getLastD d = l[k] := by
  have hne : l ≠ [] := by rintro rfl; cases h
  rw [List.getLastD_eq_getLast?, List.getLast?_eq_some_getLast hne, Option.getD_some, List.getLast_eq_getElem]
  congr 1; omega
theorem sts_at (l : List (ByteArray × Bool)) (k : Nat) (h : k < l.length) : (sts l)[k * 2]? = some (.string l[k].1) ∧ (sts l)[k * 2 + 1]? = some (.bool l[k].2) := by
  induction l generalizing k with
  | nil => simp at h
  | cons p l ih =>
    match k with
    | 0 => simp [sts]
    | k + 1 =>
      obtain ⟨a, b⟩ := ih k (by simpa using h)
      have e : sts (p :: l) = .string p.1 :: .bool p.2 :: sts l := by simp [sts]
      rw [e, show (k + 1) * 2 = k * 2 + 1 + 1 by omega]
      simpa using ⟨a, b⟩
set_option maxHeartbeats 4000000 in
theorem pathInputs (many k : Nat) (leaf : ByteArray) (A : Option Addr) (n c B : Nat) (l : List ByteArray) (ok : Bool) (w : World) (hok : ok = decide (n = (sib 0 many k (k + 1)).length)) (hk : k < many) (h20 : many ≤ 20) (hn : n ≤ 1048576) (hlf : leaf.size ≤ 500) (hl : ∀ s ∈ l, s.size ≤ 500) (hB : B ≤ w.heap.size) (hx : Rd w B 1 A n (svs l)) (hT : Tbl w) :
    Calls Tryd.prog 60 #[.int .i64 (many : Int), .int .i64 (k : Int), .string leaf, .slice A n c] w fun e' w' => ∃ v, e' = .returned (.tuple #[v, .bool ok]) ∧
      (ok = true → w'.ownsRow w.heap.size 9 1 v (n + 1) (svs (runS (stpS k (sib 0 many k (k + 1)) l) (z1 ++ leaf)))) ∧ Below w.heap.size w w' := by
  obtain ⟨i0, hi, hz0, hz1, hz2⟩ := info_parts infoS
  have hlen := rd_len hx
  have hr := rch_leaf many 0 many k (by omega) (by omega) hk
  have hsl := sib_len many 0 many k (k + 1) (by omega)
  have CL := Lib.hid (fun W => leafSpan k W (by omega))
  have CF := Lib.hid (fun W (h : Below w.heap.size w W) => stepsFrom k (k + 1) many A n c B l ok W hok hr h20 hn (by have := h.size; omega) (hx.below h hB))
  have CI := Lib.hid (fun W => leafInput leaf W (by omega))
  have HT := Lib.hid (fun W (h : Below w.heap.size w W) => hT.below h)
  have hst0 : ∀ s ∈ stpS k (sib 0 many k (k + 1)) l, s.1.size ≤ 500 := by
    intro s hs
    unfold stpS at hs
    obtain ⟨i, hi1, hi2⟩ := List.getElem_of_mem hs
    rw [List.getElem_zipWith] at hi2
    rw [← hi2]
    exact hl _ (List.getElem_mem _)
  have hstl : ok = true → (stpS k (sib 0 many k (k + 1)) l).length = n := by
    intro h; rw [h] at hok
    have := of_decide_eq_true hok.symm
    simp [stpS]; omega
  have hn20 : ok = true → n ≤ 20 := by
    intro h; rw [h] at hok
    have := of_decide_eq_true hok.symm
    omega
  have hx0 : (z1 ++ leaf).size ≤ 600 := by rw [ByteArray.size_append]; show 1 + _ ≤ _; omega
  unfold sp at CL CF
  rw [show ((k + 1 : Nat) : Int) = (k : Int) + 1 by omega] at CL CF
  generalize stpS k (sib 0 many k (k + 1)) l = st at *
  generalize z1 ++ leaf = x0 at *
  clear hx hT hl hok hr hsl hlen
  go_enter Tryd.func60, Tryd.ntmps60
  go_wp2_with fail
  refine (CL.out _).mono ?_
  rintro e w1 ⟨rfl, b1⟩
  go_wp2_with fail
  refine (CF.out _ b1).mono ?_
  rintro e w2 ⟨vs, rfl, o2, b2⟩
  have B2 := then_ (n := 0) b1 b2
  clear CL CF b2
  cases ok
  case false =>
    clear o2 hstl hn20 hst0
    go_wp2
    go_ret2
    exact ⟨_, rfl, (fun h => by cases h), B2⟩
  have o2 := o2 rfl
  have hstl := hstl rfl
  have hn20 := hn20 rfl
  obtain ⟨As, cs, rfl⟩ := own_shapeS o2
  have RS := Lib.hid (Rd.own o2)
  have HST := Lib.hid hst0
  clear o2 b1 hst0
  go_wp2_with fail
  refine (CI.out _).mono ?_
  rintro e w3 ⟨rfl, rfl⟩
  have how : (w2.alloc (.cells #[.string x0] 9)).ownsRow w2.heap.size 9 1 (.slice (some ⟨w2.heap.size, 0, none⟩) 1 1) 1 (svs (runS (st.take 0) x0)) :=
    ⟨rfl, .inr ⟨w2.heap.size, 1, _, rfl, Nat.le_refl _, nw1 w2 _, Nat.le_refl _, by unfold maxLen; omega, rfl, rfl⟩⟩
  have hbw := al1 w2 (.cells #[.string x0] 9)
  go_wp2_with fail
  go_loopw [30, 12] (fun i v wr => ∃ j : Nat, j ≤ n ∧ i = .int .i64 j ∧ wr.ownsRow w2.heap.size 9 1 v (j + 1) (svs (runS (st.take j) x0)) ∧ Below w2.heap.size w2 wr) (fun i _ _ => n - (intOf i).toNat)
  case atStart => exact ⟨0, by omega, rfl, how, hbw⟩
  case round =>
    obtain ⟨j, hj, rfl, hown, hb⟩ := hrel
    clear how hbw
    obtain ⟨Av, cv, rfl⟩ := own_shapeS hown
    obtain ⟨gv, rfl, hgv⟩ := own_someS hown (by omega)
    have HO := Lib.hid hown
    clear hown
    by_cases hlt : j < n
    · obtain ⟨bp, op, u1, u2, rfl, hbp, x1, x2, y1, y2⟩ := rd_two (RS.out.below hb (Nat.le_refl _)) hlt
      have hjs : j < st.length := by omega
      obtain ⟨g1, g2⟩ := sts_at st j hjs
      obtain rfl : u1 = .string st[j].1 := Option.some.inj (x1.symm.trans g1)
      obtain rfl : u2 = .bool st[j].2 := Option.some.inj (x2.symm.trans g2)
      have hrl := runS_len (st.take j) x0
      have htk : (st.take j).length = j := by rw [List.length_take]; omega
      rw [htk] at hrl
      have hjr : j < (runS (st.take j) x0).length := by omega
      have hy0 := getLastD_at (runS (st.take j) x0) j ⟨#[]⟩ hrl hjr
      have hys := runS_size (st.take j) x0 hx0 (fun s h => HST.out s (List.mem_of_mem_take h)) _ (List.getElem_mem hjr)
      have hds := HST.out _ (List.getElem_mem hjs)
      have hcy := HO.out.cellAt j (by omega)
      rw [show (svs (runS (st.take j) x0))[j]? = some (.string (runS (st.take j) x0)[j]) by simp [svs, hjr]] at hcy
      have EN : Hid (runS (st.take (j + 1)) x0 = runS (st.take j) x0 ++ [inpS st[j] (tdS (runS (st.take j) x0)[j])]) := Lib.hid (by rw [List.take_succ_eq_append_getElem hjs, runS_snoc, hy0])
      have HXS : Hid ((svs (runS (st.take j) x0))[j]? = some (.string (runS (st.take j) x0)[j])) := Lib.hid (by simp [svs, hjr])
      have C1 := Lib.hid (fun W (h : Below w.heap.size w W) => T8.treeDigest (runS (st.take j) x0)[j] W hys (HT.out W h))
      rw [show bs (dig (tl (runS (st.take j) x0)[j])) = tdS (runS (st.take j) x0)[j] from rfl] at C1
      have h32 := td32 (runS (st.take j) x0)[j]
      have C2 := Lib.hid (fun W => stepInput st[j].1 (tdS (runS (st.take j) x0)[j]) st[j].2 W (by omega) (by omega))
      rw [show (st[j].1, st[j].2) = st[j] from rfl] at C2
      have hnz : (inpS st[j] (tdS (runS (st.take j) x0)[j])).size ≤ 600 := by rw [inp_size]; omega
      generalize inpS st[j] (tdS (runS (st.take j) x0)[j]) = nx at *
      generalize tdS (runS (st.take j) x0)[j] = dy at *
      generalize (runS (st.take j) x0)[j] = y at *
      generalize st[j].1 = d at *
      generalize st[j].2 = sa at *
      have hBw : Below w.heap.size w wr := then_ (n := 0) B2 hb
      have i0' : (0 : Int) ≤ (j : Int) := by omega
      have i1' : (j : Int) < (n : Int) := by omega
      have i2' : (j : Int) < ((j + 1 : Nat) : Int) := by omega
      have i3' : (j : Int) < (j : Int) + 1 := by omega
      have B6 := al1 wr (.cells #[.string d, .bool sa] 97)
      have k6 := nw1 wr (.cells #[.string d, .bool sa] 97)
      have hgl : gv < wr.heap.size := (HO.out.lt _ rfl).2
      have hcy6 := (B6.cell (p := ⟨gv, j, none⟩) (by show gv < _; omega)).trans hcy
      clear x1 x2 g1 g2 hcy hy0 hys hds hrl htk hjr h32
      go_wp2_with fail
      generalize hW6 : World.alloc wr _ = W6 at *
      have K6 := Lib.hid k6
      have O6 := Lib.hid (own_belowS HO.out B6 (Nat.le_refl _))
      have hBw6 : Below w.heap.size w W6 := then_ (n := 0) hBw B6
      have hb6 : Below w2.heap.size w2 W6 := hb.trans (B6.mono hb.size)
      obtain ⟨c0, c1⟩ := row2 k6
      have D1 : Hid (Below W6.heap.size W6 W6.drew) := Lib.hid (Below.refl _ W6).drew
      have X1 := Lib.hid (fun W (h : Below W6.heap.size W6 W) => (C1.out W (then_ (n := 0) hBw6 h)).mono (fun e w' (q : _ ∧ _) => (show _ ∧ Below W6.heap.size W6 w' from ⟨q.1, then_ (n := 0) h q.2⟩)))
      have X2 := Lib.hid (fun W (h : Below W6.heap.size W6 W) => (C2.out W).mono (fun e w' (q : _ ∧ _) => (show _ ∧ Below W6.heap.size W6 w' from ⟨q.1, then_ (n := 0) h q.2⟩)))
      have KC := Lib.hid (fun (W : World) (h : Below W6.heap.size W6 W) => (show W.cell? ⟨wr.heap.size, 0, none⟩ = some (.string d) ∧ W.cell? ⟨wr.heap.size, 1, none⟩ = some (.bool sa) ∧ W.cell? ⟨gv, j, none⟩ = some (.string y) from ⟨(row2 (bx K6.out h)).1, (row2 (bx K6.out h)).2, (h.cell (p := ⟨gv, j, none⟩) (by show gv < _; have := B6.size; omega)).trans hcy6⟩))
      have hgne : Hid (some wr.heap.size ≠ (Value.slice (some ⟨gv, 0, none⟩) (j + 1) cv).ownBlock) := Lib.hid (fun h => Nat.lt_irrefl _ ((show wr.heap.size = gv by simpa [Value.ownBlock] using h) ▸ hgl))
      clear C1 C2 k6
      go_region_held3 (fun w' => w'.cell? ⟨wr.heap.size, 0, none⟩ = some (.string d) ∧ w'.cell? ⟨wr.heap.size, 1, none⟩ = some (.bool sa) ∧ w'.cell? ⟨gv, j, none⟩ = some (.string y))
        (first | (go_keep; done) | (refine ⟨?_, ?_, ?_⟩ <;> with_reducible assumption))
        ((first
          | (go_at_call 61; (with_reducible refine (X1.out _ ?hb).mono ?_); (case hb => (first | exact D1.out | assumption)); rintro e w7 ⟨rfl, b7⟩; obtain ⟨d0, d1, d2⟩ := KC.out w7 b7)
          | (go_at_call 80; (with_reducible refine (X2.out _ ?hb).mono ?_); (case hb => (first | exact D1.out | assumption)); rintro e w8 ⟨rfl, b8⟩; obtain ⟨d3, d4, d5⟩ := KC.out w8 b8)
          | ((refine step_append_keep (by rfl) _ _ _ (by rfl) w2.heap.size 9 i0 _ 1 16 Tryd.underlying23 hi hz0 hz1 hz2 rfl (by omega) (.slice (some ⟨gv, 0, none⟩) (j + 1) cv) (j + 1) (svs (runS (st.take j) x0)) (by rfl) ((own_belowS O6.out b8 (Nat.le_refl _)).alloc _) _ 1 1 [.string nx] (by rfl) (by rfl) ?news (by simp [Value.oneCell']) (by omega) (by unfold maxLen; omega) (by omega) ?base ?_); (case news => exact World.news_of_block (cs := #[.string nx]) (t := 9) (fr := (0, 0)) (nw1 w8 _)); (case base => (have := hb6.size; have := b8.size; simp; omega)); intro g cap w9 hown1 hgrow hkeep; have e0 := bx (bx K6.out b8) (al1 w8 (.cells #[.string nx] 9)); have e1 := (hgrow.block wr.heap.size (bx_lt e0) (hgne.out)).trans e0; obtain ⟨d6, d7⟩ := row2 e1; have d8 := hkeep gv rfl j _ HXS.out; have HO9 := Lib.hid hown1; have HG9 := Lib.hid hgrow; clear hown1 hgrow hkeep e0 e1)))
      all_goals
        have HR9 : Hid (w9.ownsRow w2.heap.size 9 1 (.slice (some ⟨g, 0, none⟩) (j + 1 + 1) cap) (j + 1 + 1) (svs (runS (st.take (j + 1)) x0))) := Lib.hid (by
          rw [EN.out]
          have := HO9.out
          rwa [show svs (runS (st.take j) x0) ++ [.string nx] = svs (runS (st.take j) x0 ++ [nx]) by simp [svs]] at this)
        have HB9 : Hid (Below w2.heap.size w2 w9) := Lib.hid (((hb6.trans (b8.mono hb6.size)).alloc (by have := hb6.size; have := b8.size; omega) _).grown HG9.out (by have := hb6.size; have := b8.size; simp; omega) (fun q h => (HO.out.lt _ h).1))
        clear HO9 HG9 KC HO O6 EN HXS hcy6
        go_wp2
        go_roundw
        case rel => exact ⟨j + 1, by omega, by go_num, HR9.out, HB9.out⟩
        case measure => simp [intOf]; omega
    · obtain rfl : j = n := by omega
      have e1 : st.take j = st := List.take_of_length_le (by omega)
      have HF : Hid (wr.ownsRow w.heap.size 9 1 (.slice (some ⟨gv, 0, none⟩) (j + 1) cv) (j + 1) (svs (runS st x0))) := Lib.hid (by
        have := HO.out
        rw [e1] at this
        exact own_base this B2.size)
      have B7 : Below w.heap.size w wr := then_ (n := 0) B2 hb
      clear e1 HO HT CI
      go_wp2
      go_ret2
      exact ⟨.slice (some ⟨gv, 0, none⟩) (j + 1) cv, rfl, by first | exact HF.out | exact fun _ => HF.out, B7⟩
end Go.Proofs.YtiiklednbhklhaaDoor.T8v
