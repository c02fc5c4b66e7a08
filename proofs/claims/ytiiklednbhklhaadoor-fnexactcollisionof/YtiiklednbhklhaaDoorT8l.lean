/-
  The roots of the parts beside a path, by the program.
-/
import Derived.Test.YtiiklednbhklhaaDoorT8k
namespace Go.Proofs.YtiiklednbhklhaaDoor.T8l
open Go.ChangeShapes Go.WideShapes Go.ChangeAt Go.RowKit Go.Shelf
open Go.Proofs.YtiiklednbhklhaaDoor.Mem Go.Proofs.YtiiklednbhklhaaDoor.Ints Go.Proofs.YtiiklednbhklhaaDoor.Strs Go.Proofs.YtiiklednbhklhaaDoor.ShaComp Go.Proofs.YtiiklednbhklhaaDoor.Mkl Go.Proofs.YtiiklednbhklhaaDoor.Sib Go.Proofs.YtiiklednbhklhaaDoor.Spl Go.Proofs.YtiiklednbhklhaaDoor.Slq Go.Proofs.YtiiklednbhklhaaDoor.Rec Go.Proofs.YtiiklednbhklhaaDoor.T8 Go.Proofs.YtiiklednbhklhaaDoor.T8s Go.Proofs.YtiiklednbhklhaaDoor.T8i Go.Proofs.YtiiklednbhklhaaDoor.T8r Go.Proofs.YtiiklednbhklhaaDoor.Itr Go.Proofs.YtiiklednbhklhaaDoor.T8j Go.Proofs.YtiiklednbhklhaaDoor.T8k
set_option linter.unusedVariables false
set_option maxRecDepth 100000
attribute [local go_sem] Oper.semAt_some

/-- An append in a region that draws its order, in whatever frame. -/
theorem step_append {F : Fence} {nF : Nat} {P : Program} {ops : Array Oper} {o : Oper} {a : Act} {w : World} {K : Act → World → Prop} {Q : Exit → Act → World → Prop} {E : Prop} (hgd : o.guard = none) (s x : Operand) (t : TypeId)
    (ho : o.op = .call { callee := .builtin .append, args := #[s, x], argTypes := #[t, t] })
    (base : Nat) (e : TypeId) (i : TypeInfo) (z : Value) (size bytes : Nat) (ht : P.underlying t = some (.slice e)) (hi : P.info? e = some i) (hz : i.zero = some z)
    (hsize : i.size = size) (hby : i.bytes = bytes) (hzs : z.cells.size = size) (hsz : 0 < size)
    (v : Value) (n : Nat) (xs : List Value) (hs : a.eval s = v) (hown : w.ownsRow base e size v n xs)
    (ad : Addr) (m c : Nat) (news : List Value) (hx : a.eval x = .slice (some ad) m c) (hl : news.length = m * size) (hnews : ∀ j u, news[j]? = some u → w.cell? (ad.add j) = some u) (h1 : ∀ u ∈ news, u.oneCell' = true)
    (h63 : n + m ≤ maxLen) (hbytes : (n + m) * bytes ≤ 140737488355328) (hbase : base ≤ w.heap.size)
    (h : ∀ v' w', w'.ownsRow base e size v' (n + m) (xs ++ news) → w.grownBy w' v.ownBlock → (v'.ownBlock = v.ownBlock ∨ v'.ownBlock = some w.heap.size) → K (a.put o.dst v') w') :
    if Region.wanted o (yielded ops a.tmps) = true then Oper.wpIn F nF P o a w K Q else E := by
  have hw : Region.wanted o (yielded ops a.tmps) = true := by simp [Region.wanted, hgd]
  rw [if_pos hw]
  obtain ⟨v', w', hr, h2, h3, h4, h5⟩ := run_append_own_at (P := P) w base t o.type e i z size bytes ht hi hz hsize hby hzs hsz v n xs hown ad m c news hl hnews h1 h63 hbytes hbase
  unfold Oper.wpIn
  refine ⟨by simp [Oper.about, ho, resolve, Target.leads, Sem.run_pure], ?_⟩
  rw [Oper.semAt_plain F _ _ (by rw [ho]; intro c hc'; cases hc')]
  simp [execOp, ho, resolve, invoke, builtin, hs, hx, hr, Result.andThen]
  exact h v' w' h2 h3 h5
theorem sib_in (n : Nat) : ∀ f t b e, t - f ≤ n → ∀ p ∈ sib f t b e, f ≤ p.1 ∧ p.1 ≤ p.2 ∧ p.2 ≤ t := by
  induction n with
  | zero => intro f t b e h p hp; unfold sib at hp; rw [dif_pos (by omega)] at hp; cases hp
  | succ n ih =>
    intro f t b e h p hp
    unfold sib at hp
    split at hp
    · cases hp
    · have := split_lt (show 2 ≤ t - f by omega)
      split at hp
      · rcases List.mem_append.1 hp with h2 | h2
        · have := ih (f + split (t - f)) t b e (by omega) p h2; omega
        · obtain rfl : p = (f, f + split (t - f)) := by simpa using h2
          simp; omega
      · rcases List.mem_append.1 hp with h2 | h2
        · have := ih f (f + split (t - f)) b e (by omega) p h2; omega
        · obtain rfl : p = (f + split (t - f), t) := by simpa using h2
          simp; omega
def prs (l : List ByteArray) (ps : List (Nat × Nat)) : List ByteArray := ps.map fun p => prS l p.1 p.2
theorem prs_snoc (l : List ByteArray) (ps : List (Nat × Nat)) (p q : Nat) : prs l (ps ++ [(p, q)]) = prs l ps ++ [prS l p q] := by simp [prs]
set_option maxHeartbeats 4000000 in
theorem siblingRoots (b e : Nat) (A : Option Addr) (n c B : Nat) (l : List ByteArray) (w : World) (hr : Rch 0 n b e) (h20 : n ≤ 20) (hl : leaves l) (hB : B ≤ w.heap.size) (hx : Rd w B 1 A n (svs l)) (hT : Tbl w) :
    Calls Tryd.prog 49 #[.slice A n c, sp b e] w fun e' w' => ∃ v, e' = .returned v ∧ w'.ownsRow w.heap.size 9 1 v (sib 0 n b e).length (svs (prs l (sib 0 n b e))) ∧ Below w.heap.size w w' := by
  obtain ⟨i0, hi, hz0, hz1, hz2⟩ := info_parts infoS
  have hin := hr.in
  have CR := Lib.hid (fun W => (callsIn_wide (n := 0)).2 (rootsOf A n c W))
  have CW := Lib.hid (fun W => wholeSpan n W (by omega))
  have CS := Lib.hid (fun W => siblings 0 n b e W)
  unfold sp at *
  unfold rtV at CR
  rw [show ((0 : Nat) : Int) = 0 from rfl] at CW CS
  refine (callsIn_wide (n := 0)).1 ?_
  refine callsIn_of_wp_marks Tryd.func49 rfl trivial ?_ rfl
  simp only [Tryd.ntmps49, List.size_toArray, List.length_cons, List.length_nil, Nat.reduceAdd, Nat.reduceSub, Array.replicate_succ, Array.replicate_zero, List.push_toArray, List.append_toArray, List.nil_append, List.cons_append]
  have B0 := al1 w (.cells #[.int .i64 (b : Int), .int .i64 (e : Int)] 68)
  have k0 := nw1 w (.cells #[.int .i64 (b : Int), .int .i64 (e : Int)] 68)
  gi_wp2_with (refine ⟨trivial, rfl, (CR.out _).mono ?_⟩; rintro e' w1 ⟨rfl, hR, hb⟩)
  rw [World.size_alloc] at hR
  have B1 := then_ (n := 0) B0 hb
  have k1 := bx k0 hb
  have hsz1 : w.heap.size + 1 + 1 < w1.heap.size := bx_lt hR.2
  obtain ⟨d0, d1⟩ := row2 (bx k1 (al2 w1 (.cells #[.func (.func 88) #[] #[.pointer (some ⟨w.heap.size + 1, 0, none⟩), .pointer (some ⟨w.heap.size + 1 + 1, 0, none⟩)]] 71) (.cells #[.slice none 0 0] 23)))
  obtain ⟨k5, k6⟩ := nw2 w1 (.cells #[.func (.func 88) #[] #[.pointer (some ⟨w.heap.size + 1, 0, none⟩), .pointer (some ⟨w.heap.size + 1 + 1, 0, none⟩)]] 71) (.cells #[.slice none 0 0] 23)
  have B5 := al2 w1 (.cells #[.func (.func 88) #[] #[.pointer (some ⟨w.heap.size + 1, 0, none⟩), .pointer (some ⟨w.heap.size + 1 + 1, 0, none⟩)]] 71) (.cells #[.slice none 0 0] 23)
  have hs2 : (World.alloc (World.alloc w1 (.cells #[.func (.func 88) #[] #[.pointer (some ⟨w.heap.size + 1, 0, none⟩), .pointer (some ⟨w.heap.size + 1 + 1, 0, none⟩)]] 71)) (.cells #[.slice none 0 0] 23)).heap.size = w1.heap.size + 1 + 1 := by simp
  generalize hW2 : World.alloc (World.alloc w1 _) _ = W2 at *
  have k2 := bx k1 (show Below w1.heap.size w1 W2 from hW2 ▸ B5)
  have B2 : Below w.heap.size w W2 := then_ (n := 0) B1 B5
  have hR2 := hR.below B5
  clear hW2 B5 B1 B0 hb k0 k1 hR CR
  have H0 := Lib.hid k2
  have D1 : Hid (Below W2.heap.size W2 W2.drew) := Lib.hid (Below.refl _ W2).drew
  have XW := Lib.hid (fun W (h : Below W2.heap.size W2 W) => (CW.out W).mono (fun e w' (q : _ ∧ _) => (show _ ∧ Below W2.heap.size W2 w' from ⟨q.1, then_ (n := 0) h q.2⟩)))
  have XS := Lib.hid (fun W (h : Below W2.heap.size W2 W) => (CS.out W).mono (fun e w' (q : _ ∧ _) => (show (e = _ ∧ w' = _) ∧ Below W2.heap.size W2 W ∧ Below W2.heap.size W2 w' from ⟨q, h, by rw [q.2]; exact then_ (n := 0) h (al2 W _ _)⟩)))
  clear CW CS
  refine wpIn_wide.2 ?_
  go_region_held3 (fun w' => w'.cell? ⟨w.heap.size, 0, none⟩ = some (.int .i64 b) ∧ w'.cell? ⟨w.heap.size, 1, none⟩ = some (.int .i64 e))
    (first | (go_keep; done) | (refine ⟨?_, ?_⟩ <;> with_reducible assumption))
    (first
      | (go_at_call 54; (with_reducible refine (XW.out _ ?hb).mono ?_); (case hb => (first | exact D1.out | assumption)); rintro e' w3 ⟨rfl, b3⟩; obtain ⟨d4, d5⟩ := row2 (bx H0.out b3))
      | (go_at_call 87; (with_reducible refine (XS.out _ ?hb).mono ?_); (case hb => (first | exact D1.out | assumption)); rintro e' w4 ⟨⟨rfl, hw4⟩, bb, b4⟩; obtain ⟨d6, d7⟩ := row2 (bx H0.out b4)))
  have k4 := nw2 w3 (spO 0 n) (spO b e)
  have hs4 : w4.heap.size = w3.heap.size + 1 + 1 := by rw [hw4]; simp
  rw [← hw4] at k4 ⊢
  have k5' := bx k5 b4
  have k6' := bx k6 b4
  have hR4 := hR2.below b4
  have B4 := then_ (n := 0) B2 b4
  have h3 := bb.size
  clear hw4 k5 k6 hR2 B2 b4 bb b3 d0 d1 d4 d5 H0 D1 XW XS k2 d6 d7
  obtain ⟨kp, kq⟩ := k4
  gi_wp2
  obtain ⟨y, hy⟩ : ∃ y, y = w1.heap.size := ⟨_, rfl⟩
  obtain ⟨a, ha⟩ : ∃ a, a = w3.heap.size := ⟨_, rfl⟩
  obtain ⟨q, hq⟩ : ∃ q, q = w.heap.size + 1 := ⟨_, rfl⟩
  obtain ⟨z, hz⟩ : ∃ z, z = y + 1 := ⟨_, rfl⟩
  rw [← ha] at kp kq hs4 ⊢
  rw [← hy] at k5' k6' hsz1 hs2 ⊢
  rw [← hz] at k6' ⊢
  rw [← hq] at hR4 k5' ⊢
  have l1 : w.heap.size < q := by omega
  have l2 : q + 1 < y := by omega
  have l3 : z < a := by omega
  have l4 : y < z := by omega
  have l5 : w4.heap.size = a + 1 + 1 := hs4
  have hn := rd_len hx
  have hsl := sib_len n 0 n b e (by omega)
  have RT := Lib.hid (fun (W : World) (p q' : Nat) (h : Below w.heap.size w W) (hq : Rtf W q A n c) (h1 : p ≤ q') (h2 : q' ≤ n) => (callsIn_wide (n := 0)).2 (T8r.root n p q' A n c q B l W (by omega) h1 h2 h20 hl (by have := h.size; omega) (hx.below h hB) hq (hT.below h)))
  have hrc : ∀ p ∈ sib 0 n b e, p.1 ≤ p.2 ∧ p.2 ≤ n := fun p hp => sib_in n 0 n b e (by omega) p hp |>.2
  clear hy ha hq hz hs4 hx hT hl hs2 hsz1 h3 hB hin
  unfold sbV
  refine range_law (gf := 101) (lb := #[.pointer (some ⟨a, 0, none⟩), .pointer (some ⟨a + 1, 0, none⟩)]) rfl (enters_of Tryd.func101 (by kernel_rfl) rfl) (gives n 0 n b e a (by omega) h20 hr) (fun _ => rfl)
    (fun k => k = a ∨ k = a + 1) (fun _ h => h) (fun k h => by omega) (fun W' h => ⟨(h _ (by omega)).trans kp, (h _ (by omega)).trans kq⟩)
    (fun pre K Wx => (∃ v, Wx.heap[z]? = some (.cells #[v] 23) ∧ Wx.ownsRow w.heap.size 9 1 v pre.length (svs (prs l pre)) ∧ ∀ g, v.ownBlock = some g → ¬ K g) ∧ (∀ k, K k → a ≤ k) ∧ Wx.heap[y]? = some (.cells #[.func (.func 88) #[] #[.pointer (some ⟨q, 0, none⟩), .pointer (some ⟨q + 1, 0, none⟩)]] 71) ∧ Rtf Wx q A n c ∧ Below w.heap.size w Wx ∧ a ≤ Wx.heap.size)
    ?abide ⟨⟨_, k6', World.ownsRow_nil _ _ _ _, fun g h => by cases h⟩, by omega, k5', hR4, B4, by omega⟩ ?round ?done
  case abide =>
    rintro ys Ka Kb A' B' ⟨⟨v, hv, ho, hg⟩, hka, hfy, hrt, hb, hs⟩ hst hsub hnew hkin
    refine ⟨⟨v, hst.at hv (fun h => by have := hka _ h; omega), own_st ho hst hg, fun g h h' => ?_⟩, fun k h => ?_, hst.at hfy (fun h => by have := hka _ h; omega), ⟨hst.at hrt.1 (fun h => by have := hka _ h; omega), hst.at hrt.2 (fun h => by have := hka _ h; omega)⟩, hb.trans (hst.below hb.size (fun k h => by have := hka k h; omega)), Nat.le_trans hs hst.size⟩
    · rcases hnew g h' with h2 | h2
      · exact hg g h h2
      · have := (ho.lt _ h).2; omega
    · rcases hnew k h with h2 | h2
      · exact hka k h2
      · omega
  case round =>
    rintro l2' pre ⟨p, qq⟩ rest K1 Wr hx hsub hkin ⟨⟨v, hv, ho, hg⟩, hka, hfy, hrt, hb, hs⟩
    have hpl : pre.length + 1 ≤ 20 := by
      have := congrArg List.length hx; simp at this; omega
    have hpq := hrc (p, qq) (by rw [← hx]; simp)
    unfold enc sp
    simp only [List.zip_toArray, List.zip_cons_cons, List.zip_nil_right, List.foldl_toArray', List.foldl_cons, List.foldl_nil, List.setIfInBounds_toArray, List.set_cons_succ, List.set_cons_zero, List.size_toArray, List.length_cons, List.length_nil]
    gi_wp2
    refine ⟨St.alloc _ _ _, fun W2 hst => ?_⟩
    have lr := nw1 Wr (.cells #[.int .i64 (p : Int), .int .i64 (qq : Int)] 68)
    have hbox := hst.at lr (fun h => by have := hkin _ h; omega)
    have hstW : St K1 Wr W2 := (St.alloc K1 Wr _).trans hst
    have hv2 := hstW.at hv (fun h => by have := hka _ h; omega)
    have hf2 := hstW.at hfy (fun h => by have := hka _ h; omega)
    have hr2 : Rtf W2 q A n c := ⟨hstW.at hrt.1 (fun h => by have := hka _ h; omega), hstW.at hrt.2 (fun h => by have := hka _ h; omega)⟩
    have ho2 := own_st ho hstW hg
    have hb2 := hb.trans (hstW.below hb.size (fun k h => by have := hka k h; omega))
    have hk2 : ∀ k, K1 k → k < W2.heap.size := fun k h => Nat.lt_of_lt_of_le (hkin k h) hstW.size
    have hs2 := Nat.le_trans hs hstW.size
    have hrl : Wr.heap.size < W2.heap.size := bx_lt hbox
    obtain ⟨xb, hxb⟩ : ∃ xb, xb = Wr.heap.size := ⟨_, rfl⟩
    rw [← hxb] at hbox hrl ⊢
    obtain ⟨d0, d1⟩ := row2 hbox
    have d2 := cell_of_row _ _ 0 _ _ _ hv2
    have d3 := cell_of_row _ _ 0 _ _ _ hf2
    simp only [List.getElem?_toArray, List.getElem?_cons_zero] at d2 d3
    have hne : ∀ g, v.ownBlock = some g → z ≠ g := by
      intro g hgg e
      subst e
      rcases ho2.2 with ⟨rfl, _⟩ | ⟨g', cap, cur, rfl, _, hgb, _⟩
      · simp [Value.ownBlock] at hgg
      · obtain rfl : g' = z := by simpa [Value.ownBlock] using hgg
        rw [hv2] at hgb
        simp at hgb
    clear ho hst lr hstW hv hfy hrt hb hx hsub hkin hs hxb
    have hmx : Tryd.prog.follows .mixedOrders = true := by kernel_rfl
    have HV := Lib.hid hv2
    have HO := Lib.hid ho2
    have D1 : Hid (Below W2.heap.size W2 W2.drew) := Lib.hid (Below.refl _ W2).drew
    have XR := Lib.hid (fun (W : World) (h : Below W2.heap.size W2 W) => (CallsIn.inRound l2' (RT.out W p qq (then_ (n := 0) hb2 h) (hr2.below h) hpq.1 hpq.2)).mono (fun e' w' (q : _ ∧ _) => (show _ ∧ Below W2.heap.size W2 w' from ⟨q.1, then_ (n := 0) h q.2⟩)))
    have hz2' : z < W2.heap.size := bx_lt hv2
    unfold sp at XR
    have r32 := pr32 l p qq
    generalize hpr : prS l p qq = u at *
    have FIN := Lib.hid (fun (w3 w5 : World) (g' cap' : Nat) (b3 : Below W2.heap.size W2 w3) (hv5 : w5.heap[z]? = some (.cells #[v] 23)) (hown' : w5.ownsRow w.heap.size 9 1 (.slice (some ⟨g', 0, none⟩) (pre.length + 1) cap') (pre.length + 1) (svs (prs l pre) ++ [.string u])) (hgrow : (w3.alloc (.cells #[.string u] 9)).grownBy w5 v.ownBlock) (hat : (Value.slice (some ⟨g', 0, none⟩) (pre.length + 1) cap').ownBlock = v.ownBlock ∨ (Value.slice (some ⟨g', 0, none⟩) (pre.length + 1) cap').ownBlock = some (w3.alloc (.cells #[.string u] 9)).heap.size) => by
      have hg1 : ¬ K1 g' := by
        rcases hat with h | h
        · exact hg g' (h.symm.trans rfl)
        · have e : g' = (w3.alloc (.cells #[.string u] 9)).heap.size := by simpa [Value.ownBlock] using h
          intro h'; have hq1 := hk2 g' h'; have hq2 := b3.size; rw [e] at hq1; simp at hq1; omega
      have hzg : z ≠ g' := by
        rcases hat with h | h
        · exact hne g' (h.symm.trans rfl)
        · have e : g' = (w3.alloc (.cells #[.string u] 9)).heap.size := by simpa [Value.ownBlock] using h
          have := b3.size; rw [e]; simp; omega
      have hgw : ∀ k, v.ownBlock = some k → w.heap.size ≤ k := fun k h => (HO.out.lt _ h).1
      have hst3 : St (fun k => ¬ K1 k) W2 w5 := ((St.all b3 _).trans (St.alloc _ w3 _)).trans (St.grown hgrow fun k hk _ h => hg k hk h)
      have hst4 := hst3.trans (St.setCell (K := fun k => ¬ K1 k) w5 (p := ⟨z, 0, none⟩) (.slice (some ⟨g', 0, none⟩) (pre.length + 1) cap') (fun h => by have : a ≤ z := hka _ h; omega))
      have hs5 := hst4.size
      have hB5 : Below w.heap.size w (w5.setCell ⟨z, 0, none⟩ (.slice (some ⟨g', 0, none⟩) (pre.length + 1) cap')) :=
        ((((then_ (n := 0) hb2 b3).alloc (by have := hb2.size; have := b3.size; omega) _).grown hgrow (by have := hb2.size; have := b3.size; simp; omega) (fun k hk => hgw k hk)).setCell (by show w.heap.size ≤ z; omega) _)
      have old : ∀ k o, W2.heap[k]? = some o → k < a → k ≠ z → v.ownBlock ≠ some k → (w5.setCell ⟨z, 0, none⟩ (.slice (some ⟨g', 0, none⟩) (pre.length + 1) cap')).heap[k]? = some o := by
        intro k o ho hka' hkz hko
        rw [heap_setCell_other w5 _ _ _ hkz, hgrow.block k (by have := bx_lt (bx ho b3); simp; omega) (fun e => hko e.symm)]
        exact bx (bx ho b3) (al1 w3 _)
      have nob : ∀ k t cs, W2.heap[k]? = some (.cells cs t) → t ≠ 9 → v.ownBlock ≠ some k := by
        intro k t cs hk ht h
        rcases HO.out.2 with ⟨rfl, _⟩ | ⟨g'', cap, cur, rfl, _, hgb, _⟩
        · simp [Value.ownBlock] at h
        · obtain rfl : g'' = k := by simpa [Value.ownBlock] using h
          rw [hk] at hgb
          simp at hgb
          exact ht hgb.2
      have ho4 : (w5.setCell ⟨z, 0, none⟩ (.slice (some ⟨g', 0, none⟩) (pre.length + 1) cap')).ownsRow w.heap.size 9 1 (.slice (some ⟨g', 0, none⟩) (pre.length + 1) cap') (pre ++ [(p, qq)]).length (svs (prs l (pre ++ [(p, qq)]))) := by
        rw [prs_snoc, hpr, List.length_append]
        unfold svs at *
        rw [List.map_append]
        exact hown'.kept (grownBy_setCell' w5 z _) (.inr (by simpa [Value.ownBlock] using hzg.symm))
      exact (show ((∃ v', (w5.setCell ⟨z, 0, none⟩ (.slice (some ⟨g', 0, none⟩) (pre.length + 1) cap')).heap[z]? = some (.cells #[v'] 23) ∧ (w5.setCell ⟨z, 0, none⟩ (.slice (some ⟨g', 0, none⟩) (pre.length + 1) cap')).ownsRow w.heap.size 9 1 v' (pre ++ [(p, qq)]).length (svs (prs l (pre ++ [(p, qq)]))) ∧ ∀ g, v'.ownBlock = some g → ¬ K1 g) ∧ (∀ k, K1 k → a ≤ k) ∧ (w5.setCell ⟨z, 0, none⟩ (.slice (some ⟨g', 0, none⟩) (pre.length + 1) cap')).heap[y]? = some (.cells #[.func (.func 88) #[] #[.pointer (some ⟨q, 0, none⟩), .pointer (some ⟨q + 1, 0, none⟩)]] 71) ∧ Rtf (w5.setCell ⟨z, 0, none⟩ (.slice (some ⟨g', 0, none⟩) (pre.length + 1) cap')) q A n c ∧ Below w.heap.size w (w5.setCell ⟨z, 0, none⟩ (.slice (some ⟨g', 0, none⟩) (pre.length + 1) cap')) ∧ a ≤ (w5.setCell ⟨z, 0, none⟩ (.slice (some ⟨g', 0, none⟩) (pre.length + 1) cap')).heap.size) ∧ St (fun k => ¬ K1 k) W2 (w5.setCell ⟨z, 0, none⟩ (.slice (some ⟨g', 0, none⟩) (pre.length + 1) cap'))
        from ⟨⟨⟨_, heap_setCell_same w5 z 0 _ _ _ hv5, ho4, fun g h => by obtain rfl : g' = g := by simpa [Value.ownBlock] using h
                                                                          exact hg1⟩, hka, old y _ hf2 (by omega) (by omega) (nob y _ _ hf2 (by decide)), ⟨old q _ hr2.1 (by omega) (by omega) (nob q _ _ hr2.1 (by decide)), old (q + 1) _ hr2.2 (by omega) (by omega) (nob (q + 1) _ _ hr2.2 (by decide))⟩, hB5, by omega⟩, hst4⟩))
    clear RT ho2 hv2 hf2 hr2 hbox
    gi_wp2
    refine wpIn_region_any hmx ?_
    change wpAnyIn _ _ _ _ _ _ _ _ _ (World.drew _)
    have cellZ : ∀ W : World, Below W2.heap.size W2 W → W.cell? ⟨z, 0, none⟩ = some v := fun W h => (h.cell (p := ⟨z, 0, none⟩) (bx_lt HV.out)).trans (by have := cell_of_row _ _ 0 _ _ _ HV.out; simpa using this)
    have CZ := Lib.hid cellZ
    clear cellZ
    refine wpAnyIn_ready (rs := [0, 1, 2]) (by kernel_rfl) (by simp) ?_
    refine AllReadyIn.cons rfl (fun K hK => ?_) ?_
    ·
      go_simp
      refine hK _ _ ?_
      clear hK K
      refine wpAnyIn_ready (rs := [1, 2]) (by kernel_rfl) (by simp) ?_
      refine AllReadyIn.cons rfl (fun K hK => ?_) ?_
      ·
        go_simp
        refine hK _ _ ?_
        clear hK K
        refine wpAnyIn_ready (rs := [2]) (by kernel_rfl) (by simp) ?_
        refine AllReadyIn.cons rfl (fun K hK => ?_) ?_
        ·
          go_simp
          refine hK _ _ ?_
          clear hK K
          refine wpAnyIn_ready (rs := [3]) (by kernel_rfl) (by simp) ?_
          refine AllReadyIn.cons rfl (fun K hK => ?_) ?_
          ·
            go_simp
            gi_wp2_with (refine ⟨trivial, rfl, ?_⟩; (with_reducible refine (XR.out _ ?hb).mono ?_); (case hb => exact D1.out); rintro e' w3 ⟨rfl, b3⟩; have d9 := CZ.out w3 b3; have d8 := CZ.out (w3.alloc (.cells #[.string u] 9)) (b3.alloc b3.size _))
            try clear hK K
            refine wpAnyIn_ready (rs := [4]) (by kernel_rfl) (by simp) ?_
            refine AllReadyIn.cons rfl (fun K hK => ?_) ?_
            ·
              go_simp
              refine hK _ _ ?_
              clear hK K
              refine wpAnyIn_ready (rs := [5]) (by kernel_rfl) (by simp) ?_
              refine AllReadyIn.cons rfl (fun K hK => ?_) ?_
              ·
                refine step_append rfl _ _ 23 rfl w.heap.size 9 i0 _ 1 16 Tryd.underlying23 hi hz0 hz1 hz2 rfl (by decide) v pre.length (svs (prs l pre)) rfl ((own_belowS HO.out b3 (Nat.le_refl _)).alloc _) ⟨w3.heap.size, 0, none⟩ 1 1 [.string u] rfl rfl (cell_one_new _ _ _) (by simp [Value.oneCell']) (by unfold maxLen; omega) (by omega) (by have := hb2.size; have := b3.size; simp; omega) ?_
                intro v' w5 hown' hgrow hat
                obtain ⟨g', cap', rfl⟩ := ownsRow_succ hown'
                have hv5 := (hgrow.block z (by have := b3.size; simp; omega) (fun e => hne z e.symm rfl)).trans (bx (bx HV.out b3) (al1 w3 _))
                have e3 := cell_of_row _ _ 0 _ _ _ hv5
                simp only [List.getElem?_toArray, List.getElem?_cons_zero] at e3
                have e4 : w5.frozen? ⟨z, 0, none⟩ = false := by simp [World.frozen?, hv5, go_sem]
                have HAT := Lib.hid hat
                have HGR := Lib.hid hgrow
                have HOW := Lib.hid hown'
                have HV5 := Lib.hid hv5
                clear hat hgrow hown' hv5
                refine hK _ _ ?_
                clear hK K
                refine wpAnyIn_ready (rs := [6]) (by kernel_rfl) (by simp) ?_
                refine AllReadyIn.cons rfl (fun K hK => ?_) ?_
                ·
                  go_simp
                  refine hK _ _ ?_
                  clear hK K
                  refine wpAnyIn_done (by kernel_rfl) ?_ _
                  exact FIN.out w3 w5 g' cap' b3 HV5.out HOW.out HGR.out HAT.out
                exact AllReadyIn.nil
              exact AllReadyIn.nil
            exact AllReadyIn.nil
          exact AllReadyIn.nil
        exact AllReadyIn.nil
      refine AllReadyIn.cons rfl (fun K hK => ?_) ?_
      ·
        go_simp
        refine hK _ _ ?_
        clear hK K
        refine wpAnyIn_ready (rs := [1]) (by kernel_rfl) (by simp) ?_
        refine AllReadyIn.cons rfl (fun K hK => ?_) ?_
        ·
          go_simp
          refine hK _ _ ?_
          clear hK K
          refine wpAnyIn_ready (rs := [3]) (by kernel_rfl) (by simp) ?_
          refine AllReadyIn.cons rfl (fun K hK => ?_) ?_
          ·
            go_simp
            gi_wp2_with (refine ⟨trivial, rfl, ?_⟩; (with_reducible refine (XR.out _ ?hb).mono ?_); (case hb => exact D1.out); rintro e' w3 ⟨rfl, b3⟩; have d9 := CZ.out w3 b3; have d8 := CZ.out (w3.alloc (.cells #[.string u] 9)) (b3.alloc b3.size _))
            try clear hK K
            refine wpAnyIn_ready (rs := [4]) (by kernel_rfl) (by simp) ?_
            refine AllReadyIn.cons rfl (fun K hK => ?_) ?_
            ·
              go_simp
              refine hK _ _ ?_
              clear hK K
              refine wpAnyIn_ready (rs := [5]) (by kernel_rfl) (by simp) ?_
              refine AllReadyIn.cons rfl (fun K hK => ?_) ?_
              ·
                refine step_append rfl _ _ 23 rfl w.heap.size 9 i0 _ 1 16 Tryd.underlying23 hi hz0 hz1 hz2 rfl (by decide) v pre.length (svs (prs l pre)) rfl ((own_belowS HO.out b3 (Nat.le_refl _)).alloc _) ⟨w3.heap.size, 0, none⟩ 1 1 [.string u] rfl rfl (cell_one_new _ _ _) (by simp [Value.oneCell']) (by unfold maxLen; omega) (by omega) (by have := hb2.size; have := b3.size; simp; omega) ?_
                intro v' w5 hown' hgrow hat
                obtain ⟨g', cap', rfl⟩ := ownsRow_succ hown'
                have hv5 := (hgrow.block z (by have := b3.size; simp; omega) (fun e => hne z e.symm rfl)).trans (bx (bx HV.out b3) (al1 w3 _))
                have e3 := cell_of_row _ _ 0 _ _ _ hv5
                simp only [List.getElem?_toArray, List.getElem?_cons_zero] at e3
                have e4 : w5.frozen? ⟨z, 0, none⟩ = false := by simp [World.frozen?, hv5, go_sem]
                have HAT := Lib.hid hat
                have HGR := Lib.hid hgrow
                have HOW := Lib.hid hown'
                have HV5 := Lib.hid hv5
                clear hat hgrow hown' hv5
                refine hK _ _ ?_
                clear hK K
                refine wpAnyIn_ready (rs := [6]) (by kernel_rfl) (by simp) ?_
                refine AllReadyIn.cons rfl (fun K hK => ?_) ?_
                ·
                  go_simp
                  refine hK _ _ ?_
                  clear hK K
                  refine wpAnyIn_done (by kernel_rfl) ?_ _
                  exact FIN.out w3 w5 g' cap' b3 HV5.out HOW.out HGR.out HAT.out
                exact AllReadyIn.nil
              exact AllReadyIn.nil
            exact AllReadyIn.nil
          exact AllReadyIn.nil
        exact AllReadyIn.nil
      exact AllReadyIn.nil
    refine AllReadyIn.cons rfl (fun K hK => ?_) ?_
    ·
      go_simp
      refine hK _ _ ?_
      clear hK K
      refine wpAnyIn_ready (rs := [0, 2]) (by kernel_rfl) (by simp) ?_
      refine AllReadyIn.cons rfl (fun K hK => ?_) ?_
      ·
        go_simp
        refine hK _ _ ?_
        clear hK K
        refine wpAnyIn_ready (rs := [2]) (by kernel_rfl) (by simp) ?_
        refine AllReadyIn.cons rfl (fun K hK => ?_) ?_
        ·
          go_simp
          refine hK _ _ ?_
          clear hK K
          refine wpAnyIn_ready (rs := [3]) (by kernel_rfl) (by simp) ?_
          refine AllReadyIn.cons rfl (fun K hK => ?_) ?_
          ·
            go_simp
            gi_wp2_with (refine ⟨trivial, rfl, ?_⟩; (with_reducible refine (XR.out _ ?hb).mono ?_); (case hb => exact D1.out); rintro e' w3 ⟨rfl, b3⟩; have d9 := CZ.out w3 b3; have d8 := CZ.out (w3.alloc (.cells #[.string u] 9)) (b3.alloc b3.size _))
            try clear hK K
            refine wpAnyIn_ready (rs := [4]) (by kernel_rfl) (by simp) ?_
            refine AllReadyIn.cons rfl (fun K hK => ?_) ?_
            ·
              go_simp
              refine hK _ _ ?_
              clear hK K
              refine wpAnyIn_ready (rs := [5]) (by kernel_rfl) (by simp) ?_
              refine AllReadyIn.cons rfl (fun K hK => ?_) ?_
              ·
                refine step_append rfl _ _ 23 rfl w.heap.size 9 i0 _ 1 16 Tryd.underlying23 hi hz0 hz1 hz2 rfl (by decide) v pre.length (svs (prs l pre)) rfl ((own_belowS HO.out b3 (Nat.le_refl _)).alloc _) ⟨w3.heap.size, 0, none⟩ 1 1 [.string u] rfl rfl (cell_one_new _ _ _) (by simp [Value.oneCell']) (by unfold maxLen; omega) (by omega) (by have := hb2.size; have := b3.size; simp; omega) ?_
                intro v' w5 hown' hgrow hat
                obtain ⟨g', cap', rfl⟩ := ownsRow_succ hown'
                have hv5 := (hgrow.block z (by have := b3.size; simp; omega) (fun e => hne z e.symm rfl)).trans (bx (bx HV.out b3) (al1 w3 _))
                have e3 := cell_of_row _ _ 0 _ _ _ hv5
                simp only [List.getElem?_toArray, List.getElem?_cons_zero] at e3
                have e4 : w5.frozen? ⟨z, 0, none⟩ = false := by simp [World.frozen?, hv5, go_sem]
                have HAT := Lib.hid hat
                have HGR := Lib.hid hgrow
                have HOW := Lib.hid hown'
                have HV5 := Lib.hid hv5
                clear hat hgrow hown' hv5
                refine hK _ _ ?_
                clear hK K
                refine wpAnyIn_ready (rs := [6]) (by kernel_rfl) (by simp) ?_
                refine AllReadyIn.cons rfl (fun K hK => ?_) ?_
                ·
                  go_simp
                  refine hK _ _ ?_
                  clear hK K
                  refine wpAnyIn_done (by kernel_rfl) ?_ _
                  exact FIN.out w3 w5 g' cap' b3 HV5.out HOW.out HGR.out HAT.out
                exact AllReadyIn.nil
              exact AllReadyIn.nil
            exact AllReadyIn.nil
          exact AllReadyIn.nil
        exact AllReadyIn.nil
      refine AllReadyIn.cons rfl (fun K hK => ?_) ?_
      ·
        go_simp
        refine hK _ _ ?_
        clear hK K
        refine wpAnyIn_ready (rs := [0, 3]) (by kernel_rfl) (by simp) ?_
        refine AllReadyIn.cons rfl (fun K hK => ?_) ?_
        ·
          go_simp
          refine hK _ _ ?_
          clear hK K
          refine wpAnyIn_ready (rs := [3]) (by kernel_rfl) (by simp) ?_
          refine AllReadyIn.cons rfl (fun K hK => ?_) ?_
          ·
            go_simp
            gi_wp2_with (refine ⟨trivial, rfl, ?_⟩; (with_reducible refine (XR.out _ ?hb).mono ?_); (case hb => exact D1.out); rintro e' w3 ⟨rfl, b3⟩; have d9 := CZ.out w3 b3; have d8 := CZ.out (w3.alloc (.cells #[.string u] 9)) (b3.alloc b3.size _))
            try clear hK K
            refine wpAnyIn_ready (rs := [4]) (by kernel_rfl) (by simp) ?_
            refine AllReadyIn.cons rfl (fun K hK => ?_) ?_
            ·
              go_simp
              refine hK _ _ ?_
              clear hK K
              refine wpAnyIn_ready (rs := [5]) (by kernel_rfl) (by simp) ?_
              refine AllReadyIn.cons rfl (fun K hK => ?_) ?_
              ·
                refine step_append rfl _ _ 23 rfl w.heap.size 9 i0 _ 1 16 Tryd.underlying23 hi hz0 hz1 hz2 rfl (by decide) v pre.length (svs (prs l pre)) rfl ((own_belowS HO.out b3 (Nat.le_refl _)).alloc _) ⟨w3.heap.size, 0, none⟩ 1 1 [.string u] rfl rfl (cell_one_new _ _ _) (by simp [Value.oneCell']) (by unfold maxLen; omega) (by omega) (by have := hb2.size; have := b3.size; simp; omega) ?_
                intro v' w5 hown' hgrow hat
                obtain ⟨g', cap', rfl⟩ := ownsRow_succ hown'
                have hv5 := (hgrow.block z (by have := b3.size; simp; omega) (fun e => hne z e.symm rfl)).trans (bx (bx HV.out b3) (al1 w3 _))
                have e3 := cell_of_row _ _ 0 _ _ _ hv5
                simp only [List.getElem?_toArray, List.getElem?_cons_zero] at e3
                have e4 : w5.frozen? ⟨z, 0, none⟩ = false := by simp [World.frozen?, hv5, go_sem]
                have HAT := Lib.hid hat
                have HGR := Lib.hid hgrow
                have HOW := Lib.hid hown'
                have HV5 := Lib.hid hv5
                clear hat hgrow hown' hv5
                refine hK _ _ ?_
                clear hK K
                refine wpAnyIn_ready (rs := [6]) (by kernel_rfl) (by simp) ?_
                refine AllReadyIn.cons rfl (fun K hK => ?_) ?_
                ·
                  go_simp
                  refine hK _ _ ?_
                  clear hK K
                  refine wpAnyIn_done (by kernel_rfl) ?_ _
                  exact FIN.out w3 w5 g' cap' b3 HV5.out HOW.out HGR.out HAT.out
                exact AllReadyIn.nil
              exact AllReadyIn.nil
            exact AllReadyIn.nil
          exact AllReadyIn.nil
        refine AllReadyIn.cons rfl (fun K hK => ?_) ?_
        ·
          go_simp
          gi_wp2_with (refine ⟨trivial, rfl, ?_⟩; (with_reducible refine (XR.out _ ?hb).mono ?_); (case hb => exact D1.out); rintro e' w3 ⟨rfl, b3⟩; have d9 := CZ.out w3 b3; have d8 := CZ.out (w3.alloc (.cells #[.string u] 9)) (b3.alloc b3.size _))
          try clear hK K
          refine wpAnyIn_ready (rs := [0, 4]) (by kernel_rfl) (by simp) ?_
          refine AllReadyIn.cons rfl (fun K hK => ?_) ?_
          ·
            go_simp
            refine hK _ _ ?_
            clear hK K
            refine wpAnyIn_ready (rs := [4]) (by kernel_rfl) (by simp) ?_
            refine AllReadyIn.cons rfl (fun K hK => ?_) ?_
            ·
              go_simp
              refine hK _ _ ?_
              clear hK K
              refine wpAnyIn_ready (rs := [5]) (by kernel_rfl) (by simp) ?_
              refine AllReadyIn.cons rfl (fun K hK => ?_) ?_
              ·
                refine step_append rfl _ _ 23 rfl w.heap.size 9 i0 _ 1 16 Tryd.underlying23 hi hz0 hz1 hz2 rfl (by decide) v pre.length (svs (prs l pre)) rfl ((own_belowS HO.out b3 (Nat.le_refl _)).alloc _) ⟨w3.heap.size, 0, none⟩ 1 1 [.string u] rfl rfl (cell_one_new _ _ _) (by simp [Value.oneCell']) (by unfold maxLen; omega) (by omega) (by have := hb2.size; have := b3.size; simp; omega) ?_
                intro v' w5 hown' hgrow hat
                obtain ⟨g', cap', rfl⟩ := ownsRow_succ hown'
                have hv5 := (hgrow.block z (by have := b3.size; simp; omega) (fun e => hne z e.symm rfl)).trans (bx (bx HV.out b3) (al1 w3 _))
                have e3 := cell_of_row _ _ 0 _ _ _ hv5
                simp only [List.getElem?_toArray, List.getElem?_cons_zero] at e3
                have e4 : w5.frozen? ⟨z, 0, none⟩ = false := by simp [World.frozen?, hv5, go_sem]
                have HAT := Lib.hid hat
                have HGR := Lib.hid hgrow
                have HOW := Lib.hid hown'
                have HV5 := Lib.hid hv5
                clear hat hgrow hown' hv5
                refine hK _ _ ?_
                clear hK K
                refine wpAnyIn_ready (rs := [6]) (by kernel_rfl) (by simp) ?_
                refine AllReadyIn.cons rfl (fun K hK => ?_) ?_
                ·
                  go_simp
                  refine hK _ _ ?_
                  clear hK K
                  refine wpAnyIn_done (by kernel_rfl) ?_ _
                  exact FIN.out w3 w5 g' cap' b3 HV5.out HOW.out HGR.out HAT.out
                exact AllReadyIn.nil
              exact AllReadyIn.nil
            exact AllReadyIn.nil
          refine AllReadyIn.cons rfl (fun K hK => ?_) ?_
          ·
            go_simp
            refine hK _ _ ?_
            clear hK K
            refine wpAnyIn_ready (rs := [0]) (by kernel_rfl) (by simp) ?_
            refine AllReadyIn.cons rfl (fun K hK => ?_) ?_
            ·
              go_simp
              refine hK _ _ ?_
              clear hK K
              refine wpAnyIn_ready (rs := [5]) (by kernel_rfl) (by simp) ?_
              refine AllReadyIn.cons rfl (fun K hK => ?_) ?_
              ·
                refine step_append rfl _ _ 23 rfl w.heap.size 9 i0 _ 1 16 Tryd.underlying23 hi hz0 hz1 hz2 rfl (by decide) v pre.length (svs (prs l pre)) rfl ((own_belowS HO.out b3 (Nat.le_refl _)).alloc _) ⟨w3.heap.size, 0, none⟩ 1 1 [.string u] rfl rfl (cell_one_new _ _ _) (by simp [Value.oneCell']) (by unfold maxLen; omega) (by omega) (by have := hb2.size; have := b3.size; simp; omega) ?_
                intro v' w5 hown' hgrow hat
                obtain ⟨g', cap', rfl⟩ := ownsRow_succ hown'
                have hv5 := (hgrow.block z (by have := b3.size; simp; omega) (fun e => hne z e.symm rfl)).trans (bx (bx HV.out b3) (al1 w3 _))
                have e3 := cell_of_row _ _ 0 _ _ _ hv5
                simp only [List.getElem?_toArray, List.getElem?_cons_zero] at e3
                have e4 : w5.frozen? ⟨z, 0, none⟩ = false := by simp [World.frozen?, hv5, go_sem]
                have HAT := Lib.hid hat
                have HGR := Lib.hid hgrow
                have HOW := Lib.hid hown'
                have HV5 := Lib.hid hv5
                clear hat hgrow hown' hv5
                refine hK _ _ ?_
                clear hK K
                refine wpAnyIn_ready (rs := [6]) (by kernel_rfl) (by simp) ?_
                refine AllReadyIn.cons rfl (fun K hK => ?_) ?_
                ·
                  go_simp
                  refine hK _ _ ?_
                  clear hK K
                  refine wpAnyIn_done (by kernel_rfl) ?_ _
                  exact FIN.out w3 w5 g' cap' b3 HV5.out HOW.out HGR.out HAT.out
                exact AllReadyIn.nil
              exact AllReadyIn.nil
            exact AllReadyIn.nil
          exact AllReadyIn.nil
        exact AllReadyIn.nil
      exact AllReadyIn.nil
    refine AllReadyIn.cons rfl (fun K hK => ?_) ?_
    ·
      go_simp
      refine hK _ _ ?_
      clear hK K
      refine wpAnyIn_ready (rs := [0, 1]) (by kernel_rfl) (by simp) ?_
      refine AllReadyIn.cons rfl (fun K hK => ?_) ?_
      ·
        go_simp
        refine hK _ _ ?_
        clear hK K
        refine wpAnyIn_ready (rs := [1]) (by kernel_rfl) (by simp) ?_
        refine AllReadyIn.cons rfl (fun K hK => ?_) ?_
        ·
          go_simp
          refine hK _ _ ?_
          clear hK K
          refine wpAnyIn_ready (rs := [3]) (by kernel_rfl) (by simp) ?_
          refine AllReadyIn.cons rfl (fun K hK => ?_) ?_
          ·
            go_simp
            gi_wp2_with (refine ⟨trivial, rfl, ?_⟩; (with_reducible refine (XR.out _ ?hb).mono ?_); (case hb => exact D1.out); rintro e' w3 ⟨rfl, b3⟩; have d9 := CZ.out w3 b3; have d8 := CZ.out (w3.alloc (.cells #[.string u] 9)) (b3.alloc b3.size _))
            try clear hK K
            refine wpAnyIn_ready (rs := [4]) (by kernel_rfl) (by simp) ?_
            refine AllReadyIn.cons rfl (fun K hK => ?_) ?_
            ·
              go_simp
              refine hK _ _ ?_
              clear hK K
              refine wpAnyIn_ready (rs := [5]) (by kernel_rfl) (by simp) ?_
              refine AllReadyIn.cons rfl (fun K hK => ?_) ?_
              ·
                refine step_append rfl _ _ 23 rfl w.heap.size 9 i0 _ 1 16 Tryd.underlying23 hi hz0 hz1 hz2 rfl (by decide) v pre.length (svs (prs l pre)) rfl ((own_belowS HO.out b3 (Nat.le_refl _)).alloc _) ⟨w3.heap.size, 0, none⟩ 1 1 [.string u] rfl rfl (cell_one_new _ _ _) (by simp [Value.oneCell']) (by unfold maxLen; omega) (by omega) (by have := hb2.size; have := b3.size; simp; omega) ?_
                intro v' w5 hown' hgrow hat
                obtain ⟨g', cap', rfl⟩ := ownsRow_succ hown'
                have hv5 := (hgrow.block z (by have := b3.size; simp; omega) (fun e => hne z e.symm rfl)).trans (bx (bx HV.out b3) (al1 w3 _))
                have e3 := cell_of_row _ _ 0 _ _ _ hv5
                simp only [List.getElem?_toArray, List.getElem?_cons_zero] at e3
                have e4 : w5.frozen? ⟨z, 0, none⟩ = false := by simp [World.frozen?, hv5, go_sem]
                have HAT := Lib.hid hat
                have HGR := Lib.hid hgrow
                have HOW := Lib.hid hown'
                have HV5 := Lib.hid hv5
                clear hat hgrow hown' hv5
                refine hK _ _ ?_
                clear hK K
                refine wpAnyIn_ready (rs := [6]) (by kernel_rfl) (by simp) ?_
                refine AllReadyIn.cons rfl (fun K hK => ?_) ?_
                ·
                  go_simp
                  refine hK _ _ ?_
                  clear hK K
                  refine wpAnyIn_done (by kernel_rfl) ?_ _
                  exact FIN.out w3 w5 g' cap' b3 HV5.out HOW.out HGR.out HAT.out
                exact AllReadyIn.nil
              exact AllReadyIn.nil
            exact AllReadyIn.nil
          exact AllReadyIn.nil
        exact AllReadyIn.nil
      refine AllReadyIn.cons rfl (fun K hK => ?_) ?_
      ·
        go_simp
        refine hK _ _ ?_
        clear hK K
        refine wpAnyIn_ready (rs := [0, 3]) (by kernel_rfl) (by simp) ?_
        refine AllReadyIn.cons rfl (fun K hK => ?_) ?_
        ·
          go_simp
          refine hK _ _ ?_
          clear hK K
          refine wpAnyIn_ready (rs := [3]) (by kernel_rfl) (by simp) ?_
          refine AllReadyIn.cons rfl (fun K hK => ?_) ?_
          ·
            go_simp
            gi_wp2_with (refine ⟨trivial, rfl, ?_⟩; (with_reducible refine (XR.out _ ?hb).mono ?_); (case hb => exact D1.out); rintro e' w3 ⟨rfl, b3⟩; have d9 := CZ.out w3 b3; have d8 := CZ.out (w3.alloc (.cells #[.string u] 9)) (b3.alloc b3.size _))
            try clear hK K
            refine wpAnyIn_ready (rs := [4]) (by kernel_rfl) (by simp) ?_
            refine AllReadyIn.cons rfl (fun K hK => ?_) ?_
            ·
              go_simp
              refine hK _ _ ?_
              clear hK K
              refine wpAnyIn_ready (rs := [5]) (by kernel_rfl) (by simp) ?_
              refine AllReadyIn.cons rfl (fun K hK => ?_) ?_
              ·
                refine step_append rfl _ _ 23 rfl w.heap.size 9 i0 _ 1 16 Tryd.underlying23 hi hz0 hz1 hz2 rfl (by decide) v pre.length (svs (prs l pre)) rfl ((own_belowS HO.out b3 (Nat.le_refl _)).alloc _) ⟨w3.heap.size, 0, none⟩ 1 1 [.string u] rfl rfl (cell_one_new _ _ _) (by simp [Value.oneCell']) (by unfold maxLen; omega) (by omega) (by have := hb2.size; have := b3.size; simp; omega) ?_
                intro v' w5 hown' hgrow hat
                obtain ⟨g', cap', rfl⟩ := ownsRow_succ hown'
                have hv5 := (hgrow.block z (by have := b3.size; simp; omega) (fun e => hne z e.symm rfl)).trans (bx (bx HV.out b3) (al1 w3 _))
                have e3 := cell_of_row _ _ 0 _ _ _ hv5
                simp only [List.getElem?_toArray, List.getElem?_cons_zero] at e3
                have e4 : w5.frozen? ⟨z, 0, none⟩ = false := by simp [World.frozen?, hv5, go_sem]
                have HAT := Lib.hid hat
                have HGR := Lib.hid hgrow
                have HOW := Lib.hid hown'
                have HV5 := Lib.hid hv5
                clear hat hgrow hown' hv5
                refine hK _ _ ?_
                clear hK K
                refine wpAnyIn_ready (rs := [6]) (by kernel_rfl) (by simp) ?_
                refine AllReadyIn.cons rfl (fun K hK => ?_) ?_
                ·
                  go_simp
                  refine hK _ _ ?_
                  clear hK K
                  refine wpAnyIn_done (by kernel_rfl) ?_ _
                  exact FIN.out w3 w5 g' cap' b3 HV5.out HOW.out HGR.out HAT.out
                exact AllReadyIn.nil
              exact AllReadyIn.nil
            exact AllReadyIn.nil
          exact AllReadyIn.nil
        refine AllReadyIn.cons rfl (fun K hK => ?_) ?_
        ·
          go_simp
          gi_wp2_with (refine ⟨trivial, rfl, ?_⟩; (with_reducible refine (XR.out _ ?hb).mono ?_); (case hb => exact D1.out); rintro e' w3 ⟨rfl, b3⟩; have d9 := CZ.out w3 b3; have d8 := CZ.out (w3.alloc (.cells #[.string u] 9)) (b3.alloc b3.size _))
          try clear hK K
          refine wpAnyIn_ready (rs := [0, 4]) (by kernel_rfl) (by simp) ?_
          refine AllReadyIn.cons rfl (fun K hK => ?_) ?_
          ·
            go_simp
            refine hK _ _ ?_
            clear hK K
            refine wpAnyIn_ready (rs := [4]) (by kernel_rfl) (by simp) ?_
            refine AllReadyIn.cons rfl (fun K hK => ?_) ?_
            ·
              go_simp
              refine hK _ _ ?_
              clear hK K
              refine wpAnyIn_ready (rs := [5]) (by kernel_rfl) (by simp) ?_
              refine AllReadyIn.cons rfl (fun K hK => ?_) ?_
              ·
                refine step_append rfl _ _ 23 rfl w.heap.size 9 i0 _ 1 16 Tryd.underlying23 hi hz0 hz1 hz2 rfl (by decide) v pre.length (svs (prs l pre)) rfl ((own_belowS HO.out b3 (Nat.le_refl _)).alloc _) ⟨w3.heap.size, 0, none⟩ 1 1 [.string u] rfl rfl (cell_one_new _ _ _) (by simp [Value.oneCell']) (by unfold maxLen; omega) (by omega) (by have := hb2.size; have := b3.size; simp; omega) ?_
                intro v' w5 hown' hgrow hat
                obtain ⟨g', cap', rfl⟩ := ownsRow_succ hown'
                have hv5 := (hgrow.block z (by have := b3.size; simp; omega) (fun e => hne z e.symm rfl)).trans (bx (bx HV.out b3) (al1 w3 _))
                have e3 := cell_of_row _ _ 0 _ _ _ hv5
                simp only [List.getElem?_toArray, List.getElem?_cons_zero] at e3
                have e4 : w5.frozen? ⟨z, 0, none⟩ = false := by simp [World.frozen?, hv5, go_sem]
                have HAT := Lib.hid hat
                have HGR := Lib.hid hgrow
                have HOW := Lib.hid hown'
                have HV5 := Lib.hid hv5
                clear hat hgrow hown' hv5
                refine hK _ _ ?_
                clear hK K
                refine wpAnyIn_ready (rs := [6]) (by kernel_rfl) (by simp) ?_
                refine AllReadyIn.cons rfl (fun K hK => ?_) ?_
                ·
                  go_simp
                  refine hK _ _ ?_
                  clear hK K
                  refine wpAnyIn_done (by kernel_rfl) ?_ _
                  exact FIN.out w3 w5 g' cap' b3 HV5.out HOW.out HGR.out HAT.out
                exact AllReadyIn.nil
              exact AllReadyIn.nil
            exact AllReadyIn.nil
          refine AllReadyIn.cons rfl (fun K hK => ?_) ?_
          ·
            go_simp
            refine hK _ _ ?_
            clear hK K
            refine wpAnyIn_ready (rs := [0]) (by kernel_rfl) (by simp) ?_
            refine AllReadyIn.cons rfl (fun K hK => ?_) ?_
            ·
              go_simp
              refine hK _ _ ?_
              clear hK K
              refine wpAnyIn_ready (rs := [5]) (by kernel_rfl) (by simp) ?_
              refine AllReadyIn.cons rfl (fun K hK => ?_) ?_
              ·
                refine step_append rfl _ _ 23 rfl w.heap.size 9 i0 _ 1 16 Tryd.underlying23 hi hz0 hz1 hz2 rfl (by decide) v pre.length (svs (prs l pre)) rfl ((own_belowS HO.out b3 (Nat.le_refl _)).alloc _) ⟨w3.heap.size, 0, none⟩ 1 1 [.string u] rfl rfl (cell_one_new _ _ _) (by simp [Value.oneCell']) (by unfold maxLen; omega) (by omega) (by have := hb2.size; have := b3.size; simp; omega) ?_
                intro v' w5 hown' hgrow hat
                obtain ⟨g', cap', rfl⟩ := ownsRow_succ hown'
                have hv5 := (hgrow.block z (by have := b3.size; simp; omega) (fun e => hne z e.symm rfl)).trans (bx (bx HV.out b3) (al1 w3 _))
                have e3 := cell_of_row _ _ 0 _ _ _ hv5
                simp only [List.getElem?_toArray, List.getElem?_cons_zero] at e3
                have e4 : w5.frozen? ⟨z, 0, none⟩ = false := by simp [World.frozen?, hv5, go_sem]
                have HAT := Lib.hid hat
                have HGR := Lib.hid hgrow
                have HOW := Lib.hid hown'
                have HV5 := Lib.hid hv5
                clear hat hgrow hown' hv5
                refine hK _ _ ?_
                clear hK K
                refine wpAnyIn_ready (rs := [6]) (by kernel_rfl) (by simp) ?_
                refine AllReadyIn.cons rfl (fun K hK => ?_) ?_
                ·
                  go_simp
                  refine hK _ _ ?_
                  clear hK K
                  refine wpAnyIn_done (by kernel_rfl) ?_ _
                  exact FIN.out w3 w5 g' cap' b3 HV5.out HOW.out HGR.out HAT.out
                exact AllReadyIn.nil
              exact AllReadyIn.nil
            exact AllReadyIn.nil
          exact AllReadyIn.nil
        exact AllReadyIn.nil
      exact AllReadyIn.nil
    exact AllReadyIn.nil
  case done =>
    rintro D K1 Wr hD hKD hsub hkin ⟨⟨v, hv, ho, hg⟩, hka, hfy, hrt, hb, hs⟩ hdf
    have d2 := cell_of_row _ _ 0 _ _ _ hv
    simp only [List.getElem?_toArray, List.getElem?_cons_zero] at d2
    gi_wp2
    refine ⟨by simp, .inl ⟨_, _, rfl, run_takeDeferred hdf, ?_⟩⟩
    exact ⟨_, results_tmp rfl _ _ _, v, rfl, ownsRow_putObj ho _ hdf rfl, hb.trans (belowK_b (w := w) (by omega) Wr D _ _ (by have := B4.size; omega) hdf rfl rfl)⟩
end Go.Proofs.YtiiklednbhklhaaDoor.T8l
