/-
  The parts beside a path, collected: slices.AppendSeq and slices.Collect at the program's iterator.
-/
import Derived.Test.YtiiklednbhklhaaDoorT8j
import Derived.Maps.OwnIn
namespace Go.Proofs.YtiiklednbhklhaaDoor.T8k
open Go.ChangeShapes Go.WideShapes Go.ChangeAt Go.RowKit Go.Shelf
open Go.Proofs.YtiiklednbhklhaaDoor.Mem Go.Proofs.YtiiklednbhklhaaDoor.Ints Go.Proofs.YtiiklednbhklhaaDoor.Strs Go.Proofs.YtiiklednbhklhaaDoor.ShaComp Go.Proofs.YtiiklednbhklhaaDoor.Mkl Go.Proofs.YtiiklednbhklhaaDoor.Sib Go.Proofs.YtiiklednbhklhaaDoor.Spl Go.Proofs.YtiiklednbhklhaaDoor.Slq Go.Proofs.YtiiklednbhklhaaDoor.Rec Go.Proofs.YtiiklednbhklhaaDoor.T8 Go.Proofs.YtiiklednbhklhaaDoor.T8s Go.Proofs.YtiiklednbhklhaaDoor.T8i Go.Proofs.YtiiklednbhklhaaDoor.T8r Go.Proofs.YtiiklednbhklhaaDoor.Itr Go.Proofs.YtiiklednbhklhaaDoor.T8j
set_option linter.unusedVariables false
set_option maxRecDepth 100000
attribute [local go_sem] Oper.semAt_some

/-- The cells of a row of parts. -/
def sps (l : List (Nat × Nat)) : List Value := l.flatMap fun p => [.int .i64 (p.1 : Int), .int .i64 (p.2 : Int)]
theorem sps_snoc (l : List (Nat × Nat)) (p q : Nat) : sps (l ++ [(p, q)]) = sps l ++ [.int .i64 (p : Int), .int .i64 (q : Int)] := by simp [sps]
theorem infoP : (Tryd.prog.info? 68).map (fun i => (i.zero, i.size, i.bytes)) = some (some (.agg #[.int .i64 0, .int .i64 0]), 2, 16) := by kernel_rfl
theorem own_st {K : Nat → Prop} {A B : World} {base e s n : Nat} {v : Value} {xs : List Value} (h : A.ownsRow base e s v n xs) (hs : St K A B) (hn : ∀ g, v.ownBlock = some g → ¬ K g) : B.ownsRow base e s v n xs := by
  refine ⟨h.1, ?_⟩
  rcases h.2 with hn' | ⟨g, cap, cur, rfl, hb, hg, rest⟩
  · exact .inl hn'
  · exact .inr ⟨g, cap, cur, rfl, hb, hs.at hg (hn g rfl), rest⟩
theorem cell_two_new (W : World) (x y : Value) (t : Nat) : ∀ j u, [x, y][j]? = some u → (W.alloc (.cells #[x, y] t)).cell? ((⟨W.heap.size, 0, none⟩ : Addr).add j) = some u := by
  intro j u hu
  have K := nw1 W (.cells #[x, y] t)
  have ha : (⟨W.heap.size, 0, none⟩ : Addr).add j = ⟨W.heap.size, j, none⟩ := by unfold Addr.add; split <;> simp_all
  rw [ha, cell_of_row _ _ j _ _ _ K]
  match j with
  | 0 => simpa using hu
  | 1 => simpa using hu
  | j + 2 => simp at hu
theorem sib_len (n : Nat) : ∀ f t b e, t - f ≤ n → (sib f t b e).length ≤ t - f := by
  induction n with
  | zero => intro f t b e h; unfold sib; rw [dif_pos (by omega)]; simp
  | succ n ih =>
    intro f t b e h
    unfold sib
    split
    · simp
    · have := split_lt (show 2 ≤ t - f by omega)
      split
      · have := ih (f + split (t - f)) t b e (by omega); simp; omega
      · have := ih f (f + split (t - f)) b e (by omega); simp; omega
set_option maxHeartbeats 2000000 in
theorem appendSeq (f t b e a : Nat) (w : World) (h20 : t ≤ 20) (hr : Rch f t b e) (p0 : w.heap[a]? = some (spO f t)) (p1 : w.heap[a + 1]? = some (spO b e)) :
    Calls Tryd.prog 109 #[.slice none 0 0, sbV a] w fun e' w' => ∃ v, e' = .returned v ∧ w'.ownsRow a 68 2 v (sib f t b e).length (sps (sib f t b e)) ∧ Below a w w' := by
  obtain ⟨i0, hi, hz0, hz1, hz2⟩ := info_parts infoP
  have hal : a + 1 < w.heap.size := bx_lt p1
  have B1 := al1 w (.cells #[.slice none 0 0] 118)
  have k1 := nw1 w (.cells #[.slice none 0 0] 118)
  have q0 := bx p0 B1
  have q1 := bx p1 B1
  have hsl := sib_len t f t b e (by omega)
  unfold sbV
  refine (callsIn_wide (n := 0)).1 ?_
  refine callsIn_of_wp_marks Tryd.func109 rfl trivial ?_ rfl
  simp only [Tryd.ntmps109, List.size_toArray, List.length_cons, List.length_nil, Nat.reduceAdd, Nat.reduceSub, Array.replicate_succ, Array.replicate_zero, List.push_toArray, List.append_toArray, List.nil_append, List.cons_append]
  gi_wp2
  generalize hW1 : w.alloc (.cells #[.slice none 0 0] 118) = W1 at *
  obtain ⟨z, hz⟩ : ∃ z, z = w.heap.size := ⟨_, rfl⟩
  rw [← hz] at k1 ⊢
  have hzl : z < W1.heap.size := bx_lt k1
  have haz : a + 1 < z := by omega
  have B2 : Below a w W1 := B1.mono (by omega)
  clear hW1 hz B1
  refine range_law (gf := 101) (lb := #[.pointer (some ⟨a, 0, none⟩), .pointer (some ⟨a + 1, 0, none⟩)]) rfl (enters_of Tryd.func101 (by kernel_rfl) rfl) (gives t f t b e a (by omega) h20 hr) (fun _ => rfl)
    (fun k => k = a ∨ k = a + 1) (fun _ h => h) (fun k h => by omega) (fun W' h => ⟨(h _ (by omega)).trans q0, (h _ (by omega)).trans q1⟩)
    (fun pre K Wx => (∃ v, Wx.heap[z]? = some (.cells #[v] 118) ∧ Wx.ownsRow a 68 2 v pre.length (sps pre) ∧ ∀ g, v.ownBlock = some g → ¬ K g) ∧ ¬ K z ∧ (∀ k, K k → a ≤ k) ∧ Below a w Wx ∧ z < Wx.heap.size)
    ?abide ⟨⟨_, k1, World.ownsRow_nil _ _ _ _, fun g h => by cases h⟩, by omega, by omega, B2, hzl⟩ ?round ?done
  case abide =>
    rintro ys Ka Kb A B ⟨⟨v, hv, ho, hg⟩, n1, ha, hb, hs⟩ hst hsub hnew hkin
    have hw := hb.size
    refine ⟨⟨v, hst.at hv n1, own_st ho hst hg, fun g h h' => ?_⟩, fun h => ?_, fun k h => ?_, hb.trans (hst.below (by omega) ha), Nat.lt_of_lt_of_le hs hst.size⟩
    · rcases hnew g h' with h2 | h2
      · exact hg g h h2
      · have := (ho.lt _ h).2; omega
    · rcases hnew z h with h2 | h2
      · exact n1 h2
      · omega
    · rcases hnew k h with h2 | h2
      · exact ha k h2
      · omega
  case round =>
    rintro l2 pre ⟨p, qq⟩ rest K1 Wr hx hsub hkin ⟨⟨v, hv, ho, hg⟩, n1, ha, hb, hs⟩
    have hpl : pre.length + 1 ≤ 20 := by
      have := congrArg List.length hx; simp at this; omega
    unfold enc sp
    simp only [List.zip_toArray, List.zip_cons_cons, List.zip_nil_right, List.foldl_toArray', List.foldl_cons, List.foldl_nil, List.setIfInBounds_toArray, List.set_cons_succ, List.set_cons_zero, List.size_toArray, List.length_cons, List.length_nil]
    gi_wp2
    refine ⟨St.alloc _ _ _, fun W2 hst => ?_⟩
    have lr := nw1 Wr (.cells #[.int .i64 (p : Int), .int .i64 (qq : Int)] 68)
    have hbox := hst.at lr (fun h => by have := hkin _ h; omega)
    have hstW : St K1 Wr W2 := (St.alloc K1 Wr _).trans hst
    have hv2 := hstW.at hv n1
    have ho2 := own_st ho hstW hg
    have hb2 := hb.trans (hstW.below (by have := hb.size; omega) ha)
    have hk2 : ∀ k, K1 k → k < W2.heap.size := fun k h => Nat.lt_of_lt_of_le (hkin k h) hstW.size
    have hw2 := hb2.size
    obtain ⟨d0, d1⟩ := row2 hbox
    have d2 := cell_of_row _ _ 0 _ _ _ hv2
    simp only [List.getElem?_toArray, List.getElem?_cons_zero] at d2
    have hz2' : z < W2.heap.size := bx_lt hv2
    have HO := Lib.hid ho2
    have hne : ∀ g, v.ownBlock = some g → z ≠ g := by
      intro g hgg e
      subst e
      rcases ho2.2 with ⟨rfl, _⟩ | ⟨g', cap, cur, rfl, _, hgb, _⟩
      · simp [Value.ownBlock] at hgg
      · obtain rfl : g' = z := by simpa [Value.ownBlock] using hgg
        rw [hv2] at hgb
        simp at hgb
    have hgl : ∀ g, v.ownBlock = some g → g < W2.heap.size := fun g h => (ho2.lt _ h).2
    clear ho ho2 hst lr hbox hstW hv hb hx hsub hkin hs
    gi_wp2_with (gi_at_builtin; refine wpListIn_append_own_at _ rfl _ _ 118 rfl a 68 i0 _ 2 16 Tryd.underlying118 hi hz0 hz1 hz2 rfl (by decide) v pre.length (sps pre) rfl (HO.out.alloc _) ⟨W2.heap.size, 0, none⟩ 1 1 [.int .i64 (p : Int), .int .i64 (qq : Int)] rfl rfl (cell_two_new _ _ _ _) (by simp [Value.oneCell']) (by unfold maxLen; omega) (by omega) (by simp; omega) ?_; intro v' w3 hown' hgrow hnil hat; obtain ⟨g', cap', rfl⟩ := ownsRow_succ hown'; have hv3 := (hgrow.block z (by simp; omega) (fun e => hne z e.symm rfl)).trans (bx hv2 (al1 W2 _)); have e3 := cell_of_row _ _ 0 _ _ _ hv3; simp only [List.getElem?_toArray, List.getElem?_cons_zero] at e3; have e4 : w3.frozen? ⟨z, 0, none⟩ = false := by simp [World.frozen?, hv3, go_sem])
    have hg1 : ¬ K1 g' := by
      rcases hat with h | h
      · exact hg g' (h.symm.trans rfl)
      · have e : g' = (W2.alloc (.cells #[.int .i64 (p : Int), .int .i64 (qq : Int)] 68)).heap.size := by simpa [Value.ownBlock] using h
        intro h'; have := hk2 g' h'; rw [e] at this; simp at this; omega
    have hzg : z ≠ g' := by
      rcases hat with h | h
      · exact hne g' (h.symm.trans rfl)
      · have e : g' = (W2.alloc (.cells #[.int .i64 (p : Int), .int .i64 (qq : Int)] 68)).heap.size := by simpa [Value.ownBlock] using h
        rw [e]; simp; omega
    have hst3 : St (fun k => ¬ K1 k) W2 w3 := (St.alloc _ W2 _).trans (St.grown hgrow fun k hk _ h => hg k hk h)
    have hst4 := hst3.trans (St.setCell (K := fun k => ¬ K1 k) w3 (p := ⟨z, 0, none⟩) (.slice (some ⟨g', 0, none⟩) (pre.length + 1) cap') n1)
    have hB3 : Below a W2 w3 := ((Below.refl a W2).alloc (by omega) _).grown hgrow (by simp; omega) (fun k hk => by
      rcases HO.out.2 with ⟨rfl, _⟩ | ⟨g'', cap, cur, rfl, hgb, _⟩
      · simp [Value.ownBlock] at hk
      · obtain rfl : g'' = k := by simpa [Value.ownBlock] using hk
        exact hgb)
    have ho4 : (w3.setCell ⟨z, 0, none⟩ (.slice (some ⟨g', 0, none⟩) (pre.length + 1) cap')).ownsRow a 68 2 (.slice (some ⟨g', 0, none⟩) (pre.length + 1) cap') (pre ++ [(p, qq)]).length (sps (pre ++ [(p, qq)])) := by
      rw [sps_snoc, List.length_append]
      exact hown'.kept (grownBy_setCell' w3 z _) (.inr (by simpa [Value.ownBlock] using hzg.symm))
    exact post_normal ⟨⟨_, heap_setCell_same w3 z 0 _ _ _ hv3, ho4, fun g h => by obtain rfl : g' = g := by simpa [Value.ownBlock] using h
                                                                                  exact hg1⟩, n1, ha, (hb2.trans hB3).setCell (by show a ≤ z; omega) _, by have := hst4.size; omega⟩ hst4
  case done =>
    rintro D K1 Wr hD hKD hsub hkin ⟨⟨v, hv, ho, hg⟩, n1, ha, hb, hs⟩ hdf
    have d2 := cell_of_row _ _ 0 _ _ _ hv
    simp only [List.getElem?_toArray, List.getElem?_cons_zero] at d2
    gi_wp2
    refine ⟨by simp, .inl ⟨_, _, rfl, run_takeDeferred hdf, ?_⟩⟩
    exact ⟨_, results_tmp rfl _ _ _, v, rfl, ownsRow_putObj ho _ hdf rfl, hb.trans (belowK_b (w := w) (by omega) Wr D _ _ (by have := B2.size; omega) hdf rfl rfl)⟩
/-- slices.Collect at the iterator. -/
theorem collect (f t b e a : Nat) (w : World) (h20 : t ≤ 20) (hr : Rch f t b e) (p0 : w.heap[a]? = some (spO f t)) (p1 : w.heap[a + 1]? = some (spO b e)) :
    Calls Tryd.prog 99 #[sbV a] w fun e' w' => ∃ v, e' = .returned v ∧ w'.ownsRow a 68 2 v (sib f t b e).length (sps (sib f t b e)) ∧ Below a w w' := by
  have C := Lib.hid (appendSeq f t b e a w h20 hr p0 p1)
  generalize (sib f t b e).length = n at *
  generalize sps (sib f t b e) = xs at *
  clear p0 p1 hr h20
  unfold sbV at *
  go_enter Tryd.func99, Tryd.ntmps99
  go_wp2_with fail
  refine C.out.mono ?_
  rintro e' w' ⟨v, rfl, ho, hb⟩
  go_wp2
  go_ret
  exact ⟨v, rfl, ho, hb⟩
end Go.Proofs.YtiiklednbhklhaaDoor.T8k
