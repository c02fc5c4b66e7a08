/-
  The frontier of a list: one answer of both sides.
-/
import Derived.Test.YtmnihigackilkaaDoorEdsX
import Derived.Maps.AppendAt
import Derived.Laws.AppendOwnNone
import Derived.Test.YtmnihigackilkaaDoorEdm
namespace Go.Proofs.YtmnihigackilkaaDoor.Edt
open Go.ChangeShapes Go.WideShapes Go.ChangeAt Go.RowKit
open Go.Proofs.YtmnihigackilkaaDoor.Mem Go.Proofs.YtmnihigackilkaaDoor.Ints Go.Proofs.YtmnihigackilkaaDoor.Strs Go.Proofs.YtmnihigackilkaaDoor.ShaComp Go.Proofs.YtmnihigackilkaaDoor.Digest Go.Proofs.YtmnihigackilkaaDoor.DigestI Go.Proofs.YtmnihigackilkaaDoor.Mkl Go.Proofs.YtmnihigackilkaaDoor.Slq Go.Proofs.YtmnihigackilkaaDoor.Rec Go.Proofs.YtmnihigackilkaaDoor.T8 Go.Proofs.YtmnihigackilkaaDoor.T8s Go.Proofs.YtmnihigackilkaaDoor.T8i Go.Proofs.YtmnihigackilkaaDoor.Arr Go.Proofs.YtmnihigackilkaaDoor.Edg Go.Proofs.YtmnihigackilkaaDoor.Pop Go.Proofs.YtmnihigackilkaaDoor.Bit Go.Proofs.YtmnihigackilkaaDoor.Pts Go.Proofs.YtmnihigackilkaaDoor.Edq Go.Proofs.YtmnihigackilkaaDoor.Edn Go.Proofs.YtmnihigackilkaaDoor.Edw Go.Proofs.YtmnihigackilkaaDoor.Hl Go.Proofs.YtmnihigackilkaaDoor.Fld Go.Proofs.YtmnihigackilkaaDoor.Fld2 Go.Proofs.YtmnihigackilkaaDoor.Fld3 Go.Proofs.YtmnihigackilkaaDoor.Edp Go.Proofs.YtmnihigackilkaaDoor.Edr Go.Proofs.YtmnihigackilkaaDoor.Eds
set_option linter.unusedVariables false
set_option linter.unusedSimpArgs false
set_option maxRecDepth 100000

theorem HL.two {P : Program} {ops : Array Oper} {Q : Exit → Act → World → Prop} {md : Region.Mode} {S : Array Bool → World → Prop} {i j f : Nat} {oi oj : Oper} {l : Array Bool} {a : Act} {w : World} (hr : Region.ready md ops l = [i, j])
    (hi : ops[i]? = some oi) (hwi : Region.wanted oi (yielded ops a.tmps) = true) (h1 : ∀ K : Act → World → Prop, Hid (∀ a' w', S (l.setIfInBounds i true) w' → (S (l.setIfInBounds i true) w' → HL P md ops Q S f (l.setIfInBounds i true) a' w') → K a' w') → Oper.wp P oi a w K Q)
    (hj : ops[j]? = some oj) (hwj : Region.wanted oj (yielded ops a.tmps) = true) (h2 : ∀ K : Act → World → Prop, Hid (∀ a' w', S (l.setIfInBounds j true) w' → (S (l.setIfInBounds j true) w' → HL P md ops Q S f (l.setIfInBounds j true) a' w') → K a' w') → Oper.wp P oj a w K Q) : HL P md ops Q S (f + 1) l a w := by
  refine ⟨fun h0 => (by rw [h0] at hr; cases hr), fun k hk => ?_⟩
  rw [hr] at hk
  have hk : k = i ∨ k = j := by simpa using hk
  rcases hk with rfl | rfl
  · unfold wpOp
    simp only [hi, hwi, if_true]
    exact .inl (h1 _ (Lib.hid fun a' w' q1 q2 => ⟨q1, q2 q1⟩))
  · unfold wpOp
    simp only [hj, hwj, if_true]
    exact .inl (h2 _ (Lib.hid fun a' w' q1 q2 => ⟨q1, q2 q1⟩))
theorem own_ne {w : World} {base e size n b i : Nat} {v u : Value} {xs : List Value} (h : w.ownsRow base e size v n xs) (hne : v.ownBlock ≠ some b) : (w.setCell ⟨b, i, none⟩ u).ownsRow base e size v n xs := by
  refine ⟨h.1, ?_⟩
  rcases h.2 with h0 | ⟨g, cap, cur, h1, h2, h3, h4⟩
  · exact .inl h0
  · refine .inr ⟨g, cap, cur, h1, h2, (heap_setCell_other _ _ _ _ (fun e => hne (by rw [h1]; exact congrArg some e))).trans h3, h4⟩
theorem litRow {w : World} {b : Nat} {d : ByteArray} (h : w.heap[b]? = some (.cells #[.string d] 9)) : w.ownsRow 0 9 1 (.slice (some ⟨b, 0, none⟩) 1 1) 1 (svs [d]) :=
  ⟨rfl, .inr ⟨b, 1, #[.string d], rfl, Nat.zero_le _, h, Nat.le_refl _, by unfold maxLen; omega, rfl, rfl⟩⟩
/-- A slice of strings appended to a row of one's own, whatever the slice. -/
theorem wp_app {o : Oper} {a : Act} {w : World} {K : Act → World → Prop} {Q : Exit → Act → World → Prop} (s x : Operand)
    (ho : o.op = .call { callee := .builtin .append, args := #[s, x], argTypes := #[23, 23] })
    (base : Nat) (v : Value) (k : Nat) (xs : List Value) (hs : a.eval s = v) (hown : w.ownsRow base 9 1 v k xs)
    (A : Option Addr) (n c : Nat) (l : List ByteArray) (B : Nat) (hx : a.eval x = .slice A n c) (hr : Rd w B 1 A n (svs l)) (hnil : A = none → n = 0 ∧ c = 0) (hk : k + n ≤ 100000) (hbase : base ≤ w.heap.size) (m : Nat) (hm : k + n = m)
    (h : ∀ A' c' w', w'.ownsRow base 9 1 (.slice A' m c') m (xs ++ svs l) → w.grownBy w' v.ownBlock → Below base w w' → ((Value.slice A' m c').ownBlock = v.ownBlock ∨ (Value.slice A' m c').ownBlock = some w.heap.size) → K (a.put o.dst (.slice A' m c')) w') : o.wp Tryd.prog a w K Q := by
  subst hm
  obtain ⟨i0, hi, hz0, hz1, hz2⟩ := info_parts infoS
  cases A with
  | none =>
    obtain ⟨rfl, rfl⟩ := hnil rfl
    have hl : svs l = [] := List.eq_nil_of_length_eq_zero hr.1
    have hrun := run_append_owned_none (P := Tryd.prog) (w := w) base 23 o.type 9 i0 1 Tryd.underlying23 hi v k xs hown
    obtain ⟨A', c', rfl⟩ := own_shapeS hown
    unfold Oper.wp execOp
    simp only [ho, resolve, invoke, builtin, Sem.run_bind, Sem.run_pure, Result.andThen_ok, List.map_toArray, List.map_cons, List.map_nil, hs, hx, hrun]
    exact h A' c' w (by rw [hl, List.append_nil]; exact hown) ⟨rfl, rfl, rfl, Nat.le_refl _, fun _ _ _ => rfl⟩ (Below.refl _ _) (Or.inl rfl)
  | some ad =>
    have hnews : ∀ j u, (svs l)[j]? = some u → w.cell? (ad.add j) = some u := fun j u hj => by
      have hn : 0 < n := by
        have h1 := (List.getElem?_eq_some_iff.1 hj).1
        have h2 := hr.1
        omega
      obtain ⟨b, off, e, hb, hc⟩ := hr.2 hn
      obtain rfl : ad = ⟨b, off, none⟩ := by simpa using e
      rw [Addr.add_mid]
      exact hc j u hj
    obtain ⟨v', w', hrun, h2, h3, h4, h5⟩ := run_append_own_at (P := Tryd.prog) w base 23 o.type 9 i0 _ 1 16 Tryd.underlying23 hi hz0 hz1 hz2 rfl (by omega) v k xs hown ad n c (svs l) (by have := hr.1; omega) hnews (strs_one l) (by unfold maxLen; omega) (by omega) hbase
    obtain ⟨A', c', rfl⟩ := own_shapeS h2
    unfold Oper.wp execOp
    simp only [ho, resolve, invoke, builtin, Sem.run_bind, Sem.run_pure, Result.andThen_ok, List.map_toArray, List.map_cons, List.map_nil, hs, hx, hrun]
    exact h A' c' w' h2 h3 ((Below.refl base w).grown h3 hbase (fun g hg => ownBlock_ge hown g hg)) h5
theorem wpList_app {ops : Array Oper} {rest : List Oper} {o : Oper} {a : Act} {w : World} {Q : Exit → Act → World → Prop} (hgd : o.guard = none) (s x : Operand)
    (ho : o.op = .call { callee := .builtin .append, args := #[s, x], argTypes := #[23, 23] })
    (base : Nat) (v : Value) (k : Nat) (xs : List Value) (hs : a.eval s = v) (hown : w.ownsRow base 9 1 v k xs)
    (A : Option Addr) (n c : Nat) (l : List ByteArray) (B : Nat) (hx : a.eval x = .slice A n c) (hr : Rd w B 1 A n (svs l)) (hnil : A = none → n = 0 ∧ c = 0) (hk : k + n ≤ 100000) (hbase : base ≤ w.heap.size) (m : Nat) (hm : k + n = m)
    (h : ∀ A' c' w', w'.ownsRow base 9 1 (.slice A' m c') m (xs ++ svs l) → w.grownBy w' v.ownBlock → Below base w w' → ((Value.slice A' m c').ownBlock = v.ownBlock ∨ (Value.slice A' m c').ownBlock = some w.heap.size) → wpList Tryd.prog ops Q rest (a.put o.dst (.slice A' m c')) w') : wpList Tryd.prog ops Q (o :: rest) a w :=
  wpList_plain hgd fun _ hK => wp_app s x ho base v k xs hs hown A n c l B hx hr hnil hk hbase m hm (fun A' c' w' h1 h2 h3 h4 => hK _ _ (h A' c' w' h1 h2 h3 h4))
theorem own_lit0 (w : World) (base : Nat) (hb : base ≤ w.heap.size) : (w.alloc (.cells #[] 9)).ownsRow base 9 1 (.slice (some ⟨w.heap.size, 0, none⟩) 0 0) 0 [] :=
  World.ownsRow_lit (base := base) (e := 9) (size := 1) w #[] 0 hb (by unfold maxLen; omega) rfl
set_option maxHeartbeats 16000000 in
theorem l9Put (k : Nat) (A : Option Addr) (n c : Nat) (l : List ByteArray) (x : ByteArray) (B : Nat) (w : World) (hk : k < 1000000) (hn : n ≤ 1000) (hln : l.length = n) (h32 : ∀ s ∈ l, s.size = 32) (hx : x.size ≤ 1000) (hnil : A = none → n = 0 ∧ c = 0) (hB : B ≤ w.heap.size) (hr : Rd w B 1 A n (svs l)) :
    Calls Tryd.prog 123 #[edV k A n c, .string x] w fun e w' => ∃ A' c', e = .returned (edV ((k + 1 : Nat) : Int) A' (ptL k l x).length c') ∧ w'.ownsRow w.heap.size 9 1 (.slice A' (ptL k l x).length c') (ptL k l x).length (svs (ptL k l x)) ∧ Below w.heap.size w w' := by
  have C8 := Lib.hid (fun W => T8.l8Leaf x W hx)
  obtain ⟨d, hd⟩ : ∃ d, d = bs (leafD dig (tl x)) := ⟨_, rfl⟩
  have hd32 : d.size = 32 := by rw [hd]; exact leaf32 _
  rw [← hd] at C8
  have HX := Lib.hid hr
  have b0 := al2 w (.cells #[.int .i64 (k : Int), .slice A n c] 53) (.cells #[.int .i64 0, .slice none 0 0] 53)
  obtain ⟨ka, kr⟩ := nw2 w (.cells #[.int .i64 (k : Int), .slice A n c] 53) (.cells #[.int .i64 0, .slice none 0 0] 53)
  have z0 : ((w.alloc (.cells #[.int .i64 (k : Int), .slice A n c] 53)).alloc (.cells #[.int .i64 0, .slice none 0 0] 53)).heap.size = w.heap.size + 1 + 1 := by simp
  have e2 : (k : Int) + 1 = ((k + 1 : Nat) : Int) := by omega
  have e1 : IntKind.i64.wrap ((k : Int) + 1) = ((k + 1 : Nat) : Int) := by rw [IntKind.wrap_i64]; omega
  have hk1 : k + 1 ≤ 1000000 := by omega
  have e3 : IntKind.i64.wrap ((k + 1 : Nat) : Int) = ((k + 1 : Nat) : Int) := by rw [IntKind.wrap_i64]; omega
  have hBW : B ≤ w.heap.size := hB
  have HM : Hid (∀ q : List ByteArray, q.map tl = fold dig (pc (k + 1)) ((l ++ [d]).map tl) → q = ptL k l x) := Lib.hid (fun q hq => by
    rw [← map_bs_tl q, hq, List.map_append, List.map_cons, List.map_nil, hd, tl_bs]; rfl)
  have H33 : Hid (∀ s ∈ l ++ [d], s.size = 32) := Lib.hid (fun s hs => by
    rw [List.mem_append, List.mem_singleton] at hs
    rcases hs with hs | rfl
    · exact h32 s hs
    · exact hd32)
  have CP := Lib.hid (fun W => l9Parts (k + 1) W hk1)
  have hpc : 1 ≤ (pts (k + 1)).length := pc_ge (by omega)
  have hpc2 : (pts (k + 1)).length ≤ 21 := pc_le21 _ hk1
  have HPC : Hid (pc (k + 1) = (pts (k + 1)).length) := Lib.hid rfl
  have HLL : Hid ((l ++ [d]).length = n + 1) := Lib.hid (by simp [hln])
  have HSV : Hid (svs l ++ svs [d] = svs (l ++ [d])) := Lib.hid (by simp [svs])
  generalize ptL k l x = res at *
  generalize (pts (k + 1)).length = most at *
  generalize k + 1 = k1 at *
  clear hr h32 hd hln
  unfold edV
  go_enter Tryd.func123, Tryd.ntmps123
  go_wp2_with fail
  generalize World.alloc (World.alloc w _) _ = W0 at *
  go_cut [5] from 8 (fun s5 wc => ∃ b A1 c1, s5 = .pointer (some ⟨b, 0, none⟩) ∧ wc.heap[b]? = some (.cells #[.int .i64 (k1 : Int), .slice A1 (n + 1) c1] 53) ∧ wc.ownsRow W0.heap.size 9 1 (.slice A1 (n + 1) c1) (n + 1) ([] ++ svs l ++ svs [d]) ∧ (Value.slice A1 (n + 1) c1).ownBlock ≠ some b ∧ Below W0.heap.size W0 wc ∧ W0.heap.size ≤ b)
  case first =>
    refine HL.start (S := fun (_ : Array Bool) W => Below W0.heap.size W0 W) (by kernel_rfl) ?_
    have X0 : Below W0.heap.size W0 W0.drew := Below.drew (Below.refl _ W0)
    generalize W0.drew = wd at *
    refine HL.take (i := 0) (W := 13) (T := fun W => Below W0.heap.size W0 W) (oi := _) (v := ?_) rfl (by kernel_rfl) (by kernel_rfl) (by kernel_rfl) (by kernel_rfl) (by kernel_rfl) (fun _ _ _ h => h) (fun _ _ => Iff.rfl) (fun _ _ _ h => h) (Or.inl ⟨by kernel_rfl, ?_⟩) X0 (fun _ => ?_)
    rotate_left
    · intro w' hw'; clear hw'; (first | (go_simp; done) | (go_simp; with_reducible rfl))
    try simp only [Act.put, List.getElem_toArray, List.getElem_cons_succ, List.getElem_cons_zero, List.setIfInBounds_toArray, List.set_cons_zero, List.set_cons_succ]
    refine HL.take (i := 1) (W := 13) (T := fun W => Below W0.heap.size W0 W) (oi := _) (v := ?_) rfl (by kernel_rfl) (by kernel_rfl) (by kernel_rfl) (by kernel_rfl) (by kernel_rfl) (fun _ _ _ h => h) (fun _ _ => Iff.rfl) (fun _ _ _ h => h) (Or.inl ⟨by kernel_rfl, ?_⟩) X0 (fun _ => ?_)
    rotate_left
    · intro w' hw'; obtain ⟨e0, e1⟩ := row2 (bx ka hw'); clear hw'; (first | (go_simp; done) | (go_simp; with_reducible rfl))
    try simp only [Act.put, List.getElem_toArray, List.getElem_cons_succ, List.getElem_cons_zero, List.setIfInBounds_toArray, List.set_cons_zero, List.set_cons_succ]
    refine HL.take (i := 2) (W := 13) (T := fun W => Below W0.heap.size W0 W) (oi := _) (v := ?_) rfl (by kernel_rfl) (by kernel_rfl) (by kernel_rfl) (by kernel_rfl) (by kernel_rfl) (fun _ _ _ h => h) (fun _ _ => Iff.rfl) (fun _ _ _ h => h) (Or.inl ⟨by kernel_rfl, ?_⟩) X0 (fun _ => ?_)
    rotate_left
    · intro w' hw'; clear hw'; (first | (go_simp; done) | (go_simp; with_reducible rfl))
    try simp only [Act.put, List.getElem_toArray, List.getElem_cons_succ, List.getElem_cons_zero, List.setIfInBounds_toArray, List.set_cons_zero, List.set_cons_succ]
    refine HL.take (i := 4) (W := 13) (T := fun W => Below W0.heap.size W0 W) (oi := _) (v := ?_) rfl (by kernel_rfl) (by kernel_rfl) (by kernel_rfl) (by kernel_rfl) (by kernel_rfl) (fun _ _ _ h => h) (fun _ _ => Iff.rfl) (fun _ _ _ h => h) (Or.inl ⟨by kernel_rfl, ?_⟩) X0 (fun _ => ?_)
    rotate_left
    · intro w' hw'; clear hw'; (first | (go_simp; done) | (go_simp; with_reducible rfl))
    try simp only [Act.put, List.getElem_toArray, List.getElem_cons_succ, List.getElem_cons_zero, List.setIfInBounds_toArray, List.set_cons_zero, List.set_cons_succ]
    refine HL.take (i := 5) (W := 13) (T := fun W => Below W0.heap.size W0 W) (oi := _) (v := ?_) rfl (by kernel_rfl) (by kernel_rfl) (by kernel_rfl) (by kernel_rfl) (by kernel_rfl) (fun _ _ _ h => h) (fun _ _ => Iff.rfl) (fun _ _ _ h => h) (Or.inl ⟨by kernel_rfl, ?_⟩) X0 (fun _ => ?_)
    rotate_left
    · intro w' hw'; obtain ⟨e0, e1⟩ := row2 (bx ka hw'); clear hw'; (first | (go_simp; done) | (go_simp; with_reducible rfl))
    try simp only [Act.put, List.getElem_toArray, List.getElem_cons_succ, List.getElem_cons_zero, List.setIfInBounds_toArray, List.set_cons_zero, List.set_cons_succ]
    refine HL.take (i := 7) (W := 13) (T := fun W => Below W0.heap.size W0 W) (oi := _) (v := ?_) rfl (by kernel_rfl) (by kernel_rfl) (by kernel_rfl) (by kernel_rfl) (by kernel_rfl) (fun _ _ _ h => h) (fun _ _ => Iff.rfl) (fun _ _ _ h => h) (Or.inl ⟨by kernel_rfl, ?_⟩) X0 (fun _ => ?_)
    rotate_left
    · intro w' hw'; clear hw'; (first | (go_simp; done) | (go_simp; with_reducible rfl))
    try simp only [Act.put, List.getElem_toArray, List.getElem_cons_succ, List.getElem_cons_zero, List.setIfInBounds_toArray, List.set_cons_zero, List.set_cons_succ]
    refine HL.two (i := 3) (j := 12) (oi := _) (oj := _) (by kernel_rfl) rfl (by kernel_rfl) (fun K hK => ?_) rfl (by kernel_rfl) (fun K hK => ?_)
    ·
      go_simp
      have X1 := Below.alloc X0 X0.size (.cells #[] 9)
      refine hK.out _ _ X1 (fun _ => ?_)
      clear hK K
      try simp only [Act.put, List.getElem_toArray, List.getElem_cons_succ, List.getElem_cons_zero, List.setIfInBounds_toArray, List.set_cons_zero, List.set_cons_succ]
      have a9 := al1 wd (.cells #[] 9)
      have y1 := nw1 wd (.cells #[] 9)
      have z1 : wd.heap.size < (World.alloc wd (.cells #[] 9)).heap.size := by simp
      have u1 : W0.heap.size ≤ wd.heap.size := X0.size
      have O1 := World.ownsRow_lit (base := W0.heap.size) (e := 9) (size := 1) wd #[] 0 X0.size (by unfold maxLen; omega) rfl
      clear a9
      generalize hV : World.alloc wd (.cells #[] 9) = W1 at *
      clear hV
      refine HL.two (i := 6) (j := 12) (oi := _) (oj := _) (by kernel_rfl) rfl (by kernel_rfl) (fun K hK => ?_) rfl (by kernel_rfl) (fun K hK => ?_)
      ·
        refine wp_app _ _ rfl W0.heap.size (.slice (some ⟨wd.heap.size, 0, none⟩) 0 0) 0 _ rfl O1 A n c l B rfl (HX.out.below (b0.trans (X1.mono b0.size)) hBW) hnil (by omega) X1.size n (Nat.zero_add n) ?_
        intro Aa2 ca2 W2 O2 gr2 ba2 at2
        have X2 := Below.trans X1 ba2
        refine hK.out _ _ X2 (fun _ => ?_)
        clear hK K
        try simp only [Act.put, List.getElem_toArray, List.getElem_cons_succ, List.getElem_cons_zero, List.setIfInBounds_toArray, List.set_cons_zero, List.set_cons_succ]
        clear gr2 ba2 at2
        refine HL.two (i := 8) (j := 12) (oi := _) (oj := _) (by kernel_rfl) rfl (by kernel_rfl) (fun K hK => ?_) rfl (by kernel_rfl) (fun K hK => ?_)
        ·
          go_simp
          refine (C8.out W2).mono ?_
          rintro e' W3 ⟨rfl, a9⟩
          have X3 := Below.trans X2 (a9.mono X2.size)
          refine hK.out _ _ X3 (fun _ => ?_)
          clear hK K
          try simp only [Act.put, List.getElem_toArray, List.getElem_cons_succ, List.getElem_cons_zero, List.setIfInBounds_toArray, List.set_cons_zero, List.set_cons_succ]
          have O3 := own_belowS O2 a9 (Nat.le_refl _)
          clear a9
          refine HL.two (i := 9) (j := 12) (oi := _) (oj := _) (by kernel_rfl) rfl (by kernel_rfl) (fun K hK => ?_) rfl (by kernel_rfl) (fun K hK => ?_)
          ·
            go_simp
            have X4 := Below.alloc X3 X3.size (.cells #[.string d] 9)
            refine hK.out _ _ X4 (fun _ => ?_)
            clear hK K
            try simp only [Act.put, List.getElem_toArray, List.getElem_cons_succ, List.getElem_cons_zero, List.setIfInBounds_toArray, List.set_cons_zero, List.set_cons_succ]
            have a9 := al1 W3 (.cells #[.string d] 9)
            have y4 := nw1 W3 (.cells #[.string d] 9)
            have z4 : W3.heap.size < (World.alloc W3 (.cells #[.string d] 9)).heap.size := by simp
            have u4 : W0.heap.size ≤ W3.heap.size := X3.size
            have O4 := own_belowS O3 a9 (Nat.le_refl _)
            clear a9
            generalize hV : World.alloc W3 (.cells #[.string d] 9) = W4 at *
            clear hV
            refine HL.two (i := 10) (j := 12) (oi := _) (oj := _) (by kernel_rfl) rfl (by kernel_rfl) (fun K hK => ?_) rfl (by kernel_rfl) (fun K hK => ?_)
            ·
              refine wp_app _ _ rfl W0.heap.size (.slice Aa2 n ca2) n _ rfl O4 (some ⟨W3.heap.size, 0, none⟩) 1 1 [d] W4.heap.size rfl (Rd.own (litRow y4)) (fun h => by cases h) (by omega) X4.size (n + 1) rfl ?_
              intro Aa5 ca5 W5 O5 gr5 ba5 at5
              have X5 := Below.trans X4 ba5
              refine hK.out _ _ X5 (fun _ => ?_)
              clear hK K
              try simp only [Act.put, List.getElem_toArray, List.getElem_cons_succ, List.getElem_cons_zero, List.setIfInBounds_toArray, List.set_cons_zero, List.set_cons_succ]
              clear gr5 ba5 at5
              refine HL.take (i := 11) (W := 13) (T := fun W => Below W0.heap.size W0 W) (oi := _) (v := ?_) rfl (by kernel_rfl) (by kernel_rfl) (by kernel_rfl) (by kernel_rfl) (by kernel_rfl) (fun _ _ _ h => h) (fun _ _ => Iff.rfl) (fun _ _ _ h => h) (Or.inl ⟨by kernel_rfl, ?_⟩) X5 (fun _ => ?_)
              rotate_left
              · intro w' hw'; clear hw'; (first | (go_simp; done) | (go_simp; with_reducible rfl))
              try simp only [Act.put, List.getElem_toArray, List.getElem_cons_succ, List.getElem_cons_zero, List.setIfInBounds_toArray, List.set_cons_zero, List.set_cons_succ]
              refine HL.only (i := 12) (oi := _) (by kernel_rfl) rfl (by kernel_rfl) (fun K hK => ?_)
              go_simp
              have X6 := Below.alloc X5 X5.size (.cells #[.int .i64 0, .slice none 0 0] 53)
              refine hK.out _ _ X6 (fun _ => ?_)
              clear hK K
              try simp only [Act.put, List.getElem_toArray, List.getElem_cons_succ, List.getElem_cons_zero, List.setIfInBounds_toArray, List.set_cons_zero, List.set_cons_succ]
              have a9 := al1 W5 (.cells #[.int .i64 0, .slice none 0 0] 53)
              have y6 := nw1 W5 (.cells #[.int .i64 0, .slice none 0 0] 53)
              have z6 : W5.heap.size < (World.alloc W5 (.cells #[.int .i64 0, .slice none 0 0] 53)).heap.size := by simp
              have u6 : W0.heap.size ≤ W5.heap.size := X5.size
              have O6 := own_belowS O5 a9 (Nat.le_refl _)
              have NE6 : ((.slice Aa5 (n + 1) ca5) : Value).ownBlock ≠ some W5.heap.size := fun h => by have := (O5.lt _ h).2; omega
              clear a9
              generalize hV : World.alloc W5 (.cells #[.int .i64 0, .slice none 0 0] 53) = W6 at *
              clear hV
              refine HL.only (i := 13) (oi := _) (by kernel_rfl) rfl (by kernel_rfl) (fun K hK => ?_)
              obtain ⟨s0, s1⟩ := row2 y6
              obtain ⟨f0, f1⟩ := frz2 y6
              have l9 := bx_lt y6
              go_simp
              have hlo : W0.heap.size ≤ W5.heap.size := by omega
              refine hK.out _ _ (Below.setCell (Below.setCell X6 (by dsimp only; omega) _) (by dsimp only; omega) _) (fun _ => ?_)
              clear hK K
              refine HL.done (by kernel_rfl) ?_
              have hs9 := heap_set2 (x := .int .i64 (k1 : Int)) (y := (.slice Aa5 (n + 1) ca5)) y6
              have ho9 := own_ne (own_ne O6 NE6 (i := 0) (u := .int .i64 (k1 : Int))) NE6 (i := 1) (u := (.slice Aa5 (n + 1) ca5))
              have hX9 : Below W0.heap.size W0 ((W6.setCell ⟨W5.heap.size, 0, none⟩ (.int .i64 (k1 : Int))).setCell ⟨W5.heap.size, 1, none⟩ (.slice Aa5 (n + 1) ca5)) := Below.setCell (Below.setCell X6 (by dsimp only; omega) _) (by dsimp only; omega) _
              generalize World.setCell (World.setCell W6 _ _) _ _ = WF at *
              go_wp2
              go_meet
              case rel => exact ⟨W5.heap.size, Aa5, ca5, rfl, hs9, ho9, NE6, hX9, hlo⟩
            ·
              go_simp
              have X7 := Below.alloc X4 X4.size (.cells #[.int .i64 0, .slice none 0 0] 53)
              refine hK.out _ _ X7 (fun _ => ?_)
              clear hK K
              try simp only [Act.put, List.getElem_toArray, List.getElem_cons_succ, List.getElem_cons_zero, List.setIfInBounds_toArray, List.set_cons_zero, List.set_cons_succ]
              have a9 := al1 W4 (.cells #[.int .i64 0, .slice none 0 0] 53)
              have y7 := nw1 W4 (.cells #[.int .i64 0, .slice none 0 0] 53)
              have z7 : W4.heap.size < (World.alloc W4 (.cells #[.int .i64 0, .slice none 0 0] 53)).heap.size := by simp
              have u7 : W0.heap.size ≤ W4.heap.size := X4.size
              have O7 := own_belowS O4 a9 (Nat.le_refl _)
              have NE7 : ((.slice Aa2 n ca2) : Value).ownBlock ≠ some W4.heap.size := fun h => by have := (O4.lt _ h).2; omega
              have L7 := bx y4 a9
              clear a9
              generalize hV : World.alloc W4 (.cells #[.int .i64 0, .slice none 0 0] 53) = W7 at *
              clear hV
              refine HL.only (i := 10) (oi := _) (by kernel_rfl) rfl (by kernel_rfl) (fun K hK => ?_)
              refine wp_app _ _ rfl W0.heap.size (.slice Aa2 n ca2) n _ rfl O7 (some ⟨W3.heap.size, 0, none⟩) 1 1 [d] W7.heap.size rfl (Rd.own (litRow L7)) (fun h => by cases h) (by omega) X7.size (n + 1) rfl ?_
              intro Aa8 ca8 W8 O8 gr8 ba8 at8
              have X8 := Below.trans X7 ba8
              refine hK.out _ _ X8 (fun _ => ?_)
              clear hK K
              try simp only [Act.put, List.getElem_toArray, List.getElem_cons_succ, List.getElem_cons_zero, List.setIfInBounds_toArray, List.set_cons_zero, List.set_cons_succ]
              have l9 := bx_lt y7
              have B8 := (gr8.block _ l9 (fun e => NE7 e.symm)).trans y7
              have NE8 : ((.slice Aa8 (n + 1) ca8) : Value).ownBlock ≠ some (W4.heap.size) := fun h => by
                rcases at8 with h2 | h2
                · exact NE7 (h2.symm.trans h)
                · rw [h2] at h; have h3 := Option.some.inj h; omega
              clear gr8 ba8 at8
              refine HL.take (i := 11) (W := 13) (T := fun W => Below W0.heap.size W0 W) (oi := _) (v := ?_) rfl (by kernel_rfl) (by kernel_rfl) (by kernel_rfl) (by kernel_rfl) (by kernel_rfl) (fun _ _ _ h => h) (fun _ _ => Iff.rfl) (fun _ _ _ h => h) (Or.inl ⟨by kernel_rfl, ?_⟩) X8 (fun _ => ?_)
              rotate_left
              · intro w' hw'; clear hw'; (first | (go_simp; done) | (go_simp; with_reducible rfl))
              try simp only [Act.put, List.getElem_toArray, List.getElem_cons_succ, List.getElem_cons_zero, List.setIfInBounds_toArray, List.set_cons_zero, List.set_cons_succ]
              refine HL.only (i := 13) (oi := _) (by kernel_rfl) rfl (by kernel_rfl) (fun K hK => ?_)
              obtain ⟨s0, s1⟩ := row2 B8
              obtain ⟨f0, f1⟩ := frz2 B8
              have l9 := bx_lt B8
              go_simp
              have hlo : W0.heap.size ≤ W4.heap.size := by omega
              refine hK.out _ _ (Below.setCell (Below.setCell X8 (by dsimp only; omega) _) (by dsimp only; omega) _) (fun _ => ?_)
              clear hK K
              refine HL.done (by kernel_rfl) ?_
              have hs9 := heap_set2 (x := .int .i64 (k1 : Int)) (y := (.slice Aa8 (n + 1) ca8)) B8
              have ho9 := own_ne (own_ne O8 NE8 (i := 0) (u := .int .i64 (k1 : Int))) NE8 (i := 1) (u := (.slice Aa8 (n + 1) ca8))
              have hX9 : Below W0.heap.size W0 ((W8.setCell ⟨W4.heap.size, 0, none⟩ (.int .i64 (k1 : Int))).setCell ⟨W4.heap.size, 1, none⟩ (.slice Aa8 (n + 1) ca8)) := Below.setCell (Below.setCell X8 (by dsimp only; omega) _) (by dsimp only; omega) _
              generalize World.setCell (World.setCell W8 _ _) _ _ = WF at *
              go_wp2
              go_meet
              case rel => exact ⟨W4.heap.size, Aa8, ca8, rfl, hs9, ho9, NE8, hX9, hlo⟩
          ·
            go_simp
            have X9 := Below.alloc X3 X3.size (.cells #[.int .i64 0, .slice none 0 0] 53)
            refine hK.out _ _ X9 (fun _ => ?_)
            clear hK K
            try simp only [Act.put, List.getElem_toArray, List.getElem_cons_succ, List.getElem_cons_zero, List.setIfInBounds_toArray, List.set_cons_zero, List.set_cons_succ]
            have a9 := al1 W3 (.cells #[.int .i64 0, .slice none 0 0] 53)
            have y9 := nw1 W3 (.cells #[.int .i64 0, .slice none 0 0] 53)
            have z9 : W3.heap.size < (World.alloc W3 (.cells #[.int .i64 0, .slice none 0 0] 53)).heap.size := by simp
            have u9 : W0.heap.size ≤ W3.heap.size := X3.size
            have O9 := own_belowS O3 a9 (Nat.le_refl _)
            have NE9 : ((.slice Aa2 n ca2) : Value).ownBlock ≠ some W3.heap.size := fun h => by have := (O3.lt _ h).2; omega
            clear a9
            generalize hV : World.alloc W3 (.cells #[.int .i64 0, .slice none 0 0] 53) = W9 at *
            clear hV
            refine HL.only (i := 9) (oi := _) (by kernel_rfl) rfl (by kernel_rfl) (fun K hK => ?_)
            go_simp
            have X10 := Below.alloc X9 X9.size (.cells #[.string d] 9)
            refine hK.out _ _ X10 (fun _ => ?_)
            clear hK K
            try simp only [Act.put, List.getElem_toArray, List.getElem_cons_succ, List.getElem_cons_zero, List.setIfInBounds_toArray, List.set_cons_zero, List.set_cons_succ]
            have a9 := al1 W9 (.cells #[.string d] 9)
            have y10 := nw1 W9 (.cells #[.string d] 9)
            have z10 : W9.heap.size < (World.alloc W9 (.cells #[.string d] 9)).heap.size := by simp
            have u10 : W0.heap.size ≤ W9.heap.size := X9.size
            have O10 := own_belowS O9 a9 (Nat.le_refl _)
            have B10 := bx y9 a9
            clear a9
            generalize hV : World.alloc W9 (.cells #[.string d] 9) = W10 at *
            clear hV
            refine HL.only (i := 10) (oi := _) (by kernel_rfl) rfl (by kernel_rfl) (fun K hK => ?_)
            refine wp_app _ _ rfl W0.heap.size (.slice Aa2 n ca2) n _ rfl O10 (some ⟨W9.heap.size, 0, none⟩) 1 1 [d] W10.heap.size rfl (Rd.own (litRow y10)) (fun h => by cases h) (by omega) X10.size (n + 1) rfl ?_
            intro Aa11 ca11 W11 O11 gr11 ba11 at11
            have X11 := Below.trans X10 ba11
            refine hK.out _ _ X11 (fun _ => ?_)
            clear hK K
            try simp only [Act.put, List.getElem_toArray, List.getElem_cons_succ, List.getElem_cons_zero, List.setIfInBounds_toArray, List.set_cons_zero, List.set_cons_succ]
            have l9 := bx_lt B10
            have B11 := (gr11.block _ l9 (fun e => NE9 e.symm)).trans B10
            have NE11 : ((.slice Aa11 (n + 1) ca11) : Value).ownBlock ≠ some (W3.heap.size) := fun h => by
              rcases at11 with h2 | h2
              · exact NE9 (h2.symm.trans h)
              · rw [h2] at h; have h3 := Option.some.inj h; omega
            clear gr11 ba11 at11
            refine HL.take (i := 11) (W := 13) (T := fun W => Below W0.heap.size W0 W) (oi := _) (v := ?_) rfl (by kernel_rfl) (by kernel_rfl) (by kernel_rfl) (by kernel_rfl) (by kernel_rfl) (fun _ _ _ h => h) (fun _ _ => Iff.rfl) (fun _ _ _ h => h) (Or.inl ⟨by kernel_rfl, ?_⟩) X11 (fun _ => ?_)
            rotate_left
            · intro w' hw'; clear hw'; (first | (go_simp; done) | (go_simp; with_reducible rfl))
            try simp only [Act.put, List.getElem_toArray, List.getElem_cons_succ, List.getElem_cons_zero, List.setIfInBounds_toArray, List.set_cons_zero, List.set_cons_succ]
            refine HL.only (i := 13) (oi := _) (by kernel_rfl) rfl (by kernel_rfl) (fun K hK => ?_)
            obtain ⟨s0, s1⟩ := row2 B11
            obtain ⟨f0, f1⟩ := frz2 B11
            have l9 := bx_lt B11
            go_simp
            have hlo : W0.heap.size ≤ W3.heap.size := by omega
            refine hK.out _ _ (Below.setCell (Below.setCell X11 (by dsimp only; omega) _) (by dsimp only; omega) _) (fun _ => ?_)
            clear hK K
            refine HL.done (by kernel_rfl) ?_
            have hs9 := heap_set2 (x := .int .i64 (k1 : Int)) (y := (.slice Aa11 (n + 1) ca11)) B11
            have ho9 := own_ne (own_ne O11 NE11 (i := 0) (u := .int .i64 (k1 : Int))) NE11 (i := 1) (u := (.slice Aa11 (n + 1) ca11))
            have hX9 : Below W0.heap.size W0 ((W11.setCell ⟨W3.heap.size, 0, none⟩ (.int .i64 (k1 : Int))).setCell ⟨W3.heap.size, 1, none⟩ (.slice Aa11 (n + 1) ca11)) := Below.setCell (Below.setCell X11 (by dsimp only; omega) _) (by dsimp only; omega) _
            generalize World.setCell (World.setCell W11 _ _) _ _ = WF at *
            go_wp2
            go_meet
            case rel => exact ⟨W3.heap.size, Aa11, ca11, rfl, hs9, ho9, NE11, hX9, hlo⟩
        ·
          go_simp
          have X12 := Below.alloc X2 X2.size (.cells #[.int .i64 0, .slice none 0 0] 53)
          refine hK.out _ _ X12 (fun _ => ?_)
          clear hK K
          try simp only [Act.put, List.getElem_toArray, List.getElem_cons_succ, List.getElem_cons_zero, List.setIfInBounds_toArray, List.set_cons_zero, List.set_cons_succ]
          have a9 := al1 W2 (.cells #[.int .i64 0, .slice none 0 0] 53)
          have y12 := nw1 W2 (.cells #[.int .i64 0, .slice none 0 0] 53)
          have z12 : W2.heap.size < (World.alloc W2 (.cells #[.int .i64 0, .slice none 0 0] 53)).heap.size := by simp
          have u12 : W0.heap.size ≤ W2.heap.size := X2.size
          have O12 := own_belowS O2 a9 (Nat.le_refl _)
          have NE12 : ((.slice Aa2 n ca2) : Value).ownBlock ≠ some W2.heap.size := fun h => by have := (O2.lt _ h).2; omega
          clear a9
          generalize hV : World.alloc W2 (.cells #[.int .i64 0, .slice none 0 0] 53) = W12 at *
          clear hV
          refine HL.only (i := 8) (oi := _) (by kernel_rfl) rfl (by kernel_rfl) (fun K hK => ?_)
          go_simp
          refine (C8.out W12).mono ?_
          rintro e' W13 ⟨rfl, a9⟩
          have X13 := Below.trans X12 (a9.mono X12.size)
          refine hK.out _ _ X13 (fun _ => ?_)
          clear hK K
          try simp only [Act.put, List.getElem_toArray, List.getElem_cons_succ, List.getElem_cons_zero, List.setIfInBounds_toArray, List.set_cons_zero, List.set_cons_succ]
          have O13 := own_belowS O12 a9 (Nat.le_refl _)
          have B13 := bx y12 a9
          clear a9
          refine HL.only (i := 9) (oi := _) (by kernel_rfl) rfl (by kernel_rfl) (fun K hK => ?_)
          go_simp
          have X14 := Below.alloc X13 X13.size (.cells #[.string d] 9)
          refine hK.out _ _ X14 (fun _ => ?_)
          clear hK K
          try simp only [Act.put, List.getElem_toArray, List.getElem_cons_succ, List.getElem_cons_zero, List.setIfInBounds_toArray, List.set_cons_zero, List.set_cons_succ]
          have a9 := al1 W13 (.cells #[.string d] 9)
          have y14 := nw1 W13 (.cells #[.string d] 9)
          have z14 : W13.heap.size < (World.alloc W13 (.cells #[.string d] 9)).heap.size := by simp
          have u14 : W0.heap.size ≤ W13.heap.size := X13.size
          have O14 := own_belowS O13 a9 (Nat.le_refl _)
          have B14 := bx B13 a9
          clear a9
          generalize hV : World.alloc W13 (.cells #[.string d] 9) = W14 at *
          clear hV
          refine HL.only (i := 10) (oi := _) (by kernel_rfl) rfl (by kernel_rfl) (fun K hK => ?_)
          refine wp_app _ _ rfl W0.heap.size (.slice Aa2 n ca2) n _ rfl O14 (some ⟨W13.heap.size, 0, none⟩) 1 1 [d] W14.heap.size rfl (Rd.own (litRow y14)) (fun h => by cases h) (by omega) X14.size (n + 1) rfl ?_
          intro Aa15 ca15 W15 O15 gr15 ba15 at15
          have X15 := Below.trans X14 ba15
          refine hK.out _ _ X15 (fun _ => ?_)
          clear hK K
          try simp only [Act.put, List.getElem_toArray, List.getElem_cons_succ, List.getElem_cons_zero, List.setIfInBounds_toArray, List.set_cons_zero, List.set_cons_succ]
          have l9 := bx_lt B14
          have B15 := (gr15.block _ l9 (fun e => NE12 e.symm)).trans B14
          have NE15 : ((.slice Aa15 (n + 1) ca15) : Value).ownBlock ≠ some (W2.heap.size) := fun h => by
            rcases at15 with h2 | h2
            · exact NE12 (h2.symm.trans h)
            · rw [h2] at h; have h3 := Option.some.inj h; omega
          clear gr15 ba15 at15
          refine HL.take (i := 11) (W := 13) (T := fun W => Below W0.heap.size W0 W) (oi := _) (v := ?_) rfl (by kernel_rfl) (by kernel_rfl) (by kernel_rfl) (by kernel_rfl) (by kernel_rfl) (fun _ _ _ h => h) (fun _ _ => Iff.rfl) (fun _ _ _ h => h) (Or.inl ⟨by kernel_rfl, ?_⟩) X15 (fun _ => ?_)
          rotate_left
          · intro w' hw'; clear hw'; (first | (go_simp; done) | (go_simp; with_reducible rfl))
          try simp only [Act.put, List.getElem_toArray, List.getElem_cons_succ, List.getElem_cons_zero, List.setIfInBounds_toArray, List.set_cons_zero, List.set_cons_succ]
          refine HL.only (i := 13) (oi := _) (by kernel_rfl) rfl (by kernel_rfl) (fun K hK => ?_)
          obtain ⟨s0, s1⟩ := row2 B15
          obtain ⟨f0, f1⟩ := frz2 B15
          have l9 := bx_lt B15
          go_simp
          have hlo : W0.heap.size ≤ W2.heap.size := by omega
          refine hK.out _ _ (Below.setCell (Below.setCell X15 (by dsimp only; omega) _) (by dsimp only; omega) _) (fun _ => ?_)
          clear hK K
          refine HL.done (by kernel_rfl) ?_
          have hs9 := heap_set2 (x := .int .i64 (k1 : Int)) (y := (.slice Aa15 (n + 1) ca15)) B15
          have ho9 := own_ne (own_ne O15 NE15 (i := 0) (u := .int .i64 (k1 : Int))) NE15 (i := 1) (u := (.slice Aa15 (n + 1) ca15))
          have hX9 : Below W0.heap.size W0 ((W15.setCell ⟨W2.heap.size, 0, none⟩ (.int .i64 (k1 : Int))).setCell ⟨W2.heap.size, 1, none⟩ (.slice Aa15 (n + 1) ca15)) := Below.setCell (Below.setCell X15 (by dsimp only; omega) _) (by dsimp only; omega) _
          generalize World.setCell (World.setCell W15 _ _) _ _ = WF at *
          go_wp2
          go_meet
          case rel => exact ⟨W2.heap.size, Aa15, ca15, rfl, hs9, ho9, NE15, hX9, hlo⟩
      ·
        go_simp
        have X16 := Below.alloc X1 X1.size (.cells #[.int .i64 0, .slice none 0 0] 53)
        refine hK.out _ _ X16 (fun _ => ?_)
        clear hK K
        try simp only [Act.put, List.getElem_toArray, List.getElem_cons_succ, List.getElem_cons_zero, List.setIfInBounds_toArray, List.set_cons_zero, List.set_cons_succ]
        have a9 := al1 W1 (.cells #[.int .i64 0, .slice none 0 0] 53)
        have y16 := nw1 W1 (.cells #[.int .i64 0, .slice none 0 0] 53)
        have z16 : W1.heap.size < (World.alloc W1 (.cells #[.int .i64 0, .slice none 0 0] 53)).heap.size := by simp
        have u16 : W0.heap.size ≤ W1.heap.size := X1.size
        have O16 := own_belowS O1 a9 (Nat.le_refl _)
        have NE16 : ((.slice (some ⟨wd.heap.size, 0, none⟩) 0 0) : Value).ownBlock ≠ some W1.heap.size := fun h => by have := (O1.lt _ h).2; omega
        clear a9
        generalize hV : World.alloc W1 (.cells #[.int .i64 0, .slice none 0 0] 53) = W16 at *
        clear hV
        refine HL.only (i := 6) (oi := _) (by kernel_rfl) rfl (by kernel_rfl) (fun K hK => ?_)
        refine wp_app _ _ rfl W0.heap.size (.slice (some ⟨wd.heap.size, 0, none⟩) 0 0) 0 _ rfl O16 A n c l B rfl (HX.out.below (b0.trans (X16.mono b0.size)) hBW) hnil (by omega) X16.size n (Nat.zero_add n) ?_
        intro Aa17 ca17 W17 O17 gr17 ba17 at17
        have X17 := Below.trans X16 ba17
        refine hK.out _ _ X17 (fun _ => ?_)
        clear hK K
        try simp only [Act.put, List.getElem_toArray, List.getElem_cons_succ, List.getElem_cons_zero, List.setIfInBounds_toArray, List.set_cons_zero, List.set_cons_succ]
        have l9 := bx_lt y16
        have B17 := (gr17.block _ l9 (fun e => NE16 e.symm)).trans y16
        have NE17 : ((.slice Aa17 n ca17) : Value).ownBlock ≠ some (W1.heap.size) := fun h => by
          rcases at17 with h2 | h2
          · exact NE16 (h2.symm.trans h)
          · rw [h2] at h; have h3 := Option.some.inj h; omega
        clear gr17 ba17 at17
        refine HL.only (i := 8) (oi := _) (by kernel_rfl) rfl (by kernel_rfl) (fun K hK => ?_)
        go_simp
        refine (C8.out W17).mono ?_
        rintro e' W18 ⟨rfl, a9⟩
        have X18 := Below.trans X17 (a9.mono X17.size)
        refine hK.out _ _ X18 (fun _ => ?_)
        clear hK K
        try simp only [Act.put, List.getElem_toArray, List.getElem_cons_succ, List.getElem_cons_zero, List.setIfInBounds_toArray, List.set_cons_zero, List.set_cons_succ]
        have O18 := own_belowS O17 a9 (Nat.le_refl _)
        have B18 := bx B17 a9
        clear a9
        refine HL.only (i := 9) (oi := _) (by kernel_rfl) rfl (by kernel_rfl) (fun K hK => ?_)
        go_simp
        have X19 := Below.alloc X18 X18.size (.cells #[.string d] 9)
        refine hK.out _ _ X19 (fun _ => ?_)
        clear hK K
        try simp only [Act.put, List.getElem_toArray, List.getElem_cons_succ, List.getElem_cons_zero, List.setIfInBounds_toArray, List.set_cons_zero, List.set_cons_succ]
        have a9 := al1 W18 (.cells #[.string d] 9)
        have y19 := nw1 W18 (.cells #[.string d] 9)
        have z19 : W18.heap.size < (World.alloc W18 (.cells #[.string d] 9)).heap.size := by simp
        have u19 : W0.heap.size ≤ W18.heap.size := X18.size
        have O19 := own_belowS O18 a9 (Nat.le_refl _)
        have B19 := bx B18 a9
        clear a9
        generalize hV : World.alloc W18 (.cells #[.string d] 9) = W19 at *
        clear hV
        refine HL.only (i := 10) (oi := _) (by kernel_rfl) rfl (by kernel_rfl) (fun K hK => ?_)
        refine wp_app _ _ rfl W0.heap.size (.slice Aa17 n ca17) n _ rfl O19 (some ⟨W18.heap.size, 0, none⟩) 1 1 [d] W19.heap.size rfl (Rd.own (litRow y19)) (fun h => by cases h) (by omega) X19.size (n + 1) rfl ?_
        intro Aa20 ca20 W20 O20 gr20 ba20 at20
        have X20 := Below.trans X19 ba20
        refine hK.out _ _ X20 (fun _ => ?_)
        clear hK K
        try simp only [Act.put, List.getElem_toArray, List.getElem_cons_succ, List.getElem_cons_zero, List.setIfInBounds_toArray, List.set_cons_zero, List.set_cons_succ]
        have l9 := bx_lt B19
        have B20 := (gr20.block _ l9 (fun e => NE17 e.symm)).trans B19
        have NE20 : ((.slice Aa20 (n + 1) ca20) : Value).ownBlock ≠ some (W1.heap.size) := fun h => by
          rcases at20 with h2 | h2
          · exact NE17 (h2.symm.trans h)
          · rw [h2] at h; have h3 := Option.some.inj h; omega
        clear gr20 ba20 at20
        refine HL.take (i := 11) (W := 13) (T := fun W => Below W0.heap.size W0 W) (oi := _) (v := ?_) rfl (by kernel_rfl) (by kernel_rfl) (by kernel_rfl) (by kernel_rfl) (by kernel_rfl) (fun _ _ _ h => h) (fun _ _ => Iff.rfl) (fun _ _ _ h => h) (Or.inl ⟨by kernel_rfl, ?_⟩) X20 (fun _ => ?_)
        rotate_left
        · intro w' hw'; clear hw'; (first | (go_simp; done) | (go_simp; with_reducible rfl))
        try simp only [Act.put, List.getElem_toArray, List.getElem_cons_succ, List.getElem_cons_zero, List.setIfInBounds_toArray, List.set_cons_zero, List.set_cons_succ]
        refine HL.only (i := 13) (oi := _) (by kernel_rfl) rfl (by kernel_rfl) (fun K hK => ?_)
        obtain ⟨s0, s1⟩ := row2 B20
        obtain ⟨f0, f1⟩ := frz2 B20
        have l9 := bx_lt B20
        go_simp
        have hlo : W0.heap.size ≤ W1.heap.size := by omega
        refine hK.out _ _ (Below.setCell (Below.setCell X20 (by dsimp only; omega) _) (by dsimp only; omega) _) (fun _ => ?_)
        clear hK K
        refine HL.done (by kernel_rfl) ?_
        have hs9 := heap_set2 (x := .int .i64 (k1 : Int)) (y := (.slice Aa20 (n + 1) ca20)) B20
        have ho9 := own_ne (own_ne O20 NE20 (i := 0) (u := .int .i64 (k1 : Int))) NE20 (i := 1) (u := (.slice Aa20 (n + 1) ca20))
        have hX9 : Below W0.heap.size W0 ((W20.setCell ⟨W1.heap.size, 0, none⟩ (.int .i64 (k1 : Int))).setCell ⟨W1.heap.size, 1, none⟩ (.slice Aa20 (n + 1) ca20)) := Below.setCell (Below.setCell X20 (by dsimp only; omega) _) (by dsimp only; omega) _
        generalize World.setCell (World.setCell W20 _ _) _ _ = WF at *
        go_wp2
        go_meet
        case rel => exact ⟨W1.heap.size, Aa20, ca20, rfl, hs9, ho9, NE20, hX9, hlo⟩
    ·
      go_simp
      have X21 := Below.alloc X0 X0.size (.cells #[.int .i64 0, .slice none 0 0] 53)
      refine hK.out _ _ X21 (fun _ => ?_)
      clear hK K
      try simp only [Act.put, List.getElem_toArray, List.getElem_cons_succ, List.getElem_cons_zero, List.setIfInBounds_toArray, List.set_cons_zero, List.set_cons_succ]
      have a9 := al1 wd (.cells #[.int .i64 0, .slice none 0 0] 53)
      have y21 := nw1 wd (.cells #[.int .i64 0, .slice none 0 0] 53)
      have z21 : wd.heap.size < (World.alloc wd (.cells #[.int .i64 0, .slice none 0 0] 53)).heap.size := by simp
      have u21 : W0.heap.size ≤ wd.heap.size := X0.size
      clear a9
      generalize hV : World.alloc wd (.cells #[.int .i64 0, .slice none 0 0] 53) = W21 at *
      clear hV
      refine HL.only (i := 3) (oi := _) (by kernel_rfl) rfl (by kernel_rfl) (fun K hK => ?_)
      go_simp
      have X22 := Below.alloc X21 X21.size (.cells #[] 9)
      refine hK.out _ _ X22 (fun _ => ?_)
      clear hK K
      try simp only [Act.put, List.getElem_toArray, List.getElem_cons_succ, List.getElem_cons_zero, List.setIfInBounds_toArray, List.set_cons_zero, List.set_cons_succ]
      have a9 := al1 W21 (.cells #[] 9)
      have y22 := nw1 W21 (.cells #[] 9)
      have z22 : W21.heap.size < (World.alloc W21 (.cells #[] 9)).heap.size := by simp
      have u22 : W0.heap.size ≤ W21.heap.size := X21.size
      have O22 := World.ownsRow_lit (base := W0.heap.size) (e := 9) (size := 1) W21 #[] 0 X21.size (by unfold maxLen; omega) rfl
      have B22 := bx y21 a9
      have NE22 : ((.slice (some ⟨W21.heap.size, 0, none⟩) 0 0) : Value).ownBlock ≠ some (wd.heap.size) := fun h => by have h1 := bx_lt y21; have h2 : W21.heap.size = wd.heap.size := (by simpa [Value.ownBlock] using h); omega
      clear a9
      generalize hV : World.alloc W21 (.cells #[] 9) = W22 at *
      clear hV
      refine HL.only (i := 6) (oi := _) (by kernel_rfl) rfl (by kernel_rfl) (fun K hK => ?_)
      refine wp_app _ _ rfl W0.heap.size (.slice (some ⟨W21.heap.size, 0, none⟩) 0 0) 0 _ rfl O22 A n c l B rfl (HX.out.below (b0.trans (X22.mono b0.size)) hBW) hnil (by omega) X22.size n (Nat.zero_add n) ?_
      intro Aa23 ca23 W23 O23 gr23 ba23 at23
      have X23 := Below.trans X22 ba23
      refine hK.out _ _ X23 (fun _ => ?_)
      clear hK K
      try simp only [Act.put, List.getElem_toArray, List.getElem_cons_succ, List.getElem_cons_zero, List.setIfInBounds_toArray, List.set_cons_zero, List.set_cons_succ]
      have l9 := bx_lt B22
      have B23 := (gr23.block _ l9 (fun e => NE22 e.symm)).trans B22
      have NE23 : ((.slice Aa23 n ca23) : Value).ownBlock ≠ some (wd.heap.size) := fun h => by
        rcases at23 with h2 | h2
        · exact NE22 (h2.symm.trans h)
        · rw [h2] at h; have h3 := Option.some.inj h; omega
      clear gr23 ba23 at23
      refine HL.only (i := 8) (oi := _) (by kernel_rfl) rfl (by kernel_rfl) (fun K hK => ?_)
      go_simp
      refine (C8.out W23).mono ?_
      rintro e' W24 ⟨rfl, a9⟩
      have X24 := Below.trans X23 (a9.mono X23.size)
      refine hK.out _ _ X24 (fun _ => ?_)
      clear hK K
      try simp only [Act.put, List.getElem_toArray, List.getElem_cons_succ, List.getElem_cons_zero, List.setIfInBounds_toArray, List.set_cons_zero, List.set_cons_succ]
      have O24 := own_belowS O23 a9 (Nat.le_refl _)
      have B24 := bx B23 a9
      clear a9
      refine HL.only (i := 9) (oi := _) (by kernel_rfl) rfl (by kernel_rfl) (fun K hK => ?_)
      go_simp
      have X25 := Below.alloc X24 X24.size (.cells #[.string d] 9)
      refine hK.out _ _ X25 (fun _ => ?_)
      clear hK K
      try simp only [Act.put, List.getElem_toArray, List.getElem_cons_succ, List.getElem_cons_zero, List.setIfInBounds_toArray, List.set_cons_zero, List.set_cons_succ]
      have a9 := al1 W24 (.cells #[.string d] 9)
      have y25 := nw1 W24 (.cells #[.string d] 9)
      have z25 : W24.heap.size < (World.alloc W24 (.cells #[.string d] 9)).heap.size := by simp
      have u25 : W0.heap.size ≤ W24.heap.size := X24.size
      have O25 := own_belowS O24 a9 (Nat.le_refl _)
      have B25 := bx B24 a9
      clear a9
      generalize hV : World.alloc W24 (.cells #[.string d] 9) = W25 at *
      clear hV
      refine HL.only (i := 10) (oi := _) (by kernel_rfl) rfl (by kernel_rfl) (fun K hK => ?_)
      refine wp_app _ _ rfl W0.heap.size (.slice Aa23 n ca23) n _ rfl O25 (some ⟨W24.heap.size, 0, none⟩) 1 1 [d] W25.heap.size rfl (Rd.own (litRow y25)) (fun h => by cases h) (by omega) X25.size (n + 1) rfl ?_
      intro Aa26 ca26 W26 O26 gr26 ba26 at26
      have X26 := Below.trans X25 ba26
      refine hK.out _ _ X26 (fun _ => ?_)
      clear hK K
      try simp only [Act.put, List.getElem_toArray, List.getElem_cons_succ, List.getElem_cons_zero, List.setIfInBounds_toArray, List.set_cons_zero, List.set_cons_succ]
      have l9 := bx_lt B25
      have B26 := (gr26.block _ l9 (fun e => NE23 e.symm)).trans B25
      have NE26 : ((.slice Aa26 (n + 1) ca26) : Value).ownBlock ≠ some (wd.heap.size) := fun h => by
        rcases at26 with h2 | h2
        · exact NE23 (h2.symm.trans h)
        · rw [h2] at h; have h3 := Option.some.inj h; omega
      clear gr26 ba26 at26
      refine HL.take (i := 11) (W := 13) (T := fun W => Below W0.heap.size W0 W) (oi := _) (v := ?_) rfl (by kernel_rfl) (by kernel_rfl) (by kernel_rfl) (by kernel_rfl) (by kernel_rfl) (fun _ _ _ h => h) (fun _ _ => Iff.rfl) (fun _ _ _ h => h) (Or.inl ⟨by kernel_rfl, ?_⟩) X26 (fun _ => ?_)
      rotate_left
      · intro w' hw'; clear hw'; (first | (go_simp; done) | (go_simp; with_reducible rfl))
      try simp only [Act.put, List.getElem_toArray, List.getElem_cons_succ, List.getElem_cons_zero, List.setIfInBounds_toArray, List.set_cons_zero, List.set_cons_succ]
      refine HL.only (i := 13) (oi := _) (by kernel_rfl) rfl (by kernel_rfl) (fun K hK => ?_)
      obtain ⟨s0, s1⟩ := row2 B26
      obtain ⟨f0, f1⟩ := frz2 B26
      have l9 := bx_lt B26
      go_simp
      have hlo : W0.heap.size ≤ wd.heap.size := by omega
      refine hK.out _ _ (Below.setCell (Below.setCell X26 (by dsimp only; omega) _) (by dsimp only; omega) _) (fun _ => ?_)
      clear hK K
      refine HL.done (by kernel_rfl) ?_
      have hs9 := heap_set2 (x := .int .i64 (k1 : Int)) (y := (.slice Aa26 (n + 1) ca26)) B26
      have ho9 := own_ne (own_ne O26 NE26 (i := 0) (u := .int .i64 (k1 : Int))) NE26 (i := 1) (u := (.slice Aa26 (n + 1) ca26))
      have hX9 : Below W0.heap.size W0 ((W26.setCell ⟨wd.heap.size, 0, none⟩ (.int .i64 (k1 : Int))).setCell ⟨wd.heap.size, 1, none⟩ (.slice Aa26 (n + 1) ca26)) := Below.setCell (Below.setCell X26 (by dsimp only; omega) _) (by dsimp only; omega) _
      generalize World.setCell (World.setCell W26 _ _) _ _ = WF at *
      go_wp2
      go_meet
      case rel => exact ⟨wd.heap.size, Aa26, ca26, rfl, hs9, ho9, NE26, hX9, hlo⟩
  case rest =>
    obtain ⟨b, A1, c1, rfl, RB, RO, NE, RX, hbl⟩ := hcut
    have HO1 : Hid (wc.ownsRow W0.heap.size 9 1 (.slice A1 (l ++ [d]).length c1) (l ++ [d]).length (svs (l ++ [d]))) := Lib.hid (by rw [HLL.out, ← HSV.out]; exact RO)
    have HB1 : Hid (wc.heap[b]? = some (.cells #[.int .i64 (k1 : Int), .slice A1 (l ++ [d]).length c1] 53)) := Lib.hid (by rw [HLL.out]; exact RB)
    have NE1 : Hid ((Value.slice A1 (l ++ [d]).length c1).ownBlock ≠ some b) := Lib.hid (by rw [HLL.out]; exact NE)
    have KR := Lib.hid kr
    have hll : (l ++ [d]).length ≤ 1001 := by rw [HLL.out]; omega
    have HL2 := Lib.hid HLL.out.symm
    generalize hls : l ++ [d] = ls at *
    obtain ⟨c0, c1'⟩ := row2 RB
    clear RO NE hls hnil HX ka kr
    go_wp2_with fail
    clear c0 c1' RB
    go_loopw [6] (fun i wr => ∃ (q : List ByteArray) (A2 : Option Addr) (c2 : Nat), i = .int .i64 (q.length : Int) ∧ q.length ≤ 1001 ∧ Hid (fold dig most (q.map tl) = fold dig most (ls.map tl)) ∧ Hid (∀ s ∈ q, s.size = 32) ∧
        Hid (wr.heap[b]? = some (.cells #[.int .i64 (k1 : Int), .slice A2 q.length c2] 53)) ∧ Hid (wr.ownsRow W0.heap.size 9 1 (.slice A2 q.length c2) q.length (svs q)) ∧ Hid ((Value.slice A2 q.length c2).ownBlock ≠ some b) ∧ Below W0.heap.size W0 wr) (fun i _ => (intOf i).toNat)
    case atStart => exact ⟨ls, A1, c1, congrArg (Value.int IntKind.i64) (by have := HL2.out; omega), hll, Lib.hid rfl, H33, HB1, HO1, NE1, RX⟩
    case round =>
      obtain ⟨q, A2, c2, rfl, hq, HQ, HS, RB, RO, NE, hb⟩ := hrel
      clear HB1 HO1 NE1
      obtain ⟨p0, p1⟩ := row2 RB.out
      go_wp2_with fail
      refine (CP.out _).mono ?_
      rintro e' w1 ⟨Ap, cp, rfl, op, b9⟩
      have hb1 := hb.trans (b9.mono hb.size)
      have RB1 := Lib.hid (bx RB.out b9)
      have RO1 := Lib.hid (own_belowS RO.out b9 (Nat.le_refl _))
      clear RB RO op b9 p0 p1 hb
      by_cases hlt : most < q.length
      · obtain ⟨p, a, e, rfl⟩ := two_last q (by omega)
        obtain ⟨g, rfl, hgb⟩ := own_some RO1.out (by simp)
        have h2 : (p ++ [a, e]).length = p.length + 2 := by simp
        rw [h2] at RO1 RB1 NE hlt hq
        rw [h2]
        have ha : a.size = 32 := HS.out a (by simp)
        have he : e.size = 32 := HS.out e (by simp)
        have E1 : Hid (svs (p ++ [a, e]) = svs p ++ [.string a, .string e]) := Lib.hid (by simp [svs])
        rw [E1.out] at RO1
        have lp : (svs p).length = p.length := by simp [svs]
        have ca := RO1.out.cellAt p.length (by omega)
        rw [List.getElem?_append_right (by omega), lp, Nat.sub_self, List.getElem?_cons_zero] at ca
        have ce := RO1.out.cellAt (p.length + 1) (by omega)
        rw [List.getElem?_append_right (by omega), lp, Nat.add_sub_cancel_left, List.getElem?_cons_succ, List.getElem?_cons_zero] at ce
        have hcap : p.length + 2 ≤ c2 := own_cap RO1.out
        have hg : g < w1.heap.size := (RO1.out.lt g rfl).2
        have hgne : g ≠ b := fun h => NE.out (by rw [h]; rfl)
        have PB := Lib.hid (fun W => T8.l8Pair a e W (by omega) (by omega))
        have EQ : Hid (fold dig most ((p ++ [pr a e]).map tl) = fold dig most (ls.map tl)) := Lib.hid (by
          rw [← HQ.out]
          simp only [List.map_append, List.map_cons, List.map_nil, tl_pr]
          exact (fold_step dig most hpc (p.map tl) (tl a) (tl e) (by rw [List.length_map]; omega)).symm)
        have HS2 : Hid (∀ s ∈ p ++ [pr a e], s.size = 32) := Lib.hid (fun s hs => by
          rw [List.mem_append, List.mem_singleton] at hs
          rcases hs with hs | rfl
          · exact HS.out s (by simp [hs])
          · exact pr32 _ _)
        rw [show bs (pairD dig (tl a) (tl e)) = pr a e from rfl] at PB
        have E2 : Hid (svs p ++ svs [pr a e] = svs (p ++ [pr a e])) := Lib.hid (by simp [svs])
        have E3 : Hid ((p ++ [pr a e]).length = p.length + 1) := Lib.hid (by simp)
        generalize hd2 : pr a e = d2 at *
        generalize hq2 : p ++ [d2] = q2 at *
        clear HQ HS E1 h2 hd2 hq2
        generalize hk : p.length = j0 at *
        have HK := Lib.hid hk
        generalize hj1 : j0 + 1 = j1 at *
        generalize hj2 : j0 + 2 = j2 at *
        have J1 := Lib.hid hj1
        have e1' : IntKind.i64.wrap ((j2 : Int) - 1) = (j1 : Int) := by rw [IntKind.wrap_i64]; omega
        have e2' : IntKind.i64.wrap ((j2 : Int) - 2) = (j0 : Int) := by rw [IntKind.wrap_i64]; omega
        have k0 : (0 : Int) ≤ (j0 : Int) := by omega
        have i1 : (j0 : Int) < (j2 : Int) := by omega
        have i2 : (j1 : Int) < (j2 : Int) := by omega
        have i3 : (0 : Int) ≤ (j1 : Int) := by omega
        have i4 : (most : Int) < (j2 : Int) := by omega
        have i5 : j1 < j2 := by omega
        have i8 : (j0 : Int) ≤ (c2 : Int) := by omega
        have i9 : j0 ≤ c2 := by omega
        have i10 : j0 ≤ 1000 := by omega
        have i11 : j0 ≤ j2 := by omega
        clear hj1 hj2 hk
        obtain ⟨p0, p1⟩ := row2 RB1.out
        have RB1D : Hid (w1.drew.heap[b]? = some (.cells #[.int .i64 (k1 : Int), .slice (some ⟨g, 0, none⟩) j2 c2] 53)) := Lib.hid RB1.out
        obtain ⟨q0, q1⟩ := row2 RB1D.out
        have ca' : w1.drew.cell? ⟨g, j0, none⟩ = some (.string a) := ca
        have ce' : w1.drew.cell? ⟨g, j1, none⟩ = some (.string e) := ce
        go_wp2_with fail
        go_region_held3 (fun w' => w'.cell? ⟨b, 1, none⟩ = some (.slice (some ⟨g, 0, none⟩) j2 c2) ∧ w'.cell? ⟨g, j0, none⟩ = some (.string a) ∧ w'.cell? ⟨g, j1, none⟩ = some (.string e))
          (first | (go_keep; done) | (refine ⟨?_, ?_, ?_⟩ <;> with_reducible assumption))
          (first | (go_at_call 99; (with_reducible refine (PB.out _).mono ?_); rintro e' w2 ⟨rfl, b9⟩; have s1 := (row2 (bx RB1D.out b9)).2; have s2 := (b9.cell (p := ⟨g, j0, none⟩) hg).trans ca'; have s3 := (b9.cell (p := ⟨g, j1, none⟩) hg).trans ce'))
        have B2 : Below w1.heap.size w1 w2 := (Below.refl _ w1).drew.trans b9
        have RB2 := Lib.hid (bx RB1.out B2)
        have RO2 := own_belowS RO1.out B2 (Nat.le_refl _)
        have hb2 := hb1.trans (B2.mono hb1.size)
        have OP := Lib.hid (own_prefix (m := j0) RO2 i11 (by rw [lp]; omega))
        clear RO1 RB1 RB1D ca ce ca' ce' p0 p1 q0 q1 s1 s2 s3 b9 B2 PB RO2 hb1
        obtain ⟨p0, p1⟩ := row2 RB2.out
        have l2 := bx_lt RB2.out
        have hs2 := hb2.size
        go_wp2_with (first
          | (at_builtin; (refine wpList_app rfl _ _ rfl W0.heap.size (.slice (some ⟨w2.heap.size, 0, none⟩) 0 0) 0 _ rfl (own_lit0 w2 W0.heap.size hs2) (some ⟨g, 0, none⟩) j0 c2 p _ rfl (Rd.own (own_belowS OP.out (al1 w2 (.cells #[] 9)) (Nat.le_refl _))) (fun h => by cases h) (by omega) (hb2.alloc hs2 _).size j0 (Nat.zero_add _) ?_); intro A3 c3 w3 o3 gr3 ba3 at3; have K3 := (gr3.block b (by simp; omega) (fun h => by simp [Value.ownBlock] at h; omega)).trans (bx RB2.out (al1 w2 (.cells #[] 9))); have l3 := bx_lt K3; have N3 : (Value.slice A3 j0 c3).ownBlock ≠ some b := (fun h => by rcases at3 with h2 | h2 <;> rw [h2] at h <;> simp [Value.ownBlock] at h <;> omega); have X3 := (hb2.alloc hs2 (.cells #[] 9)).trans ba3; have hs3 := X3.size; obtain ⟨r0, r1⟩ := row2 K3)
          | (at_builtin; refine wpList_app rfl _ _ rfl W0.heap.size (.slice A3 j0 c3) j0 _ rfl (own_belowS o3 (al1 w3 (.cells #[.string d2] 9)) (Nat.le_refl _)) (some ⟨w3.heap.size, 0, none⟩) 1 1 [d2] _ rfl (Rd.own (litRow (nw1 w3 (.cells #[.string d2] 9)))) (fun h => by cases h) (by omega) (X3.alloc hs3 _).size j1 J1.out ?_; intro A4 c4 w4 o4 gr4 ba4 at4; have K4 := (gr4.block b (by simp; omega) (fun h => N3 h.symm)).trans (bx K3 (al1 w3 (.cells #[.string d2] 9))); have l4 := bx_lt K4; have N4 : (Value.slice A4 j1 c4).ownBlock ≠ some b := (fun h => by rcases at4 with h2 | h2 <;> rw [h2] at h <;> first | exact N3 h | (simp at h; omega)); have X4 := (X3.alloc hs3 (.cells #[.string d2] 9)).trans ba4; obtain ⟨t0, t1⟩ := row2 K4; obtain ⟨u0, u1⟩ := frz2 K4))
        have RB5 : Hid ((w4.setCell ⟨b, 1, none⟩ (.slice A4 j1 c4)).heap[b]? = some (.cells #[.int .i64 (k1 : Int), .slice A4 q2.length c4] 53)) := Lib.hid (by
          have h := heap_setCell_same w4 b 1 #[.int .i64 (k1 : Int), .slice (some ⟨g, 0, none⟩) j2 c2] 53 (.slice A4 j1 c4) K4
          rw [E3.out]
          simpa using h)
        have RO5 : Hid ((w4.setCell ⟨b, 1, none⟩ (.slice A4 j1 c4)).ownsRow W0.heap.size 9 1 (.slice A4 q2.length c4) q2.length (svs q2)) := Lib.hid (by
          rw [E3.out, ← E2.out]
          exact own_ne o4 N4)
        have NE5 : Hid ((Value.slice A4 q2.length c4).ownBlock ≠ some b) := Lib.hid (by rw [E3.out]; exact N4)
        have X5 : Below W0.heap.size W0 (w4.setCell ⟨b, 1, none⟩ (.slice A4 j1 c4)) := Below.setCell X4 hbl _
        have hq5 : q2.length = j1 := E3.out
        clear o3 o4 N3 N4 K3 K4 gr3 gr4 at3 at4 ba3 ba4 X3 X4 r0 r1 t0 t1 u0 u1
        generalize World.setCell w4 _ _ = W5 at *
        go_roundw
        case rel => exact ⟨q2, A4, c4, congrArg (Value.int IntKind.i64) (by omega), by omega, EQ, HS2, RB5, RO5, NE5, X5⟩
        case measure => simp [intOf]; have h1 := HK.out; have h2 := J1.out; omega
      · have hR : q = res := HM.out q (by
          rw [HPC.out, ← HQ.out, fold_few]; rw [List.length_map]; omega)
        subst hR
        have KR1 := Lib.hid ((hb1.block (w.heap.size + 1) (by omega)).trans KR.out)
        have bF := b0.trans (hb1.mono (by omega))
        have RO2 := Lib.hid (own_base RO1.out (show w.heap.size ≤ W0.heap.size by omega))
        have hF : w.heap.size + 1 ≠ b := by omega
        clear HQ HS HM
        obtain ⟨p0, p1⟩ := row2 RB1.out
        obtain ⟨q0, q1⟩ := row2 KR1.out
        obtain ⟨f0, f1⟩ := frz2 KR1.out
        go_wp2
        obtain ⟨e0, e1''⟩ := row2 (heap_set2 (x := .int .i64 (k1 : Int)) (y := .slice A2 q.length c2) KR1.out)
        refine bodyPost_ret (v := .agg #[.int .i64 (k1 : Int), .slice A2 q.length c2]) (by simp [results, Tryd.results123, go_sem, e0, e1'']) rfl ⟨A2, c2, rfl, ?_, ?_⟩
        · exact own_base (ownsRow_setCell_below (ownsRow_setCell_below RO1.out (by dsimp only; omega) _) (by dsimp only; omega) _) (show w.heap.size ≤ W0.heap.size by omega)
        · exact Below.setCell (Below.setCell bF (Nat.le_succ _) _) (Nat.le_succ _) _
end Go.Proofs.YtmnihigackilkaaDoor.Edt

namespace Go.Proofs.YtmnihigackilkaaDoor.Edu
open Go.ChangeShapes Go.WideShapes Go.ChangeAt Go.RowKit
open Go.Proofs.YtmnihigackilkaaDoor.Mem Go.Proofs.YtmnihigackilkaaDoor.Ints Go.Proofs.YtmnihigackilkaaDoor.Strs Go.Proofs.YtmnihigackilkaaDoor.ShaComp Go.Proofs.YtmnihigackilkaaDoor.Digest Go.Proofs.YtmnihigackilkaaDoor.DigestI Go.Proofs.YtmnihigackilkaaDoor.Mkl Go.Proofs.YtmnihigackilkaaDoor.Slq Go.Proofs.YtmnihigackilkaaDoor.Rec Go.Proofs.YtmnihigackilkaaDoor.T8 Go.Proofs.YtmnihigackilkaaDoor.T8s Go.Proofs.YtmnihigackilkaaDoor.T8i Go.Proofs.YtmnihigackilkaaDoor.Arr Go.Proofs.YtmnihigackilkaaDoor.Edg Go.Proofs.YtmnihigackilkaaDoor.Pop Go.Proofs.YtmnihigackilkaaDoor.Bit Go.Proofs.YtmnihigackilkaaDoor.Pts Go.Proofs.YtmnihigackilkaaDoor.Edq Go.Proofs.YtmnihigackilkaaDoor.Edn Go.Proofs.YtmnihigackilkaaDoor.Edw Go.Proofs.YtmnihigackilkaaDoor.Hl Go.Proofs.YtmnihigackilkaaDoor.Fld Go.Proofs.YtmnihigackilkaaDoor.Fld2 Go.Proofs.YtmnihigackilkaaDoor.Fld3 Go.Proofs.YtmnihigackilkaaDoor.Edp Go.Proofs.YtmnihigackilkaaDoor.Edr Go.Proofs.YtmnihigackilkaaDoor.Eds Go.Proofs.YtmnihigackilkaaDoor.Edt
set_option linter.unusedVariables false
set_option linter.unusedSimpArgs false
set_option maxRecDepth 100000

def okP (m : Int) (l : List ByteArray) (x : ByteArray) : Bool := okE m l && decide (m ≠ 1000000) && decide (x.size ≤ 100)
theorem okP_yes {m : Int} {l : List ByteArray} {x : ByteArray} (h : okP m l x = true) : okE m l = true ∧ m ≠ 1000000 ∧ x.size ≤ 100 := by
  unfold okP at h
  rw [Bool.and_eq_true, Bool.and_eq_true, decide_eq_true_eq, decide_eq_true_eq] at h
  exact ⟨h.1.1, h.1.2, h.2⟩
theorem okP_no {m : Int} {l : List ByteArray} {x : ByteArray} (h : okP m l x = false) : ¬ (okE m l = true ∧ m ≠ 1000000 ∧ x.size ≤ 100) := by
  rintro ⟨h1, h2, h3⟩
  unfold okP at h
  rw [h1, decide_eq_true h2, decide_eq_true h3] at h
  cases h
set_option maxHeartbeats 8000000 in
theorem specPut (m : Int) (A : Option Addr) (n c : Nat) (l : List ByteArray) (x : ByteArray) (B : Nat) (w : World) (hn : n ≤ 1048576) (hln : l.length = n) (hs : ∀ s ∈ l, s.size ≤ maxLen) (hx : x.size ≤ maxLen) (hnil : A = none → n = 0 ∧ c = 0) (hB : B ≤ w.heap.size) (hr : Rd w B 1 A n (svs l)) :
    Calls Tryd.prog 56 #[edV m A n c, .string x] w (Ans (if okP m l x then m + 1 else 0) (if okP m l x then ptL m.toNat l x else []) (okP m l x) w) := by
  have C1 := Lib.hid (fun W (h : Below w.heap.size w W) => specGood m A n c l B W hn hs (Nat.le_trans hB h.size) (hr.below h hB))
  have b0 := al2 w (.cells #[.int .i64 m, .slice A n c] 53) (.cells #[.int .i64 0, .slice none 0 0] 53)
  obtain ⟨ka, kr⟩ := nw2 w (.cells #[.int .i64 m, .slice A n c] 53) (.cells #[.int .i64 0, .slice none 0 0] 53)
  have hx' := hx
  unfold maxLen at hx'
  cases hok : okP m l x
  · rw [if_neg (by simp), if_neg (by simp)]
    have hno := okP_no hok
    unfold edV at *
    by_cases h1 : okE m l = true
    · rw [h1] at C1
      by_cases h3 : x.size ≤ 100
      · have h2 : m = 1000000 := by
          apply Classical.byContradiction
          intro h; exact hno ⟨h1, h, h3⟩
        subst h2
        clear hr hno hs hok
        go_enter Tryd.func56, Tryd.ntmps56
        go_wp2_with fail
        generalize World.alloc (World.alloc w _) _ = W0 at *
        refine (C1.out W0 b0).mono ?_
        rintro e' w1 ⟨rfl, b9⟩
        have b1 := then_ (n := 0) b0 b9
        have ka := bx ka b9
        have kr := bx kr b9
        clear b9 b0
        obtain ⟨p0, p1⟩ := row2 ka
        obtain ⟨c0, c1⟩ := row2 kr
        obtain ⟨f0, f1⟩ := frz2 kr
        go_wp2
        obtain ⟨e0, e1⟩ := row2 (heap_set2 (x := .int .i64 0) (y := .slice none 0 0) kr)
        refine bodyPost_ret (v := .tuple #[.agg #[.int .i64 0, .slice none 0 0], .bool false]) (by simp [results, Tryd.results56, go_sem, e0, e1]) rfl (ansNo false (Below.setCell (Below.setCell b1 (Nat.le_succ _) _) (Nat.le_succ _) _))
      · clear hr hno hs hok
        go_enter Tryd.func56, Tryd.ntmps56
        go_wp2_with fail
        generalize World.alloc (World.alloc w _) _ = W0 at *
        refine (C1.out W0 b0).mono ?_
        rintro e' w1 ⟨rfl, b9⟩
        have b1 := then_ (n := 0) b0 b9
        have ka := bx ka b9
        have kr := bx kr b9
        clear b9 b0
        obtain ⟨p0, p1⟩ := row2 ka
        obtain ⟨c0, c1⟩ := row2 kr
        obtain ⟨f0, f1⟩ := frz2 kr
        go_wp2
        obtain ⟨e0, e1⟩ := row2 (heap_set2 (x := .int .i64 0) (y := .slice none 0 0) kr)
        refine bodyPost_ret (v := .tuple #[.agg #[.int .i64 0, .slice none 0 0], .bool false]) (by simp [results, Tryd.results56, go_sem, e0, e1]) rfl (ansNo false (Below.setCell (Below.setCell b1 (Nat.le_succ _) _) (Nat.le_succ _) _))
    · rw [Bool.eq_false_iff.2 h1] at C1
      clear hr hno hs hok
      go_enter Tryd.func56, Tryd.ntmps56
      go_wp2_with fail
      generalize World.alloc (World.alloc w _) _ = W0 at *
      refine (C1.out W0 b0).mono ?_
      rintro e' w1 ⟨rfl, b9⟩
      have b1 := then_ (n := 0) b0 b9
      have ka := bx ka b9
      have kr := bx kr b9
      clear b9 b0
      obtain ⟨p0, p1⟩ := row2 ka
      obtain ⟨c0, c1⟩ := row2 kr
      obtain ⟨f0, f1⟩ := frz2 kr
      go_wp2
      obtain ⟨e0, e1⟩ := row2 (heap_set2 (x := .int .i64 0) (y := .slice none 0 0) kr)
      refine bodyPost_ret (v := .tuple #[.agg #[.int .i64 0, .slice none 0 0], .bool false]) (by simp [results, Tryd.results56, go_sem, e0, e1]) rfl (ansNo false (Below.setCell (Below.setCell b1 (Nat.le_succ _) _) (Nat.le_succ _) _))
  · rw [if_pos rfl, if_pos rfl]
    obtain ⟨h1, h2, h3⟩ := okP_yes hok
    rw [h1] at C1
    obtain ⟨k, rfl, hk, h32, hl⟩ := okE_yes h1
    have hpk : n ≤ 21 := by rw [← hln, hl]; exact pc_le21 k hk
    have CP := Lib.hid (fun W (h : Below w.heap.size w W) => l9Put k A n c l x B W (by omega) (by omega) hln h32 (by omega) hnil (Nat.le_trans hB h.size) (hr.below h hB))
    rw [Int.toNat_natCast]
    have n1 : ((k : Int) == 1000000) = false := by rw [beq_eq_false_iff_ne]; omega
    have hrl : (ptL k l x).length ≤ 21 := by rw [ptL_len k l x hl]; exact pc_le21 _ (by omega)
    rw [show ((k : Int) + 1) = ((k + 1 : Nat) : Int) from by omega]
    generalize ptL k l x = res at *
    generalize k + 1 = k1 at *
    unfold Ans edV at *
    clear hr hs hok h1 hl h32 hnil hln
    go_enter Tryd.func56, Tryd.ntmps56
    go_wp2_with fail
    generalize World.alloc (World.alloc w _) _ = W0 at *
    refine (C1.out W0 b0).mono ?_
    rintro e' w1 ⟨rfl, b9⟩
    have b1 := then_ (n := 0) b0 b9
    have ka := bx ka b9
    have kr := bx kr b9
    clear b9 b0
    obtain ⟨p0, p1⟩ := row2 ka
    obtain ⟨c0, c1⟩ := row2 kr
    obtain ⟨f0, f1⟩ := frz2 kr
    clear c0 c1 f0 f1
    go_wp2_with fail
    refine (CP.out w1 b1).mono ?_
    rintro e' w2 ⟨A2, c2, rfl, o2, b9⟩
    have b2 := then_ (n := 0) b1 b9
    have kr2 := bx kr b9
    have s1 := b1.size
    have O2 := Lib.hid (own_base o2 (show w.heap.size + 1 + 1 ≤ w1.heap.size from by have := bx_lt kr; omega))
    clear b9 o2 b1 CP kr p0 p1 ka
    obtain ⟨c0, c1⟩ := row2 kr2
    obtain ⟨f0, f1⟩ := frz2 kr2
    go_wp2
    obtain ⟨e0, e1⟩ := row2 (heap_set2 (x := .int .i64 (k1 : Int)) (y := .slice A2 res.length c2) kr2)
    refine bodyPost_ret (v := .tuple #[.agg #[.int .i64 (k1 : Int), .slice A2 res.length c2], .bool true]) (by simp [results, Tryd.results56, go_sem, e0, e1]) rfl ⟨A2, c2, rfl, ?_, ?_⟩
    · exact own_base (ownsRow_setCell_below (ownsRow_setCell_below O2.out (by dsimp only; omega) _) (by dsimp only; omega) _) (show w.heap.size ≤ w.heap.size + 1 + 1 by omega)
    · exact Below.setCell (Below.setCell b2 (Nat.le_succ _) _) (Nat.le_succ _) _
theorem implPut (m : Int) (A : Option Addr) (n c : Nat) (l : List ByteArray) (x : ByteArray) (B : Nat) (w : World) (hn : n ≤ 1048576) (hln : l.length = n) (hs : ∀ s ∈ l, s.size ≤ maxLen) (hx : x.size ≤ maxLen) (hB : B ≤ w.heap.size) (hr : Rd w B 1 A n (svs l)) (hT : Tbl w) :
    Calls Tryd.prog 55 #[edV m A n c, .string x] w (Ans (if okP m l x then m + 1 else 0) (if okP m l x then ptL m.toNat l x else []) (okP m l x) w) := by
  cases hok : okP m l x
  · exact implPutNo m A n c l x B w hn hs hx (okP_no hok) hB hr
  · rw [if_pos rfl, if_pos rfl]
    obtain ⟨h1, h2, h3⟩ := okP_yes hok
    obtain ⟨k, rfl, hk, h32, hl⟩ := okE_yes h1
    rw [show ((k : Int) + 1) = ((k + 1 : Nat) : Int) from by omega, Int.toNat_natCast]
    subst hln
    exact implPutYes k A c l x B w (by omega) hl h32 h3 hB hr hT
end Go.Proofs.YtmnihigackilkaaDoor.Edu

namespace Go.Proofs.YtmnihigackilkaaDoor.Edo
open Go.ChangeShapes Go.WideShapes Go.ChangeAt Go.RowKit
open Go.Proofs.YtmnihigackilkaaDoor.Mem Go.Proofs.YtmnihigackilkaaDoor.Ints Go.Proofs.YtmnihigackilkaaDoor.Strs Go.Proofs.YtmnihigackilkaaDoor.ShaComp Go.Proofs.YtmnihigackilkaaDoor.Digest Go.Proofs.YtmnihigackilkaaDoor.DigestI Go.Proofs.YtmnihigackilkaaDoor.Mkl Go.Proofs.YtmnihigackilkaaDoor.Slq Go.Proofs.YtmnihigackilkaaDoor.Rec Go.Proofs.YtmnihigackilkaaDoor.T8 Go.Proofs.YtmnihigackilkaaDoor.T8s Go.Proofs.YtmnihigackilkaaDoor.T8i Go.Proofs.YtmnihigackilkaaDoor.Edg Go.Proofs.YtmnihigackilkaaDoor.Pop Go.Proofs.YtmnihigackilkaaDoor.Bit Go.Proofs.YtmnihigackilkaaDoor.Pts Go.Proofs.YtmnihigackilkaaDoor.Edq Go.Proofs.YtmnihigackilkaaDoor.Edn Go.Proofs.YtmnihigackilkaaDoor.Edw Go.Proofs.YtmnihigackilkaaDoor.Edp Go.Proofs.YtmnihigackilkaaDoor.Edt Go.Proofs.YtmnihigackilkaaDoor.Edu
set_option linter.unusedVariables false
set_option linter.unusedSimpArgs false
set_option maxRecDepth 100000

/-- The frontier of a list. -/
def edL (l : List ByteArray) : List ByteArray := (edge dig (l.map tl)).map bs
theorem edge_all : ∀ (b : Nat) (l : List (List UInt8)), l.length ≤ b → ∀ s ∈ edge dig l, s.length = 32 := by
  intro b
  induction b with
  | zero => intro l h s hs
            have : l = [] := List.eq_nil_of_length_eq_zero (by omega)
            subst this; rw [edge_nil] at hs; cases hs
  | succ b ih =>
    intro l h s hs
    by_cases h0 : l.length = 0
    · have : l = [] := List.eq_nil_of_length_eq_zero h0
      subst this; rw [edge_nil] at hs; cases hs
    · have ht := top_lt (show 1 ≤ l.length by omega)
      rw [edge_pos dig l (by omega)] at hs
      rcases List.mem_cons.1 hs with rfl | hs
      · exact root_len dig dig32 _
      · exact ih _ (by rw [List.length_drop]; omega) s hs
theorem edL_32 (l : List ByteArray) : ∀ s ∈ edL l, s.size = 32 := by
  intro s hs
  obtain ⟨y, hy, rfl⟩ := List.mem_map.1 hs
  rw [bs_size]
  exact edge_all _ _ (Nat.le_refl _) y hy
theorem edL_len (l : List ByteArray) : (edL l).length = pc l.length := by
  unfold edL
  rw [List.length_map, edge_len dig _ _ (Nat.le_refl _), List.length_map]
theorem edL_nil : edL [] = [] := by unfold edL; rw [List.map_nil, edge_nil]; rfl
theorem edL_put (l : List ByteArray) (k : Nat) (h : k < l.length) : ptL k (edL (l.take k)) l[k] = edL (l.take (k + 1)) := by
  unfold ptL edL
  rw [map_tl_bs, List.take_succ_eq_append_getElem h, List.map_append, List.map_cons, List.map_nil, edge_put dig _ _ _ (Nat.le_refl _), List.length_map, List.length_take, Nat.min_eq_left (by omega)]
theorem okE_edL (l : List ByteArray) (k : Nat) (hk : k ≤ l.length) (h : l.length ≤ 1000000) : okE (k : Int) (edL (l.take k)) = true :=
  okE_of k _ (by omega) (edL_32 _) (by rw [edL_len, List.length_take, Nat.min_eq_left hk])
theorem okP_edL (l : List ByteArray) (k : Nat) (hk : k < l.length) (h : l.length ≤ 20) (hx : l[k].size ≤ 100) : okP (k : Int) (edL (l.take k)) l[k] = true := by
  unfold okP
  rw [okE_edL l k (by omega) (by omega), decide_eq_true hx, decide_eq_true (show (k : Int) ≠ 1000000 by omega)]; rfl
theorem edL_pc (l : List ByteArray) (k : Nat) (hk : k ≤ l.length) : (edL (l.take k)).length = pc k := by
  rw [edL_len, List.length_take, Nat.min_eq_left hk]
theorem own_null {w : World} {base e n c : Nat} {A : Option Addr} {xs : List Value} (h : w.ownsRow base e 1 (.slice A n c) n xs) : A = none → n = 0 ∧ c = 0 := by
  intro hA
  subst hA
  rcases h.2 with ⟨hv, h0⟩ | ⟨g, cap, cur, hv, -⟩
  · simp only [Value.slice.injEq] at hv
    exact ⟨h0, hv.2.2⟩
  · simp at hv
theorem keep_box {W : World} {b b2 : Nat} {o : Obj} (K : W.heap[b]? = some o) (hlt : b < b2) (x y : Value) : ((W.setCell ⟨b2, 0, none⟩ x).setCell ⟨b2, 1, none⟩ y).heap[b]? = some o :=
  ((Below.setCell (Below.setCell (Below.refl b2 W) (Nat.le_refl _) _) (Nat.le_refl _) _).block b hlt).trans K
theorem stepImpl (l : List ByteArray) (k : Nat) (hl : k < l.length) (h20 : l.length ≤ 20) (hx : l[k].size ≤ 100) (A : Option Addr) (c B : Nat) (w : World) (hB : B ≤ w.heap.size) (hr : Rd w B 1 A (edL (l.take k)).length (svs (edL (l.take k)))) (hT : Tbl w) :
    Calls Tryd.prog 55 #[edV k A (edL (l.take k)).length c, .string l[k]] w (Ans ((k + 1 : Nat) : Int) (edL (l.take (k + 1))) true w) := by
  have h := implPutYes k A c (edL (l.take k)) l[k] B w (by omega) (edL_pc l k (by omega)) (edL_32 _) hx hB hr hT
  rwa [edL_put l k hl] at h
set_option maxHeartbeats 8000000 in
theorem implOfYes (A : Option Addr) (n c : Nat) (l : List ByteArray) (B : Nat) (w : World) (hln : l.length = n) (hok : okL l = true) (hB : B ≤ w.heap.size) (hr : Rd w B 1 A n (svs l)) (hT : Tbl w) :
    Calls Tryd.prog 40 #[.slice A n c] w (Ans (n : Int) (edL l) true w) := by
  obtain ⟨hlv, h20⟩ := okL_yes hok
  have C1 := Lib.hid (fun W (h : Below w.heap.size w W) => T8i.areLeaves A n c l B W (by omega) (fun s hs => by have := hlv s hs; unfold maxLen; omega) (hr.below h hB))
  rw [hok] at C1
  have HLV := Lib.hid hlv
  have HX := Lib.hid hr
  have HT := Lib.hid hT
  have b0 := al2 w (.cells #[.int .i64 0, .slice none 0 0] 53) (.cells #[.int .i64 0, .slice none 0 0] 53)
  obtain ⟨kq, kr⟩ := nw2 w (.cells #[.int .i64 0, .slice none 0 0] 53) (.cells #[.int .i64 0, .slice none 0 0] 53)
  clear hr hT hok hlv
  subst hln
  unfold Ans edV
  go_enter Tryd.func40, Tryd.ntmps40
  go_wp2_with fail
  refine (C1.out _ (al1 w _)).mono ?_
  rintro e' w' ⟨rfl, rfl⟩
  clear C1
  go_wp2_with fail
  generalize World.alloc (World.alloc w _) _ = W0 at *
  go_loopw [13] (fun i wr => ∃ (k : Nat) (A' : Option Addr) (c' : Nat), k ≤ l.length ∧ i = .int .i64 k ∧ wr.heap[w.heap.size]? = some (.cells #[.int .i64 0, .slice none 0 0] 53) ∧ wr.heap[w.heap.size + 1]? = some (.cells #[.int .i64 k, .slice A' (edL (l.take k)).length c'] 53) ∧ Hid (wr.ownsRow (w.heap.size + 1 + 1) 9 1 (.slice A' (edL (l.take k)).length c') (edL (l.take k)).length (svs (edL (l.take k)))) ∧ Below w.heap.size w wr) (fun i _ => l.length - (intOf i).toNat)
  case atStart => exact ⟨0, none, 0, by omega, rfl, kq, by rw [List.take_zero, edL_nil]; exact kr, Lib.hid (by rw [List.take_zero, edL_nil]; exact World.ownsRow_nil _ _ _ _), b0⟩
  case round =>
    obtain ⟨k, A', c', hk, rfl, kq', kr', HO, hb⟩ := hrel
    clear kq kr b0
    have hsz := hb.size
    have hlt2 := bx_lt kr'
    by_cases hlt : k < l.length
    · obtain ⟨b, off, hl, rfl, _, hc⟩ := rd_str (HX.out.below hb hB) hlt
      have hx := HLV.out _ (List.getElem_mem hl)
      have K := (stepImpl l k hl h20 hx A' c' wr.heap.size wr (Nat.le_refl _) (Rd.own HO.out) (HT.out.below hb))
      have i0 : (0 : Int) ≤ (k : Int) := by omega
      have i1 : (k : Int) < (l.length : Int) := by omega
      obtain ⟨k1, hk1⟩ : ∃ k1, k + 1 = k1 := ⟨_, rfl⟩
      obtain ⟨q2, hq2⟩ : ∃ q2, edL (l.take k1) = q2 := ⟨_, rfl⟩
      rw [hk1, hq2] at K
      have HK1 := Lib.hid hk1
      have K := Lib.hid K
      have HQ2 := Lib.hid hq2
      clear hq2 hk1
      generalize edL (l.take k) = q at *
      generalize l[k] = x at *
      obtain ⟨p0, p1⟩ := row2 kr'
      unfold Ans edV at K
      clear HX HT HLV hx HO
      go_wp2_with fail
      refine K.out.mono ?_
      rintro e' w2 ⟨A2, c2, rfl, o2, b9⟩
      have hb2 := then_ (n := 0) hb b9
      have kq2 := bx kq' b9
      have kr2 := bx kr' b9
      have O2 := Lib.hid (own_base o2 (show w.heap.size + 1 + 1 ≤ wr.heap.size from by omega))
      clear b9 o2 K p0 p1 kq' kr' hc hb
      obtain ⟨c0, c1⟩ := row2 kr2
      obtain ⟨f0, f1⟩ := frz2 kr2
      go_wp2
      have hkq : (((w2.setCell ⟨w.heap.size + 1, 0, none⟩ (.int .i64 (k1 : Int))).setCell ⟨w.heap.size + 1, 1, none⟩ (.slice A2 q2.length c2)).heap[w.heap.size]? = some (.cells #[.int .i64 0, .slice none 0 0] 53)) := keep_box kq2 (by omega) _ _
      have hkr := heap_set2 (x := .int .i64 (k1 : Int)) (y := .slice A2 q2.length c2) kr2
      have hO3 := ownsRow_setCell_below (ownsRow_setCell_below O2.out (by dsimp only; omega) (a := ⟨w.heap.size + 1, 0, none⟩) (.int .i64 (k1 : Int))) (by dsimp only; omega) (a := ⟨w.heap.size + 1, 1, none⟩) (.slice A2 q2.length c2)
      have hb3 : Below w.heap.size w ((w2.setCell ⟨w.heap.size + 1, 0, none⟩ (.int .i64 (k1 : Int))).setCell ⟨w.heap.size + 1, 1, none⟩ (.slice A2 q2.length c2)) := Below.setCell (Below.setCell hb2 (Nat.le_succ _) _) (Nat.le_succ _) _
      clear c0 c1 f0 f1 kq2 kr2 O2 hb2
      generalize (w2.setCell ⟨w.heap.size + 1, 0, none⟩ (.int .i64 (k1 : Int))).setCell ⟨w.heap.size + 1, 1, none⟩ (.slice A2 q2.length c2) = w3 at *
      go_roundw
      case rel => exact ⟨k1, A2, c2, by have := HK1.out; omega, by rw [← HK1.out]; go_num, hkq, by rw [HQ2.out]; exact hkr, Lib.hid (by rw [HQ2.out]; exact hO3), hb3⟩
      case measure => simp [intOf]; omega
    · obtain rfl : k = l.length := by omega
      rw [List.take_length] at *
      obtain ⟨p0, p1⟩ := row2 kr'
      obtain ⟨f0, f1⟩ := frz2 kq'
      obtain ⟨c0, c1⟩ := row2 kq'
      clear HX HT HLV
      go_wp2
      obtain ⟨e0, e1⟩ := row2 (heap_set2 (x := .int .i64 (l.length : Int)) (y := .slice A' (edL l).length c') kq')
      refine bodyPost_ret (v := .tuple #[.agg #[.int .i64 (l.length : Int), .slice A' (edL l).length c'], .bool true]) (by simp [results, Tryd.results40, go_sem, e0, e1]) rfl ⟨A', c', rfl, ?_, ?_⟩
      · exact own_base (ownsRow_setCell_below (ownsRow_setCell_below HO.out (by dsimp only; omega) _) (by dsimp only; omega) _) (show w.heap.size ≤ w.heap.size + 1 + 1 by omega)
      · exact Below.setCell (Below.setCell hb (Nat.le_refl _) _) (Nat.le_refl _) _
theorem implOfNo (A : Option Addr) (n c : Nat) (l : List ByteArray) (B : Nat) (w : World) (hn : n ≤ 1048576) (hs : ∀ s ∈ l, s.size ≤ maxLen) (hok : okL l = false) (hB : B ≤ w.heap.size) (hr : Rd w B 1 A n (svs l)) :
    Calls Tryd.prog 40 #[.slice A n c] w (Ans 0 [] false w) := by
  have C1 := Lib.hid (fun W (h : Below w.heap.size w W) => T8i.areLeaves A n c l B W hn hs (hr.below h hB))
  rw [hok] at C1
  have b0 := al1 w (.cells #[.int .i64 0, .slice none 0 0] 53)
  have kr := nw1 w (.cells #[.int .i64 0, .slice none 0 0] 53)
  clear hr hok hs
  go_enter Tryd.func40, Tryd.ntmps40
  go_wp2_with fail
  refine (C1.out _ (al1 w _)).mono ?_
  rintro e' w' ⟨rfl, rfl⟩
  clear C1
  generalize World.alloc w _ = W0 at *
  obtain ⟨c0, c1⟩ := row2 kr
  obtain ⟨f0, f1⟩ := frz2 kr
  go_wp2
  obtain ⟨e0, e1⟩ := row2 (heap_set2 (x := .int .i64 0) (y := .slice none 0 0) kr)
  refine bodyPost_ret (v := .tuple #[.agg #[.int .i64 0, .slice none 0 0], .bool false]) (by simp [results, Tryd.results40, go_sem, e0, e1]) rfl (ansNo false (Below.setCell (Below.setCell b0 (Nat.le_refl _) _) (Nat.le_refl _) _))
theorem stepSpec (l : List ByteArray) (k : Nat) (hl : k < l.length) (h20 : l.length ≤ 20) (hx : l[k].size ≤ 100) (A : Option Addr) (c B : Nat) (w : World) (hB : B ≤ w.heap.size) (hnil : A = none → (edL (l.take k)).length = 0 ∧ c = 0) (hr : Rd w B 1 A (edL (l.take k)).length (svs (edL (l.take k)))) :
    Calls Tryd.prog 123 #[edV k A (edL (l.take k)).length c, .string l[k]] w fun e w' => ∃ A' c', e = .returned (edV ((k + 1 : Nat) : Int) A' (edL (l.take (k + 1))).length c') ∧ w'.ownsRow w.heap.size 9 1 (.slice A' (edL (l.take (k + 1))).length c') (edL (l.take (k + 1))).length (svs (edL (l.take (k + 1)))) ∧ Below w.heap.size w w' := by
  have h := l9Put k A (edL (l.take k)).length c (edL (l.take k)) l[k] B w (by omega) (by rw [edL_pc l k (by omega)]; exact Nat.le_trans (pc_le21 k (by omega)) (by omega)) rfl (edL_32 _) (by omega) hnil hB hr
  rwa [edL_put l k hl] at h
set_option maxHeartbeats 8000000 in
theorem l9Of (A : Option Addr) (n c : Nat) (l : List ByteArray) (B : Nat) (w : World) (hln : l.length = n) (hok : okL l = true) (hB : B ≤ w.heap.size) (hr : Rd w B 1 A n (svs l)) :
    Calls Tryd.prog 108 #[.slice A n c] w fun e w' => ∃ A' c', e = .returned (edV (n : Int) A' (edL l).length c') ∧ w'.ownsRow w.heap.size 9 1 (.slice A' (edL l).length c') (edL l).length (svs (edL l)) ∧ Below w.heap.size w w' := by
  obtain ⟨hlv, h20⟩ := okL_yes hok
  have HLV := Lib.hid hlv
  have HX := Lib.hid hr
  have b0 := al2 w (.cells #[.int .i64 0, .slice none 0 0] 53) (.cells #[.int .i64 0, .slice none 0 0] 53)
  obtain ⟨kq, kr⟩ := nw2 w (.cells #[.int .i64 0, .slice none 0 0] 53) (.cells #[.int .i64 0, .slice none 0 0] 53)
  clear hr hok hlv
  subst hln
  unfold edV
  go_enter Tryd.func108, Tryd.ntmps108
  go_wp2_with fail
  generalize World.alloc (World.alloc w _) _ = W0 at *
  go_loopw [8] (fun i wr => ∃ (k : Nat) (A' : Option Addr) (c' : Nat), k ≤ l.length ∧ i = .int .i64 k ∧ wr.heap[w.heap.size]? = some (.cells #[.int .i64 0, .slice none 0 0] 53) ∧ wr.heap[w.heap.size + 1]? = some (.cells #[.int .i64 k, .slice A' (edL (l.take k)).length c'] 53) ∧ Hid (wr.ownsRow (w.heap.size + 1 + 1) 9 1 (.slice A' (edL (l.take k)).length c') (edL (l.take k)).length (svs (edL (l.take k)))) ∧ Below w.heap.size w wr) (fun i _ => l.length - (intOf i).toNat)
  case atStart => exact ⟨0, none, 0, by omega, rfl, kq, by rw [List.take_zero, edL_nil]; exact kr, Lib.hid (by rw [List.take_zero, edL_nil]; exact World.ownsRow_nil _ _ _ _), b0⟩
  case round =>
    obtain ⟨k, A', c', hk, rfl, kq', kr', HO, hb⟩ := hrel
    clear kq kr b0
    have hsz := hb.size
    have hlt2 := bx_lt kr'
    by_cases hlt : k < l.length
    · obtain ⟨b, off, hl, rfl, _, hc⟩ := rd_str (HX.out.below hb hB) hlt
      have hx := HLV.out _ (List.getElem_mem hl)
      have K := (stepSpec l k hl h20 hx A' c' wr.heap.size wr (Nat.le_refl _) (own_null HO.out) (Rd.own HO.out))
      have i0 : (0 : Int) ≤ (k : Int) := by omega
      have i1 : (k : Int) < (l.length : Int) := by omega
      obtain ⟨k1, hk1⟩ : ∃ k1, k + 1 = k1 := ⟨_, rfl⟩
      obtain ⟨q2, hq2⟩ : ∃ q2, edL (l.take k1) = q2 := ⟨_, rfl⟩
      rw [hk1, hq2] at K
      have HK1 := Lib.hid hk1
      have K := Lib.hid K
      have HQ2 := Lib.hid hq2
      clear hq2 hk1
      generalize edL (l.take k) = q at *
      generalize l[k] = x at *
      obtain ⟨p0, p1⟩ := row2 kr'
      unfold edV at K
      clear HX HLV hx HO
      go_wp2_with fail
      refine K.out.mono ?_
      rintro e' w2 ⟨A2, c2, rfl, o2, b9⟩
      have hb2 := then_ (n := 0) hb b9
      have kq2 := bx kq' b9
      have kr2 := bx kr' b9
      have O2 := Lib.hid (own_base o2 (show w.heap.size + 1 + 1 ≤ wr.heap.size from by omega))
      clear b9 o2 K p0 p1 kq' kr' hc hb
      obtain ⟨c0, c1⟩ := row2 kr2
      obtain ⟨f0, f1⟩ := frz2 kr2
      go_wp2
      have hkq : (((w2.setCell ⟨w.heap.size + 1, 0, none⟩ (.int .i64 (k1 : Int))).setCell ⟨w.heap.size + 1, 1, none⟩ (.slice A2 q2.length c2)).heap[w.heap.size]? = some (.cells #[.int .i64 0, .slice none 0 0] 53)) := keep_box kq2 (by omega) _ _
      have hkr := heap_set2 (x := .int .i64 (k1 : Int)) (y := .slice A2 q2.length c2) kr2
      have hO3 := ownsRow_setCell_below (ownsRow_setCell_below O2.out (by dsimp only; omega) (a := ⟨w.heap.size + 1, 0, none⟩) (.int .i64 (k1 : Int))) (by dsimp only; omega) (a := ⟨w.heap.size + 1, 1, none⟩) (.slice A2 q2.length c2)
      have hb3 : Below w.heap.size w ((w2.setCell ⟨w.heap.size + 1, 0, none⟩ (.int .i64 (k1 : Int))).setCell ⟨w.heap.size + 1, 1, none⟩ (.slice A2 q2.length c2)) := Below.setCell (Below.setCell hb2 (Nat.le_succ _) _) (Nat.le_succ _) _
      clear c0 c1 f0 f1 kq2 kr2 O2 hb2
      generalize (w2.setCell ⟨w.heap.size + 1, 0, none⟩ (.int .i64 (k1 : Int))).setCell ⟨w.heap.size + 1, 1, none⟩ (.slice A2 q2.length c2) = w3 at *
      go_roundw
      case rel => exact ⟨k1, A2, c2, by have := HK1.out; omega, by rw [← HK1.out]; go_num, hkq, by rw [HQ2.out]; exact hkr, Lib.hid (by rw [HQ2.out]; exact hO3), hb3⟩
      case measure => simp [intOf]; omega
    · obtain rfl : k = l.length := by omega
      rw [List.take_length] at *
      obtain ⟨p0, p1⟩ := row2 kr'
      obtain ⟨f0, f1⟩ := frz2 kq'
      obtain ⟨c0, c1⟩ := row2 kq'
      clear HX HLV
      go_wp2
      obtain ⟨e0, e1⟩ := row2 (heap_set2 (x := .int .i64 (l.length : Int)) (y := .slice A' (edL l).length c') kq')
      refine bodyPost_ret (v := .agg #[.int .i64 (l.length : Int), .slice A' (edL l).length c']) (by simp [results, Tryd.results108, go_sem, e0, e1]) rfl ⟨A', c', rfl, ?_, ?_⟩
      · exact own_base (ownsRow_setCell_below (ownsRow_setCell_below HO.out (by dsimp only; omega) _) (by dsimp only; omega) _) (show w.heap.size ≤ w.heap.size + 1 + 1 by omega)
      · exact Below.setCell (Below.setCell hb (Nat.le_refl _) _) (Nat.le_refl _) _
theorem specOf (A : Option Addr) (n c : Nat) (l : List ByteArray) (B : Nat) (w : World) (hn : n ≤ 1048576) (hs : ∀ s ∈ l, s.size ≤ maxLen) (hln : l.length = n) (hB : B ≤ w.heap.size) (hr : Rd w B 1 A n (svs l)) :
    Calls Tryd.prog 41 #[.slice A n c] w (Ans (if okL l then (n : Int) else 0) (if okL l then edL l else []) (okL l) w) := by
  have C1 := Lib.hid (fun W (h : Below w.heap.size w W) => T8i.l8Leaves A n c l B W hn hs (hr.below h hB))
  have b0 := al1 w (.cells #[.int .i64 0, .slice none 0 0] 53)
  have kr := nw1 w (.cells #[.int .i64 0, .slice none 0 0] 53)
  cases hok : okL l
  · rw [hok] at C1
    rw [if_neg (by simp), if_neg (by simp)]
    clear hr hok hs
    go_enter Tryd.func41, Tryd.ntmps41
    go_wp2_with fail
    refine (C1.out _ (al1 w _)).mono ?_
    rintro e' w' ⟨rfl, rfl⟩
    clear C1
    generalize World.alloc w _ = W0 at *
    obtain ⟨c0, c1⟩ := row2 kr
    obtain ⟨f0, f1⟩ := frz2 kr
    go_wp2
    obtain ⟨e0, e1⟩ := row2 (heap_set2 (x := .int .i64 0) (y := .slice none 0 0) kr)
    refine bodyPost_ret (v := .tuple #[.agg #[.int .i64 0, .slice none 0 0], .bool false]) (by simp [results, Tryd.results41, go_sem, e0, e1]) rfl (ansNo false (Below.setCell (Below.setCell b0 (Nat.le_refl _) _) (Nat.le_refl _) _))
  · rw [if_pos rfl, if_pos rfl]
    have C2 := Lib.hid (fun W (h : Below w.heap.size w W) => l9Of A n c l B W hln hok (Nat.le_trans hB h.size) (hr.below h hB))
    rw [hok] at C1
    generalize edL l = q at *
    unfold Ans edV at *
    clear hr hok hs
    go_enter Tryd.func41, Tryd.ntmps41
    go_wp2_with fail
    refine (C1.out _ (al1 w _)).mono ?_
    rintro e' w' ⟨rfl, rfl⟩
    clear C1
    generalize World.alloc w _ = W0 at *
    have hlt := bx_lt kr
    go_wp2_with fail
    refine (C2.out W0 b0).mono ?_
    rintro e' w2 ⟨A2, c2, rfl, o2, b9⟩
    have b2 := then_ (n := 0) b0 b9
    have kr2 := bx kr b9
    have O2 := Lib.hid (own_base o2 (show w.heap.size + 1 ≤ W0.heap.size from by omega))
    clear b9 o2 C2 kr b0
    obtain ⟨c0, c1⟩ := row2 kr2
    obtain ⟨f0, f1⟩ := frz2 kr2
    go_wp2
    obtain ⟨e0, e1⟩ := row2 (heap_set2 (x := .int .i64 (n : Int)) (y := .slice A2 q.length c2) kr2)
    refine bodyPost_ret (v := .tuple #[.agg #[.int .i64 (n : Int), .slice A2 q.length c2], .bool true]) (by simp [results, Tryd.results41, go_sem, e0, e1]) rfl ⟨A2, c2, rfl, ?_, ?_⟩
    · exact own_base (ownsRow_setCell_below (ownsRow_setCell_below O2.out (by dsimp only; omega) _) (by dsimp only; omega) _) (Nat.le_succ _)
    · exact Below.setCell (Below.setCell b2 (Nat.le_refl _) _) (Nat.le_refl _) _
theorem implOf (A : Option Addr) (n c : Nat) (l : List ByteArray) (B : Nat) (w : World) (hn : n ≤ 1048576) (hs : ∀ s ∈ l, s.size ≤ maxLen) (hln : l.length = n) (hB : B ≤ w.heap.size) (hr : Rd w B 1 A n (svs l)) (hT : Tbl w) :
    Calls Tryd.prog 40 #[.slice A n c] w (Ans (if okL l then (n : Int) else 0) (if okL l then edL l else []) (okL l) w) := by
  cases hok : okL l
  · exact implOfNo A n c l B w hn hs hok hB hr
  · exact implOfYes A n c l B w hln hok hB hr hT
end Go.Proofs.YtmnihigackilkaaDoor.Edo
