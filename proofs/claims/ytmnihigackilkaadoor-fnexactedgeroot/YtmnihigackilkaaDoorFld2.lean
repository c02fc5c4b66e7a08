/-
  A frontier's parts folded in place.
-/
import Derived.Test.YtmnihigackilkaaDoorFld
namespace Go.Proofs.YtmnihigackilkaaDoor.Fld2
open Go.ChangeShapes Go.WideShapes Go.ChangeAt Go.RowKit
open Go.Proofs.YtmnihigackilkaaDoor.Mem Go.Proofs.YtmnihigackilkaaDoor.Ints Go.Proofs.YtmnihigackilkaaDoor.Strs Go.Proofs.YtmnihigackilkaaDoor.ShaComp Go.Proofs.YtmnihigackilkaaDoor.Digest Go.Proofs.YtmnihigackilkaaDoor.DigestI Go.Proofs.YtmnihigackilkaaDoor.Mkl Go.Proofs.YtmnihigackilkaaDoor.Slq Go.Proofs.YtmnihigackilkaaDoor.Rec Go.Proofs.YtmnihigackilkaaDoor.T8 Go.Proofs.YtmnihigackilkaaDoor.ShaSched Go.Proofs.YtmnihigackilkaaDoor.Arr Go.Proofs.YtmnihigackilkaaDoor.Edg Go.Proofs.YtmnihigackilkaaDoor.Edq Go.Proofs.YtmnihigackilkaaDoor.Hl Go.Proofs.YtmnihigackilkaaDoor.Fld
set_option linter.unusedVariables false
set_option linter.unusedSimpArgs false
set_option maxRecDepth 100000

theorem setCells_heap {g t : Nat} : ∀ (vs : List Value) (o : Nat) (w : World) (cur : Array Value), w.heap[g]? = some (.cells cur t) → (w.setCells g o vs).heap[g]? = some (.cells (List.foldl (fun cs x => cs.setIfInBounds x.snd x.fst) cur (vs.zipIdx o)) t) := by
  intro vs
  induction vs with
  | nil => intro o w cur h; exact h
  | cons v vs ih => intro o w cur h; exact ih (o + 1) _ _ (heap_setCell_same w g o cur t v h)
theorem own_setCells {w : World} {base e size g n c o : Nat} {l1 old l2 vs : List Value} (h : w.ownsRow base e size (.slice (some ⟨g, 0, none⟩) n c) n (l1 ++ old ++ l2)) (ho : o = l1.length) (hv : vs.length = old.length) :
    (w.setCells g o vs).ownsRow base e size (.slice (some ⟨g, 0, none⟩) n c) n (l1 ++ vs ++ l2) := by
  have h1 := h.1
  refine ⟨by rw [← h1]; simp [hv], ?_⟩
  rcases h.2 with ⟨h0, _⟩ | ⟨g', cap, cur, e1, e2, e3, e4, e5, e6, e7⟩
  · cases h0
  · obtain ⟨rfl, rfl⟩ : g = g' ∧ c = cap := by simpa using e1
    refine .inr ⟨g, c, _, rfl, e2, setCells_heap vs o w cur e3, e4, e5, by rw [fold_size]; exact e6, ?_⟩
    have hcs : n * size ≤ cur.size := by rw [e6]; exact Nat.mul_le_mul_right _ e4
    have hlen : (l1 ++ old ++ l2).length = n * size := h1
    simp only [List.length_append] at hlen
    apply List.ext_getElem?
    intro j
    have hcj : ∀ j, j < n * size → cur[j]? = (l1 ++ old ++ l2)[j]? := fun j hj => by rw [← e7, List.getElem?_take_of_lt hj, Array.getElem?_toList]
    by_cases hj : j < n * size
    · rw [List.getElem?_take_of_lt hj, Array.getElem?_toList, fold_at]
      by_cases h2 : o ≤ j ∧ j < o + vs.length ∧ j < cur.size
      · rw [if_pos h2, List.append_assoc, List.getElem?_append_right (by omega), List.getElem?_append_left (by omega), ho]
      · rw [if_neg h2, hcj j hj]
        by_cases h3 : j < o
        · rw [List.append_assoc, List.append_assoc, List.getElem?_append_left (by omega), List.getElem?_append_left (by omega)]
        · rw [List.getElem?_append_right (by simp; omega), List.getElem?_append_right (by simp; omega)]
          simp [hv]
    · rw [List.getElem?_eq_none (by rw [List.length_take]; omega), List.getElem?_eq_none (by simp; omega)]
theorem own_prefix {w : World} {base e size g n m c : Nat} {xs ys : List Value} (h : w.ownsRow base e size (.slice (some ⟨g, 0, none⟩) n c) n (xs ++ ys)) (hm : m ≤ n) (hx : xs.length = m * size) :
    w.ownsRow base e size (.slice (some ⟨g, 0, none⟩) m c) m xs := by
  refine ⟨hx, ?_⟩
  rcases h.2 with ⟨h0, _⟩ | ⟨g', cap, cur, e1, e2, e3, e4, e5, e6, e7⟩
  · cases h0
  · obtain ⟨rfl, rfl⟩ : g = g' ∧ c = cap := by simpa using e1
    refine .inr ⟨g, c, cur, rfl, e2, e3, by omega, e5, e6, ?_⟩
    have h2 := congrArg (List.take (m * size)) e7
    rw [List.take_take, Nat.min_eq_left (Nat.mul_le_mul_right _ hm)] at h2
    rw [h2, ← hx, List.take_left]
theorem own_rangeAt {w : World} {base e size g n c o : Nat} {l1 ys l2 : List Value} (h : w.ownsRow base e size (.slice (some ⟨g, 0, none⟩) n c) n (l1 ++ ys ++ l2)) (ho : o = l1.length) : w.rangeAt g o ys := fun j v hv => by
  have hj := (List.getElem?_eq_some_iff.1 hv).1
  have h1 := h.1
  simp only [List.length_append] at h1
  have hc := h.cellAt (o + j) (by omega)
  rw [hc, List.append_assoc, List.getElem?_append_right (by omega), List.getElem?_append_left (by omega), ho, Nat.add_sub_cancel_left]
  exact hv
theorem own_thereAt {w : World} {base e size g n c o k : Nat} {xs : List Value} (h : w.ownsRow base e size (.slice (some ⟨g, 0, none⟩) n c) n xs) (ho : o + k ≤ n * size) : w.there g o k := fun j hj => by
  have h1 := h.1
  refine ⟨?_, h.frozenAt (o + j)⟩
  rw [h.cellAt (o + j) (by omega), List.getElem?_eq_getElem (by omega)]; rfl
theorem own_cap {w : World} {base e size g n c : Nat} {xs : List Value} (h : w.ownsRow base e size (.slice (some ⟨g, 0, none⟩) n c) n xs) : n ≤ c := by
  rcases h.2 with ⟨h0, _⟩ | ⟨g', cap, cur, e1, e2, e3, e4, _⟩
  · cases h0
  · obtain ⟨rfl, rfl⟩ : g = g' ∧ c = cap := by simpa using e1
    exact e4
theorem tl_pr (a b : ByteArray) : tl (pr a b) = pairD dig (tl a) (tl b) := tl_bs _
theorem two_last (q : List ByteArray) (h : 2 ≤ q.length) : ∃ p a b, q = p ++ [a, b] := by
  obtain ⟨r, b, rfl⟩ : ∃ r b, q = r ++ [b] := ⟨q.dropLast, q.getLast (by intro h'; rw [h'] at h; simp at h), (List.dropLast_concat_getLast _).symm⟩
  obtain ⟨p, a, rfl⟩ : ∃ p a, r = p ++ [a] := ⟨r.dropLast, r.getLast (by intro h'; rw [h'] at h; simp at h), (List.dropLast_concat_getLast _).symm⟩
  exact ⟨p, a, b, by simp⟩
theorem own_some {w : World} {base e size n c : Nat} {A : Option Addr} {xs : List Value} (h : w.ownsRow base e size (.slice A n c) n xs) (hn : 0 < n) : ∃ g, A = some ⟨g, 0, none⟩ ∧ base ≤ g := by
  rcases h.2 with ⟨h0, h1⟩ | ⟨g, cap, cur, h1, h2, _⟩
  · omega
  · injection h1 with hA _ _
    exact ⟨g, hA, h2⟩
set_option maxHeartbeats 8000000 in
theorem folded (p0 : List ByteArray) (A : Option Addr) (n c most base : Nat) (w : World) (h32 : ∀ s ∈ p0, s.size = 32) (h1 : 1 ≤ most) (hn : n ≤ 1000) (hln : p0.length = n) (hmm : most ≤ 1000) (hB : base ≤ w.heap.size) (ho : w.ownsRow base 125 32 (.slice A n c) n (fl p0))
    (hT : ∀ W, Below base w W → Tbl W) :
    Calls Tryd.prog 109 #[.slice A n c, .int .i64 (most : Int)] w fun e w' => ∃ (q : List ByteArray) (A' : Option Addr) (c' : Nat), e = .returned (.slice A' q.length c') ∧ q.map tl = fold dig most (p0.map tl) ∧ (∀ s ∈ q, s.size = 32) ∧ w'.ownsRow base 125 32 (.slice A' q.length c') q.length (fl q) ∧ Below base w w' := by
  have HT := Lib.hid hT
  have H0 : Hid (w.ownsRow base 125 32 (.slice A p0.length c) p0.length (fl p0)) := Lib.hid (by rw [hln]; exact ho)
  have H32 := Lib.hid h32
  clear hT ho h32
  go_enter Tryd.func109, Tryd.ntmps109
  go_wp2_with fail
  go_loopw [0] (fun v wr => ∃ (q : List ByteArray) (A' : Option Addr) (c' : Nat), v = .slice A' q.length c' ∧ q.length ≤ 1000 ∧ Hid (fold dig most (q.map tl) = fold dig most (p0.map tl)) ∧ Hid (∀ s ∈ q, s.size = 32) ∧ Hid (wr.ownsRow base 125 32 (.slice A' q.length c') q.length (fl q)) ∧ Below base w wr) (fun v _ => match v with | .slice _ n _ => n | _ => 0)
  case atStart => exact ⟨p0, A, c, by rw [hln], by omega, Lib.hid rfl, H32, H0, Below.refl _ _⟩
  case round =>
    obtain ⟨q, A', c', rfl, hql, HF, HS, HO, hb⟩ := hrel
    clear H0 H32
    by_cases hlt : most < q.length
    · obtain ⟨p, a, b, rfl⟩ := two_last q (by omega)
      obtain ⟨g, rfl, hgb⟩ := own_some HO.out (by simp)
      have h2 : (p ++ [a, b]).length = p.length + 2 := by simp
      rw [h2] at HO hlt hql
      rw [h2]
      have ha : a.size = 32 := HS.out a (by simp)
      have hb' : b.size = 32 := HS.out b (by simp)
      have lp : (fl p).length = p.length * 32 := fl_len p (fun s hs => HS.out s (by simp [hs]))
      have E1 : Hid (fl (p ++ [a, b]) = fl p ++ dgL a ++ dgL b) := Lib.hid (by rw [fl_app, fl_cons, fl_one, List.append_assoc])
      rw [E1.out] at HO
      have na : (dgL a).length = 32 := by rw [dgL_len, ha]
      have nb : (dgL b).length = 32 := by rw [dgL_len, hb']
      have ra : wr.rangeAt g (p.length * 32) (dgL a) := own_rangeAt HO.out lp.symm
      have rb : wr.rangeAt g ((p.length + 1) * 32) (dgL b) := own_rangeAt (l1 := fl p ++ dgL a) (l2 := []) (by rw [List.append_nil]; exact HO.out) (by rw [List.length_append, lp, na]; omega)
      have th : wr.there g (p.length * 32) 32 := own_thereAt HO.out (by omega)
      have hg : g < wr.heap.size := (HO.out.lt g rfl).2
      have hcap : p.length + 2 ≤ c' := own_cap HO.out
      have PB := Lib.hid (fun W (h : Below wr.heap.size wr W) => pairedBytes a b W ha hb' (HT.out W (hb.trans (h.mono (by have := hb.size; omega)))))
      have nd : (dgL (pr a b)).length = 32 := by rw [dgL_len, pr32]
      have o_d := dgL_one (pr a b)
      have EQ : Hid (fold dig most ((p ++ [pr a b]).map tl) = fold dig most (p0.map tl)) := Lib.hid (by
        rw [← HF.out]
        simp only [List.map_append, List.map_cons, List.map_nil, tl_pr]
        exact (fold_step dig most h1 (p.map tl) (tl a) (tl b) (by rw [List.length_map]; omega)).symm)
      have HS2 : Hid (∀ s ∈ p ++ [pr a b], s.size = 32) := Lib.hid (fun s hs => by
        rw [List.mem_append, List.mem_singleton] at hs
        rcases hs with hs | rfl
        · exact HS.out s (by simp [hs])
        · exact pr32 _ _)
      have E2 : Hid (fl (p ++ [pr a b]) = fl p ++ dgL (pr a b)) := Lib.hid (by rw [fl_app, fl_one])
      simp only [dgV_L] at PB
      generalize dgL a = la at *
      generalize dgL b = lb at *
      generalize hd : pr a b = d at *
      generalize hld : dgL d = ld at *
      clear HF HS E1 h2
      generalize hk : p.length = k at *
      have HK := Lib.hid hk
      generalize hj1 : k + 1 = j1 at *
      generalize hj2 : k + 2 = j2 at *
      have J1 := Lib.hid hj1
      have J2 := Lib.hid hj2
      have k0 : (0 : Int) ≤ (k : Int) := by omega
      have e1 : IntKind.i64.wrap ((j2 : Int) - 1) = (j1 : Int) := by rw [IntKind.wrap_i64]; omega
      have e2 : IntKind.i64.wrap ((j1 : Int) - 1) = (k : Int) := by rw [IntKind.wrap_i64]; omega
      have i1 : (k : Int) < (j2 : Int) := by omega
      have i2 : (j1 : Int) < (j2 : Int) := by omega
      have i3 : (0 : Int) ≤ (j1 : Int) := by omega
      have i4 : (most : Int) < (j2 : Int) := by omega
      have i5 : j1 < j2 := by omega
      have i7 : (j1 : Int) ≤ (c' : Int) := by omega
      have i8 : j1 ≤ c' := by omega
      have i6 : k ≤ 998 := by omega
      clear hj1 hj2 hk
      go_wp2_with fail
      have X0 : Below wr.heap.size wr wr.drew := (Below.refl _ wr).drew
      refine HL.start (S := SB 14 wr) (by kernel_rfl) ?_
      refine HL.take (i := 0) (W := 14) (T := fun W => Below wr.heap.size wr W) (oi := _) (v := ?_) rfl (by kernel_rfl) (by kernel_rfl) (by kernel_rfl) (by kernel_rfl) (by kernel_rfl) SB.t (SB.inv (by decide)) (fun _ _ _ h => h) (Or.inl ⟨by kernel_rfl, ?_⟩) (SB.of X0) (fun _ => ?_)
      rotate_left
      · intro w' hw'; clear hw'; (first | (go_simp; done) | (go_simp; with_reducible rfl))
      try simp only [Act.put, List.getElem_toArray, List.getElem_cons_succ, List.getElem_cons_zero, List.setIfInBounds_toArray, List.set_cons_zero, List.set_cons_succ]
      refine HL.take (i := 1) (W := 14) (T := fun W => Below wr.heap.size wr W) (oi := _) (v := ?_) rfl (by kernel_rfl) (by kernel_rfl) (by kernel_rfl) (by kernel_rfl) (by kernel_rfl) SB.t (SB.inv (by decide)) (fun _ _ _ h => h) (Or.inl ⟨by kernel_rfl, ?_⟩) (SB.of X0) (fun _ => ?_)
      rotate_left
      · intro w' hw'; clear hw'; (first | (go_simp; done) | (go_simp; with_reducible rfl))
      try simp only [Act.put, List.getElem_toArray, List.getElem_cons_succ, List.getElem_cons_zero, List.setIfInBounds_toArray, List.set_cons_zero, List.set_cons_succ]
      refine HL.take (i := 2) (W := 14) (T := fun W => Below wr.heap.size wr W) (oi := _) (v := ?_) rfl (by kernel_rfl) (by kernel_rfl) (by kernel_rfl) (by kernel_rfl) (by kernel_rfl) SB.t (SB.inv (by decide)) (fun _ _ _ h => h) (Or.inl ⟨by kernel_rfl, ?_⟩) (SB.of X0) (fun _ => ?_)
      rotate_left
      · intro w' hw'; clear hw'; (first | (go_simp; done) | (go_simp; with_reducible rfl))
      try simp only [Act.put, List.getElem_toArray, List.getElem_cons_succ, List.getElem_cons_zero, List.setIfInBounds_toArray, List.set_cons_zero, List.set_cons_succ]
      refine HL.take (i := 3) (W := 14) (T := fun W => Below wr.heap.size wr W) (oi := _) (v := ?_) rfl (by kernel_rfl) (by kernel_rfl) (by kernel_rfl) (by kernel_rfl) (by kernel_rfl) SB.t (SB.inv (by decide)) (fun _ _ _ h => h) (Or.inl ⟨by kernel_rfl, ?_⟩) (SB.of X0) (fun _ => ?_)
      rotate_left
      · intro w' hw'; clear hw'; (first | (go_simp; done) | (go_simp; with_reducible rfl))
      try simp only [Act.put, List.getElem_toArray, List.getElem_cons_succ, List.getElem_cons_zero, List.setIfInBounds_toArray, List.set_cons_zero, List.set_cons_succ]
      refine HL.take (i := 4) (W := 14) (T := fun W => Below wr.heap.size wr W) (oi := _) (v := ?_) rfl (by kernel_rfl) (by kernel_rfl) (by kernel_rfl) (by kernel_rfl) (by kernel_rfl) SB.t (SB.inv (by decide)) (fun _ _ _ h => h) (Or.inl ⟨by kernel_rfl, ?_⟩) (SB.of X0) (fun _ => ?_)
      rotate_left
      · intro w' hw'; clear hw'; (first | (go_simp; done) | (go_simp; with_reducible rfl))
      try simp only [Act.put, List.getElem_toArray, List.getElem_cons_succ, List.getElem_cons_zero, List.setIfInBounds_toArray, List.set_cons_zero, List.set_cons_succ]
      refine HL.take (i := 5) (W := 14) (T := fun W => Below wr.heap.size wr W) (oi := _) (v := ?_) rfl (by kernel_rfl) (by kernel_rfl) (by kernel_rfl) (by kernel_rfl) (by kernel_rfl) SB.t (SB.inv (by decide)) (fun _ _ _ h => h) (Or.inl ⟨by kernel_rfl, ?_⟩) (SB.of X0) (fun _ => ?_)
      rotate_left
      · intro w' hw'; clear hw'; (first | (go_simp; done) | (go_simp; with_reducible rfl))
      try simp only [Act.put, List.getElem_toArray, List.getElem_cons_succ, List.getElem_cons_zero, List.setIfInBounds_toArray, List.set_cons_zero, List.set_cons_succ]
      refine HL.take (i := 6) (W := 14) (T := fun W => Below wr.heap.size wr W) (oi := _) (v := ?_) rfl (by kernel_rfl) (by kernel_rfl) (by kernel_rfl) (by kernel_rfl) (by kernel_rfl) SB.t (SB.inv (by decide)) (fun _ _ _ h => h) (Or.inl ⟨by kernel_rfl, ?_⟩) (SB.of X0) (fun _ => ?_)
      rotate_left
      · intro w' hw'; clear hw'; (first | (go_simp; done) | (go_simp; with_reducible rfl))
      try simp only [Act.put, List.getElem_toArray, List.getElem_cons_succ, List.getElem_cons_zero, List.setIfInBounds_toArray, List.set_cons_zero, List.set_cons_succ]
      refine HL.take (i := 7) (W := 14) (T := fun W => Below wr.heap.size wr W) (oi := _) (v := .agg la.toArray) rfl (by kernel_rfl) (by kernel_rfl) (by kernel_rfl) (by kernel_rfl) (by kernel_rfl) SB.t (SB.inv (by decide)) (fun _ _ _ h => h) (yieldsIf_load_mid (by kernel_rfl) 125 _ rfl g (k * 32) rfl la _ (fun W h => range_below ra h hg) undD rfl (by rw [na]; exact infoD1)) (SB.of X0) (fun _ => ?_)
      try simp only [Act.put, List.getElem_toArray, List.getElem_cons_succ, List.getElem_cons_zero, List.setIfInBounds_toArray, List.set_cons_zero, List.set_cons_succ]
      refine HL.take (i := 8) (W := 14) (T := fun W => Below wr.heap.size wr W) (oi := _) (v := ?_) rfl (by kernel_rfl) (by kernel_rfl) (by kernel_rfl) (by kernel_rfl) (by kernel_rfl) SB.t (SB.inv (by decide)) (fun _ _ _ h => h) (Or.inl ⟨by kernel_rfl, ?_⟩) (SB.of X0) (fun _ => ?_)
      rotate_left
      · intro w' hw'; clear hw'; (first | (go_simp; done) | (go_simp; with_reducible rfl))
      try simp only [Act.put, List.getElem_toArray, List.getElem_cons_succ, List.getElem_cons_zero, List.setIfInBounds_toArray, List.set_cons_zero, List.set_cons_succ]
      refine HL.take (i := 9) (W := 14) (T := fun W => Below wr.heap.size wr W) (oi := _) (v := ?_) rfl (by kernel_rfl) (by kernel_rfl) (by kernel_rfl) (by kernel_rfl) (by kernel_rfl) SB.t (SB.inv (by decide)) (fun _ _ _ h => h) (Or.inl ⟨by kernel_rfl, ?_⟩) (SB.of X0) (fun _ => ?_)
      rotate_left
      · intro w' hw'; clear hw'; (first | (go_simp; done) | (go_simp; with_reducible rfl))
      try simp only [Act.put, List.getElem_toArray, List.getElem_cons_succ, List.getElem_cons_zero, List.setIfInBounds_toArray, List.set_cons_zero, List.set_cons_succ]
      refine HL.take (i := 10) (W := 14) (T := fun W => Below wr.heap.size wr W) (oi := _) (v := ?_) rfl (by kernel_rfl) (by kernel_rfl) (by kernel_rfl) (by kernel_rfl) (by kernel_rfl) SB.t (SB.inv (by decide)) (fun _ _ _ h => h) (Or.inl ⟨by kernel_rfl, ?_⟩) (SB.of X0) (fun _ => ?_)
      rotate_left
      · intro w' hw'; clear hw'; (first | (go_simp; done) | (go_simp; with_reducible rfl))
      try simp only [Act.put, List.getElem_toArray, List.getElem_cons_succ, List.getElem_cons_zero, List.setIfInBounds_toArray, List.set_cons_zero, List.set_cons_succ]
      refine HL.take (i := 11) (W := 14) (T := fun W => Below wr.heap.size wr W) (oi := _) (v := .agg lb.toArray) rfl (by kernel_rfl) (by kernel_rfl) (by kernel_rfl) (by kernel_rfl) (by kernel_rfl) SB.t (SB.inv (by decide)) (fun _ _ _ h => h) (yieldsIf_load_mid (by kernel_rfl) 125 _ rfl g (j1 * 32) rfl lb _ (fun W h => range_below rb h hg) undD rfl (by rw [nb]; exact infoD1)) (SB.of X0) (fun _ => ?_)
      try simp only [Act.put, List.getElem_toArray, List.getElem_cons_succ, List.getElem_cons_zero, List.setIfInBounds_toArray, List.set_cons_zero, List.set_cons_succ]
      refine HL.only (i := 12) (oi := _) (by kernel_rfl) rfl (by kernel_rfl) (fun K hK => ?_)
      go_simp
      refine (PB.out _ X0).mono ?_
      rintro e' w5 ⟨rfl, b9⟩
      have X5 := X0.trans (b9.mono X0.size)
      refine hK.out _ _ (SB.of X5) (fun _ => ?_)
      clear hK K
      try simp only [Act.put, List.getElem_toArray, List.getElem_cons_succ, List.getElem_cons_zero, List.setIfInBounds_toArray, List.set_cons_zero, List.set_cons_succ]
      refine HL.only (i := 13) (oi := _) (by kernel_rfl) rfl (by kernel_rfl) (fun K hK => ?_)
      go_simp
      refine hK.out _ _ (SB.of X5) (fun _ => ?_)
      clear hK K
      try simp only [Act.put, List.getElem_toArray, List.getElem_cons_succ, List.getElem_cons_zero, List.setIfInBounds_toArray, List.set_cons_zero, List.set_cons_succ]
      have t5 := there_below th X5 hg
      have ns : ld.toArray.size = 32 := by rw [List.size_toArray]; exact nd
      have O5 := own_belowS HO.out X5 (Nat.le_refl _)
      have OS : (w5.setCells g (k * 32) ld).ownsRow base 125 32 (.slice (some ⟨g, 0, none⟩) j2 c') j2 (fl p ++ ld ++ lb) := own_setCells O5 lp.symm (by rw [nd, na])
      have OP := Lib.hid (own_prefix (m := j1) OS (by omega) (by rw [List.length_append, lp, nd]; have := J1.out; omega))
      have BS := below_setCells (B := base) (a := w) (b := g) hgb ld (k * 32) w5 (hb.trans (X5.mono (by have := hb.size; omega)))
      refine HL.only (i := 14) (oi := _) (by kernel_rfl) rfl (by kernel_rfl) (fun K hK => ?_)
      refine wp_store_mid 125 _ _ rfl g (k * 32) ld.toArray rfl rfl (by rw [ns]; exact t5) (by rw [ns]; exact infoD1) (all_oneCell_toArray o_d) ?_
      generalize w5.setCells g (k * 32) ld.toArray.toList = W4 at *
      refine hK.out _ _ (fun h => absurd ((show _ = true by kernel_rfl).symm.trans h) (by decide)) (fun _ => ?_)
      clear hK K
      refine HL.done (by kernel_rfl) ?_
      clear OS O5 HO ra rb th X5 X0 t5 b9 PB
      go_wp2
      go_roundw
      case rel => exact ⟨p ++ [d], some ⟨g, 0, none⟩, c', by rw [List.length_append, HK.out, List.length_singleton, J1.out], by rw [List.length_append, HK.out, List.length_singleton]; omega, EQ, HS2, Lib.hid (by rw [E2.out, List.length_append, HK.out, List.length_singleton, J1.out]; exact OP.out), BS⟩
      case measure => simp; omega
    · have HQ : Hid (q.map tl = fold dig most (p0.map tl)) := Lib.hid (by rw [← HF.out, fold_few]; rw [List.length_map]; omega)
      clear HF
      go_wp2
      go_ret
      exact ⟨q, A', c', rfl, HQ.out, HS.out, HO.out, hb⟩
end Go.Proofs.YtmnihigackilkaaDoor.Fld2
