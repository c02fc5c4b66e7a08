/-
  The parts beside a path, one after another: the program's iterator.
-/
import Derived.Test.YtiiklednbhklhaaDoorT8r
import Derived.Test.YtiiklednbhklhaaDoorItr
import Derived.RangeFuncBound
import Derived.RangeFuncCalls
import Derived.RangeFuncLeaves
import Derived.Shelf.Abstract
import Derived.Shelf.RegionOpen
import Derived.WalkKit
import Derived.OwnWalkIn
import Derived.TacticsInMore
import Derived.LoopNIn
import Derived.LoopIn
namespace Go.Proofs.YtiiklednbhklhaaDoor.T8j
open Go.ChangeShapes Go.WideShapes Go.ChangeAt Go.RowKit Go.Shelf
open Go.Proofs.YtiiklednbhklhaaDoor.Mem Go.Proofs.YtiiklednbhklhaaDoor.Ints Go.Proofs.YtiiklednbhklhaaDoor.Strs Go.Proofs.YtiiklednbhklhaaDoor.ShaComp Go.Proofs.YtiiklednbhklhaaDoor.Mkl Go.Proofs.YtiiklednbhklhaaDoor.Sib Go.Proofs.YtiiklednbhklhaaDoor.Spl Go.Proofs.YtiiklednbhklhaaDoor.Slq Go.Proofs.YtiiklednbhklhaaDoor.Rec Go.Proofs.YtiiklednbhklhaaDoor.T8 Go.Proofs.YtiiklednbhklhaaDoor.T8s Go.Proofs.YtiiklednbhklhaaDoor.T8i Go.Proofs.YtiiklednbhklhaaDoor.T8r Go.Proofs.YtiiklednbhklhaaDoor.Itr
set_option linter.unusedVariables false
set_option maxRecDepth 100000
attribute [local go_sem] Oper.semAt_some

/-- The iterator's value. -/
def sbV (a : Nat) : Value := .func (.func 101) #[] #[.pointer (some ⟨a, 0, none⟩), .pointer (some ⟨a + 1, 0, none⟩)]
def spO (f t : Nat) : Obj := .cells #[.int .i64 (f : Int), .int .i64 (t : Int)] 68
theorem siblings (f t b e : Nat) (w : World) : Calls Tryd.prog 87 #[sp f t, sp b e] w fun e' w' => e' = .returned (sbV w.heap.size) ∧ w' = (w.alloc (spO f t)).alloc (spO b e) := by
  have hmf : ∀ (fn : Fn) (first cap : Array Value) (w : World), (Instr.makeFunc fn first cap).run Tryd.prog w = .ok (.func fn first cap) w := fun _ _ _ _ => rfl
  unfold sp sbV spO
  go_enter Tryd.func87, Tryd.ntmps87
  go_wp2_with fail
  go_ret
  exact ⟨rfl, rfl⟩
theorem eq_run (f t b e : Nat) (W : World) : (binOp .eql 68 (sp f t) (sp b e)).run Tryd.prog W = .ok (.bool (decide (f = b ∧ t = e))) W := by
  unfold sp
  by_cases h1 : f = b
  · subst h1
    by_cases h2 : t = e
    · subst h2; simp [go_sem]
    · have h2' : ¬ ((t : Int) = (e : Int)) := by omega
      simp [go_sem, h2, h2']
  · have h1' : ¬ ((f : Int) = (b : Int)) := by omega
    simp [go_sem, h1, h1']
def enc (p : Nat × Nat) : Array Value := #[sp p.1 p.2]
set_option maxHeartbeats 4000000 in
theorem gives (n : Nat) : ∀ (f t b e a : Nat), t - f ≤ n → t ≤ 20 → Rch f t b e →
    Giv Tryd.prog 101 #[.pointer (some ⟨a, 0, none⟩), .pointer (some ⟨a + 1, 0, none⟩)] (fun k => k = a ∨ k = a + 1) (fun W => W.heap[a]? = some (spO f t) ∧ W.heap[a + 1]? = some (spO b e)) enc (sib f t b e) := by
  induction n with
  | zero => intro f t b e a h h20 hr; have := hr.in; omega
  | succ n ih =>
    intro f t b e a hn h20 hr l J K W hJ hK0 hKin hPre h0 hY
    have hin := hr.in
    have q := eq_run f t b e
    by_cases hh : f = b ∧ t = e
    · obtain ⟨rfl, rfl⟩ := hh
      rw [sib_here] at hY ⊢
      clear hY ih
      have al := al1 W (.cells #[.func (.yield l) #[] #[]] 121)
      have hJ1 := hJ [] K K W _ h0 (.all al K) (fun _ h => h) (fun _ h => .inl h) (fun k h => by have := hKin k h; have := al.size; omega)
      obtain ⟨p0, p1⟩ := hPre
      obtain ⟨c0, c1⟩ := row2 (bx p0 al)
      obtain ⟨c2, c3⟩ := row2 (bx p1 al)
      rw [decide_eq_true ⟨rfl, rfl⟩] at q
      unfold sp at q
      refine callsIn_of_wp_marks Tryd.func101 rfl trivial ?_ rfl
      simp only [Tryd.ntmps101, List.size_toArray, List.length_cons, List.length_nil, Nat.reduceAdd, Nat.reduceSub, Array.replicate_succ, Array.replicate_zero, List.push_toArray, List.append_toArray, List.nil_append, List.cons_append]
      gi_wp2
      exact ⟨_, results_none rfl _ _ _, ⟨_, rfl⟩, K, fun _ h => h, fun k h => by have := hKin k h; have := al.size; omega, hJ1⟩
    · have h2 : 2 ≤ t - f := by
        cases hr with
        | here => exact absurd ⟨rfl, rfl⟩ hh
        | left _ _ _ _ h => exact h
        | right _ _ _ _ h => exact h
      have CH := Lib.hid (fun W => (callsIn_wide (n := 0)).2 (halves f t W h2 h20))
      obtain ⟨s1, s2, s3⟩ := split_lt h2
      rw [decide_eq_false hh] at q
      have al := al1 W (.cells #[.func (.yield l) #[] #[]] 121)
      have ky := nw1 W (.cells #[.func (.yield l) #[] #[]] 121)
      obtain ⟨p0, p1⟩ := hPre
      obtain ⟨c0, c1⟩ := row2 (bx p0 al)
      obtain ⟨c2, c3⟩ := row2 (bx p1 al)
      have hP1 := Lib.hid (bx p1 al)
      unfold sp at q
      unfold sp at CH
      have rl : (¬ f + split (t - f) ≤ b → Rch f (f + split (t - f)) b e) ∧ (¬ f + split (t - f) ≤ b → sib f t b e = sib f (f + split (t - f)) b e ++ [(f + split (t - f), t)]) ∧ True := by
        refine ⟨fun h => ?_, fun h => ?_, trivial⟩
        · cases hr with
          | here => exact absurd ⟨rfl, rfl⟩ hh
          | left _ _ _ _ _ r => exact r
          | right _ _ _ _ _ r => have := r.in; omega
        · cases hr with
          | here => exact absurd ⟨rfl, rfl⟩ hh
          | left _ _ _ _ h2 r => exact sib_left h2 r
          | right _ _ _ _ _ r => have := r.in; omega
      have rr : (f + split (t - f) ≤ b → Rch (f + split (t - f)) t b e) ∧ (f + split (t - f) ≤ b → sib f t b e = sib (f + split (t - f)) t b e ++ [(f, f + split (t - f))]) := by
        refine ⟨fun h => ?_, fun h => ?_⟩
        · cases hr with
          | here => exact absurd ⟨rfl, rfl⟩ hh
          | left _ _ _ _ _ r => have := r.in; omega
          | right _ _ _ _ _ r => exact r
        · cases hr with
          | here => exact absurd ⟨rfl, rfl⟩ hh
          | left _ _ _ _ _ r => have := r.in; omega
          | right _ _ _ _ h2 r => exact sib_right h2 r
      generalize hm : f + split (t - f) = m at *
      have q0 : f < m := by omega
      have q1 : m < t := by omega
      clear hm s1 s2 s3
      refine callsIn_of_wp_marks Tryd.func101 rfl trivial ?_ rfl
      simp only [Tryd.ntmps101, List.size_toArray, List.length_cons, List.length_nil, Nat.reduceAdd, Nat.reduceSub, Array.replicate_succ, Array.replicate_zero, List.push_toArray, List.append_toArray, List.nil_append, List.cons_append]
      have CS := Lib.hid (fun f' t' b' e' W => (callsIn_wide (n := 0)).2 (siblings f' t' b' e' W))
      unfold sp at CS
      by_cases hbm : m ≤ b
      · have hr' : Rch m t b e := rr.1 hbm
        have hS : sib f t b e = sib m t b e ++ [(f, m)] := rr.2 hbm
        rw [hS] at hY ⊢
        clear hS hr
        have hbm' : (m : Int) ≤ (b : Int) := by omega
        gi_wp2_with (first | (refine ⟨trivial, rfl, (CS.out _ _ _ _ _).mono ?_⟩; rintro e' w2 ⟨rfl, hw2⟩) | (refine ⟨trivial, rfl, (CH.out _).mono ?_⟩; rintro e' w1 ⟨rfl, hb⟩; have hP2 := bx hP1.out hb; have hy1 := bx ky hb; have B1 := then_ (n := 0) al hb; clear CH hP1 ky al hb c0 c1 c2 c3 q; obtain ⟨c0, c1⟩ := row2 (bx hP2 (al2 w1 (.cells #[.int .i64 (f : Int), .int .i64 (m : Int)] 68) (.cells #[.int .i64 (m : Int), .int .i64 (t : Int)] 68))); obtain ⟨c8, c9⟩ := row2 (bx hP2 (al2 w1 (.cells #[.int .i64 (m : Int), .int .i64 (t : Int)] 68) (.cells #[.int .i64 (f : Int), .int .i64 (m : Int)] 68)))))
        have k4 := nw4 w1 (.cells #[.int .i64 (m : Int), .int .i64 (t : Int)] 68) (.cells #[.int .i64 (f : Int), .int .i64 (m : Int)] 68) (spO m t) (spO b e)
        have B4 := al4 w1 (.cells #[.int .i64 (m : Int), .int .i64 (t : Int)] 68) (.cells #[.int .i64 (f : Int), .int .i64 (m : Int)] 68) (spO m t) (spO b e)
        have hsz : w2.heap.size = w1.heap.size + 1 + 1 + 1 + 1 := by rw [hw2]; simp
        rw [← hw2] at k4 B4 ⊢
        clear hw2 c0 c1 c8 c9 CS
        obtain ⟨kn, kf, kp, kq⟩ := k4
        have hy2 := bx hy1 B4
        have B2 := then_ (n := 0) B1 B4
        have hz : W.heap.size < w1.heap.size := bx_lt hy1
        clear kn B4 B1 hy1 hP2
        obtain ⟨y, hy⟩ : ∃ y, y = W.heap.size := ⟨_, rfl⟩
        obtain ⟨z, hz1⟩ : ∃ z, z = w1.heap.size + 1 := ⟨_, rfl⟩
        have eH : w1.heap.size + 1 = z := hz1.symm
        rw [← hy] at hz hy2 ⊢
        rw [eH] at kf kp kq hsz ⊢
        have hyz : y < z := by omega
        have I0 : ∃ Ko : Nat → Prop, Ko = fun k => K k ∨ (y ≤ k ∧ k < w2.heap.size) := ⟨_, rfl⟩
        obtain ⟨Ko, hKo⟩ := I0
        have hKoin : ∀ k, Ko k → k < w2.heap.size := by
          intro k h; rw [hKo] at h
          rcases h with h | h
          · have := hKin k h; have := B2.size; omega
          · exact h.2
        have hI0 : J [] (fun k => (k = z + 1 ∨ k = z + 1 + 1) ∨ Ko k) w2 := by
          refine hJ [] K _ W w2 h0 (.all B2 K) (fun k h => .inr (by rw [hKo]; exact .inl h)) ?_ ?_
          · rintro k (h | h)
            · exact .inr (by omega)
            · rw [hKo] at h
              rcases h with h | h
              · exact .inl h
              · exact .inr (by omega)
          · rintro k (h | h)
            · omega
            · exact hKoin k h
        have hKy : Ko y := by rw [hKo]; exact .inr ⟨Nat.le_refl _, by omega⟩
        have hKz : Ko z := by rw [hKo]; exact .inr ⟨by omega, by omega⟩
        have hKK : ∀ k, K k → Ko k := fun k h => by rw [hKo]; exact .inl h
        clear hKo h0 B2 hin p0 p1 hy hz1 eH
        refine range_law (gf := 101) (lb := #[.pointer (some ⟨z + 1, 0, none⟩), .pointer (some ⟨z + 1 + 1, 0, none⟩)]) rfl (enters_of Tryd.func101 (by kernel_rfl) rfl) (ih m t b e (z + 1) (by omega) (by omega) hr') (fun _ => rfl)
          (fun k => k = z + 1 ∨ k = z + 1 + 1) (fun _ h => h) (fun k h => by omega) (fun W' h => ⟨(h _ (by omega)).trans kp, (h _ (by omega)).trans kq⟩)
          (fun pre Ki Wx => J pre (fun k => Ki k ∨ Ko k) Wx ∧ Wx.heap[y]? = some (.cells #[.func (.yield l) #[] #[]] 121) ∧ Wx.heap[z]? = some (.cells #[.int .i64 (f : Int), .int .i64 (m : Int)] 68) ∧ ¬ Ki y ∧ ¬ Ki z ∧ w2.heap.size ≤ Wx.heap.size)
          ?abide ⟨hI0, hy2, kf, by omega, by omega, Nat.le_refl _⟩ ?round ?done
        case abide =>
          rintro ys Ka Kb A B ⟨hj, g1, g2, n1, n2, hs⟩ hst hsub hnew hkin
          have l1 : y < A.heap.size := bx_lt g1
          have l2 : z < A.heap.size := bx_lt g2
          refine ⟨hJ ys _ _ A B hj (hst.mono fun k _ h => .inl h) (fun k h => h.imp_left (hsub k)) ?_ ?_, hst.at g1 n1, hst.at g2 n2, ?_, ?_, Nat.le_trans hs hst.size⟩
          · rintro k (h | h)
            · exact (hnew k h).imp_left .inl
            · exact .inl (.inr h)
          · rintro k (h | h)
            · exact hkin k h
            · have := hKoin k h; have := hst.size; omega
          · intro h; rcases hnew y h with h | h
            · exact n1 h
            · omega
          · intro h; rcases hnew z h with h | h
            · exact n2 h
            · omega
        case round =>
          rintro l2 pre ⟨p, qq⟩ rest K1 Wr hx hsub hkin ⟨hj, g1, g2, n1, n2, hs⟩
          have hy' := fun W' (hj' : J pre (fun k => K1 k ∨ Ko k) W') (hs' : w2.heap.size ≤ W'.heap.size) (hk' : ∀ k, K1 k → k < W'.heap.size) => hY pre (p, qq) (rest ++ [(f, m)]) (fun k => K1 k ∨ Ko k) W' (by rw [← hx]; simp) (fun k h => .inr (hKK k h)) (fun k h => h.elim (hk' k) (fun h => Nat.lt_of_lt_of_le (hKoin k h) hs')) hj'
          unfold enc sp
          simp only [List.zip_toArray, List.zip_cons_cons, List.zip_nil_right, List.foldl_toArray', List.foldl_cons, List.foldl_nil, List.setIfInBounds_toArray, List.set_cons_succ, List.set_cons_zero, List.size_toArray, List.length_cons, List.length_nil]
          gi_wp2
          refine ⟨St.alloc _ _ _, fun W2 hst => ?_⟩
          have lr := nw1 Wr (.cells #[.int .i64 (p : Int), .int .i64 (qq : Int)] 68)
          have hbox := hst.at lr (fun h => by have := hkin _ h; omega)
          have hstW : St K1 Wr W2 := (St.alloc K1 Wr _).trans hst
          have g1' := hstW.at g1 n1
          have g2' := hstW.at g2 n2
          have hs2 := Nat.le_trans hs hstW.size
          have hk2 : ∀ k, K1 k → k < W2.heap.size := fun k h => Nat.lt_of_lt_of_le (hkin k h) hstW.size
          have hj2 : J pre (fun k => K1 k ∨ Ko k) W2 := hJ pre _ _ Wr W2 hj (hstW.mono fun k _ h => .inl h) (fun _ h => h) (fun _ h => .inl h) (fun k h => h.elim (hk2 k) (fun h => Nat.lt_of_lt_of_le (hKoin k h) hs2))
          obtain ⟨fn, tmps, assign, body, hyy, hR⟩ := hy' W2 hj2 hs2 hk2
          unfold enc sp at hyy
          dsimp only at hyy
          obtain ⟨d0, d1⟩ := row2 hbox
          have d2 := cell_of_row _ _ 0 _ _ _ g1'
          simp only [List.getElem?_toArray, List.getElem?_cons_zero] at d2
          clear hy' hst lr hbox hstW hj2 hj hx
          gi_wp2
          have hR2 : RoundIn (Fence.wide.inRound l2) 0 Tryd.prog l fn tmps assign body W2 _ := hR
          refine ⟨rfl, hR2.mono ?_⟩
          rintro e' W3 ⟨rfl, hj3, hs3⟩
          gi_wp2
          exact post_normal ⟨hj3, hs3.at g1' (fun h => h (.inr hKy)), hs3.at g2' (fun h => h (.inr hKz)), n1, n2, Nat.le_trans hs2 hs3.size⟩ (hs3.mono fun k _ h h' => h (.inl h'))
        case done =>
          rintro D K1 Wr hD hKD hsub hkin ⟨hj, g1, g2, n1, n2, hs⟩ hdf
          have hkk : ∀ k, (K1 k ∨ Ko k) → k < Wr.heap.size := fun k h => h.elim (hkin k) (fun h => Nat.lt_of_lt_of_le (hKoin k h) hs)
          obtain ⟨fn, tmps, assign, body, hyy, hR⟩ := hY (sib m t b e) (f, m) [] (fun k => K1 k ∨ Ko k) Wr rfl (fun k h => .inr (hKK k h)) hkk hj
          unfold enc sp at hyy
          dsimp only at hyy
          obtain ⟨d0, d1⟩ := row2 g2
          have d2 := cell_of_row _ _ 0 _ _ _ g1
          simp only [List.getElem?_toArray, List.getElem?_cons_zero] at d2
          clear hY ih hj
          gi_wp2
          refine ⟨rfl, hR.mono ?_⟩
          rintro e' W3 ⟨rfl, hj3, hs3⟩
          gi_wp2
          have hdf3 := hs3.at hdf (fun h => h (.inl hKD))
          refine ⟨by simp, .inl ⟨_, _, rfl, run_takeDeferred hdf3, ?_⟩⟩
          have hk3 : ∀ k, (K1 k ∨ Ko k) → k < (W3.putObj D (.deferred none)).heap.size := fun k h => by have := hkk k h; have := hs3.size; simp; omega
          exact ⟨_, results_none rfl _ _ _, ⟨_, rfl⟩, fun k => K1 k ∨ Ko k, fun k h => .inr (hKK k h), hk3, hJ _ _ _ W3 _ hj3 (.putObj W3 _ (.inl hKD)) (fun _ h => h) (fun _ h => .inl h) hk3⟩
      · have hr' : Rch f m b e := rl.1 hbm
        have hS : sib f t b e = sib f m b e ++ [(m, t)] := rl.2.1 hbm
        rw [hS] at hY ⊢
        clear hS hr
        have hbm' : ¬ ((m : Int) ≤ (b : Int)) := by omega
        gi_wp2_with (first | (refine ⟨trivial, rfl, (CS.out _ _ _ _ _).mono ?_⟩; rintro e' w2 ⟨rfl, hw2⟩) | (refine ⟨trivial, rfl, (CH.out _).mono ?_⟩; rintro e' w1 ⟨rfl, hb⟩; have hP2 := bx hP1.out hb; have hy1 := bx ky hb; have B1 := then_ (n := 0) al hb; clear CH hP1 ky al hb c0 c1 c2 c3 q; obtain ⟨c0, c1⟩ := row2 (bx hP2 (al2 w1 (.cells #[.int .i64 (f : Int), .int .i64 (m : Int)] 68) (.cells #[.int .i64 (m : Int), .int .i64 (t : Int)] 68))); obtain ⟨c8, c9⟩ := row2 (bx hP2 (al2 w1 (.cells #[.int .i64 (m : Int), .int .i64 (t : Int)] 68) (.cells #[.int .i64 (f : Int), .int .i64 (m : Int)] 68)))))
        have k4 := nw4 w1 (.cells #[.int .i64 (f : Int), .int .i64 (m : Int)] 68) (.cells #[.int .i64 (m : Int), .int .i64 (t : Int)] 68) (spO f m) (spO b e)
        have B4 := al4 w1 (.cells #[.int .i64 (f : Int), .int .i64 (m : Int)] 68) (.cells #[.int .i64 (m : Int), .int .i64 (t : Int)] 68) (spO f m) (spO b e)
        have hsz : w2.heap.size = w1.heap.size + 1 + 1 + 1 + 1 := by rw [hw2]; simp
        rw [← hw2] at k4 B4 ⊢
        clear hw2 c0 c1 c8 c9 CS
        obtain ⟨kn, kf, kp, kq⟩ := k4
        have hy2 := bx hy1 B4
        have B2 := then_ (n := 0) B1 B4
        have hz : W.heap.size < w1.heap.size := bx_lt hy1
        clear kn B4 B1 hy1 hP2
        obtain ⟨y, hy⟩ : ∃ y, y = W.heap.size := ⟨_, rfl⟩
        obtain ⟨z, hz1⟩ : ∃ z, z = w1.heap.size + 1 := ⟨_, rfl⟩
        have eH : w1.heap.size + 1 = z := hz1.symm
        rw [← hy] at hz hy2 ⊢
        rw [eH] at kf kp kq hsz ⊢
        have hyz : y < z := by omega
        have I0 : ∃ Ko : Nat → Prop, Ko = fun k => K k ∨ (y ≤ k ∧ k < w2.heap.size) := ⟨_, rfl⟩
        obtain ⟨Ko, hKo⟩ := I0
        have hKoin : ∀ k, Ko k → k < w2.heap.size := by
          intro k h; rw [hKo] at h
          rcases h with h | h
          · have := hKin k h; have := B2.size; omega
          · exact h.2
        have hI0 : J [] (fun k => (k = z + 1 ∨ k = z + 1 + 1) ∨ Ko k) w2 := by
          refine hJ [] K _ W w2 h0 (.all B2 K) (fun k h => .inr (by rw [hKo]; exact .inl h)) ?_ ?_
          · rintro k (h | h)
            · exact .inr (by omega)
            · rw [hKo] at h
              rcases h with h | h
              · exact .inl h
              · exact .inr (by omega)
          · rintro k (h | h)
            · omega
            · exact hKoin k h
        have hKy : Ko y := by rw [hKo]; exact .inr ⟨Nat.le_refl _, by omega⟩
        have hKz : Ko z := by rw [hKo]; exact .inr ⟨by omega, by omega⟩
        have hKK : ∀ k, K k → Ko k := fun k h => by rw [hKo]; exact .inl h
        clear hKo h0 B2 hin p0 p1 hy hz1 eH
        refine range_law (gf := 101) (lb := #[.pointer (some ⟨z + 1, 0, none⟩), .pointer (some ⟨z + 1 + 1, 0, none⟩)]) rfl (enters_of Tryd.func101 (by kernel_rfl) rfl) (ih f m b e (z + 1) (by omega) (by omega) hr') (fun _ => rfl)
          (fun k => k = z + 1 ∨ k = z + 1 + 1) (fun _ h => h) (fun k h => by omega) (fun W' h => ⟨(h _ (by omega)).trans kp, (h _ (by omega)).trans kq⟩)
          (fun pre Ki Wx => J pre (fun k => Ki k ∨ Ko k) Wx ∧ Wx.heap[y]? = some (.cells #[.func (.yield l) #[] #[]] 121) ∧ Wx.heap[z]? = some (.cells #[.int .i64 (m : Int), .int .i64 (t : Int)] 68) ∧ ¬ Ki y ∧ ¬ Ki z ∧ w2.heap.size ≤ Wx.heap.size)
          ?abide ⟨hI0, hy2, kf, by omega, by omega, Nat.le_refl _⟩ ?round ?done
        case abide =>
          rintro ys Ka Kb A B ⟨hj, g1, g2, n1, n2, hs⟩ hst hsub hnew hkin
          have l1 : y < A.heap.size := bx_lt g1
          have l2 : z < A.heap.size := bx_lt g2
          refine ⟨hJ ys _ _ A B hj (hst.mono fun k _ h => .inl h) (fun k h => h.imp_left (hsub k)) ?_ ?_, hst.at g1 n1, hst.at g2 n2, ?_, ?_, Nat.le_trans hs hst.size⟩
          · rintro k (h | h)
            · exact (hnew k h).imp_left .inl
            · exact .inl (.inr h)
          · rintro k (h | h)
            · exact hkin k h
            · have := hKoin k h; have := hst.size; omega
          · intro h; rcases hnew y h with h | h
            · exact n1 h
            · omega
          · intro h; rcases hnew z h with h | h
            · exact n2 h
            · omega
        case round =>
          rintro l2 pre ⟨p, qq⟩ rest K1 Wr hx hsub hkin ⟨hj, g1, g2, n1, n2, hs⟩
          have hy' := fun W' (hj' : J pre (fun k => K1 k ∨ Ko k) W') (hs' : w2.heap.size ≤ W'.heap.size) (hk' : ∀ k, K1 k → k < W'.heap.size) => hY pre (p, qq) (rest ++ [(m, t)]) (fun k => K1 k ∨ Ko k) W' (by rw [← hx]; simp) (fun k h => .inr (hKK k h)) (fun k h => h.elim (hk' k) (fun h => Nat.lt_of_lt_of_le (hKoin k h) hs')) hj'
          unfold enc sp
          simp only [List.zip_toArray, List.zip_cons_cons, List.zip_nil_right, List.foldl_toArray', List.foldl_cons, List.foldl_nil, List.setIfInBounds_toArray, List.set_cons_succ, List.set_cons_zero, List.size_toArray, List.length_cons, List.length_nil]
          gi_wp2
          refine ⟨St.alloc _ _ _, fun W2 hst => ?_⟩
          have lr := nw1 Wr (.cells #[.int .i64 (p : Int), .int .i64 (qq : Int)] 68)
          have hbox := hst.at lr (fun h => by have := hkin _ h; omega)
          have hstW : St K1 Wr W2 := (St.alloc K1 Wr _).trans hst
          have g1' := hstW.at g1 n1
          have g2' := hstW.at g2 n2
          have hs2 := Nat.le_trans hs hstW.size
          have hk2 : ∀ k, K1 k → k < W2.heap.size := fun k h => Nat.lt_of_lt_of_le (hkin k h) hstW.size
          have hj2 : J pre (fun k => K1 k ∨ Ko k) W2 := hJ pre _ _ Wr W2 hj (hstW.mono fun k _ h => .inl h) (fun _ h => h) (fun _ h => .inl h) (fun k h => h.elim (hk2 k) (fun h => Nat.lt_of_lt_of_le (hKoin k h) hs2))
          obtain ⟨fn, tmps, assign, body, hyy, hR⟩ := hy' W2 hj2 hs2 hk2
          unfold enc sp at hyy
          dsimp only at hyy
          obtain ⟨d0, d1⟩ := row2 hbox
          have d2 := cell_of_row _ _ 0 _ _ _ g1'
          simp only [List.getElem?_toArray, List.getElem?_cons_zero] at d2
          clear hy' hst lr hbox hstW hj2 hj hx
          gi_wp2
          have hR2 : RoundIn (Fence.wide.inRound l2) 0 Tryd.prog l fn tmps assign body W2 _ := hR
          refine ⟨rfl, hR2.mono ?_⟩
          rintro e' W3 ⟨rfl, hj3, hs3⟩
          gi_wp2
          exact post_normal ⟨hj3, hs3.at g1' (fun h => h (.inr hKy)), hs3.at g2' (fun h => h (.inr hKz)), n1, n2, Nat.le_trans hs2 hs3.size⟩ (hs3.mono fun k _ h h' => h (.inl h'))
        case done =>
          rintro D K1 Wr hD hKD hsub hkin ⟨hj, g1, g2, n1, n2, hs⟩ hdf
          have hkk : ∀ k, (K1 k ∨ Ko k) → k < Wr.heap.size := fun k h => h.elim (hkin k) (fun h => Nat.lt_of_lt_of_le (hKoin k h) hs)
          obtain ⟨fn, tmps, assign, body, hyy, hR⟩ := hY (sib f m b e) (m, t) [] (fun k => K1 k ∨ Ko k) Wr rfl (fun k h => .inr (hKK k h)) hkk hj
          unfold enc sp at hyy
          dsimp only at hyy
          obtain ⟨d0, d1⟩ := row2 g2
          have d2 := cell_of_row _ _ 0 _ _ _ g1
          simp only [List.getElem?_toArray, List.getElem?_cons_zero] at d2
          clear hY ih hj
          gi_wp2
          refine ⟨rfl, hR.mono ?_⟩
          rintro e' W3 ⟨rfl, hj3, hs3⟩
          gi_wp2
          have hdf3 := hs3.at hdf (fun h => h (.inl hKD))
          refine ⟨by simp, .inl ⟨_, _, rfl, run_takeDeferred hdf3, ?_⟩⟩
          have hk3 : ∀ k, (K1 k ∨ Ko k) → k < (W3.putObj D (.deferred none)).heap.size := fun k h => by have := hkk k h; have := hs3.size; simp; omega
          exact ⟨_, results_none rfl _ _ _, ⟨_, rfl⟩, fun k => K1 k ∨ Ko k, fun k h => .inr (hKK k h), hk3, hJ _ _ _ W3 _ hj3 (.putObj W3 _ (.inl hKD)) (fun _ h => h) (fun _ h => .inl h) hk3⟩
end Go.Proofs.YtiiklednbhklhaaDoor.T8j
