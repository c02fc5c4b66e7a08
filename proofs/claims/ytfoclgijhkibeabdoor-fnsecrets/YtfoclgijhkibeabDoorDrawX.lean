/-
  What the law on secrets draws: a key, messages and their signatures.
-/
import Derived.Test.YtfoclgijhkibeabDoorDrawV
import Derived.Test.YtfoclgijhkibeabDoorSgs
import Derived.Deep.CutRange
namespace Go.Proofs.YtfoclgijhkibeabDoor.DrawX
open Go.ChangeShapes Go.WideShapes Go.ChangeAt Go.RowKit
open Go.Proofs.YtfoclgijhkibeabDoor.Mem Go.Proofs.YtfoclgijhkibeabDoor.Ints Go.Proofs.YtfoclgijhkibeabDoor.Cur Go.Proofs.YtfoclgijhkibeabDoor.DrawM Go.Proofs.YtfoclgijhkibeabDoor.Strs Go.Proofs.YtfoclgijhkibeabDoor.Key Go.Proofs.YtfoclgijhkibeabDoor.Cha Go.Proofs.YtfoclgijhkibeabDoor.Chb Go.Proofs.YtfoclgijhkibeabDoor.Rec Go.Proofs.YtfoclgijhkibeabDoor.Sgt Go.Proofs.YtfoclgijhkibeabDoor.DrawN Go.Proofs.YtfoclgijhkibeabDoor.DrawO Go.Proofs.YtfoclgijhkibeabDoor.DrawQ Go.Proofs.YtfoclgijhkibeabDoor.Sgs
set_option linter.unusedVariables false
set_option maxRecDepth 100000

theorem rowKept {W W' : World} {base base' e e' s s' n n' : Nat} {v v' : Value} {xs xs' : List Value} (h : W.ownsRow base e s v n xs) (k : W.ownsRow base' e' s' v' n' xs') (hne : e ≠ e') (hg : W.grownBy W' v'.ownBlock) : W'.ownsRow base e s v n xs := by
  refine ⟨h.1, ?_⟩
  rcases h.2 with h0 | ⟨g, cap, cur, h1, h2, h3, h4⟩
  · exact .inl h0
  · refine .inr ⟨g, cap, cur, h1, h2, (hg.block g (Array.getElem?_eq_some_iff.1 h3).1 ?_).trans h3, h4⟩
    intro e9
    rcases k.2 with ⟨rfl, _⟩ | ⟨g', cap', cur', rfl, _, h3', _⟩
    · simp [Value.ownBlock] at e9
    · obtain rfl : g = g' := by simpa [Value.ownBlock] using e9
      rw [h3] at h3'
      simp at h3'
      exact hne h3'.2
theorem boxKept {W W' : World} {g base' e e' s' n' : Nat} {cs : Array Value} {v' : Value} {xs' : List Value} (h3 : W.heap[g]? = some (.cells cs e)) (k : W.ownsRow base' e' s' v' n' xs') (hne : e ≠ e') (hg : W.grownBy W' v'.ownBlock) : W'.heap[g]? = some (.cells cs e) := by
  refine (hg.block g (Array.getElem?_eq_some_iff.1 h3).1 ?_).trans h3
  intro e9
  rcases k.2 with ⟨rfl, _⟩ | ⟨g', cap', cur', rfl, _, h3', _⟩
  · simp [Value.ownBlock] at e9
  · obtain rfl : g = g' := by simpa [Value.ownBlock] using e9
    rw [h3] at h3'
    simp at h3'
    exact hne h3'.2
/-- What is carried along: the cursor, what lies below, both rows. -/
structure Two (w W : World) (p K q : Nat) (v u : Value) (l : List ByteArray) (a : List Sg) : Prop where
  cur : Cur W p p K
  bel : Below w.heap.size w W
  str : W.ownsRow (w.heap.size + 1) 9 1 v q (svs l)
  sig : W.ownsRow (w.heap.size + 1) 28 2 u q (sgs a)
theorem Two.upd {w W W' : World} {p K K' q : Nat} {v u : Value} {l : List ByteArray} {a : List Sg} (h : Two w W p K q v u l a) (hp : w.heap.size = p) (x : Upd p W W') (c : Cur W' p p K') : Two w W' p K' q v u l a :=
  ⟨c, h.bel.trans (x.below (by omega) h.bel.size), own_keepS h.str fun b hb hbase => x.block b hb (by omega), own_keepS h.sig fun b hb hbase => x.block b hb (by omega)⟩
theorem Two.below {w W W' : World} {p K q : Nat} {v u : Value} {l : List ByteArray} {a : List Sg} (h : Two w W p K q v u l a) (b : Below W.heap.size W W') : Two w W' p K q v u l a :=
  ⟨curBel h.cur b, h.bel.trans (b.mono h.bel.size), own_belowS h.str b (Nat.le_refl _), own_belowS h.sig b (Nat.le_refl _)⟩
theorem Two.appS {w W W' : World} {p K q m : Nat} {v v' u : Value} {l : List ByteArray} {a : List Sg} {s : ByteArray} (h : Two w W p K q v u l a) (hp : w.heap.size = p) (h1 : W'.ownsRow (w.heap.size + 1) 9 1 v' m (svs l ++ [.string s])) (hg : W.grownBy W' v.ownBlock) :
    Cur W' p p K ∧ Below w.heap.size w W' ∧ W'.ownsRow (w.heap.size + 1) 9 1 v' m (svs (l ++ [s])) ∧ W'.ownsRow (w.heap.size + 1) 28 2 u q (sgs a) := by
  have hge := ownBlock_ge h.str
  refine ⟨curGrown h.cur hg (fun k hk => by have := hge k hk; omega), h.bel.grown hg h.bel.size (fun g hgg => by have := hge g hgg; omega), ?_, rowKept h.sig h.str (by decide) hg⟩
  unfold svs at *; rw [List.map_append]; exact h1
theorem appG {w W W' : World} {p K q m n : Nat} {v u u' : Value} {l : List ByteArray} {a : List Sg} {R z : Int} (hp : w.heap.size = p) (hc : Cur W p p K) (hb : Below w.heap.size w W) (hS : W.ownsRow (w.heap.size + 1) 9 1 v n (svs l)) (hu : W.ownsRow (w.heap.size + 1) 28 2 u q (sgs a)) (h1 : W'.ownsRow (w.heap.size + 1) 28 2 u' m (sgs a ++ [.int .i64 R, .int .i64 z])) (hg : W.grownBy W' u.ownBlock) (hm : m = n) :
    Two w W' p K n v u' l (a ++ [(R, z)]) := by
  subst hm
  have hge := ownBlock_ge hu
  refine ⟨curGrown hc hg (fun k hk => by have := hge k hk; omega), hb.grown hg hb.size (fun g hgg => by have := hge g hgg; omega), rowKept hS hu (by decide) hg, ?_⟩
  rw [sgs_app]; exact h1
theorem Two.mono {w W : World} {p K K' q : Nat} {v u : Value} {l : List ByteArray} {a : List Sg} (h : Two w W p K q v u l a) (hK : K ≤ K') : Two w W p K' q v u l a := ⟨h.cur.mono hK, h.bel, h.str, h.sig⟩
theorem Two.set {w W : World} {p K q g i : Nat} {v u z : Value} {l : List ByteArray} {a : List Sg} (h : Two w W p K q v u l a) (hp : w.heap.size = p) (hg : w.heap.size < g) (hs : v.ownBlock ≠ some g) (hu : u.ownBlock ≠ some g) : Two w (W.setCell ⟨g, i, none⟩ z) p K q v u l a :=
  ⟨curSet h.cur (by omega) z, h.bel.setCell (by dsimp only; omega) z, ownsRow_setCell_other h.str hs z, ownsRow_setCell_other h.sig hu z⟩
def SomeB (w : World) (e : Ending) (w' : World) : Prop := ∃ (k : Int) (v u : Value) (q : Nat) (l : List ByteArray) (a : List Sg), e = .returned (.tuple #[.int .i64 k, v, u]) ∧ q ≤ 3 ∧ (∀ s ∈ l, s.size ≤ 201) ∧ w'.ownsRow w.heap.size 9 1 v q (svs l) ∧ w'.ownsRow w.heap.size 28 2 u q (sgs a) ∧ Below w.heap.size w w'
set_option maxHeartbeats 8000000 in
theorem drawBoth (A : Option Addr) (n c : Nat) (cs : List UInt8) (w : World) (hn : n ≤ maxLen) (hx : Rd w w.heap.size 1 A n (Cur.bytes cs)) :
    Calls Tryd.prog 14 #[.slice A n c] w (SomeB w) := by
  obtain ⟨i0, hi, hz0, hz1, hz2⟩ := info_parts infoS
  obtain ⟨j0, gi, gz0, gz1, gz2⟩ := info_parts infoSg
  have HC := Lib.hid (boxed_cur A n c cs w hn hx)
  have HB := Lib.hid (al1 w (.cells #[.slice A n c, .int .i64 0, .int .u64 0] 73))
  clear hx
  go_enter Tryd.func14, Tryd.ntmps14
  go_wp2_with fail
  generalize World.alloc w _ = W0 at *
  generalize hp : w.heap.size = p at *
  refine (secret p p 0 W0 (by omega) HC.out).mono ?_
  rintro e w1 ⟨n0, rfl, -, -, hc, hu⟩
  have T := Lib.hid (Two.upd (v := .slice none 0 0) (u := .slice none 0 0) (l := []) (a := []) (q := 0) ⟨HC.out, by rw [hp]; exact HB.out, World.ownsRow_nil _ _ _ _, World.ownsRow_nil _ _ _ _⟩ hp hu hc)
  clear hc hu HC HB
  obtain ⟨k, bk, -, KS, -, -⟩ := keyBoth n0
  have HKS := Lib.hid KS
  clear KS
  go_wp2_with fail
  refine (HKS.out _).mono ?_
  rintro e w' ⟨rfl, rfl⟩
  clear HKS
  go_wp2_with fail
  refine (pick p p _ 4 w1 (by omega) (by omega) T.out.cur).mono ?_
  rintro e w2 ⟨x, rfl, x0, x1, hc, hu⟩
  replace T := Lib.hid (T.out.upd hp hu hc)
  clear hc hu
  go_wp2_with fail
  go_loopw [9, 10, 11] (fun v u i wr => ∃ (j q : Nat) (l : List ByteArray) (a : List Sg), q + j ≤ 3 ∧ i = .int .i64 j ∧ (∀ s ∈ l, s.size ≤ 201) ∧ Two w wr p (6 + 6 * (3 - j)) q v u l a) (fun _ _ i _ => (intOf i).toNat)
  case atStart => exact ⟨x.toNat, 0, [], [], by omega, by rw [Int.toNat_of_nonneg x0], by simp, T.out.mono (by omega)⟩
  case round =>
    obtain ⟨j, q, l, a, hq, rfl, hl, T0⟩ := hrel
    clear T
    have T := Lib.hid T0
    have HL := Lib.hid hl
    clear T0 hl
    by_cases h0 : 0 < j
    · have hj0 : (0 : Int) < (j : Int) := by omega
      go_wp2_with fail
      refine (message p p _ _ (by omega) T.out.cur).mono ?_
      rintro e w3 ⟨s, rfl, hs, hc, hu⟩
      replace T := Lib.hid (T.out.upd hp hu hc)
      clear hc hu
      obtain ⟨R, S, b1, TS⟩ := textS n0 s (by unfold maxLen; omega)
      have HTS := Lib.hid TS
      clear TS
      unfold pv at HTS
      go_wp2_with fail
      refine (HTS.out _).mono ?_
      rintro e w4 ⟨rfl, b⟩
      have aB := al1 w4 (.cells #[.int .i64 R, .int .i64 S] 28)
      have X := Lib.hid (nw1 w4 (.cells #[.int .i64 R, .int .i64 S] 28))
      have hgp := (T.out.below b).cur.lt
      have nS : u9.ownBlock ≠ some w4.heap.size := fun h => by
        rcases (T.out.below b).str.2 with ⟨rfl, _⟩ | ⟨g', cap', cur', rfl, _, h3', _⟩
        · simp [Value.ownBlock] at h
        · obtain rfl : g' = w4.heap.size := by simpa [Value.ownBlock] using h
          exact absurd (bx_lt h3') (by omega)
      have nG : u10.ownBlock ≠ some w4.heap.size := fun h => by
        rcases (T.out.below b).sig.2 with ⟨rfl, _⟩ | ⟨g', cap', cur', rfl, _, h3', _⟩
        · simp [Value.ownBlock] at h
        · obtain rfl : g' = w4.heap.size := by simpa [Value.ownBlock] using h
          exact absurd (bx_lt h3') (by omega)
      replace T := Lib.hid ((T.out.below b).below aB)
      clear b aB HTS
      go_wp2_with fail
      generalize World.alloc w4 _ = W4 at *
      generalize w4.heap.size = g at *
      refine (one p p _ 8 W4 (by omega) (by omega) T.out.cur).mono ?_
      rintro e w5 ⟨bo, rfl, hc, hu⟩
      replace T := Lib.hid (T.out.upd hp hu hc)
      replace X := Lib.hid (rowUpd X.out hu (by omega))
      clear hc hu
      go_upto_if 40 with (fail)
      go_cut [12] from 27 to 53 (fun s12 wc => ∃ z : Int, s12 = .string s ∧ Two w wc p (6 + 6 * (3 - j) + 4 + 2) q u9 u10 l a ∧ wc.heap[g]? = some (.cells #[.int .i64 R, .int .i64 z] 28))
      case first =>
        cases bo
        · go_wp2
          go_meet
          case rel => exact ⟨S, rfl, T.out, X.out⟩
        · obtain ⟨c0, c1⟩ := row2 X.out
          obtain ⟨f0, f1⟩ := frz2 X.out
          have zg := bx_lt X.out
          go_wp2
          go_meet
          case rel => exact ⟨_, rfl, T.out.set hp (by omega) nS nG, by simpa using heap_setCell_same w5 g 1 _ _ _ X.out⟩
      case rest =>
        obtain ⟨z, rfl, T0, X0⟩ := hcut
        clear T X
        have T := Lib.hid T0
        have X := Lib.hid X0
        clear T0 X0
        generalize wc = V0 at *
        have hz := T.out.bel.size
        have aB := Lib.hid (al1 V0 (.cells #[.string s] 9))
        have T2 := Lib.hid (T.out.below aB.out)
        have X2 := Lib.hid (bx X.out aB.out)
        go_wp2_with (first
          | (at_builtin; refine wpList_append_lies _ rfl _ _ _ rfl (w.heap.size + 1) 9 i0 _ 1 16 Tryd.underlying35 hi hz0 hz1 hz2 rfl (by omega) _ q _ rfl T2.out.str ⟨V0.heap.size, 0, none⟩ 1 1 _ rfl rfl (World.news_of_block (heap_alloc_new V0 _)) (by simp [Value.oneCell']) (by omega) (by unfold maxLen; omega) (by omega) (by have := T.out.cur.lt; simp; omega) (V0.heap.size + 1) (by simp) ?_; intro g2 cap w6 hown1 hgrow hat hlt1; have R6 := Lib.hid (T2.out.appS hp hown1 hgrow); have X6 := boxKept X2.out T2.out.str (by decide) hgrow; obtain ⟨c0, c1⟩ := row2 X6; have l6 := bx_lt X6; clear hown1 hgrow hat; have aB6 := Lib.hid (al1 w6 (.cells #[.int .i64 R, .int .i64 z] 28)); have O6 := Lib.hid (own_belowS R6.out.2.2.2 aB6.out (Nat.le_refl _)); have hz6 := R6.out.2.1.size)
          | (at_builtin; refine wpList_append_lies _ rfl _ _ _ rfl (w.heap.size + 1) 28 j0 _ 2 16 Tryd.underlying36 gi gz0 gz1 gz2 rfl (by omega) _ q _ rfl O6.out ⟨w6.heap.size, 0, none⟩ 1 1 _ rfl rfl (World.news_of_block (heap_alloc_new w6 _)) (by simp [Value.oneCell']) (by omega) (by unfold maxLen; omega) (by omega) (by have := R6.out.1.lt; simp; omega) (w6.heap.size + 1) (by simp) ?_; intro g3 cap3 w7 hown2 hgrow2 hat2 hlt2))
        have R7 := Lib.hid (appG (R := R) (z := z) hp (curBel R6.out.1 aB6.out) (R6.out.2.1.trans (aB6.out.mono R6.out.2.1.size)) (own_belowS R6.out.2.2.1 aB6.out (Nat.le_refl _)) O6.out hown2 hgrow2 rfl)
        have HL2 : ∀ s' ∈ l ++ [s], s'.size ≤ 201 := by
          intro s' h'
          rcases List.mem_append.1 h' with h' | h'
          · exact HL.out s' h'
          · rw [List.mem_singleton.1 h']; exact hs
        go_roundw
        case rel => exact ⟨j - 1, q + 1, l ++ [s], a ++ [(R, z)], by omega, by go_num, HL2, R7.out.mono (by omega)⟩
        case measure => simp [intOf]; omega
    · obtain ⟨A1, c1, rfl⟩ := own_shapeS T.out.str
      obtain ⟨A2, c2, rfl⟩ := own_shapeS T.out.sig
      have hj0 : ¬ (0 : Int) < (j : Int) := by omega
      go_wp2
      refine bodyPost_ret (v := .tuple #[.int .i64 k, .slice A1 q c1, .slice A2 q c2]) (by simp [results, Tryd.results14, go_sem]) rfl ?_
      exact ⟨k, _, _, q, l, a, rfl, by omega, HL.out, own_base T.out.str (by omega), own_base T.out.sig (by omega), T.out.bel⟩
end Go.Proofs.YtfoclgijhkibeabDoor.DrawX
