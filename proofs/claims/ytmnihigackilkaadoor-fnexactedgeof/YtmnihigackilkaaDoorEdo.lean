/-
  The frontier of a list: one answer of both sides.
-/
import Derived.Test.YtmnihigackilkaaDoorEdu
namespace Go.Proofs.YtmnihigackilkaaDoor.Edo
open Go.ChangeShapes Go.WideShapes Go.ChangeAt Go.RowKit
open Go.Proofs.YtmnihigackilkaaDoor.Mem Go.Proofs.YtmnihigackilkaaDoor.Ints Go.Proofs.YtmnihigackilkaaDoor.Strs Go.Proofs.YtmnihigackilkaaDoor.ShaComp Go.Proofs.YtmnihigackilkaaDoor.Digest Go.Proofs.YtmnihigackilkaaDoor.DigestI Go.Proofs.YtmnihigackilkaaDoor.Mkl Go.Proofs.YtmnihigackilkaaDoor.Slq Go.Proofs.YtmnihigackilkaaDoor.Rec Go.Proofs.YtmnihigackilkaaDoor.T8 Go.Proofs.YtmnihigackilkaaDoor.T8s Go.Proofs.YtmnihigackilkaaDoor.T8i Go.Proofs.YtmnihigackilkaaDoor.Edg Go.Proofs.YtmnihigackilkaaDoor.Pop Go.Proofs.YtmnihigackilkaaDoor.Bit Go.Proofs.YtmnihigackilkaaDoor.Pts Go.Proofs.YtmnihigackilkaaDoor.Edq Go.Proofs.YtmnihigackilkaaDoor.Edn Go.Proofs.YtmnihigackilkaaDoor.Edw Go.Proofs.YtmnihigackilkaaDoor.Edp Go.Proofs.YtmnihigackilkaaDoor.Edt Go.Proofs.YtmnihigackilkaaDoor.Edu
set_option linter.unusedVariables false
set_option linter.unusedSimpArgs false
set_option maxRecDepth 100000

/-- The frontier of a list. -/
def edL (l : List ByteArray) : List ByteArray := (edge dig (l.map tl)).map bs
theorem edge_all : ∀ (b : Nat) (l : List (List UInt8)), l.length ≤ b → ∀ s ∈ edge dig l, s.length = 32 := by
  intro b
  induction b with
  | zero => intro l h s hs
            have : l = [] := List.eq_nil_of_length_eq_zero (by omega)
            subst this; rw [edge_nil] at hs; cases hs
  | succ b ih =>
    intro l h s hs
    by_cases h0 : l.length = 0
    · have : l = [] := List.eq_nil_of_length_eq_zero h0
      subst this; rw [edge_nil] at hs; cases hs
    · have ht := top_lt (show 1 ≤ l.length by omega)
      rw [edge_pos dig l (by omega)] at hs
      rcases List.mem_cons.1 hs with rfl | hs
      · exact root_len dig dig32 _
      · exact ih _ (by rw [List.length_drop]; omega) s hs
theorem edL_32 (l : List ByteArray) : ∀ s ∈ edL l, s.size = 32 := by
  intro s hs
  obtain ⟨y, hy, rfl⟩ := List.mem_map.1 hs
  rw [bs_size]
  exact edge_all _ _ (Nat.le_refl _) y hy
theorem edL_len (l : List ByteArray) : (edL l).length = pc l.length := by
  unfold edL
  rw [List.length_map, edge_len dig _ _ (Nat.le_refl _), List.length_map]
theorem edL_nil : edL [] = [] := by unfold edL; rw [List.map_nil, edge_nil]; rfl
theorem edL_put (l : List ByteArray) (k : Nat) (h : k < l.length) : ptL k (edL (l.take k)) l[k] = edL (l.take (k + 1)) := by
  unfold ptL edL
  rw [map_tl_bs, List.take_succ_eq_append_getElem h, List.map_append, List.map_cons, List.map_nil, edge_put dig _ _ _ (Nat.le_refl _), List.length_map, List.length_take, Nat.min_eq_left (by omega)]
theorem okE_edL (l : List ByteArray) (k : Nat) (hk : k ≤ l.length) (h : l.length ≤ 1000000) : okE (k : Int) (edL (l.take k)) = true :=
  okE_of k _ (by omega) (edL_32 _) (by rw [edL_len, List.length_take, Nat.min_eq_left hk])
theorem okP_edL (l : List ByteArray) (k : Nat) (hk : k < l.length) (h : l.length ≤ 20) (hx : l[k].size ≤ 100) : okP (k : Int) (edL (l.take k)) l[k] = true := by
  unfold okP
  rw [okE_edL l k (by omega) (by omega), decide_eq_true hx, decide_eq_true (show (k : Int) ≠ 1000000 by omega)]; rfl
theorem edL_pc (l : List ByteArray) (k : Nat) (hk : k ≤ l.length) : (edL (l.take k)).length = pc k := by
  rw [edL_len, List.length_take, Nat.min_eq_left hk]
theorem own_null {w : World} {base e n c : Nat} {A : Option Addr} {xs : List Value} (h : w.ownsRow base e 1 (.slice A n c) n xs) : A = none → n = 0 ∧ c = 0 := by
  intro hA
  subst hA
  rcases h.2 with ⟨hv, h0⟩ | ⟨g, cap, cur, hv, -⟩
  · simp only [Value.slice.injEq] at hv
    exact ⟨h0, hv.2.2⟩
  · simp at hv
theorem keep_box {W : World} {b b2 : Nat} {o : Obj} (K : W.heap[b]? = some o) (hlt : b < b2) (x y : Value) : ((W.setCell ⟨b2, 0, none⟩ x).setCell ⟨b2, 1, none⟩ y).heap[b]? = some o :=
  ((Below.setCell (Below.setCell (Below.refl b2 W) (Nat.le_refl _) _) (Nat.le_refl _) _).block b hlt).trans K
theorem stepImpl (l : List ByteArray) (k : Nat) (hl : k < l.length) (h20 : l.length ≤ 20) (hx : l[k].size ≤ 100) (A : Option Addr) (c B : Nat) (w : World) (hB : B ≤ w.heap.size) (hr : Rd w B 1 A (edL (l.take k)).length (svs (edL (l.take k)))) (hT : Tbl w) :
    Calls Tryd.prog 55 #[edV k A (edL (l.take k)).length c, .string l[k]] w (Ans ((k + 1 : Nat) : Int) (edL (l.take (k + 1))) true w) := by
  have h := implPutYes k A c (edL (l.take k)) l[k] B w (by omega) (edL_pc l k (by omega)) (edL_32 _) hx hB hr hT
  rwa [edL_put l k hl] at h
set_option maxHeartbeats 8000000 in
theorem implOfYes (A : Option Addr) (n c : Nat) (l : List ByteArray) (B : Nat) (w : World) (hln : l.length = n) (hok : okL l = true) (hB : B ≤ w.heap.size) (hr : Rd w B 1 A n (svs l)) (hT : Tbl w) :
    Calls Tryd.prog 40 #[.slice A n c] w (Ans (n : Int) (edL l) true w) := by
  obtain ⟨hlv, h20⟩ := okL_yes hok
  have C1 := Lib.hid (fun W (h : Below w.heap.size w W) => T8i.areLeaves A n c l B W (by omega) (fun s hs => by have := hlv s hs; unfold maxLen; omega) (hr.below h hB))
  rw [hok] at C1
  have HLV := Lib.hid hlv
  have HX := Lib.hid hr
  have HT := Lib.hid hT
  have b0 := al2 w (.cells #[.int .i64 0, .slice none 0 0] 53) (.cells #[.int .i64 0, .slice none 0 0] 53)
  obtain ⟨kq, kr⟩ := nw2 w (.cells #[.int .i64 0, .slice none 0 0] 53) (.cells #[.int .i64 0, .slice none 0 0] 53)
  clear hr hT hok hlv
  subst hln
  unfold Ans edV
  go_enter Tryd.func40, Tryd.ntmps40
  go_wp2_with fail
  refine (C1.out _ (al1 w _)).mono ?_
  rintro e' w' ⟨rfl, rfl⟩
  clear C1
  go_wp2_with fail
  generalize World.alloc (World.alloc w _) _ = W0 at *
  go_loopw [13] (fun i wr => ∃ (k : Nat) (A' : Option Addr) (c' : Nat), k ≤ l.length ∧ i = .int .i64 k ∧ wr.heap[w.heap.size]? = some (.cells #[.int .i64 0, .slice none 0 0] 53) ∧ wr.heap[w.heap.size + 1]? = some (.cells #[.int .i64 k, .slice A' (edL (l.take k)).length c'] 53) ∧ Hid (wr.ownsRow (w.heap.size + 1 + 1) 9 1 (.slice A' (edL (l.take k)).length c') (edL (l.take k)).length (svs (edL (l.take k)))) ∧ Below w.heap.size w wr) (fun i _ => l.length - (intOf i).toNat)
  case atStart => exact ⟨0, none, 0, by omega, rfl, kq, by rw [List.take_zero, edL_nil]; exact kr, Lib.hid (by rw [List.take_zero, edL_nil]; exact World.ownsRow_nil _ _ _ _), b0⟩
  case round =>
    obtain ⟨k, A', c', hk, rfl, kq', kr', HO, hb⟩ := hrel
    clear kq kr b0
    have hsz := hb.size
    have hlt2 := bx_lt kr'
    by_cases hlt : k < l.length
    · obtain ⟨b, off, hl, rfl, _, hc⟩ := rd_str (HX.out.below hb hB) hlt
      have hx := HLV.out _ (List.getElem_mem hl)
      have K := (stepImpl l k hl h20 hx A' c' wr.heap.size wr (Nat.le_refl _) (Rd.own HO.out) (HT.out.below hb))
      have i0 : (0 : Int) ≤ (k : Int) := by omega
      have i1 : (k : Int) < (l.length : Int) := by omega
      obtain ⟨k1, hk1⟩ : ∃ k1, k + 1 = k1 := ⟨_, rfl⟩
      obtain ⟨q2, hq2⟩ : ∃ q2, edL (l.take k1) = q2 := ⟨_, rfl⟩
      rw [hk1, hq2] at K
      have HK1 := Lib.hid hk1
      have K := Lib.hid K
      have HQ2 := Lib.hid hq2
      clear hq2 hk1
      generalize edL (l.take k) = q at *
      generalize l[k] = x at *
      obtain ⟨p0, p1⟩ := row2 kr'
      unfold Ans edV at K
      clear HX HT HLV hx HO
      go_wp2_with fail
      refine K.out.mono ?_
      rintro e' w2 ⟨A2, c2, rfl, o2, b9⟩
      have hb2 := then_ (n := 0) hb b9
      have kq2 := bx kq' b9
      have kr2 := bx kr' b9
      have O2 := Lib.hid (own_base o2 (show w.heap.size + 1 + 1 ≤ wr.heap.size from by omega))
      clear b9 o2 K p0 p1 kq' kr' hc hb
      obtain ⟨c0, c1⟩ := row2 kr2
      obtain ⟨f0, f1⟩ := frz2 kr2
      go_wp2
      have hkq : (((w2.setCell ⟨w.heap.size + 1, 0, none⟩ (.int .i64 (k1 : Int))).setCell ⟨w.heap.size + 1, 1, none⟩ (.slice A2 q2.length c2)).heap[w.heap.size]? = some (.cells #[.int .i64 0, .slice none 0 0] 53)) := keep_box kq2 (by omega) _ _
      have hkr := heap_set2 (x := .int .i64 (k1 : Int)) (y := .slice A2 q2.length c2) kr2
      have hO3 := ownsRow_setCell_below (ownsRow_setCell_below O2.out (by dsimp only; omega) (a := ⟨w.heap.size + 1, 0, none⟩) (.int .i64 (k1 : Int))) (by dsimp only; omega) (a := ⟨w.heap.size + 1, 1, none⟩) (.slice A2 q2.length c2)
      have hb3 : Below w.heap.size w ((w2.setCell ⟨w.heap.size + 1, 0, none⟩ (.int .i64 (k1 : Int))).setCell ⟨w.heap.size + 1, 1, none⟩ (.slice A2 q2.length c2)) := Below.setCell (Below.setCell hb2 (Nat.le_succ _) _) (Nat.le_succ _) _
      clear c0 c1 f0 f1 kq2 kr2 O2 hb2
      generalize (w2.setCell ⟨w.heap.size + 1, 0, none⟩ (.int .i64 (k1 : Int))).setCell ⟨w.heap.size + 1, 1, none⟩ (.slice A2 q2.length c2) = w3 at *
      go_roundw
      case rel => exact ⟨k1, A2, c2, by have := HK1.out; omega, by rw [← HK1.out]; go_num, hkq, by rw [HQ2.out]; exact hkr, Lib.hid (by rw [HQ2.out]; exact hO3), hb3⟩
      case measure => simp [intOf]; omega
    · obtain rfl : k = l.length := by omega
      rw [List.take_length] at *
      obtain ⟨p0, p1⟩ := row2 kr'
      obtain ⟨f0, f1⟩ := frz2 kq'
      obtain ⟨c0, c1⟩ := row2 kq'
      clear HX HT HLV
      go_wp2
      obtain ⟨e0, e1⟩ := row2 (heap_set2 (x := .int .i64 (l.length : Int)) (y := .slice A' (edL l).length c') kq')
      refine bodyPost_ret (v := .tuple #[.agg #[.int .i64 (l.length : Int), .slice A' (edL l).length c'], .bool true]) (by simp [results, Tryd.results40, go_sem, e0, e1]) rfl ⟨A', c', rfl, ?_, ?_⟩
      · exact own_base (ownsRow_setCell_below (ownsRow_setCell_below HO.out (by dsimp only; omega) _) (by dsimp only; omega) _) (show w.heap.size ≤ w.heap.size + 1 + 1 by omega)
      · exact Below.setCell (Below.setCell hb (Nat.le_refl _) _) (Nat.le_refl _) _
theorem implOfNo (A : Option Addr) (n c : Nat) (l : List ByteArray) (B : Nat) (w : World) (hn : n ≤ 1048576) (hs : ∀ s ∈ l, s.size ≤ maxLen) (hok : okL l = false) (hB : B ≤ w.heap.size) (hr : Rd w B 1 A n (svs l)) :
    Calls Tryd.prog 40 #[.slice A n c] w (Ans 0 [] false w) := by
  have C1 := Lib.hid (fun W (h : Below w.heap.size w W) => T8i.areLeaves A n c l B W hn hs (hr.below h hB))
  rw [hok] at C1
  have b0 := al1 w (.cells #[.int .i64 0, .slice none 0 0] 53)
  have kr := nw1 w (.cells #[.int .i64 0, .slice none 0 0] 53)
  clear hr hok hs
  go_enter Tryd.func40, Tryd.ntmps40
  go_wp2_with fail
  refine (C1.out _ (al1 w _)).mono ?_
  rintro e' w' ⟨rfl, rfl⟩
  clear C1
  generalize World.alloc w _ = W0 at *
  obtain ⟨c0, c1⟩ := row2 kr
  obtain ⟨f0, f1⟩ := frz2 kr
  go_wp2
  obtain ⟨e0, e1⟩ := row2 (heap_set2 (x := .int .i64 0) (y := .slice none 0 0) kr)
  refine bodyPost_ret (v := .tuple #[.agg #[.int .i64 0, .slice none 0 0], .bool false]) (by simp [results, Tryd.results40, go_sem, e0, e1]) rfl (ansNo false (Below.setCell (Below.setCell b0 (Nat.le_refl _) _) (Nat.le_refl _) _))
theorem stepSpec (l : List ByteArray) (k : Nat) (hl : k < l.length) (h20 : l.length ≤ 20) (hx : l[k].size ≤ 100) (A : Option Addr) (c B : Nat) (w : World) (hB : B ≤ w.heap.size) (hnil : A = none → (edL (l.take k)).length = 0 ∧ c = 0) (hr : Rd w B 1 A (edL (l.take k)).length (svs (edL (l.take k)))) :
    Calls Tryd.prog 123 #[edV k A (edL (l.take k)).length c, .string l[k]] w fun e w' => ∃ A' c', e = .returned (edV ((k + 1 : Nat) : Int) A' (edL (l.take (k + 1))).length c') ∧ w'.ownsRow w.heap.size 9 1 (.slice A' (edL (l.take (k + 1))).length c') (edL (l.take (k + 1))).length (svs (edL (l.take (k + 1)))) ∧ Below w.heap.size w w' := by
  have h := l9Put k A (edL (l.take k)).length c (edL (l.take k)) l[k] B w (by omega) (by rw [edL_pc l k (by omega)]; exact Nat.le_trans (pc_le21 k (by omega)) (by omega)) rfl (edL_32 _) (by omega) hnil hB hr
  rwa [edL_put l k hl] at h
set_option maxHeartbeats 8000000 in
theorem l9Of (A : Option Addr) (n c : Nat) (l : List ByteArray) (B : Nat) (w : World) (hln : l.length = n) (hok : okL l = true) (hB : B ≤ w.heap.size) (hr : Rd w B 1 A n (svs l)) :
    Calls Tryd.prog 108 #[.slice A n c] w fun e w' => ∃ A' c', e = .returned (edV (n : Int) A' (edL l).length c') ∧ w'.ownsRow w.heap.size 9 1 (.slice A' (edL l).length c') (edL l).length (svs (edL l)) ∧ Below w.heap.size w w' := by
  obtain ⟨hlv, h20⟩ := okL_yes hok
  have HLV := Lib.hid hlv
  have HX := Lib.hid hr
  have b0 := al2 w (.cells #[.int .i64 0, .slice none 0 0] 53) (.cells #[.int .i64 0, .slice none 0 0] 53)
  obtain ⟨kq, kr⟩ := nw2 w (.cells #[.int .i64 0, .slice none 0 0] 53) (.cells #[.int .i64 0, .slice none 0 0] 53)
  clear hr hok hlv
  subst hln
  unfold edV
  go_enter Tryd.func108, Tryd.ntmps108
  go_wp2_with fail
  generalize World.alloc (World.alloc w _) _ = W0 at *
  go_loopw [8] (fun i wr => ∃ (k : Nat) (A' : Option Addr) (c' : Nat), k ≤ l.length ∧ i = .int .i64 k ∧ wr.heap[w.heap.size]? = some (.cells #[.int .i64 0, .slice none 0 0] 53) ∧ wr.heap[w.heap.size + 1]? = some (.cells #[.int .i64 k, .slice A' (edL (l.take k)).length c'] 53) ∧ Hid (wr.ownsRow (w.heap.size + 1 + 1) 9 1 (.slice A' (edL (l.take k)).length c') (edL (l.take k)).length (svs (edL (l.take k)))) ∧ Below w.heap.size w wr) (fun i _ => l.length - (intOf i).toNat)
  case atStart => exact ⟨0, none, 0, by omega, rfl, kq, by rw [List.take_zero, edL_nil]; exact kr, Lib.hid (by rw [List.take_zero, edL_nil]; exact World.ownsRow_nil _ _ _ _), b0⟩
  case round =>
    obtain ⟨k, A', c', hk, rfl, kq', kr', HO, hb⟩ := hrel
    clear kq kr b0
    have hsz := hb.size
    have hlt2 := bx_lt kr'
    by_cases hlt : k < l.length
    · obtain ⟨b, off, hl, rfl, _, hc⟩ := rd_str (HX.out.below hb hB) hlt
      have hx := HLV.out _ (List.getElem_mem hl)
      have K := (stepSpec l k hl h20 hx A' c' wr.heap.size wr (Nat.le_refl _) (own_null HO.out) (Rd.own HO.out))
      have i0 : (0 : Int) ≤ (k : Int) := by omega
      have i1 : (k : Int) < (l.length : Int) := by omega
      obtain ⟨k1, hk1⟩ : ∃ k1, k + 1 = k1 := ⟨_, rfl⟩
      obtain ⟨q2, hq2⟩ : ∃ q2, edL (l.take k1) = q2 := ⟨_, rfl⟩
      rw [hk1, hq2] at K
      have HK1 := Lib.hid hk1
      have K := Lib.hid K
      have HQ2 := Lib.hid hq2
      clear hq2 hk1
      generalize edL (l.take k) = q at *
      generalize l[k] = x at *
      obtain ⟨p0, p1⟩ := row2 kr'
      unfold edV at K
      clear HX HLV hx HO
      go_wp2_with fail
      refine K.out.mono ?_
      rintro e' w2 ⟨A2, c2, rfl, o2, b9⟩
      have hb2 := then_ (n := 0) hb b9
      have kq2 := bx kq' b9
      have kr2 := bx kr' b9
      have O2 := Lib.hid (own_base o2 (show w.heap.size + 1 + 1 ≤ wr.heap.size from by omega))
      clear b9 o2 K p0 p1 kq' kr' hc hb
      obtain ⟨c0, c1⟩ := row2 kr2
      obtain ⟨f0, f1⟩ := frz2 kr2
      go_wp2
      have hkq : (((w2.setCell ⟨w.heap.size + 1, 0, none⟩ (.int .i64 (k1 : Int))).setCell ⟨w.heap.size + 1, 1, none⟩ (.slice A2 q2.length c2)).heap[w.heap.size]? = some (.cells #[.int .i64 0, .slice none 0 0] 53)) := keep_box kq2 (by omega) _ _
      have hkr := heap_set2 (x := .int .i64 (k1 : Int)) (y := .slice A2 q2.length c2) kr2
      have hO3 := ownsRow_setCell_below (ownsRow_setCell_below O2.out (by dsimp only; omega) (a := ⟨w.heap.size + 1, 0, none⟩) (.int .i64 (k1 : Int))) (by dsimp only; omega) (a := ⟨w.heap.size + 1, 1, none⟩) (.slice A2 q2.length c2)
      have hb3 : Below w.heap.size w ((w2.setCell ⟨w.heap.size + 1, 0, none⟩ (.int .i64 (k1 : Int))).setCell ⟨w.heap.size + 1, 1, none⟩ (.slice A2 q2.length c2)) := Below.setCell (Below.setCell hb2 (Nat.le_succ _) _) (Nat.le_succ _) _
      clear c0 c1 f0 f1 kq2 kr2 O2 hb2
      generalize (w2.setCell ⟨w.heap.size + 1, 0, none⟩ (.int .i64 (k1 : Int))).setCell ⟨w.heap.size + 1, 1, none⟩ (.slice A2 q2.length c2) = w3 at *
      go_roundw
      case rel => exact ⟨k1, A2, c2, by have := HK1.out; omega, by rw [← HK1.out]; go_num, hkq, by rw [HQ2.out]; exact hkr, Lib.hid (by rw [HQ2.out]; exact hO3), hb3⟩
      case measure => simp [intOf]; omega
    · obtain rfl : k = l.length := by omega
      rw [List.take_length] at *
      obtain ⟨p0, p1⟩ := row2 kr'
      obtain ⟨f0, f1⟩ := frz2 kq'
      obtain ⟨c0, c1⟩ := row2 kq'
      clear HX HLV
      go_wp2
      obtain ⟨e0, e1⟩ := row2 (heap_set2 (x := .int .i64 (l.length : Int)) (y := .slice A' (edL l).length c') kq')
      refine bodyPost_ret (v := .agg #[.int .i64 (l.length : Int), .slice A' (edL l).length c']) (by simp [results, Tryd.results108, go_sem, e0, e1]) rfl ⟨A', c', rfl, ?_, ?_⟩
      · exact own_base (ownsRow_setCell_below (ownsRow_setCell_below HO.out (by dsimp only; omega) _) (by dsimp only; omega) _) (show w.heap.size ≤ w.heap.size + 1 + 1 by omega)
      · exact Below.setCell (Below.setCell hb (Nat.le_refl _) _) (Nat.le_refl _) _
theorem specOf (A : Option Addr) (n c : Nat) (l : List ByteArray) (B : Nat) (w : World) (hn : n ≤ 1048576) (hs : ∀ s ∈ l, s.size ≤ maxLen) (hln : l.length = n) (hB : B ≤ w.heap.size) (hr : Rd w B 1 A n (svs l)) :
    Calls Tryd.prog 41 #[.slice A n c] w (Ans (if okL l then (n : Int) else 0) (if okL l then edL l else []) (okL l) w) := by
  have C1 := Lib.hid (fun W (h : Below w.heap.size w W) => T8i.l8Leaves A n c l B W hn hs (hr.below h hB))
  have b0 := al1 w (.cells #[.int .i64 0, .slice none 0 0] 53)
  have kr := nw1 w (.cells #[.int .i64 0, .slice none 0 0] 53)
  cases hok : okL l
  · rw [hok] at C1
    rw [if_neg (by simp), if_neg (by simp)]
    clear hr hok hs
    go_enter Tryd.func41, Tryd.ntmps41
    go_wp2_with fail
    refine (C1.out _ (al1 w _)).mono ?_
    rintro e' w' ⟨rfl, rfl⟩
    clear C1
    generalize World.alloc w _ = W0 at *
    obtain ⟨c0, c1⟩ := row2 kr
    obtain ⟨f0, f1⟩ := frz2 kr
    go_wp2
    obtain ⟨e0, e1⟩ := row2 (heap_set2 (x := .int .i64 0) (y := .slice none 0 0) kr)
    refine bodyPost_ret (v := .tuple #[.agg #[.int .i64 0, .slice none 0 0], .bool false]) (by simp [results, Tryd.results41, go_sem, e0, e1]) rfl (ansNo false (Below.setCell (Below.setCell b0 (Nat.le_refl _) _) (Nat.le_refl _) _))
  · rw [if_pos rfl, if_pos rfl]
    have C2 := Lib.hid (fun W (h : Below w.heap.size w W) => l9Of A n c l B W hln hok (Nat.le_trans hB h.size) (hr.below h hB))
    rw [hok] at C1
    generalize edL l = q at *
    unfold Ans edV at *
    clear hr hok hs
    go_enter Tryd.func41, Tryd.ntmps41
    go_wp2_with fail
    refine (C1.out _ (al1 w _)).mono ?_
    rintro e' w' ⟨rfl, rfl⟩
    clear C1
    generalize World.alloc w _ = W0 at *
    have hlt := bx_lt kr
    go_wp2_with fail
    refine (C2.out W0 b0).mono ?_
    rintro e' w2 ⟨A2, c2, rfl, o2, b9⟩
    have b2 := then_ (n := 0) b0 b9
    have kr2 := bx kr b9
    have O2 := Lib.hid (own_base o2 (show w.heap.size + 1 ≤ W0.heap.size from by omega))
    clear b9 o2 C2 kr b0
    obtain ⟨c0, c1⟩ := row2 kr2
    obtain ⟨f0, f1⟩ := frz2 kr2
    go_wp2
    obtain ⟨e0, e1⟩ := row2 (heap_set2 (x := .int .i64 (n : Int)) (y := .slice A2 q.length c2) kr2)
    refine bodyPost_ret (v := .tuple #[.agg #[.int .i64 (n : Int), .slice A2 q.length c2], .bool true]) (by simp [results, Tryd.results41, go_sem, e0, e1]) rfl ⟨A2, c2, rfl, ?_, ?_⟩
    · exact own_base (ownsRow_setCell_below (ownsRow_setCell_below O2.out (by dsimp only; omega) _) (by dsimp only; omega) _) (Nat.le_succ _)
    · exact Below.setCell (Below.setCell b2 (Nat.le_refl _) _) (Nat.le_refl _) _
theorem implOf (A : Option Addr) (n c : Nat) (l : List ByteArray) (B : Nat) (w : World) (hn : n ≤ 1048576) (hs : ∀ s ∈ l, s.size ≤ maxLen) (hln : l.length = n) (hB : B ≤ w.heap.size) (hr : Rd w B 1 A n (svs l)) (hT : Tbl w) :
    Calls Tryd.prog 40 #[.slice A n c] w (Ans (if okL l then (n : Int) else 0) (if okL l then edL l else []) (okL l) w) := by
  cases hok : okL l
  · exact implOfNo A n c l B w hn hs hok hB hr
  · exact implOfYes A n c l B w hln hok hB hr hT
end Go.Proofs.YtmnihigackilkaaDoor.Edo
