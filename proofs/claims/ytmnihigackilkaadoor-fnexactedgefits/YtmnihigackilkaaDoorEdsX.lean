/-
  A leaf appended to a frontier, and the root that a frontier tells: by the reference.
-/
import Derived.Test.YtmnihigackilkaaDoorFld3X
import Derived.Test.YtmnihigackilkaaDoorEdw
namespace Go.Proofs.YtmnihigackilkaaDoor.Edp
open Go.ChangeShapes Go.WideShapes Go.ChangeAt Go.RowKit
open Go.Proofs.YtmnihigackilkaaDoor.Mem Go.Proofs.YtmnihigackilkaaDoor.Ints Go.Proofs.YtmnihigackilkaaDoor.Strs Go.Proofs.YtmnihigackilkaaDoor.ShaComp Go.Proofs.YtmnihigackilkaaDoor.Digest Go.Proofs.YtmnihigackilkaaDoor.DigestI Go.Proofs.YtmnihigackilkaaDoor.Mkl Go.Proofs.YtmnihigackilkaaDoor.Slq Go.Proofs.YtmnihigackilkaaDoor.Rec Go.Proofs.YtmnihigackilkaaDoor.T8 Go.Proofs.YtmnihigackilkaaDoor.T8s Go.Proofs.YtmnihigackilkaaDoor.T8i Go.Proofs.YtmnihigackilkaaDoor.ShaSched Go.Proofs.YtmnihigackilkaaDoor.Arr Go.Proofs.YtmnihigackilkaaDoor.Edg Go.Proofs.YtmnihigackilkaaDoor.Pop Go.Proofs.YtmnihigackilkaaDoor.Bit Go.Proofs.YtmnihigackilkaaDoor.Pts Go.Proofs.YtmnihigackilkaaDoor.Edq Go.Proofs.YtmnihigackilkaaDoor.Edn Go.Proofs.YtmnihigackilkaaDoor.Edw Go.Proofs.YtmnihigackilkaaDoor.Hl Go.Proofs.YtmnihigackilkaaDoor.Fld Go.Proofs.YtmnihigackilkaaDoor.Fld2 Go.Proofs.YtmnihigackilkaaDoor.Fld3
set_option linter.unusedVariables false
set_option linter.unusedSimpArgs false
set_option maxRecDepth 100000

/-- The parts behind a leaf more. -/
def ptL (k : Nat) (l : List ByteArray) (x : ByteArray) : List ByteArray := (fold dig (pc (k + 1)) (l.map tl ++ [leafD dig (tl x)])).map bs
def rtL (l : List ByteArray) : ByteArray := bs (rootE dig (l.map tl))
theorem map_bs_tl (q : List ByteArray) : (q.map tl).map bs = q := by
  rw [List.map_map]
  conv => rhs; rw [← List.map_id q]
  exact List.map_congr_left (fun a _ => bs_tl a)
theorem map_tl_bs (q : List (List UInt8)) : (q.map bs).map tl = q := by
  rw [List.map_map]
  conv => rhs; rw [← List.map_id q]
  exact List.map_congr_left (fun a _ => tl_bs a)
theorem all_tl {l : List ByteArray} (h : ∀ s ∈ l, s.size = 32) : ∀ s ∈ l.map tl, s.length = 32 := by
  intro s hs
  obtain ⟨x, hx, rfl⟩ := List.mem_map.1 hs
  rw [tl_len]; exact h x hx
theorem ptL_32 (k : Nat) (l : List ByteArray) (x : ByteArray) (h : ∀ s ∈ l, s.size = 32) : ∀ s ∈ ptL k l x, s.size = 32 := by
  intro s hs
  obtain ⟨y, hy, rfl⟩ := List.mem_map.1 hs
  rw [bs_size]
  refine fold_all dig dig32 _ _ (fun z hz => ?_) y hy
  rw [List.mem_append, List.mem_singleton] at hz
  rcases hz with hz | rfl
  · exact all_tl h z hz
  · exact dig32 _
theorem ptL_len (k : Nat) (l : List ByteArray) (x : ByteArray) (h : l.length = pc k) : (ptL k l x).length = pc (k + 1) := by
  unfold ptL
  rw [List.length_map]
  exact fold_len dig (pc_ge (by omega)) (by rw [List.length_append, List.length_map, List.length_singleton, h]; exact pc_succ k k (Nat.le_refl _))
theorem rtL_32 (l : List ByteArray) (h : ∀ s ∈ l, s.size = 32) : (rtL l).size = 32 := by
  unfold rtL
  rw [bs_size]
  exact rootE_len dig dig32 _ (all_tl h)
set_option maxHeartbeats 8000000 in
theorem implPutYes (k : Nat) (A : Option Addr) (c : Nat) (l : List ByteArray) (x : ByteArray) (B : Nat) (w : World) (hk : k < 1000000) (hl : l.length = pc k) (h32 : ∀ s ∈ l, s.size = 32) (hx : x.size ≤ 100) (hB : B ≤ w.heap.size) (hr : Rd w B 1 A l.length (svs l)) (hT : Tbl w) :
    Calls Tryd.prog 55 #[edV k A l.length c, .string x] w (Ans ((k + 1 : Nat) : Int) (ptL k l x) true w) := by
  have hpk : l.length ≤ 21 := by rw [hl]; exact pc_le21 k (by omega)
  have hpk1 : pc (k + 1) ≤ 21 := pc_le21 (k + 1) (by omega)
  have hok : okE (k : Int) l = true := okE_of k l (by omega) h32 hl
  have C1 := Lib.hid (fun W (h : Below w.heap.size w W) => implGood (k : Int) A l.length c l B W (by omega) (fun s hs => by rw [h32 s hs]; unfold maxLen; omega) (Nat.le_trans hB h.size) (hr.below h hB))
  rw [hok] at C1
  have C2 := Lib.hid (fun W => T8i.isLeaf x W (by unfold maxLen; omega))
  rw [decide_eq_true hx] at C2
  have C3 := Lib.hid (fun W (h : Below w.heap.size w W) => partsOf (k : Int) A l.length c l B W (by omega) h32 (Nat.le_trans hB h.size) (hr.below h hB))
  have C4 := Lib.hid (fun W => leafInput x W (by omega))
  have C5 := Lib.hid (fun W (h : Below w.heap.size w W) => T8.treeDigest (z1 ++ x) W (by rw [ByteArray.size_append]; show 1 + _ ≤ _; omega) (hT.below h))
  rw [leaf_in] at C5
  obtain ⟨d, hd⟩ : ∃ d, d = bs (leafD dig (tl x)) := ⟨_, rfl⟩
  have hd32 : d.size = 32 := by rw [hd]; exact leaf32 _
  rw [← hd] at C5
  have C6 := Lib.hid (fun W => bytesOf d W hd32)
  have C7 := Lib.hid (fun W => partCount (k + 1) W (by omega))
  obtain ⟨i0, hi, hz0, hz1, hz2⟩ := info_parts infoA
  have hone := dgL_one d
  have hlen : (dgL d).length = 32 := by rw [dgL_len, hd32]
  have HF := fold_all (dgL d) #[.int .u8 0, .int .u8 0, .int .u8 0, .int .u8 0, .int .u8 0, .int .u8 0, .int .u8 0, .int .u8 0, .int .u8 0, .int .u8 0, .int .u8 0, .int .u8 0, .int .u8 0, .int .u8 0, .int .u8 0, .int .u8 0, .int .u8 0, .int .u8 0, .int .u8 0, .int .u8 0, .int .u8 0, .int .u8 0, .int .u8 0, .int .u8 0, .int .u8 0, .int .u8 0, .int .u8 0, .int .u8 0, .int .u8 0, .int .u8 0, .int .u8 0, .int .u8 0] (by rw [hlen]; rfl)
  have HFL : Hid (fl l ++ dgL d = fl (l ++ [d])) := Lib.hid (by rw [fl_app, fl_one])
  have H33 : Hid (∀ s ∈ l ++ [d], s.size = 32) := Lib.hid (fun s hs => by
    rw [List.mem_append, List.mem_singleton] at hs
    rcases hs with hs | rfl
    · exact h32 s hs
    · exact hd32)
  have HM : Hid (∀ q : List ByteArray, q.map tl = fold dig (pc (k + 1)) ((l ++ [d]).map tl) → q = ptL k l x) := Lib.hid (fun q hq => by
    rw [← map_bs_tl q, hq, List.map_append, List.map_cons, List.map_nil, hd, tl_bs]; rfl)
  have HLN : Hid ((ptL k l x).length ≤ 21) := Lib.hid (by rw [ptL_len k l x hl]; exact hpk1)
  have HTB := Lib.hid hT
  have hpc1 := pc_ge (show 1 ≤ k + 1 by omega)
  rw [dgV_L] at C6
  generalize dgL d = cx at *
  generalize ptL k l x = res at *
  generalize pc (k + 1) = most at *
  have e1 : IntKind.i64.wrap ((k : Int) + 1) = ((k + 1 : Nat) : Int) := by rw [IntKind.wrap_i64]; omega
  have n1 : ((k : Int) == 1000000) = false := by rw [beq_eq_false_iff_ne]; omega
  have e2 : (k : Int) + 1 = ((k + 1 : Nat) : Int) := by omega
  have hk1 : k + 1 ≤ 1000000 := by omega
  generalize k + 1 = k1 at *
  have b0 := al2 w (.cells #[.int .i64 (k : Int), .slice A l.length c] 53) (.cells #[.int .i64 0, .slice none 0 0] 53)
  obtain ⟨ka, kr⟩ := nw2 w (.cells #[.int .i64 (k : Int), .slice A l.length c] 53) (.cells #[.int .i64 0, .slice none 0 0] 53)
  have z0 : ((w.alloc (.cells #[.int .i64 (k : Int), .slice A l.length c] 53)).alloc (.cells #[.int .i64 0, .slice none 0 0] 53)).heap.size = w.heap.size + 1 + 1 := by simp
  have HLL : Hid ((l ++ [d]).length = l.length + 1) := Lib.hid (by simp)
  generalize hls : l ++ [d] = ls at *
  clear hl h32 hr hT hd hls
  generalize l.length = n at *
  unfold Ans edV at *
  go_enter Tryd.func55, Tryd.ntmps55
  go_wp2_with fail
  generalize World.alloc (World.alloc w _) _ = W0 at *
  refine (C1.out W0 b0).mono ?_
  rintro e' w1 ⟨rfl, b9⟩
  have b1 := then_ (n := 0) b0 b9
  have s1 := b9.size
  have ka := bx ka b9
  have kr := bx kr b9
  clear b9 b0
  obtain ⟨p0, p1⟩ := row2 ka
  go_wp2_with fail
  refine (C2.out w1).mono ?_
  rintro e' w' ⟨rfl, rfl⟩
  go_wp2_with fail
  clear p0 p1
  refine (C3.out w1 b1).mono ?_
  rintro e' w2 ⟨A2, c2, rfl, o2, b9⟩
  have b2 := then_ (n := 0) b1 b9
  have s2 := b9.size
  have kr := bx kr b9
  clear b9 b1 ka
  go_wp2_with fail
  refine (C4.out w2).mono ?_
  rintro e' w' ⟨rfl, rfl⟩
  go_wp2_with fail
  refine (C5.out w2 b2).mono ?_
  rintro e' w3 ⟨rfl, b9⟩
  have b3 := then_ (n := 0) b2 b9
  have S2 : Hid (w1.heap.size ≤ w3.heap.size) := Lib.hid (by have := b9.size; omega)
  have kr := bx kr b9
  have o3 := own_belowS o2 b9 (Nat.le_refl _)
  clear b9 b2 o2
  go_wp2_with fail
  refine (C6.out w3).mono ?_
  rintro e' w4 ⟨rfl, b9⟩
  have b4 := then_ (n := 0) b3 b9
  have kr := bx kr b9
  have o4 := own_base (own_belowS o3 b9 (Nat.le_refl _)) s1
  have s4 : W0.heap.size ≤ w4.heap.size := by
    have h1 := b3.size
    have h2 := b9.size
    have h3 := o4
    have h4 := S2.out
    omega
  clear b9 b3 o3
  go_wp2_with (at_builtin; go_loud (refine wpList_append_lies _ rfl _ _ _ rfl W0.heap.size 125 i0 _ 32 32 Tryd.underlying126 hi hz0 hz1 hz2 rfl (by omega) (.slice A2 n c2) n _ rfl (o4.alloc _) ⟨w4.heap.size, 0, none⟩ 1 1 cx rfl (by rw [hlen]) (World.news_of_block (heap_alloc_new w4 _)) hone (by omega) (by unfold maxLen; omega) (by omega) (by simp; omega) (w4.heap.size + 1) (by simp) ?_); intro g1 cap1 w5 hown1 hgrow hat hlt1)
  have hge : ∀ g, (Value.slice A2 n c2).ownBlock = some g → W0.heap.size ≤ g := fun g hg => (o4.lt g hg).1
  have B5 : Below W0.heap.size w4 w5 := ((Below.refl W0.heap.size w4).alloc s4 _).grown hgrow (by simp; omega) hge
  have b5 : Below w.heap.size w w5 := b4.trans (B5.mono (by omega))
  have kr5 := (B5.block _ (by omega)).trans kr
  rw [HFL.out] at hown1
  have C8 := Lib.hid (folded ls (some ⟨g1, 0, none⟩) (n + 1) cap1 most W0.heap.size w5 H33.out hpc1 (by omega) HLL.out (by omega) (by have := B5.size; omega) hown1 (fun W h => HTB.out.below (b5.trans (h.mono (by omega)))))
  have s5 := B5.size
  clear hown1 hgrow hat hlt1 hge kr o4 b4 B5 C1 C2 C3 C4 C5 C6
  obtain ⟨r0, r1⟩ := row2 kr5
  go_wp2_with fail
  refine (C7.out w5).mono ?_
  rintro e' w' ⟨rfl, rfl⟩
  go_wp2_with fail
  refine C8.out.mono ?_
  rintro e' w6 ⟨q, A6, c6, rfl, hq, hq32, o6, b6⟩
  have b6' := b5.trans (b6.mono (by omega))
  have s6 := b6.size
  have kr6 := (b6.block _ (by omega)).trans kr5
  obtain rfl := HM.out q hq
  have C9 := Lib.hid (edgeWith q A6 c6 k1 w6 (by have := HLN.out; omega) hq32 (Rd.own o6))
  unfold edV at C9
  clear r0 r1 hq hq32 o6 b6 b5 kr5 C8 C7 HM
  go_wp2_with fail
  refine C9.out.mono ?_
  rintro e' w7 ⟨A7, c7, rfl, o7, b7⟩
  have b7' := then_ (n := 0) b6' b7
  have kr7 := bx kr6 b7
  have s7 := b6'.size
  have O7 := Lib.hid (own_base o7 (show W0.heap.size ≤ w6.heap.size by omega))
  clear C9 b7 kr6 b6' o7
  obtain ⟨r0, r1⟩ := row2 kr7
  obtain ⟨f0, f1⟩ := frz2 kr7
  go_wp2
  obtain ⟨e0, e1'⟩ := row2 (heap_set2 (x := .int .i64 (k1 : Int)) (y := .slice A7 q.length c7) kr7)
  refine bodyPost_ret (v := .tuple #[.agg #[.int .i64 (k1 : Int), .slice A7 q.length c7], .bool true]) (by simp [results, Tryd.results55, go_sem, e0, e1']) rfl ⟨A7, c7, rfl, ?_, ?_⟩
  · exact own_base (ownsRow_setCell_below (ownsRow_setCell_below O7.out (by dsimp only; omega) _) (by dsimp only; omega) _) (show w.heap.size ≤ W0.heap.size by omega)
  · exact Below.setCell (Below.setCell b7' (by dsimp only; omega) _) (by dsimp only; omega) _
set_option maxHeartbeats 8000000 in
theorem implPutNo (m : Int) (A : Option Addr) (n c : Nat) (l : List ByteArray) (x : ByteArray) (B : Nat) (w : World) (hn : n ≤ 1048576) (hs : ∀ s ∈ l, s.size ≤ maxLen) (hx : x.size ≤ maxLen) (hno : ¬ (okE m l = true ∧ m ≠ 1000000 ∧ x.size ≤ 100)) (hB : B ≤ w.heap.size) (hr : Rd w B 1 A n (svs l)) :
    Calls Tryd.prog 55 #[edV m A n c, .string x] w (Ans 0 [] false w) := by
  have C1 := Lib.hid (fun W (h : Below w.heap.size w W) => implGood m A n c l B W hn hs (Nat.le_trans hB h.size) (hr.below h hB))
  have C2 := Lib.hid (fun W => T8i.isLeaf x W hx)
  have b0 := al2 w (.cells #[.int .i64 m, .slice A n c] 53) (.cells #[.int .i64 0, .slice none 0 0] 53)
  obtain ⟨ka, kr⟩ := nw2 w (.cells #[.int .i64 m, .slice A n c] 53) (.cells #[.int .i64 0, .slice none 0 0] 53)
  unfold edV at *
  by_cases h1 : okE m l = true
  · rw [h1] at C1
    by_cases h2 : m = 1000000
    · subst h2
      clear hr hno hs
      go_enter Tryd.func55, Tryd.ntmps55
      go_wp2_with fail
      generalize World.alloc (World.alloc w _) _ = W0 at *
      refine (C1.out W0 b0).mono ?_
      rintro e' w1 ⟨rfl, b9⟩
      have b1 := then_ (n := 0) b0 b9
      have ka := bx ka b9
      have kr := bx kr b9
      clear b9 b0
      obtain ⟨p0, p1⟩ := row2 ka
      obtain ⟨c0, c1⟩ := row2 kr
      obtain ⟨f0, f1⟩ := frz2 kr
      go_wp2
      obtain ⟨e0, e1⟩ := row2 (heap_set2 (x := .int .i64 0) (y := .slice none 0 0) kr)
      refine bodyPost_ret (v := .tuple #[.agg #[.int .i64 0, .slice none 0 0], .bool false]) (by simp [results, Tryd.results55, go_sem, e0, e1]) rfl (ansNo false (Below.setCell (Below.setCell b1 (Nat.le_succ _) _) (Nat.le_succ _) _))
    · have h3 : ¬ x.size ≤ 100 := fun h => hno ⟨h1, h2, h⟩
      rw [decide_eq_false h3] at C2
      have n1 : (m == 1000000) = false := by rw [beq_eq_false_iff_ne]; exact h2
      clear hr hno hs
      go_enter Tryd.func55, Tryd.ntmps55
      go_wp2_with fail
      generalize World.alloc (World.alloc w _) _ = W0 at *
      refine (C1.out W0 b0).mono ?_
      rintro e' w1 ⟨rfl, b9⟩
      have b1 := then_ (n := 0) b0 b9
      have ka := bx ka b9
      have kr := bx kr b9
      clear b9 b0
      obtain ⟨p0, p1⟩ := row2 ka
      obtain ⟨c0, c1⟩ := row2 kr
      obtain ⟨f0, f1⟩ := frz2 kr
      go_wp2_with fail
      refine (C2.out w1).mono ?_
      rintro e' w' ⟨rfl, rfl⟩
      go_wp2
      obtain ⟨e0, e1⟩ := row2 (heap_set2 (x := .int .i64 0) (y := .slice none 0 0) kr)
      refine bodyPost_ret (v := .tuple #[.agg #[.int .i64 0, .slice none 0 0], .bool false]) (by simp [results, Tryd.results55, go_sem, e0, e1]) rfl (ansNo false (Below.setCell (Below.setCell b1 (Nat.le_succ _) _) (Nat.le_succ _) _))
  · rw [Bool.eq_false_iff.2 h1] at C1
    clear hr hno hs
    go_enter Tryd.func55, Tryd.ntmps55
    go_wp2_with fail
    generalize World.alloc (World.alloc w _) _ = W0 at *
    refine (C1.out W0 b0).mono ?_
    rintro e' w1 ⟨rfl, b9⟩
    have b1 := then_ (n := 0) b0 b9
    have ka := bx ka b9
    have kr := bx kr b9
    clear b9 b0
    obtain ⟨p0, p1⟩ := row2 ka
    obtain ⟨c0, c1⟩ := row2 kr
    obtain ⟨f0, f1⟩ := frz2 kr
    go_wp2
    obtain ⟨e0, e1⟩ := row2 (heap_set2 (x := .int .i64 0) (y := .slice none 0 0) kr)
    refine bodyPost_ret (v := .tuple #[.agg #[.int .i64 0, .slice none 0 0], .bool false]) (by simp [results, Tryd.results55, go_sem, e0, e1]) rfl (ansNo false (Below.setCell (Below.setCell b1 (Nat.le_succ _) _) (Nat.le_succ _) _))
end Go.Proofs.YtmnihigackilkaaDoor.Edp

namespace Go.Proofs.YtmnihigackilkaaDoor.Edr
open Go.ChangeShapes Go.WideShapes Go.ChangeAt Go.RowKit
open Go.Proofs.YtmnihigackilkaaDoor.Mem Go.Proofs.YtmnihigackilkaaDoor.Ints Go.Proofs.YtmnihigackilkaaDoor.Strs Go.Proofs.YtmnihigackilkaaDoor.ShaComp Go.Proofs.YtmnihigackilkaaDoor.Digest Go.Proofs.YtmnihigackilkaaDoor.DigestI Go.Proofs.YtmnihigackilkaaDoor.Mkl Go.Proofs.YtmnihigackilkaaDoor.Slq Go.Proofs.YtmnihigackilkaaDoor.Rec Go.Proofs.YtmnihigackilkaaDoor.T8 Go.Proofs.YtmnihigackilkaaDoor.T8s Go.Proofs.YtmnihigackilkaaDoor.T8i Go.Proofs.YtmnihigackilkaaDoor.ShaSched Go.Proofs.YtmnihigackilkaaDoor.Arr Go.Proofs.YtmnihigackilkaaDoor.Edg Go.Proofs.YtmnihigackilkaaDoor.Pop Go.Proofs.YtmnihigackilkaaDoor.Bit Go.Proofs.YtmnihigackilkaaDoor.Pts Go.Proofs.YtmnihigackilkaaDoor.Edq Go.Proofs.YtmnihigackilkaaDoor.Edn Go.Proofs.YtmnihigackilkaaDoor.Edw Go.Proofs.YtmnihigackilkaaDoor.Hl Go.Proofs.YtmnihigackilkaaDoor.Fld Go.Proofs.YtmnihigackilkaaDoor.Fld2 Go.Proofs.YtmnihigackilkaaDoor.Fld3 Go.Proofs.YtmnihigackilkaaDoor.Edp
set_option linter.unusedVariables false
set_option linter.unusedSimpArgs false
set_option maxRecDepth 100000

theorem rt_nil : bs (dig (tl ⟨#[]⟩)) = rtL [] := rfl
set_option maxHeartbeats 8000000 in
theorem implRootYes (k : Nat) (A : Option Addr) (c : Nat) (l : List ByteArray) (B : Nat) (w : World) (hk : k ≤ 1000000) (hl : l.length = pc k) (h32 : ∀ s ∈ l, s.size = 32) (hB : B ≤ w.heap.size) (hr : Rd w B 1 A l.length (svs l)) (hT : Tbl w) :
    Calls Tryd.prog 43 #[edV k A l.length c] w fun e w' => e = .returned (.tuple #[.string (rtL l), .bool true]) ∧ Below w.heap.size w w' := by
  have hpk : l.length ≤ 21 := by rw [hl]; exact pc_le21 k (by omega)
  have hok : okE (k : Int) l = true := okE_of k l (by omega) h32 hl
  have C1 := Lib.hid (fun W (h : Below w.heap.size w W) => implGood (k : Int) A l.length c l B W (by omega) (fun s hs => by rw [h32 s hs]; unfold maxLen; omega) (Nat.le_trans hB h.size) (hr.below h hB))
  rw [hok] at C1
  have b0 := al1 w (.cells #[.int .i64 (k : Int), .slice A l.length c] 53)
  have ka := nw1 w (.cells #[.int .i64 (k : Int), .slice A l.length c] 53)
  by_cases h0 : k = 0
  · have hl0 : l = [] := List.eq_nil_of_length_eq_zero (by rw [hl, h0, pc_zero])
    have C2 := Lib.hid (fun W (h : Below w.heap.size w W) => T8.treeDigest ⟨#[]⟩ W (by decide) (hT.below h))
    rw [rt_nil, ← hl0] at C2
    have n1 : ((k : Int) == 0) = true := by rw [h0]; rfl
    generalize rtL l = r at *
    generalize l.length = n at *
    unfold edV at *
    clear hr hT hl hl0 h32 h0
    go_enter Tryd.func43, Tryd.ntmps43
    go_wp2_with fail
    generalize World.alloc w _ = W0 at *
    refine (C1.out W0 b0).mono ?_
    rintro e' w1 ⟨rfl, b9⟩
    have b1 := then_ (n := 0) b0 b9
    have ka := bx ka b9
    clear b9 b0
    obtain ⟨p0, p1⟩ := row2 ka
    go_wp2_with fail
    refine (C2.out w1 b1).mono ?_
    rintro e' w2 ⟨rfl, b9⟩
    have b2 := then_ (n := 0) b1 b9
    go_wp2
    go_ret2
    exact ⟨rfl, b2⟩
  · have C3 := Lib.hid (fun W (h : Below w.heap.size w W) => partsOf (k : Int) A l.length c l B W (by omega) h32 (Nat.le_trans hB h.size) (hr.below h hB))
    have hl1 : 1 ≤ l.length := by rw [hl]; exact pc_ge (by omega)
    have HTB := Lib.hid hT
    have H32 := Lib.hid h32
    have HQ : Hid (∀ q : List ByteArray, q.map tl = fold dig 1 (l.map tl) → q = [rtL l]) := Lib.hid (fun q hq => by
      rw [← map_bs_tl q, hq, fold_one dig _ (by intro h; rw [List.map_eq_nil_iff] at h; rw [h] at hl1; simp at hl1)]; rfl)
    have hr32 := rtL_32 l h32
    have CT := Lib.hid (fun W => text (rtL l) W hr32)
    have n1 : ((k : Int) == 0) = false := by rw [beq_eq_false_iff_ne]; omega
    obtain ⟨n, hn⟩ : ∃ n, l.length = n := ⟨_, rfl⟩
    have HN := Lib.hid hn
    rw [hn] at C1 C3 b0 ka hpk ⊢
    have hlen : (dgL (rtL l)).length = 32 := by rw [dgL_len, hr32]
    rw [dgV_L] at CT
    have HX : Hid (fl [rtL l] = dgL (rtL l)) := Lib.hid (fl_one _)
    generalize rtL l = r at *
    generalize dgL r = cx at *
    unfold edV at *
    clear hr hT hl h32 h0 hn hl1
    go_enter Tryd.func43, Tryd.ntmps43
    go_wp2_with fail
    generalize World.alloc w _ = W0 at *
    refine (C1.out W0 b0).mono ?_
    rintro e' w1 ⟨rfl, b9⟩
    have b1 := then_ (n := 0) b0 b9
    have ka := bx ka b9
    clear b9 b0
    obtain ⟨p0, p1⟩ := row2 ka
    go_wp2_with fail
    refine (C3.out w1 b1).mono ?_
    rintro e' w2 ⟨A2, c2, rfl, o2, b9⟩
    have b2 := then_ (n := 0) b1 b9
    have s1 := b1.size
    have s2 := b9.size
    have C4 := Lib.hid (folded l A2 n c2 1 w1.heap.size w2 H32.out (by omega) (by omega) HN.out (by omega) s2 o2 (fun W h => HTB.out.below (b2.trans (h.mono s1))))
    clear b9 b1 ka p0 p1 o2 C1 C3
    go_wp2_with fail
    refine C4.out.mono ?_
    rintro e' w3 ⟨q, A3, c3, rfl, hq, hq32, o3, b9⟩
    have b3 := b2.trans (b9.mono s1)
    obtain rfl := HQ.out q hq
    rw [HX.out] at o3
    obtain ⟨g, rfl, hg⟩ := own_some o3 (by simp)
    have hr : w3.rangeAt g 0 cx := own_rangeAt (l1 := []) (l2 := []) (by rw [List.nil_append, List.append_nil]; exact o3) rfl
    have e1 : (([r] : List ByteArray).length : Nat) = 1 := rfl
    rw [e1]
    clear b9 b2 hq hq32 o3 C4 HQ HX
    go_wp2_with (with_reducible refine wpList_load_mid rfl 125 (.tmp 14) rfl g 0 rfl cx _ hr undD rfl (by rw [hlen]; exact infoD1) ?_)
    refine (CT.out w3).mono ?_
    rintro e' w4 ⟨rfl, b9⟩
    have b4 := then_ (n := 0) b3 b9
    go_wp2
    go_ret2
    exact ⟨rfl, b4⟩
theorem implRootNo (m : Int) (A : Option Addr) (n c : Nat) (l : List ByteArray) (B : Nat) (w : World) (hn : n ≤ 1048576) (hs : ∀ s ∈ l, s.size ≤ maxLen) (hno : okE m l = false) (hB : B ≤ w.heap.size) (hr : Rd w B 1 A n (svs l)) :
    Calls Tryd.prog 43 #[edV m A n c] w fun e w' => e = .returned (.tuple #[.string ⟨#[]⟩, .bool false]) ∧ Below w.heap.size w w' := by
  have C1 := Lib.hid (fun W (h : Below w.heap.size w W) => implGood m A n c l B W hn hs (Nat.le_trans hB h.size) (hr.below h hB))
  rw [hno] at C1
  have b0 := al1 w (.cells #[.int .i64 m, .slice A n c] 53)
  unfold edV at *
  clear hr hs hno
  go_enter Tryd.func43, Tryd.ntmps43
  go_wp2_with fail
  generalize World.alloc w _ = W0 at *
  refine (C1.out W0 b0).mono ?_
  rintro e' w1 ⟨rfl, b9⟩
  have b1 := then_ (n := 0) b0 b9
  go_wp2
  go_ret2
  exact ⟨rfl, b1⟩
end Go.Proofs.YtmnihigackilkaaDoor.Edr

namespace Go.Proofs.YtmnihigackilkaaDoor.Eds
open Go.ChangeShapes Go.WideShapes Go.ChangeAt Go.RowKit
open Go.Proofs.YtmnihigackilkaaDoor.Mem Go.Proofs.YtmnihigackilkaaDoor.Ints Go.Proofs.YtmnihigackilkaaDoor.Strs Go.Proofs.YtmnihigackilkaaDoor.ShaComp Go.Proofs.YtmnihigackilkaaDoor.Digest Go.Proofs.YtmnihigackilkaaDoor.DigestI Go.Proofs.YtmnihigackilkaaDoor.Mkl Go.Proofs.YtmnihigackilkaaDoor.Slq Go.Proofs.YtmnihigackilkaaDoor.Rec Go.Proofs.YtmnihigackilkaaDoor.T8 Go.Proofs.YtmnihigackilkaaDoor.T8s Go.Proofs.YtmnihigackilkaaDoor.T8i Go.Proofs.YtmnihigackilkaaDoor.ShaSched Go.Proofs.YtmnihigackilkaaDoor.Arr Go.Proofs.YtmnihigackilkaaDoor.Edg Go.Proofs.YtmnihigackilkaaDoor.Pop Go.Proofs.YtmnihigackilkaaDoor.Bit Go.Proofs.YtmnihigackilkaaDoor.Pts Go.Proofs.YtmnihigackilkaaDoor.Edq Go.Proofs.YtmnihigackilkaaDoor.Edn Go.Proofs.YtmnihigackilkaaDoor.Edw Go.Proofs.YtmnihigackilkaaDoor.Hl Go.Proofs.YtmnihigackilkaaDoor.Fld Go.Proofs.YtmnihigackilkaaDoor.Fld2 Go.Proofs.YtmnihigackilkaaDoor.Fld3 Go.Proofs.YtmnihigackilkaaDoor.Edp Go.Proofs.YtmnihigackilkaaDoor.Edr
set_option linter.unusedVariables false
set_option linter.unusedSimpArgs false
set_option maxRecDepth 100000

theorem rt_cons (a : ByteArray) (l : List ByteArray) (h : l ≠ []) : bs (pairD dig (tl a) (tl (rtL l))) = rtL (a :: l) := by
  unfold rtL
  rw [tl_bs, List.map_cons, rootE_cons dig _ _ (by intro q; exact h (List.map_eq_nil_iff.1 q))]
set_option maxHeartbeats 8000000 in
theorem l9Root (k : Int) (A : Option Addr) (n c : Nat) (l : List ByteArray) (B : Nat) (w : World) (hn : n ≤ 1000) (hln : l.length = n) (h32 : ∀ s ∈ l, s.size = 32) (hB : B ≤ w.heap.size) (hr : Rd w B 1 A n (svs l)) :
    Calls Tryd.prog 117 #[edV k A n c] w fun e w' => e = .returned (.string (rtL l)) ∧ Below w.heap.size w w' := by
  have b0 := al1 w (.cells #[.int .i64 k, .slice A n c] 53)
  have ka := nw1 w (.cells #[.int .i64 k, .slice A n c] 53)
  unfold edV
  by_cases hl : l = []
  · have C := Lib.hid (fun W => l1Digest ⟨#[]⟩ W (by decide))
    rw [show (⟨(dig (⟨#[]⟩ : ByteArray).data.toList).toArray⟩ : ByteArray) = rtL [] from rfl, ← hl] at C
    have n1 : ((n : Int) == 0) = true := by rw [← hln, hl]; rfl
    generalize rtL l = r at *
    clear hl h32 hr hln
    go_enter Tryd.func117, Tryd.ntmps117
    go_wp2_with fail
    refine (C.out _).mono ?_
    rintro e' w1 ⟨rfl, b9⟩
    have b1 := then_ (n := 0) b0 b9
    go_wp2
    go_ret
    exact ⟨rfl, b1⟩
  · obtain ⟨p, hp⟩ : ∃ p, n = p + 1 := ⟨n - 1, by have := List.length_pos_iff.2 hl; omega⟩
    have HX := Lib.hid hr
    have HS := Lib.hid h32
    have n1 : ((n : Int) == 0) = false := by rw [beq_eq_false_iff_ne]; omega
    obtain ⟨b, off, hlp, hA, hbB, hc⟩ := rd_str (HX.out.below b0 hB) (show p < n by omega)
    have HL : Hid (rtL (l.drop p) = l[p]) := Lib.hid (by rw [List.drop_eq_getElem_cons hlp, List.drop_eq_nil_of_le (by omega)]; unfold rtL; exact bs_tl _)
    have HLN := Lib.hid hln
    have e1 : (n : Int) - 1 = (p : Int) := by omega
    have i0 : (0 : Int) ≤ (p : Int) := by omega
    have i1 : (p : Int) < (n : Int) := by omega
    have e2 : (n : Int) - 2 = (p : Int) - 1 := by omega
    subst hA
    generalize hd : l[p] = d at *
    have hpn : p < n := by omega
    clear hl h32 hr hd hlp hln hp
    go_enter Tryd.func117, Tryd.ntmps117
    go_wp2_with fail
    generalize World.alloc w _ = W0 at *
    clear hc
    go_loopw [4, 5] (fun dv iv wr => ∃ (j : Nat) (z : Int) (r : ByteArray), j ≤ p ∧ z + 1 = (j : Int) ∧ iv = .int .i64 z ∧ dv = .string r ∧ Hid (r = rtL (l.drop j)) ∧ Below W0.heap.size W0 wr) (fun _ iv _ => (intOf iv + 1).toNat)
    case atStart => exact ⟨p, (p : Int) - 1, d, by omega, by omega, rfl, rfl, Lib.hid HL.out.symm, Below.refl _ _⟩
    case round =>
      obtain ⟨j, z, r, hj, hz, rfl, rfl, HR, hb⟩ := hrel
      by_cases h0 : j = 0
      · subst h0
        obtain rfl : z = -1 := by omega
        have hR := HR.out
        rw [List.drop_zero] at hR
        subst hR
        have bF := b0.trans (hb.mono b0.size)
        clear HR
        go_wp2
        go_ret
        exact ⟨rfl, bF⟩
      · obtain ⟨jj, rfl⟩ : ∃ jj, j = jj + 1 := ⟨j - 1, by omega⟩
        obtain rfl : z = (jj : Int) := by omega
        obtain ⟨b2, off2, hl2, hA2, hbB2, hc2⟩ := rd_str (HX.out.below (b0.trans (hb.mono b0.size)) hB) (show jj < n by omega)
        simp only [Option.some.injEq, Addr.mk.injEq, and_true] at hA2
        obtain ⟨rfl, rfl⟩ := hA2
        have C := Lib.hid (fun W => T8.l8Pair l[jj] r W (by rw [HS.out _ (List.getElem_mem hl2)]; omega) (by rw [HR.out, rtL_32 _ (fun s hs => HS.out s (List.mem_of_mem_drop hs))]; omega))
        have HR2 : Hid (bs (pairD dig (tl l[jj]) (tl r)) = rtL (l.drop jj)) := Lib.hid (by
          rw [HR.out, List.drop_eq_getElem_cons hl2]
          exact rt_cons _ _ (by intro h; have := congrArg List.length h; rw [List.length_drop, List.length_nil, HLN.out] at this; omega))
        generalize bs (pairD dig (tl l[jj]) (tl r)) = r2 at *
        generalize l[jj] = y at *
        obtain ⟨p0, p1⟩ := row2 (bx ka hb)
        have j0 : (0 : Int) ≤ (jj : Int) := by omega
        have j1 : (jj : Int) < (n : Int) := by omega
        clear HL HR
        go_wp2_with fail
        refine (C.out wr).mono ?_
        rintro e' w2 ⟨rfl, b9⟩
        have hb2 := then_ (n := 0) hb b9
        clear b9 C p0 p1 hc2
        go_wp2
        go_roundw
        case rel => exact ⟨jj, (jj : Int) - 1, r2, by omega, by omega, by go_num, rfl, HR2, hb2⟩
        case measure => simp [intOf]
/-- The root, one answer of both sides. -/
theorem rootBoth9 (m : Int) (l : List ByteArray) (n : Nat) (hn : n ≤ 1048576) (hln : l.length = n) (hs : ∀ s ∈ l, s.size ≤ maxLen) : ∃ (u : ByteArray) (b : Bool), b = okE m l ∧ (b = true → u = rtL l) ∧ (b = false → u = ⟨#[]⟩) ∧
    (∀ A c B w, B ≤ w.heap.size → Rd w B 1 A n (svs l) → Calls Tryd.prog 50 #[edV m A n c] w fun e w' => e = .returned (.tuple #[.string u, .bool b]) ∧ Below w.heap.size w w') ∧
    (∀ A c B w, B ≤ w.heap.size → Rd w B 1 A n (svs l) → Tbl w → Calls Tryd.prog 43 #[edV m A n c] w fun e w' => e = .returned (.tuple #[.string u, .bool b]) ∧ Below w.heap.size w w') := by
  have hspec : ∀ (u : ByteArray) (A : Option Addr) (c B : Nat) (w : World), B ≤ w.heap.size → Rd w B 1 A n (svs l) → (okE m l = true → ∀ W, Below w.heap.size w W → Calls Tryd.prog 117 #[edV m A n c] W fun e w' => e = .returned (.string u) ∧ Below W.heap.size W w') → (okE m l = false → u = ⟨#[]⟩) →
      Calls Tryd.prog 50 #[edV m A n c] w fun e w' => e = .returned (.tuple #[.string u, .bool (okE m l)]) ∧ Below w.heap.size w w' := by
    intro u A c B w hB hx h1 h2
    have b0 := al1 w (.cells #[.int .i64 m, .slice A n c] 53)
    have ka := nw1 w (.cells #[.int .i64 m, .slice A n c] 53)
    have C1 := Lib.hid (fun W (h : Below w.heap.size w W) => specGood m A n c l B W hn hs (Nat.le_trans hB h.size) (hx.below h hB))
    unfold edV at *
    cases hok : okE m l
    · rw [hok] at C1
      obtain rfl := h2 hok
      clear h1 h2 hx hs hok
      go_enter Tryd.func50, Tryd.ntmps50
      go_wp2_with fail
      generalize World.alloc w _ = W0 at *
      refine (C1.out W0 b0).mono ?_
      rintro e' w1 ⟨rfl, b9⟩
      have b1 := then_ (n := 0) b0 b9
      go_wp2
      go_ret2
      exact ⟨rfl, b1⟩
    · rw [hok] at C1
      have C2 := Lib.hid (h1 hok)
      clear h1 h2 hx hs hok
      go_enter Tryd.func50, Tryd.ntmps50
      go_wp2_with fail
      generalize World.alloc w _ = W0 at *
      refine (C1.out W0 b0).mono ?_
      rintro e' w1 ⟨rfl, b9⟩
      have b1 := then_ (n := 0) b0 b9
      obtain ⟨p0, p1⟩ := row2 (bx ka b9)
      go_wp2_with fail
      refine (C2.out w1 b1).mono ?_
      rintro e' w2 ⟨rfl, b9⟩
      have b2 := then_ (n := 0) b1 b9
      go_wp2
      go_ret2
      exact ⟨rfl, b2⟩
  cases hok : okE m l
  · refine ⟨⟨#[]⟩, false, rfl, fun h => (by cases h), fun _ => rfl, fun A c B w hB hx => ?_, fun A c B w hB hx _ => implRootNo m A n c l B w hn hs hok hB hx⟩
    have := hspec ⟨#[]⟩ A c B w hB hx (fun h => by rw [hok] at h; cases h) (fun _ => rfl)
    rwa [hok] at this
  · obtain ⟨k, rfl, hk, h32, hl⟩ := okE_yes hok
    have hpk : n ≤ 21 := by rw [← hln, hl]; exact pc_le21 k hk
    refine ⟨rtL l, true, rfl, fun _ => rfl, fun h => (by cases h), fun A c B w hB hx => ?_, fun A c B w hB hx hT => ?_⟩
    · have := hspec (rtL l) A c B w hB hx (fun _ W h => l9Root (k : Int) A n c l B W (by omega) hln h32 (Nat.le_trans hB h.size) (hx.below h hB)) (fun h => by rw [hok] at h; cases h)
      rwa [hok] at this
    · subst hln
      exact implRootYes k A c l B w hk hl h32 hB hx hT
end Go.Proofs.YtmnihigackilkaaDoor.Eds
