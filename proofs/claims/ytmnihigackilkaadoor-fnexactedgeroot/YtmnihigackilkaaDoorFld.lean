/-
  Slices of digests as arrays: a frontier's parts, folded.
-/
import Derived.Test.YtmnihigackilkaaDoorArr
import Derived.Test.YtmnihigackilkaaDoorHl
import Derived.Maps.AppendAt
import Derived.Deep.AppendLies
namespace Go.Proofs.YtmnihigackilkaaDoor.Fld
open Go.ChangeShapes Go.WideShapes Go.ChangeAt Go.RowKit
open Go.Proofs.YtmnihigackilkaaDoor.Mem Go.Proofs.YtmnihigackilkaaDoor.Ints Go.Proofs.YtmnihigackilkaaDoor.Strs Go.Proofs.YtmnihigackilkaaDoor.ShaComp Go.Proofs.YtmnihigackilkaaDoor.Digest Go.Proofs.YtmnihigackilkaaDoor.DigestI Go.Proofs.YtmnihigackilkaaDoor.Mkl Go.Proofs.YtmnihigackilkaaDoor.Slq Go.Proofs.YtmnihigackilkaaDoor.Rec Go.Proofs.YtmnihigackilkaaDoor.T8 Go.Proofs.YtmnihigackilkaaDoor.ShaSched Go.Proofs.YtmnihigackilkaaDoor.Arr Go.Proofs.YtmnihigackilkaaDoor.Edg Go.Proofs.YtmnihigackilkaaDoor.Edq Go.Proofs.YtmnihigackilkaaDoor.Hl
set_option linter.unusedVariables false
set_option linter.unusedSimpArgs false
set_option maxRecDepth 100000

def pr (a b : ByteArray) : ByteArray := bs (pairD dig (tl a) (tl b))
theorem pr32 (a b : ByteArray) : (pr a b).size = 32 := pair32 _ _
def dgL (s : ByteArray) : List Value := s.data.toList.map byteV
theorem dgL_len (s : ByteArray) : (dgL s).length = s.size := by simp [dgL]
theorem dgL_one (s : ByteArray) : ∀ v ∈ dgL s, v.oneCell' = true := byteV_one _
theorem dgV_L (s : ByteArray) : dgV s = .agg (dgL s).toArray := rfl
theorem row_range {w : World} {g t : Nat} {cs : List Value} (h : w.heap[g]? = some (.cells cs.toArray t)) : w.rangeAt g 0 cs := fun j v hv => by
  rw [Nat.zero_add, cell_of_row _ _ j _ _ _ h, List.getElem?_toArray, hv]
theorem range_below {w w' : World} {B b o : Nat} {cs : List Value} (h : w.rangeAt b o cs) (hb : Below B w w') (hlt : b < B) : w'.rangeAt b o cs := fun j v hv => by
  rw [World.cell?_of_block (a := ⟨b, o + j, none⟩) (hb.block b hlt)]; exact h j v hv
theorem there_below {w w' : World} {B b o n : Nat} (h : w.there b o n) (hb : Below B w w') (hlt : b < B) : w'.there b o n := fun j hj => by
  obtain ⟨h1, h2⟩ := h j hj
  exact ⟨by rw [World.cell?_of_block (a := ⟨b, o + j, none⟩) (hb.block b hlt)]; exact h1, by rw [World.frozen?_of_block (a := ⟨b, o + j, none⟩) (hb.block b hlt)]; exact h2⟩
/-- Held of a region: till its last store the world is as it was, but for what is new. -/
def SB (k : Nat) (W0 : World) (l : Array Bool) (W : World) : Prop := l.getD k true = false → Below W0.heap.size W0 W
theorem SB.inv {k i : Nat} {W0 : World} (h : i ≠ k) (l : Array Bool) (w : World) : SB k W0 (l.setIfInBounds i true) w ↔ SB k W0 l w := by unfold SB; rw [getD_set_ne true h]
theorem SB.t {k : Nat} {W0 : World} (l : Array Bool) (w : World) (h : l.getD k true = false) (q : SB k W0 l w) : Below W0.heap.size W0 w := q h
theorem SB.of {k : Nat} {W0 W : World} {l : Array Bool} (h : Below W0.heap.size W0 W) : SB k W0 l W := fun _ => h
set_option maxHeartbeats 4000000 in
theorem pairedBytes (a b : ByteArray) (w : World) (ha : a.size = 32) (hb : b.size = 32) (hT : Tbl w) : Calls Tryd.prog 140 #[dgV a, dgV b] w fun e w' => e = .returned (dgV (pr a b)) ∧ Below w.heap.size w w' := by
  have C1 := Lib.hid (fun W => text a W ha)
  have C2 := Lib.hid (fun W => text b W hb)
  have C3 := Lib.hid (fun W => pairInput a b W (by omega) (by omega))
  have C4 := Lib.hid (fun W (h : Below w.heap.size w W) => T8.treeDigest (o1 ++ a ++ b) W (by rw [ByteArray.size_append, ByteArray.size_append]; show 1 + _ + _ ≤ _; omega) (hT.below h))
  rw [pair_in] at C4
  have C5 := Lib.hid (fun W => bytesOf (pr a b) W (pr32 a b))
  rw [show bs (pairD dig (tl a) (tl b)) = pr a b from rfl] at C4
  have na : (dgL a).length = 32 := by rw [dgL_len, ha]
  have nb : (dgL b).length = 32 := by rw [dgL_len, hb]
  have nd : (dgL (pr a b)).length = 32 := by rw [dgL_len, pr32]
  have o_d := dgL_one (pr a b)
  generalize o1 ++ a ++ b = y at *
  generalize pr a b = d at *
  clear hT ha hb
  simp only [dgV_L] at *
  generalize dgL a = la at *
  generalize dgL b = lb at *
  generalize dgL d = ld at *
  have ia : (Tryd.prog.info? 125).map (·.size) = some la.length := by rw [na]; exact infoD1
  have ib : (Tryd.prog.info? 125).map (·.size) = some lb.length := by rw [nb]; exact infoD1
  have id' : (Tryd.prog.info? 125).map (·.size) = some ld.length := by rw [nd]; exact infoD1
  have uD := undD
  have b3 := al3 w (.cells la.toArray 125) (.cells lb.toArray 125) (.cells #[.int .u8 0, .int .u8 0, .int .u8 0, .int .u8 0, .int .u8 0, .int .u8 0, .int .u8 0, .int .u8 0, .int .u8 0, .int .u8 0, .int .u8 0, .int .u8 0, .int .u8 0, .int .u8 0, .int .u8 0, .int .u8 0, .int .u8 0, .int .u8 0, .int .u8 0, .int .u8 0, .int .u8 0, .int .u8 0, .int .u8 0, .int .u8 0, .int .u8 0, .int .u8 0, .int .u8 0, .int .u8 0, .int .u8 0, .int .u8 0, .int .u8 0, .int .u8 0] 125)
  obtain ⟨k0, k1, k2⟩ := nw3 w (.cells la.toArray 125) (.cells lb.toArray 125) (.cells #[.int .u8 0, .int .u8 0, .int .u8 0, .int .u8 0, .int .u8 0, .int .u8 0, .int .u8 0, .int .u8 0, .int .u8 0, .int .u8 0, .int .u8 0, .int .u8 0, .int .u8 0, .int .u8 0, .int .u8 0, .int .u8 0, .int .u8 0, .int .u8 0, .int .u8 0, .int .u8 0, .int .u8 0, .int .u8 0, .int .u8 0, .int .u8 0, .int .u8 0, .int .u8 0, .int .u8 0, .int .u8 0, .int .u8 0, .int .u8 0, .int .u8 0, .int .u8 0] 125)
  have r0 := row_range k0
  have r1 := row_range k1
  have t2 := there_of_row k2 (show _ = 32 from rfl)
  have l3 := bx_lt k2
  go_enter Tryd.func140, Tryd.ntmps140
  go_wp2_with fail
  generalize (((w.alloc (.cells la.toArray 125)).alloc (.cells lb.toArray 125)).alloc (.cells #[.int .u8 0, .int .u8 0, .int .u8 0, .int .u8 0, .int .u8 0, .int .u8 0, .int .u8 0, .int .u8 0, .int .u8 0, .int .u8 0, .int .u8 0, .int .u8 0, .int .u8 0, .int .u8 0, .int .u8 0, .int .u8 0, .int .u8 0, .int .u8 0, .int .u8 0, .int .u8 0, .int .u8 0, .int .u8 0, .int .u8 0, .int .u8 0, .int .u8 0, .int .u8 0, .int .u8 0, .int .u8 0, .int .u8 0, .int .u8 0, .int .u8 0, .int .u8 0] 125)) = W0 at *
  clear k0 k1 k2
  have X0 : Below W0.heap.size W0 W0.drew := (Below.refl _ W0).drew
  refine HL.start (S := SB 7 W0) (by kernel_rfl) ?_
  refine HL.take (i := 0) (W := 7) (T := fun W => Below W0.heap.size W0 W) (oi := _) (v := .agg la.toArray) rfl (by kernel_rfl) (by kernel_rfl) (by kernel_rfl) (by kernel_rfl) (by kernel_rfl) SB.t (SB.inv (by decide)) (fun _ _ _ h => h) (yieldsIf_load_mid (by kernel_rfl) 125 _ rfl w.heap.size 0 rfl la _ (fun W h => range_below r0 h (by omega)) undD rfl (by rw [na]; exact infoD1)) (SB.of X0) (fun _ => ?_)
  try simp only [Act.put, List.setIfInBounds_toArray, List.set_cons_zero, List.set_cons_succ]
  refine HL.take (i := 2) (W := 7) (T := fun W => Below W0.heap.size W0 W) (oi := _) (v := .agg lb.toArray) rfl (by kernel_rfl) (by kernel_rfl) (by kernel_rfl) (by kernel_rfl) (by kernel_rfl) SB.t (SB.inv (by decide)) (fun _ _ _ h => h) (yieldsIf_load_mid (by kernel_rfl) 125 _ rfl (w.heap.size + 1) 0 rfl lb _ (fun W h => range_below r1 h (by omega)) undD rfl (by rw [nb]; exact infoD1)) (SB.of X0) (fun _ => ?_)
  try simp only [Act.put, List.setIfInBounds_toArray, List.set_cons_zero, List.set_cons_succ]
  refine HL.only (i := 1) (oi := _) (by kernel_rfl) rfl (by kernel_rfl) (fun K hK => ?_)
  go_simp
  refine (C1.out _).mono ?_
  rintro e' w1 ⟨rfl, b9⟩
  have X1 := Below.trans X0 (b9.mono X0.size)
  clear b9
  refine hK.out _ _ (SB.of X1) (fun _ => ?_)
  clear hK K
  try simp only [Act.put, List.setIfInBounds_toArray, List.set_cons_zero, List.set_cons_succ]
  refine HL.only (i := 3) (oi := _) (by kernel_rfl) rfl (by kernel_rfl) (fun K hK => ?_)
  go_simp
  refine (C2.out _).mono ?_
  rintro e' w2 ⟨rfl, b9⟩
  have X2 := Below.trans X1 (b9.mono X1.size)
  clear b9
  refine hK.out _ _ (SB.of X2) (fun _ => ?_)
  clear hK K
  try simp only [Act.put, List.setIfInBounds_toArray, List.set_cons_zero, List.set_cons_succ]
  refine HL.only (i := 4) (oi := _) (by kernel_rfl) rfl (by kernel_rfl) (fun K hK => ?_)
  go_simp
  refine (C3.out _).mono ?_
  rintro e' w3 ⟨rfl, rfl⟩
  refine hK.out _ _ (SB.of X2) (fun _ => ?_)
  clear hK K
  try simp only [Act.put, List.setIfInBounds_toArray, List.set_cons_zero, List.set_cons_succ]
  refine HL.only (i := 5) (oi := _) (by kernel_rfl) rfl (by kernel_rfl) (fun K hK => ?_)
  go_simp
  refine (C4.out _ (b3.trans (X2.mono b3.size))).mono ?_
  rintro e' w4 ⟨rfl, b9⟩
  have X4 := Below.trans X2 (b9.mono X2.size)
  clear b9
  refine hK.out _ _ (SB.of X4) (fun _ => ?_)
  clear hK K
  try simp only [Act.put, List.setIfInBounds_toArray, List.set_cons_zero, List.set_cons_succ]
  refine HL.only (i := 6) (oi := _) (by kernel_rfl) rfl (by kernel_rfl) (fun K hK => ?_)
  go_simp
  refine (C5.out _).mono ?_
  rintro e' w5 ⟨rfl, b9⟩
  have X5 := Below.trans X4 (b9.mono X4.size)
  clear b9
  refine hK.out _ _ (SB.of X5) (fun _ => ?_)
  clear hK K
  try simp only [Act.put, List.setIfInBounds_toArray, List.set_cons_zero, List.set_cons_succ]
  have t5 := there_below t2 X5 l3
  have ns : ld.toArray.size = 32 := by rw [List.size_toArray]; exact nd
  have hrs := World.rangeAt_setCells_same w5 (w.heap.size + 1 + 1) 0 ld (by rw [nd]; exact t5)
  have hbs := below_setCells (B := w.heap.size) (a := w) (b := w.heap.size + 1 + 1) (by omega) ld 0 w5 (b3.trans (X5.mono b3.size))
  refine HL.only (i := 7) (oi := _) (by kernel_rfl) rfl (by kernel_rfl) (fun K hK => ?_)
  refine wp_store_mid 125 _ _ rfl (w.heap.size + 1 + 1) 0 ld.toArray rfl rfl (by rw [ns]; exact t5) (by rw [ns]; exact infoD1) (all_oneCell_toArray o_d) ?_
  have hlv := run_loadVar_mid (P := Tryd.prog) (w5.setCells (w.heap.size + 1 + 1) 0 ld) (w.heap.size + 1 + 1) 0 125 ld _ hrs undD rfl (by rw [nd]; exact infoD1)
  generalize w5.setCells (w.heap.size + 1 + 1) 0 ld = W4 at *
  refine hK.out _ _ (fun h => absurd ((show _ = true by kernel_rfl).symm.trans h) (by decide)) (fun _ => ?_)
  clear hK K
  refine HL.done (by kernel_rfl) ?_
  go_wp2
  refine bodyPost_ret (v := .agg ld.toArray) ?_ rfl ⟨rfl, hbs⟩
  refine results_cell Tryd.results140 _ _ _ (w.heap.size + 1 + 1) 0 _ ?_ hlv
  rfl
/-- The cells of a row of digests. -/
def fl (l : List ByteArray) : List Value := l.flatMap dgL
theorem fl_nil : fl [] = [] := rfl
theorem fl_app (a b : List ByteArray) : fl (a ++ b) = fl a ++ fl b := by simp [fl]
theorem fl_one (s : ByteArray) : fl [s] = dgL s := by simp [fl]
theorem fl_cons (s : ByteArray) (l : List ByteArray) : fl (s :: l) = dgL s ++ fl l := by simp [fl]
theorem fl_len (l : List ByteArray) (h : ∀ s ∈ l, s.size = 32) : (fl l).length = l.length * 32 := by
  induction l with
  | nil => rfl
  | cons s l ih => rw [fl_cons, List.length_append, dgL_len, h s (by simp), ih (fun x hx => h x (by simp [hx])), List.length_cons]; omega
theorem fl_oneC (l : List ByteArray) : ∀ v ∈ fl l, v.oneCell' = true := by
  intro v hv
  obtain ⟨s, _, hs⟩ := List.mem_flatMap.1 hv
  exact dgL_one s v hs
theorem infoA : (Tryd.prog.info? 125).map (fun i => (i.zero, i.size, i.bytes)) = some (some (.agg #[.int .u8 0, .int .u8 0, .int .u8 0, .int .u8 0, .int .u8 0, .int .u8 0, .int .u8 0, .int .u8 0, .int .u8 0, .int .u8 0, .int .u8 0, .int .u8 0, .int .u8 0, .int .u8 0, .int .u8 0, .int .u8 0, .int .u8 0, .int .u8 0, .int .u8 0, .int .u8 0, .int .u8 0, .int .u8 0, .int .u8 0, .int .u8 0, .int .u8 0, .int .u8 0, .int .u8 0, .int .u8 0, .int .u8 0, .int .u8 0, .int .u8 0, .int .u8 0]), 32, 32) := by kernel_rfl
theorem fold_size (cx : List Value) : ∀ (k : Nat) (A : Array Value), (List.foldl (fun cs x => cs.setIfInBounds x.snd x.fst) A (cx.zipIdx k)).size = A.size := by
  induction cx with
  | nil => intro k A; rfl
  | cons x cx ih => intro k A; rw [List.zipIdx_cons, List.foldl_cons, ih, Array.size_setIfInBounds]
theorem fold_at (cx : List Value) : ∀ (k : Nat) (A : Array Value) (j : Nat), (List.foldl (fun cs x => cs.setIfInBounds x.snd x.fst) A (cx.zipIdx k))[j]? = if k ≤ j ∧ j < k + cx.length ∧ j < A.size then cx[j - k]? else A[j]? := by
  induction cx with
  | nil => intro k A j; rw [if_neg (by simp; omega)]; rfl
  | cons x cx ih =>
    intro k A j
    rw [List.zipIdx_cons, List.foldl_cons, ih]
    dsimp only
    rw [Array.size_setIfInBounds, List.length_cons]
    by_cases h1 : k + 1 ≤ j ∧ j < k + 1 + cx.length ∧ j < A.size
    · rw [if_pos h1, if_pos (by omega), show j - k = (j - (k + 1)) + 1 from by omega, List.getElem?_cons_succ]
    · rw [if_neg h1]
      by_cases h2 : j = k
      · subst h2
        by_cases h3 : j < A.size
        · rw [if_pos (by omega), Nat.sub_self, List.getElem?_cons_zero, Array.getElem?_setIfInBounds_self_of_lt h3]
        · rw [if_neg (by omega), Array.getElem?_eq_none (by rw [Array.size_setIfInBounds]; omega), Array.getElem?_eq_none (by omega)]
      · rw [if_neg (by omega), Array.getElem?_setIfInBounds_ne (by omega)]
theorem fold_all (cx : List Value) (A : Array Value) (h : cx.length = A.size) : List.foldl (fun cs x => cs.setIfInBounds x.snd x.fst) A cx.zipIdx = cx.toArray := by
  apply Array.ext_getElem?
  intro j
  have e : cx.toArray[j]? = cx[j]? := by simp
  rw [fold_at cx 0 A j, Nat.sub_zero, e]
  by_cases hj : j < cx.length
  · rw [if_pos (by omega)]
  · rw [if_neg (by omega), Array.getElem?_eq_none (by omega), List.getElem?_eq_none (by omega)]
set_option maxHeartbeats 2000000 in
theorem partsOf (m : Int) (A : Option Addr) (n c : Nat) (l : List ByteArray) (B : Nat) (w : World) (hn : n ≤ 1048576) (hs : ∀ s ∈ l, s.size = 32) (hB : B ≤ w.heap.size) (hx : Rd w B 1 A n (svs l)) :
    Calls Tryd.prog 110 #[edV m A n c] w fun e w' => ∃ A' c', e = .returned (.slice A' l.length c') ∧ w'.ownsRow w.heap.size 125 32 (.slice A' l.length c') l.length (fl l) ∧ Below w.heap.size w w' := by
  have lx := rd_len hx
  subst lx
  obtain ⟨i0, hi, hz0, hz1, hz2⟩ := info_parts infoA
  have C := Lib.hid (fun s W (h : s.size = 32) => bytesOf s W h)
  have b0 := al1 w (.cells #[.int .i64 m, .slice A l.length c] 53)
  have HX := Lib.hid hx
  have HS := Lib.hid hs
  have s0 : w.heap.size ≤ (World.alloc w (.cells #[.int .i64 m, .slice A l.length c] 53)).heap.size := b0.size
  unfold edV
  clear hx hs
  go_enter Tryd.func110, Tryd.ntmps110
  go_wp2_with fail
  generalize World.alloc w _ = W0 at *
  go_loopw [3, 9] (fun v i wr => ∃ k : Nat, k ≤ l.length ∧ i = .int .i64 k ∧ Hid (wr.ownsRow w.heap.size 125 32 v k (fl (l.take k))) ∧ Below w.heap.size w wr) (fun _ i _ => l.length - (intOf i).toNat)
  case atStart => exact ⟨0, by omega, rfl, Lib.hid (World.ownsRow_nil _ _ _ _), b0⟩
  case round =>
    obtain ⟨k, hk, rfl, HO, hb⟩ := hrel
    by_cases hlt : k < l.length
    · obtain ⟨b, off, hl, rfl, hbB, hc⟩ := rd_str (HX.out.below hb hB) hlt
      have h32 := HS.out _ (List.getElem_mem hl)
      have HT : Hid (fl (l.take (k + 1)) = fl (l.take k) ++ dgL l[k]) := Lib.hid (by rw [take_snoc_g l k hl, fl_app, fl_one])
      have i0' : (0 : Int) ≤ (k : Int) := by omega
      have i1 : (k : Int) < (l.length : Int) := by omega
      generalize l[k] = x at *
      have CX := Lib.hid (C.out x wr h32)
      have hone := dgL_one x
      have hlen : (dgL x).length = 32 := by rw [dgL_len, h32]
      rw [dgV_L] at CX
      generalize dgL x = cx at *
      go_wp2_with fail
      refine CX.out.mono ?_
      rintro e w1 ⟨rfl, b1⟩
      have hb1 := then_ (n := 0) hb b1
      have HO1 := Lib.hid (own_belowS HO.out b1 (Nat.le_refl _))
      clear HO hb CX
      have hb1s := hb1.size
      have HF := fold_all cx #[.int .u8 0, .int .u8 0, .int .u8 0, .int .u8 0, .int .u8 0, .int .u8 0, .int .u8 0, .int .u8 0, .int .u8 0, .int .u8 0, .int .u8 0, .int .u8 0, .int .u8 0, .int .u8 0, .int .u8 0, .int .u8 0, .int .u8 0, .int .u8 0, .int .u8 0, .int .u8 0, .int .u8 0, .int .u8 0, .int .u8 0, .int .u8 0, .int .u8 0, .int .u8 0, .int .u8 0, .int .u8 0, .int .u8 0, .int .u8 0, .int .u8 0, .int .u8 0] (by rw [hlen]; rfl)
      go_wp2_with (at_builtin; go_loud (refine wpList_append_lies _ rfl _ _ _ rfl w.heap.size 125 i0 _ 32 32 Tryd.underlying126 hi hz0 hz1 hz2 rfl (by omega) _ k _ rfl (HO1.out.alloc _) ⟨w1.heap.size, 0, none⟩ 1 1 cx rfl (by rw [hlen]) (World.news_of_block (heap_alloc_new w1 _)) hone (by omega) (by unfold maxLen; omega) (by omega) (by simp; omega) (w1.heap.size + 1) (by simp) ?_); intro g1 cap1 w4 hown1 hgrow hat hlt1)
      have hge : ∀ k, _ = some k → w.heap.size ≤ k := fun g hg => ownBlock_ge HO1.out g hg
      have HO4 : Hid (w4.ownsRow w.heap.size 125 32 (.slice (some ⟨g1, 0, none⟩) (k + 1) cap1) (k + 1) (fl (l.take (k + 1)))) := Lib.hid (by rw [HT.out]; exact hown1)
      have hb4 : Below w.heap.size w w4 := (hb1.alloc hb1s _).grown hgrow (by have := hb1s; simp; omega) hge
      clear hown1 hgrow hat hlt1 hge HT HO1
      go_wp2
      go_roundw
      case rel => exact ⟨k + 1, by omega, by go_num, HO4, hb4⟩
      case measure => simp [intOf]; omega
    · obtain rfl : k = l.length := by omega
      have HO' := HO.out
      rw [List.take_length] at HO'
      obtain ⟨A', c', hv⟩ := own_shapeS HO'
      subst hv
      have HO2 := Lib.hid HO'
      clear HO HO'
      go_wp2
      go_ret
      exact ⟨A', c', rfl, HO2.out, hb⟩
end Go.Proofs.YtmnihigackilkaaDoor.Fld
