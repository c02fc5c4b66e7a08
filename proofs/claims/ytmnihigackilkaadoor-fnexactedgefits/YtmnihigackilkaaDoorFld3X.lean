/-
  A frontier of a number and parts, as the program makes it.
-/
import Derived.Test.YtmnihigackilkaaDoorArr
import Derived.Test.YtmnihigackilkaaDoorHl
import Derived.Maps.AppendAt
import Derived.Deep.AppendLies
namespace Go.Proofs.YtmnihigackilkaaDoor.Fld
open Go.ChangeShapes Go.WideShapes Go.ChangeAt Go.RowKit
open Go.Proofs.YtmnihigackilkaaDoor.Mem Go.Proofs.YtmnihigackilkaaDoor.Ints Go.Proofs.YtmnihigackilkaaDoor.Strs Go.Proofs.YtmnihigackilkaaDoor.ShaComp Go.Proofs.YtmnihigackilkaaDoor.Digest Go.Proofs.YtmnihigackilkaaDoor.DigestI Go.Proofs.YtmnihigackilkaaDoor.Mkl Go.Proofs.YtmnihigackilkaaDoor.Slq Go.Proofs.YtmnihigackilkaaDoor.Rec Go.Proofs.YtmnihigackilkaaDoor.T8 Go.Proofs.YtmnihigackilkaaDoor.ShaSched Go.Proofs.YtmnihigackilkaaDoor.Arr Go.Proofs.YtmnihigackilkaaDoor.Edg Go.Proofs.YtmnihigackilkaaDoor.Edq Go.Proofs.YtmnihigackilkaaDoor.Hl
set_option linter.unusedVariables false
set_option linter.unusedSimpArgs false
set_option maxRecDepth 100000

def pr (a b : ByteArray) : ByteArray := bs (pairD dig (tl a) (tl b))
theorem pr32 (a b : ByteArray) : (pr a b).size = 32 := pair32 _ _
def dgL (s : ByteArray) : List Value := s.data.toList.map byteV
theorem dgL_len (s : ByteArray) : (dgL s).length = s.size := by simp [dgL]
theorem dgL_one (s : ByteArray) : ∀ v ∈ dgL s, v.oneCell' = true := byteV_one _
theorem dgV_L (s : ByteArray) : dgV s = .agg (dgL s).toArray := rfl
theorem row_range {w : World} {g t : Nat} {cs : List Value} (h : w.heap[g]? = some (.cells cs.toArray t)) : w.rangeAt g 0 cs := fun j v hv => by
  rw [Nat.zero_add, cell_of_row _ _ j _ _ _ h, List.getElem?_toArray, hv]
theorem range_below {w w' : World} {B b o : Nat} {cs : List Value} (h : w.rangeAt b o cs) (hb : Below B w w') (hlt : b < B) : w'.rangeAt b o cs := fun j v hv => by
  rw [World.cell?_of_block (a := ⟨b, o + j, none⟩) (hb.block b hlt)]; exact h j v hv
theorem there_below {w w' : World} {B b o n : Nat} (h : w.there b o n) (hb : Below B w w') (hlt : b < B) : w'.there b o n := fun j hj => by
  obtain ⟨h1, h2⟩ := h j hj
  exact ⟨by rw [World.cell?_of_block (a := ⟨b, o + j, none⟩) (hb.block b hlt)]; exact h1, by rw [World.frozen?_of_block (a := ⟨b, o + j, none⟩) (hb.block b hlt)]; exact h2⟩
/-- Held of a region: till its last store the world is as it was, but for what is new. -/
def SB (k : Nat) (W0 : World) (l : Array Bool) (W : World) : Prop := l.getD k true = false → Below W0.heap.size W0 W
theorem SB.inv {k i : Nat} {W0 : World} (h : i ≠ k) (l : Array Bool) (w : World) : SB k W0 (l.setIfInBounds i true) w ↔ SB k W0 l w := by unfold SB; rw [getD_set_ne true h]
theorem SB.t {k : Nat} {W0 : World} (l : Array Bool) (w : World) (h : l.getD k true = false) (q : SB k W0 l w) : Below W0.heap.size W0 w := q h
theorem SB.of {k : Nat} {W0 W : World} {l : Array Bool} (h : Below W0.heap.size W0 W) : SB k W0 l W := fun _ => h
set_option maxHeartbeats 4000000 in
theorem pairedBytes (a b : ByteArray) (w : World) (ha : a.size = 32) (hb : b.size = 32) (hT : Tbl w) : Calls Tryd.prog 140 #[dgV a, dgV b] w fun e w' => e = .returned (dgV (pr a b)) ∧ Below w.heap.size w w' := by
  have C1 := Lib.hid (fun W => text a W ha)
  have C2 := Lib.hid (fun W => text b W hb)
  have C3 := Lib.hid (fun W => pairInput a b W (by omega) (by omega))
  have C4 := Lib.hid (fun W (h : Below w.heap.size w W) => T8.treeDigest (o1 ++ a ++ b) W (by rw [ByteArray.size_append, ByteArray.size_append]; show 1 + _ + _ ≤ _; omega) (hT.below h))
  rw [pair_in] at C4
  have C5 := Lib.hid (fun W => bytesOf (pr a b) W (pr32 a b))
  rw [show bs (pairD dig (tl a) (tl b)) = pr a b from rfl] at C4
  have na : (dgL a).length = 32 := by rw [dgL_len, ha]
  have nb : (dgL b).length = 32 := by rw [dgL_len, hb]
  have nd : (dgL (pr a b)).length = 32 := by rw [dgL_len, pr32]
  have o_d := dgL_one (pr a b)
  generalize o1 ++ a ++ b = y at *
  generalize pr a b = d at *
  clear hT ha hb
  simp only [dgV_L] at *
  generalize dgL a = la at *
  generalize dgL b = lb at *
  generalize dgL d = ld at *
  have ia : (Tryd.prog.info? 125).map (·.size) = some la.length := by rw [na]; exact infoD1
  have ib : (Tryd.prog.info? 125).map (·.size) = some lb.length := by rw [nb]; exact infoD1
  have id' : (Tryd.prog.info? 125).map (·.size) = some ld.length := by rw [nd]; exact infoD1
  have uD := undD
  have b3 := al3 w (.cells la.toArray 125) (.cells lb.toArray 125) (.cells #[.int .u8 0, .int .u8 0, .int .u8 0, .int .u8 0, .int .u8 0, .int .u8 0, .int .u8 0, .int .u8 0, .int .u8 0, .int .u8 0, .int .u8 0, .int .u8 0, .int .u8 0, .int .u8 0, .int .u8 0, .int .u8 0, .int .u8 0, .int .u8 0, .int .u8 0, .int .u8 0, .int .u8 0, .int .u8 0, .int .u8 0, .int .u8 0, .int .u8 0, .int .u8 0, .int .u8 0, .int .u8 0, .int .u8 0, .int .u8 0, .int .u8 0, .int .u8 0] 125)
  obtain ⟨k0, k1, k2⟩ := nw3 w (.cells la.toArray 125) (.cells lb.toArray 125) (.cells #[.int .u8 0, .int .u8 0, .int .u8 0, .int .u8 0, .int .u8 0, .int .u8 0, .int .u8 0, .int .u8 0, .int .u8 0, .int .u8 0, .int .u8 0, .int .u8 0, .int .u8 0, .int .u8 0, .int .u8 0, .int .u8 0, .int .u8 0, .int .u8 0, .int .u8 0, .int .u8 0, .int .u8 0, .int .u8 0, .int .u8 0, .int .u8 0, .int .u8 0, .int .u8 0, .int .u8 0, .int .u8 0, .int .u8 0, .int .u8 0, .int .u8 0, .int .u8 0] 125)
  have r0 := row_range k0
  have r1 := row_range k1
  have t2 := there_of_row k2 (show _ = 32 from rfl)
  have l3 := bx_lt k2
  go_enter Tryd.func140, Tryd.ntmps140
  go_wp2_with fail
  generalize (((w.alloc (.cells la.toArray 125)).alloc (.cells lb.toArray 125)).alloc (.cells #[.int .u8 0, .int .u8 0, .int .u8 0, .int .u8 0, .int .u8 0, .int .u8 0, .int .u8 0, .int .u8 0, .int .u8 0, .int .u8 0, .int .u8 0, .int .u8 0, .int .u8 0, .int .u8 0, .int .u8 0, .int .u8 0, .int .u8 0, .int .u8 0, .int .u8 0, .int .u8 0, .int .u8 0, .int .u8 0, .int .u8 0, .int .u8 0, .int .u8 0, .int .u8 0, .int .u8 0, .int .u8 0, .int .u8 0, .int .u8 0, .int .u8 0, .int .u8 0] 125)) = W0 at *
  clear k0 k1 k2
  have X0 : Below W0.heap.size W0 W0.drew := (Below.refl _ W0).drew
  refine HL.start (S := SB 7 W0) (by kernel_rfl) ?_
  refine HL.take (i := 0) (W := 7) (T := fun W => Below W0.heap.size W0 W) (oi := _) (v := .agg la.toArray) rfl (by kernel_rfl) (by kernel_rfl) (by kernel_rfl) (by kernel_rfl) (by kernel_rfl) SB.t (SB.inv (by decide)) (fun _ _ _ h => h) (yieldsIf_load_mid (by kernel_rfl) 125 _ rfl w.heap.size 0 rfl la _ (fun W h => range_below r0 h (by omega)) undD rfl (by rw [na]; exact infoD1)) (SB.of X0) (fun _ => ?_)
  try simp only [Act.put, List.setIfInBounds_toArray, List.set_cons_zero, List.set_cons_succ]
  refine HL.take (i := 2) (W := 7) (T := fun W => Below W0.heap.size W0 W) (oi := _) (v := .agg lb.toArray) rfl (by kernel_rfl) (by kernel_rfl) (by kernel_rfl) (by kernel_rfl) (by kernel_rfl) SB.t (SB.inv (by decide)) (fun _ _ _ h => h) (yieldsIf_load_mid (by kernel_rfl) 125 _ rfl (w.heap.size + 1) 0 rfl lb _ (fun W h => range_below r1 h (by omega)) undD rfl (by rw [nb]; exact infoD1)) (SB.of X0) (fun _ => ?_)
  try simp only [Act.put, List.setIfInBounds_toArray, List.set_cons_zero, List.set_cons_succ]
  refine HL.only (i := 1) (oi := _) (by kernel_rfl) rfl (by kernel_rfl) (fun K hK => ?_)
  go_simp
  refine (C1.out _).mono ?_
  rintro e' w1 ⟨rfl, b9⟩
  have X1 := Below.trans X0 (b9.mono X0.size)
  clear b9
  refine hK.out _ _ (SB.of X1) (fun _ => ?_)
  clear hK K
  try simp only [Act.put, List.setIfInBounds_toArray, List.set_cons_zero, List.set_cons_succ]
  refine HL.only (i := 3) (oi := _) (by kernel_rfl) rfl (by kernel_rfl) (fun K hK => ?_)
  go_simp
  refine (C2.out _).mono ?_
  rintro e' w2 ⟨rfl, b9⟩
  have X2 := Below.trans X1 (b9.mono X1.size)
  clear b9
  refine hK.out _ _ (SB.of X2) (fun _ => ?_)
  clear hK K
  try simp only [Act.put, List.setIfInBounds_toArray, List.set_cons_zero, List.set_cons_succ]
  refine HL.only (i := 4) (oi := _) (by kernel_rfl) rfl (by kernel_rfl) (fun K hK => ?_)
  go_simp
  refine (C3.out _).mono ?_
  rintro e' w3 ⟨rfl, rfl⟩
  refine hK.out _ _ (SB.of X2) (fun _ => ?_)
  clear hK K
  try simp only [Act.put, List.setIfInBounds_toArray, List.set_cons_zero, List.set_cons_succ]
  refine HL.only (i := 5) (oi := _) (by kernel_rfl) rfl (by kernel_rfl) (fun K hK => ?_)
  go_simp
  refine (C4.out _ (b3.trans (X2.mono b3.size))).mono ?_
  rintro e' w4 ⟨rfl, b9⟩
  have X4 := Below.trans X2 (b9.mono X2.size)
  clear b9
  refine hK.out _ _ (SB.of X4) (fun _ => ?_)
  clear hK K
  try simp only [Act.put, List.setIfInBounds_toArray, List.set_cons_zero, List.set_cons_succ]
  refine HL.only (i := 6) (oi := _) (by kernel_rfl) rfl (by kernel_rfl) (fun K hK => ?_)
  go_simp
  refine (C5.out _).mono ?_
  rintro e' w5 ⟨rfl, b9⟩
  have X5 := Below.trans X4 (b9.mono X4.size)
  clear b9
  refine hK.out _ _ (SB.of X5) (fun _ => ?_)
  clear hK K
  try simp only [Act.put, List.setIfInBounds_toArray, List.set_cons_zero, List.set_cons_succ]
  have t5 := there_below t2 X5 l3
  have ns : ld.toArray.size = 32 := by rw [List.size_toArray]; exact nd
  have hrs := World.rangeAt_setCells_same w5 (w.heap.size + 1 + 1) 0 ld (by rw [nd]; exact t5)
  have hbs := below_setCells (B := w.heap.size) (a := w) (b := w.heap.size + 1 + 1) (by omega) ld 0 w5 (b3.trans (X5.mono b3.size))
  refine HL.only (i := 7) (oi := _) (by kernel_rfl) rfl (by kernel_rfl) (fun K hK => ?_)
  refine wp_store_mid 125 _ _ rfl (w.heap.size + 1 + 1) 0 ld.toArray rfl rfl (by rw [ns]; exact t5) (by rw [ns]; exact infoD1) (all_oneCell_toArray o_d) ?_
  have hlv := run_loadVar_mid (P := Tryd.prog) (w5.setCells (w.heap.size + 1 + 1) 0 ld) (w.heap.size + 1 + 1) 0 125 ld _ hrs undD rfl (by rw [nd]; exact infoD1)
  generalize w5.setCells (w.heap.size + 1 + 1) 0 ld = W4 at *
  refine hK.out _ _ (fun h => absurd ((show _ = true by kernel_rfl).symm.trans h) (by decide)) (fun _ => ?_)
  clear hK K
  refine HL.done (by kernel_rfl) ?_
  go_wp2
  refine bodyPost_ret (v := .agg ld.toArray) ?_ rfl ⟨rfl, hbs⟩
  refine results_cell Tryd.results140 _ _ _ (w.heap.size + 1 + 1) 0 _ ?_ hlv
  rfl
/-- The cells of a row of digests. -/
def fl (l : List ByteArray) : List Value := l.flatMap dgL
theorem fl_nil : fl [] = [] := rfl
theorem fl_app (a b : List ByteArray) : fl (a ++ b) = fl a ++ fl b := by simp [fl]
theorem fl_one (s : ByteArray) : fl [s] = dgL s := by simp [fl]
theorem fl_cons (s : ByteArray) (l : List ByteArray) : fl (s :: l) = dgL s ++ fl l := by simp [fl]
theorem fl_len (l : List ByteArray) (h : ∀ s ∈ l, s.size = 32) : (fl l).length = l.length * 32 := by
  induction l with
  | nil => rfl
  | cons s l ih => rw [fl_cons, List.length_append, dgL_len, h s (by simp), ih (fun x hx => h x (by simp [hx])), List.length_cons]; omega
theorem fl_oneC (l : List ByteArray) : ∀ v ∈ fl l, v.oneCell' = true := by
  intro v hv
  obtain ⟨s, _, hs⟩ := List.mem_flatMap.1 hv
  exact dgL_one s v hs
theorem infoA : (Tryd.prog.info? 125).map (fun i => (i.zero, i.size, i.bytes)) = some (some (.agg #[.int .u8 0, .int .u8 0, .int .u8 0, .int .u8 0, .int .u8 0, .int .u8 0, .int .u8 0, .int .u8 0, .int .u8 0, .int .u8 0, .int .u8 0, .int .u8 0, .int .u8 0, .int .u8 0, .int .u8 0, .int .u8 0, .int .u8 0, .int .u8 0, .int .u8 0, .int .u8 0, .int .u8 0, .int .u8 0, .int .u8 0, .int .u8 0, .int .u8 0, .int .u8 0, .int .u8 0, .int .u8 0, .int .u8 0, .int .u8 0, .int .u8 0, .int .u8 0]), 32, 32) := by kernel_rfl
theorem fold_size (cx : List Value) : ∀ (k : Nat) (A : Array Value), (List.foldl (fun cs x => cs.setIfInBounds x.snd x.fst) A (cx.zipIdx k)).size = A.size := by
  induction cx with
  | nil => intro k A; rfl
  | cons x cx ih => intro k A; rw [List.zipIdx_cons, List.foldl_cons, ih, Array.size_setIfInBounds]
theorem fold_at (cx : List Value) : ∀ (k : Nat) (A : Array Value) (j : Nat), (List.foldl (fun cs x => cs.setIfInBounds x.snd x.fst) A (cx.zipIdx k))[j]? = if k ≤ j ∧ j < k + cx.length ∧ j < A.size then cx[j - k]? else A[j]? := by
  induction cx with
  | nil => intro k A j; rw [if_neg (by simp; omega)]; rfl
  | cons x cx ih =>
    intro k A j
    rw [List.zipIdx_cons, List.foldl_cons, ih]
    dsimp only
    rw [Array.size_setIfInBounds, List.length_cons]
    by_cases h1 : k + 1 ≤ j ∧ j < k + 1 + cx.length ∧ j < A.size
    · rw [if_pos h1, if_pos (by omega), show j - k = (j - (k + 1)) + 1 from by omega, List.getElem?_cons_succ]
    · rw [if_neg h1]
      by_cases h2 : j = k
      · subst h2
        by_cases h3 : j < A.size
        · rw [if_pos (by omega), Nat.sub_self, List.getElem?_cons_zero, Array.getElem?_setIfInBounds_self_of_lt h3]
        · rw [if_neg (by omega), Array.getElem?_eq_none (by rw [Array.size_setIfInBounds]; omega), Array.getElem?_eq_none (by omega)]
      · rw [if_neg (by omega), Array.getElem?_setIfInBounds_ne (by omega)]
theorem fold_all (cx : List Value) (A : Array Value) (h : cx.length = A.size) : List.foldl (fun cs x => cs.setIfInBounds x.snd x.fst) A cx.zipIdx = cx.toArray := by
  apply Array.ext_getElem?
  intro j
  have e : cx.toArray[j]? = cx[j]? := by simp
  rw [fold_at cx 0 A j, Nat.sub_zero, e]
  by_cases hj : j < cx.length
  · rw [if_pos (by omega)]
  · rw [if_neg (by omega), Array.getElem?_eq_none (by omega), List.getElem?_eq_none (by omega)]
set_option maxHeartbeats 2000000 in
theorem partsOf (m : Int) (A : Option Addr) (n c : Nat) (l : List ByteArray) (B : Nat) (w : World) (hn : n ≤ 1048576) (hs : ∀ s ∈ l, s.size = 32) (hB : B ≤ w.heap.size) (hx : Rd w B 1 A n (svs l)) :
    Calls Tryd.prog 110 #[edV m A n c] w fun e w' => ∃ A' c', e = .returned (.slice A' l.length c') ∧ w'.ownsRow w.heap.size 125 32 (.slice A' l.length c') l.length (fl l) ∧ Below w.heap.size w w' := by
  have lx := rd_len hx
  subst lx
  obtain ⟨i0, hi, hz0, hz1, hz2⟩ := info_parts infoA
  have C := Lib.hid (fun s W (h : s.size = 32) => bytesOf s W h)
  have b0 := al1 w (.cells #[.int .i64 m, .slice A l.length c] 53)
  have HX := Lib.hid hx
  have HS := Lib.hid hs
  have s0 : w.heap.size ≤ (World.alloc w (.cells #[.int .i64 m, .slice A l.length c] 53)).heap.size := b0.size
  unfold edV
  clear hx hs
  go_enter Tryd.func110, Tryd.ntmps110
  go_wp2_with fail
  generalize World.alloc w _ = W0 at *
  go_loopw [3, 9] (fun v i wr => ∃ k : Nat, k ≤ l.length ∧ i = .int .i64 k ∧ Hid (wr.ownsRow w.heap.size 125 32 v k (fl (l.take k))) ∧ Below w.heap.size w wr) (fun _ i _ => l.length - (intOf i).toNat)
  case atStart => exact ⟨0, by omega, rfl, Lib.hid (World.ownsRow_nil _ _ _ _), b0⟩
  case round =>
    obtain ⟨k, hk, rfl, HO, hb⟩ := hrel
    by_cases hlt : k < l.length
    · obtain ⟨b, off, hl, rfl, hbB, hc⟩ := rd_str (HX.out.below hb hB) hlt
      have h32 := HS.out _ (List.getElem_mem hl)
      have HT : Hid (fl (l.take (k + 1)) = fl (l.take k) ++ dgL l[k]) := Lib.hid (by rw [take_snoc_g l k hl, fl_app, fl_one])
      have i0' : (0 : Int) ≤ (k : Int) := by omega
      have i1 : (k : Int) < (l.length : Int) := by omega
      generalize l[k] = x at *
      have CX := Lib.hid (C.out x wr h32)
      have hone := dgL_one x
      have hlen : (dgL x).length = 32 := by rw [dgL_len, h32]
      rw [dgV_L] at CX
      generalize dgL x = cx at *
      go_wp2_with fail
      refine CX.out.mono ?_
      rintro e w1 ⟨rfl, b1⟩
      have hb1 := then_ (n := 0) hb b1
      have HO1 := Lib.hid (own_belowS HO.out b1 (Nat.le_refl _))
      clear HO hb CX
      have hb1s := hb1.size
      have HF := fold_all cx #[.int .u8 0, .int .u8 0, .int .u8 0, .int .u8 0, .int .u8 0, .int .u8 0, .int .u8 0, .int .u8 0, .int .u8 0, .int .u8 0, .int .u8 0, .int .u8 0, .int .u8 0, .int .u8 0, .int .u8 0, .int .u8 0, .int .u8 0, .int .u8 0, .int .u8 0, .int .u8 0, .int .u8 0, .int .u8 0, .int .u8 0, .int .u8 0, .int .u8 0, .int .u8 0, .int .u8 0, .int .u8 0, .int .u8 0, .int .u8 0, .int .u8 0, .int .u8 0] (by rw [hlen]; rfl)
      go_wp2_with (at_builtin; go_loud (refine wpList_append_lies _ rfl _ _ _ rfl w.heap.size 125 i0 _ 32 32 Tryd.underlying126 hi hz0 hz1 hz2 rfl (by omega) _ k _ rfl (HO1.out.alloc _) ⟨w1.heap.size, 0, none⟩ 1 1 cx rfl (by rw [hlen]) (World.news_of_block (heap_alloc_new w1 _)) hone (by omega) (by unfold maxLen; omega) (by omega) (by simp; omega) (w1.heap.size + 1) (by simp) ?_); intro g1 cap1 w4 hown1 hgrow hat hlt1)
      have hge : ∀ k, _ = some k → w.heap.size ≤ k := fun g hg => ownBlock_ge HO1.out g hg
      have HO4 : Hid (w4.ownsRow w.heap.size 125 32 (.slice (some ⟨g1, 0, none⟩) (k + 1) cap1) (k + 1) (fl (l.take (k + 1)))) := Lib.hid (by rw [HT.out]; exact hown1)
      have hb4 : Below w.heap.size w w4 := (hb1.alloc hb1s _).grown hgrow (by have := hb1s; simp; omega) hge
      clear hown1 hgrow hat hlt1 hge HT HO1
      go_wp2
      go_roundw
      case rel => exact ⟨k + 1, by omega, by go_num, HO4, hb4⟩
      case measure => simp [intOf]; omega
    · obtain rfl : k = l.length := by omega
      have HO' := HO.out
      rw [List.take_length] at HO'
      obtain ⟨A', c', hv⟩ := own_shapeS HO'
      subst hv
      have HO2 := Lib.hid HO'
      clear HO HO'
      go_wp2
      go_ret
      exact ⟨A', c', rfl, HO2.out, hb⟩
end Go.Proofs.YtmnihigackilkaaDoor.Fld

namespace Go.Proofs.YtmnihigackilkaaDoor.Fld2
open Go.ChangeShapes Go.WideShapes Go.ChangeAt Go.RowKit
open Go.Proofs.YtmnihigackilkaaDoor.Mem Go.Proofs.YtmnihigackilkaaDoor.Ints Go.Proofs.YtmnihigackilkaaDoor.Strs Go.Proofs.YtmnihigackilkaaDoor.ShaComp Go.Proofs.YtmnihigackilkaaDoor.Digest Go.Proofs.YtmnihigackilkaaDoor.DigestI Go.Proofs.YtmnihigackilkaaDoor.Mkl Go.Proofs.YtmnihigackilkaaDoor.Slq Go.Proofs.YtmnihigackilkaaDoor.Rec Go.Proofs.YtmnihigackilkaaDoor.T8 Go.Proofs.YtmnihigackilkaaDoor.ShaSched Go.Proofs.YtmnihigackilkaaDoor.Arr Go.Proofs.YtmnihigackilkaaDoor.Edg Go.Proofs.YtmnihigackilkaaDoor.Edq Go.Proofs.YtmnihigackilkaaDoor.Hl Go.Proofs.YtmnihigackilkaaDoor.Fld
set_option linter.unusedVariables false
set_option linter.unusedSimpArgs false
set_option maxRecDepth 100000

theorem setCells_heap {g t : Nat} : ∀ (vs : List Value) (o : Nat) (w : World) (cur : Array Value), w.heap[g]? = some (.cells cur t) → (w.setCells g o vs).heap[g]? = some (.cells (List.foldl (fun cs x => cs.setIfInBounds x.snd x.fst) cur (vs.zipIdx o)) t) := by
  intro vs
  induction vs with
  | nil => intro o w cur h; exact h
  | cons v vs ih => intro o w cur h; exact ih (o + 1) _ _ (heap_setCell_same w g o cur t v h)
theorem own_setCells {w : World} {base e size g n c o : Nat} {l1 old l2 vs : List Value} (h : w.ownsRow base e size (.slice (some ⟨g, 0, none⟩) n c) n (l1 ++ old ++ l2)) (ho : o = l1.length) (hv : vs.length = old.length) :
    (w.setCells g o vs).ownsRow base e size (.slice (some ⟨g, 0, none⟩) n c) n (l1 ++ vs ++ l2) := by
  have h1 := h.1
  refine ⟨by rw [← h1]; simp [hv], ?_⟩
  rcases h.2 with ⟨h0, _⟩ | ⟨g', cap, cur, e1, e2, e3, e4, e5, e6, e7⟩
  · cases h0
  · obtain ⟨rfl, rfl⟩ : g = g' ∧ c = cap := by simpa using e1
    refine .inr ⟨g, c, _, rfl, e2, setCells_heap vs o w cur e3, e4, e5, by rw [fold_size]; exact e6, ?_⟩
    have hcs : n * size ≤ cur.size := by rw [e6]; exact Nat.mul_le_mul_right _ e4
    have hlen : (l1 ++ old ++ l2).length = n * size := h1
    simp only [List.length_append] at hlen
    apply List.ext_getElem?
    intro j
    have hcj : ∀ j, j < n * size → cur[j]? = (l1 ++ old ++ l2)[j]? := fun j hj => by rw [← e7, List.getElem?_take_of_lt hj, Array.getElem?_toList]
    by_cases hj : j < n * size
    · rw [List.getElem?_take_of_lt hj, Array.getElem?_toList, fold_at]
      by_cases h2 : o ≤ j ∧ j < o + vs.length ∧ j < cur.size
      · rw [if_pos h2, List.append_assoc, List.getElem?_append_right (by omega), List.getElem?_append_left (by omega), ho]
      · rw [if_neg h2, hcj j hj]
        by_cases h3 : j < o
        · rw [List.append_assoc, List.append_assoc, List.getElem?_append_left (by omega), List.getElem?_append_left (by omega)]
        · rw [List.getElem?_append_right (by simp; omega), List.getElem?_append_right (by simp; omega)]
          simp [hv]
    · rw [List.getElem?_eq_none (by rw [List.length_take]; omega), List.getElem?_eq_none (by simp; omega)]
theorem own_prefix {w : World} {base e size g n m c : Nat} {xs ys : List Value} (h : w.ownsRow base e size (.slice (some ⟨g, 0, none⟩) n c) n (xs ++ ys)) (hm : m ≤ n) (hx : xs.length = m * size) :
    w.ownsRow base e size (.slice (some ⟨g, 0, none⟩) m c) m xs := by
  refine ⟨hx, ?_⟩
  rcases h.2 with ⟨h0, _⟩ | ⟨g', cap, cur, e1, e2, e3, e4, e5, e6, e7⟩
  · cases h0
  · obtain ⟨rfl, rfl⟩ : g = g' ∧ c = cap := by simpa using e1
    refine .inr ⟨g, c, cur, rfl, e2, e3, by omega, e5, e6, ?_⟩
    have h2 := congrArg (List.take (m * size)) e7
    rw [List.take_take, Nat.min_eq_left (Nat.mul_le_mul_right _ hm)] at h2
    rw [h2, ← hx, List.take_left]
theorem own_rangeAt {w : World} {base e size g n c o : Nat} {l1 ys l2 : List Value} (h : w.ownsRow base e size (.slice (some ⟨g, 0, none⟩) n c) n (l1 ++ ys ++ l2)) (ho : o = l1.length) : w.rangeAt g o ys := fun j v hv => by
  have hj := (List.getElem?_eq_some_iff.1 hv).1
  have h1 := h.1
  simp only [List.length_append] at h1
  have hc := h.cellAt (o + j) (by omega)
  rw [hc, List.append_assoc, List.getElem?_append_right (by omega), List.getElem?_append_left (by omega), ho, Nat.add_sub_cancel_left]
  exact hv
theorem own_thereAt {w : World} {base e size g n c o k : Nat} {xs : List Value} (h : w.ownsRow base e size (.slice (some ⟨g, 0, none⟩) n c) n xs) (ho : o + k ≤ n * size) : w.there g o k := fun j hj => by
  have h1 := h.1
  refine ⟨?_, h.frozenAt (o + j)⟩
  rw [h.cellAt (o + j) (by omega), List.getElem?_eq_getElem (by omega)]; rfl
theorem own_cap {w : World} {base e size g n c : Nat} {xs : List Value} (h : w.ownsRow base e size (.slice (some ⟨g, 0, none⟩) n c) n xs) : n ≤ c := by
  rcases h.2 with ⟨h0, _⟩ | ⟨g', cap, cur, e1, e2, e3, e4, _⟩
  · cases h0
  · obtain ⟨rfl, rfl⟩ : g = g' ∧ c = cap := by simpa using e1
    exact e4
theorem tl_pr (a b : ByteArray) : tl (pr a b) = pairD dig (tl a) (tl b) := tl_bs _
theorem two_last (q : List ByteArray) (h : 2 ≤ q.length) : ∃ p a b, q = p ++ [a, b] := by
  obtain ⟨r, b, rfl⟩ : ∃ r b, q = r ++ [b] := ⟨q.dropLast, q.getLast (by intro h'; rw [h'] at h; simp at h), (List.dropLast_concat_getLast _).symm⟩
  obtain ⟨p, a, rfl⟩ : ∃ p a, r = p ++ [a] := ⟨r.dropLast, r.getLast (by intro h'; rw [h'] at h; simp at h), (List.dropLast_concat_getLast _).symm⟩
  exact ⟨p, a, b, by simp⟩
theorem own_some {w : World} {base e size n c : Nat} {A : Option Addr} {xs : List Value} (h : w.ownsRow base e size (.slice A n c) n xs) (hn : 0 < n) : ∃ g, A = some ⟨g, 0, none⟩ ∧ base ≤ g := by
  rcases h.2 with ⟨h0, h1⟩ | ⟨g, cap, cur, h1, h2, _⟩
  · omega
  · injection h1 with hA _ _
    exact ⟨g, hA, h2⟩
set_option maxHeartbeats 8000000 in
theorem folded (p0 : List ByteArray) (A : Option Addr) (n c most base : Nat) (w : World) (h32 : ∀ s ∈ p0, s.size = 32) (h1 : 1 ≤ most) (hn : n ≤ 1000) (hln : p0.length = n) (hmm : most ≤ 1000) (hB : base ≤ w.heap.size) (ho : w.ownsRow base 125 32 (.slice A n c) n (fl p0))
    (hT : ∀ W, Below base w W → Tbl W) :
    Calls Tryd.prog 109 #[.slice A n c, .int .i64 (most : Int)] w fun e w' => ∃ (q : List ByteArray) (A' : Option Addr) (c' : Nat), e = .returned (.slice A' q.length c') ∧ q.map tl = fold dig most (p0.map tl) ∧ (∀ s ∈ q, s.size = 32) ∧ w'.ownsRow base 125 32 (.slice A' q.length c') q.length (fl q) ∧ Below base w w' := by
  have HT := Lib.hid hT
  have H0 : Hid (w.ownsRow base 125 32 (.slice A p0.length c) p0.length (fl p0)) := Lib.hid (by rw [hln]; exact ho)
  have H32 := Lib.hid h32
  clear hT ho h32
  go_enter Tryd.func109, Tryd.ntmps109
  go_wp2_with fail
  go_loopw [0] (fun v wr => ∃ (q : List ByteArray) (A' : Option Addr) (c' : Nat), v = .slice A' q.length c' ∧ q.length ≤ 1000 ∧ Hid (fold dig most (q.map tl) = fold dig most (p0.map tl)) ∧ Hid (∀ s ∈ q, s.size = 32) ∧ Hid (wr.ownsRow base 125 32 (.slice A' q.length c') q.length (fl q)) ∧ Below base w wr) (fun v _ => match v with | .slice _ n _ => n | _ => 0)
  case atStart => exact ⟨p0, A, c, by rw [hln], by omega, Lib.hid rfl, H32, H0, Below.refl _ _⟩
  case round =>
    obtain ⟨q, A', c', rfl, hql, HF, HS, HO, hb⟩ := hrel
    clear H0 H32
    by_cases hlt : most < q.length
    · obtain ⟨p, a, b, rfl⟩ := two_last q (by omega)
      obtain ⟨g, rfl, hgb⟩ := own_some HO.out (by simp)
      have h2 : (p ++ [a, b]).length = p.length + 2 := by simp
      rw [h2] at HO hlt hql
      rw [h2]
      have ha : a.size = 32 := HS.out a (by simp)
      have hb' : b.size = 32 := HS.out b (by simp)
      have lp : (fl p).length = p.length * 32 := fl_len p (fun s hs => HS.out s (by simp [hs]))
      have E1 : Hid (fl (p ++ [a, b]) = fl p ++ dgL a ++ dgL b) := Lib.hid (by rw [fl_app, fl_cons, fl_one, List.append_assoc])
      rw [E1.out] at HO
      have na : (dgL a).length = 32 := by rw [dgL_len, ha]
      have nb : (dgL b).length = 32 := by rw [dgL_len, hb']
      have ra : wr.rangeAt g (p.length * 32) (dgL a) := own_rangeAt HO.out lp.symm
      have rb : wr.rangeAt g ((p.length + 1) * 32) (dgL b) := own_rangeAt (l1 := fl p ++ dgL a) (l2 := []) (by rw [List.append_nil]; exact HO.out) (by rw [List.length_append, lp, na]; omega)
      have th : wr.there g (p.length * 32) 32 := own_thereAt HO.out (by omega)
      have hg : g < wr.heap.size := (HO.out.lt g rfl).2
      have hcap : p.length + 2 ≤ c' := own_cap HO.out
      have PB := Lib.hid (fun W (h : Below wr.heap.size wr W) => pairedBytes a b W ha hb' (HT.out W (hb.trans (h.mono (by have := hb.size; omega)))))
      have nd : (dgL (pr a b)).length = 32 := by rw [dgL_len, pr32]
      have o_d := dgL_one (pr a b)
      have EQ : Hid (fold dig most ((p ++ [pr a b]).map tl) = fold dig most (p0.map tl)) := Lib.hid (by
        rw [← HF.out]
        simp only [List.map_append, List.map_cons, List.map_nil, tl_pr]
        exact (fold_step dig most h1 (p.map tl) (tl a) (tl b) (by rw [List.length_map]; omega)).symm)
      have HS2 : Hid (∀ s ∈ p ++ [pr a b], s.size = 32) := Lib.hid (fun s hs => by
        rw [List.mem_append, List.mem_singleton] at hs
        rcases hs with hs | rfl
        · exact HS.out s (by simp [hs])
        · exact pr32 _ _)
      have E2 : Hid (fl (p ++ [pr a b]) = fl p ++ dgL (pr a b)) := Lib.hid (by rw [fl_app, fl_one])
      simp only [dgV_L] at PB
      generalize dgL a = la at *
      generalize dgL b = lb at *
      generalize hd : pr a b = d at *
      generalize hld : dgL d = ld at *
      clear HF HS E1 h2
      generalize hk : p.length = k at *
      have HK := Lib.hid hk
      generalize hj1 : k + 1 = j1 at *
      generalize hj2 : k + 2 = j2 at *
      have J1 := Lib.hid hj1
      have J2 := Lib.hid hj2
      have k0 : (0 : Int) ≤ (k : Int) := by omega
      have e1 : IntKind.i64.wrap ((j2 : Int) - 1) = (j1 : Int) := by rw [IntKind.wrap_i64]; omega
      have e2 : IntKind.i64.wrap ((j1 : Int) - 1) = (k : Int) := by rw [IntKind.wrap_i64]; omega
      have i1 : (k : Int) < (j2 : Int) := by omega
      have i2 : (j1 : Int) < (j2 : Int) := by omega
      have i3 : (0 : Int) ≤ (j1 : Int) := by omega
      have i4 : (most : Int) < (j2 : Int) := by omega
      have i5 : j1 < j2 := by omega
      have i7 : (j1 : Int) ≤ (c' : Int) := by omega
      have i8 : j1 ≤ c' := by omega
      have i6 : k ≤ 998 := by omega
      clear hj1 hj2 hk
      go_wp2_with fail
      have X0 : Below wr.heap.size wr wr.drew := (Below.refl _ wr).drew
      refine HL.start (S := SB 14 wr) (by kernel_rfl) ?_
      refine HL.take (i := 0) (W := 14) (T := fun W => Below wr.heap.size wr W) (oi := _) (v := ?_) rfl (by kernel_rfl) (by kernel_rfl) (by kernel_rfl) (by kernel_rfl) (by kernel_rfl) SB.t (SB.inv (by decide)) (fun _ _ _ h => h) (Or.inl ⟨by kernel_rfl, ?_⟩) (SB.of X0) (fun _ => ?_)
      rotate_left
      · intro w' hw'; clear hw'; (first | (go_simp; done) | (go_simp; with_reducible rfl))
      try simp only [Act.put, List.getElem_toArray, List.getElem_cons_succ, List.getElem_cons_zero, List.setIfInBounds_toArray, List.set_cons_zero, List.set_cons_succ]
      refine HL.take (i := 1) (W := 14) (T := fun W => Below wr.heap.size wr W) (oi := _) (v := ?_) rfl (by kernel_rfl) (by kernel_rfl) (by kernel_rfl) (by kernel_rfl) (by kernel_rfl) SB.t (SB.inv (by decide)) (fun _ _ _ h => h) (Or.inl ⟨by kernel_rfl, ?_⟩) (SB.of X0) (fun _ => ?_)
      rotate_left
      · intro w' hw'; clear hw'; (first | (go_simp; done) | (go_simp; with_reducible rfl))
      try simp only [Act.put, List.getElem_toArray, List.getElem_cons_succ, List.getElem_cons_zero, List.setIfInBounds_toArray, List.set_cons_zero, List.set_cons_succ]
      refine HL.take (i := 2) (W := 14) (T := fun W => Below wr.heap.size wr W) (oi := _) (v := ?_) rfl (by kernel_rfl) (by kernel_rfl) (by kernel_rfl) (by kernel_rfl) (by kernel_rfl) SB.t (SB.inv (by decide)) (fun _ _ _ h => h) (Or.inl ⟨by kernel_rfl, ?_⟩) (SB.of X0) (fun _ => ?_)
      rotate_left
      · intro w' hw'; clear hw'; (first | (go_simp; done) | (go_simp; with_reducible rfl))
      try simp only [Act.put, List.getElem_toArray, List.getElem_cons_succ, List.getElem_cons_zero, List.setIfInBounds_toArray, List.set_cons_zero, List.set_cons_succ]
      refine HL.take (i := 3) (W := 14) (T := fun W => Below wr.heap.size wr W) (oi := _) (v := ?_) rfl (by kernel_rfl) (by kernel_rfl) (by kernel_rfl) (by kernel_rfl) (by kernel_rfl) SB.t (SB.inv (by decide)) (fun _ _ _ h => h) (Or.inl ⟨by kernel_rfl, ?_⟩) (SB.of X0) (fun _ => ?_)
      rotate_left
      · intro w' hw'; clear hw'; (first | (go_simp; done) | (go_simp; with_reducible rfl))
      try simp only [Act.put, List.getElem_toArray, List.getElem_cons_succ, List.getElem_cons_zero, List.setIfInBounds_toArray, List.set_cons_zero, List.set_cons_succ]
      refine HL.take (i := 4) (W := 14) (T := fun W => Below wr.heap.size wr W) (oi := _) (v := ?_) rfl (by kernel_rfl) (by kernel_rfl) (by kernel_rfl) (by kernel_rfl) (by kernel_rfl) SB.t (SB.inv (by decide)) (fun _ _ _ h => h) (Or.inl ⟨by kernel_rfl, ?_⟩) (SB.of X0) (fun _ => ?_)
      rotate_left
      · intro w' hw'; clear hw'; (first | (go_simp; done) | (go_simp; with_reducible rfl))
      try simp only [Act.put, List.getElem_toArray, List.getElem_cons_succ, List.getElem_cons_zero, List.setIfInBounds_toArray, List.set_cons_zero, List.set_cons_succ]
      refine HL.take (i := 5) (W := 14) (T := fun W => Below wr.heap.size wr W) (oi := _) (v := ?_) rfl (by kernel_rfl) (by kernel_rfl) (by kernel_rfl) (by kernel_rfl) (by kernel_rfl) SB.t (SB.inv (by decide)) (fun _ _ _ h => h) (Or.inl ⟨by kernel_rfl, ?_⟩) (SB.of X0) (fun _ => ?_)
      rotate_left
      · intro w' hw'; clear hw'; (first | (go_simp; done) | (go_simp; with_reducible rfl))
      try simp only [Act.put, List.getElem_toArray, List.getElem_cons_succ, List.getElem_cons_zero, List.setIfInBounds_toArray, List.set_cons_zero, List.set_cons_succ]
      refine HL.take (i := 6) (W := 14) (T := fun W => Below wr.heap.size wr W) (oi := _) (v := ?_) rfl (by kernel_rfl) (by kernel_rfl) (by kernel_rfl) (by kernel_rfl) (by kernel_rfl) SB.t (SB.inv (by decide)) (fun _ _ _ h => h) (Or.inl ⟨by kernel_rfl, ?_⟩) (SB.of X0) (fun _ => ?_)
      rotate_left
      · intro w' hw'; clear hw'; (first | (go_simp; done) | (go_simp; with_reducible rfl))
      try simp only [Act.put, List.getElem_toArray, List.getElem_cons_succ, List.getElem_cons_zero, List.setIfInBounds_toArray, List.set_cons_zero, List.set_cons_succ]
      refine HL.take (i := 7) (W := 14) (T := fun W => Below wr.heap.size wr W) (oi := _) (v := .agg la.toArray) rfl (by kernel_rfl) (by kernel_rfl) (by kernel_rfl) (by kernel_rfl) (by kernel_rfl) SB.t (SB.inv (by decide)) (fun _ _ _ h => h) (yieldsIf_load_mid (by kernel_rfl) 125 _ rfl g (k * 32) rfl la _ (fun W h => range_below ra h hg) undD rfl (by rw [na]; exact infoD1)) (SB.of X0) (fun _ => ?_)
      try simp only [Act.put, List.getElem_toArray, List.getElem_cons_succ, List.getElem_cons_zero, List.setIfInBounds_toArray, List.set_cons_zero, List.set_cons_succ]
      refine HL.take (i := 8) (W := 14) (T := fun W => Below wr.heap.size wr W) (oi := _) (v := ?_) rfl (by kernel_rfl) (by kernel_rfl) (by kernel_rfl) (by kernel_rfl) (by kernel_rfl) SB.t (SB.inv (by decide)) (fun _ _ _ h => h) (Or.inl ⟨by kernel_rfl, ?_⟩) (SB.of X0) (fun _ => ?_)
      rotate_left
      · intro w' hw'; clear hw'; (first | (go_simp; done) | (go_simp; with_reducible rfl))
      try simp only [Act.put, List.getElem_toArray, List.getElem_cons_succ, List.getElem_cons_zero, List.setIfInBounds_toArray, List.set_cons_zero, List.set_cons_succ]
      refine HL.take (i := 9) (W := 14) (T := fun W => Below wr.heap.size wr W) (oi := _) (v := ?_) rfl (by kernel_rfl) (by kernel_rfl) (by kernel_rfl) (by kernel_rfl) (by kernel_rfl) SB.t (SB.inv (by decide)) (fun _ _ _ h => h) (Or.inl ⟨by kernel_rfl, ?_⟩) (SB.of X0) (fun _ => ?_)
      rotate_left
      · intro w' hw'; clear hw'; (first | (go_simp; done) | (go_simp; with_reducible rfl))
      try simp only [Act.put, List.getElem_toArray, List.getElem_cons_succ, List.getElem_cons_zero, List.setIfInBounds_toArray, List.set_cons_zero, List.set_cons_succ]
      refine HL.take (i := 10) (W := 14) (T := fun W => Below wr.heap.size wr W) (oi := _) (v := ?_) rfl (by kernel_rfl) (by kernel_rfl) (by kernel_rfl) (by kernel_rfl) (by kernel_rfl) SB.t (SB.inv (by decide)) (fun _ _ _ h => h) (Or.inl ⟨by kernel_rfl, ?_⟩) (SB.of X0) (fun _ => ?_)
      rotate_left
      · intro w' hw'; clear hw'; (first | (go_simp; done) | (go_simp; with_reducible rfl))
      try simp only [Act.put, List.getElem_toArray, List.getElem_cons_succ, List.getElem_cons_zero, List.setIfInBounds_toArray, List.set_cons_zero, List.set_cons_succ]
      refine HL.take (i := 11) (W := 14) (T := fun W => Below wr.heap.size wr W) (oi := _) (v := .agg lb.toArray) rfl (by kernel_rfl) (by kernel_rfl) (by kernel_rfl) (by kernel_rfl) (by kernel_rfl) SB.t (SB.inv (by decide)) (fun _ _ _ h => h) (yieldsIf_load_mid (by kernel_rfl) 125 _ rfl g (j1 * 32) rfl lb _ (fun W h => range_below rb h hg) undD rfl (by rw [nb]; exact infoD1)) (SB.of X0) (fun _ => ?_)
      try simp only [Act.put, List.getElem_toArray, List.getElem_cons_succ, List.getElem_cons_zero, List.setIfInBounds_toArray, List.set_cons_zero, List.set_cons_succ]
      refine HL.only (i := 12) (oi := _) (by kernel_rfl) rfl (by kernel_rfl) (fun K hK => ?_)
      go_simp
      refine (PB.out _ X0).mono ?_
      rintro e' w5 ⟨rfl, b9⟩
      have X5 := X0.trans (b9.mono X0.size)
      refine hK.out _ _ (SB.of X5) (fun _ => ?_)
      clear hK K
      try simp only [Act.put, List.getElem_toArray, List.getElem_cons_succ, List.getElem_cons_zero, List.setIfInBounds_toArray, List.set_cons_zero, List.set_cons_succ]
      refine HL.only (i := 13) (oi := _) (by kernel_rfl) rfl (by kernel_rfl) (fun K hK => ?_)
      go_simp
      refine hK.out _ _ (SB.of X5) (fun _ => ?_)
      clear hK K
      try simp only [Act.put, List.getElem_toArray, List.getElem_cons_succ, List.getElem_cons_zero, List.setIfInBounds_toArray, List.set_cons_zero, List.set_cons_succ]
      have t5 := there_below th X5 hg
      have ns : ld.toArray.size = 32 := by rw [List.size_toArray]; exact nd
      have O5 := own_belowS HO.out X5 (Nat.le_refl _)
      have OS : (w5.setCells g (k * 32) ld).ownsRow base 125 32 (.slice (some ⟨g, 0, none⟩) j2 c') j2 (fl p ++ ld ++ lb) := own_setCells O5 lp.symm (by rw [nd, na])
      have OP := Lib.hid (own_prefix (m := j1) OS (by omega) (by rw [List.length_append, lp, nd]; have := J1.out; omega))
      have BS := below_setCells (B := base) (a := w) (b := g) hgb ld (k * 32) w5 (hb.trans (X5.mono (by have := hb.size; omega)))
      refine HL.only (i := 14) (oi := _) (by kernel_rfl) rfl (by kernel_rfl) (fun K hK => ?_)
      refine wp_store_mid 125 _ _ rfl g (k * 32) ld.toArray rfl rfl (by rw [ns]; exact t5) (by rw [ns]; exact infoD1) (all_oneCell_toArray o_d) ?_
      generalize w5.setCells g (k * 32) ld.toArray.toList = W4 at *
      refine hK.out _ _ (fun h => absurd ((show _ = true by kernel_rfl).symm.trans h) (by decide)) (fun _ => ?_)
      clear hK K
      refine HL.done (by kernel_rfl) ?_
      clear OS O5 HO ra rb th X5 X0 t5 b9 PB
      go_wp2
      go_roundw
      case rel => exact ⟨p ++ [d], some ⟨g, 0, none⟩, c', by rw [List.length_append, HK.out, List.length_singleton, J1.out], by rw [List.length_append, HK.out, List.length_singleton]; omega, EQ, HS2, Lib.hid (by rw [E2.out, List.length_append, HK.out, List.length_singleton, J1.out]; exact OP.out), BS⟩
      case measure => simp; omega
    · have HQ : Hid (q.map tl = fold dig most (p0.map tl)) := Lib.hid (by rw [← HF.out, fold_few]; rw [List.length_map]; omega)
      clear HF
      go_wp2
      go_ret
      exact ⟨q, A', c', rfl, HQ.out, HS.out, HO.out, hb⟩
end Go.Proofs.YtmnihigackilkaaDoor.Fld2

namespace Go.Proofs.YtmnihigackilkaaDoor.Fld3
open Go.ChangeShapes Go.WideShapes Go.ChangeAt Go.RowKit
open Go.Proofs.YtmnihigackilkaaDoor.Mem Go.Proofs.YtmnihigackilkaaDoor.Ints Go.Proofs.YtmnihigackilkaaDoor.Strs Go.Proofs.YtmnihigackilkaaDoor.ShaComp Go.Proofs.YtmnihigackilkaaDoor.Digest Go.Proofs.YtmnihigackilkaaDoor.DigestI Go.Proofs.YtmnihigackilkaaDoor.Mkl Go.Proofs.YtmnihigackilkaaDoor.Slq Go.Proofs.YtmnihigackilkaaDoor.Rec Go.Proofs.YtmnihigackilkaaDoor.T8 Go.Proofs.YtmnihigackilkaaDoor.ShaSched Go.Proofs.YtmnihigackilkaaDoor.Arr Go.Proofs.YtmnihigackilkaaDoor.Edg Go.Proofs.YtmnihigackilkaaDoor.Edq Go.Proofs.YtmnihigackilkaaDoor.Hl Go.Proofs.YtmnihigackilkaaDoor.Fld Go.Proofs.YtmnihigackilkaaDoor.Fld2
set_option linter.unusedVariables false
set_option linter.unusedSimpArgs false
set_option maxRecDepth 100000

theorem fl_at : ∀ (q : List ByteArray), (∀ s ∈ q, s.size = 32) → ∀ (k : Nat) (hk : k < q.length) (j : Nat), j < 32 → (fl q)[k * 32 + j]? = (dgL q[k])[j]?
  | [], _, k, hk, _, _ => absurd hk (by simp)
  | s :: q, h, 0, hk, j, hj => by
    rw [fl_cons, Nat.zero_mul, Nat.zero_add, List.getElem?_append_left (by rw [dgL_len, h s (by simp)]; exact hj)]
    rfl
  | s :: q, h, k + 1, hk, j, hj => by
    have hl : (dgL s).length = 32 := by rw [dgL_len, h s (by simp)]
    rw [fl_cons, List.getElem?_append_right (by omega), hl, show (k + 1) * 32 + j - 32 = k * 32 + j from by omega]
    exact fl_at q (fun x hx => h x (by simp [hx])) k (by simpa using hk) j hj
/-- Held of a region till one of its operations has come up. -/
def SC (k : Nat) (T : World → Prop) (l : Array Bool) (W : World) : Prop := l.getD k true = false → T W
theorem SC.inv {k i : Nat} {T : World → Prop} (h : i ≠ k) (l : Array Bool) (w : World) : SC k T (l.setIfInBounds i true) w ↔ SC k T l w := by unfold SC; rw [getD_set_ne true h]
theorem SC.t {k : Nat} {T : World → Prop} (l : Array Bool) (w : World) (h : l.getD k true = false) (q : SC k T l w) : T w := q h
theorem SC.of {k : Nat} {T : World → Prop} {W : World} {l : Array Bool} (h : T W) : SC k T l W := fun _ => h
/-- What a round of edgeWith reads. -/
def Ew (b g : Nat) (o : Obj) (lx : List Value) (W : World) : Prop := W.heap[b]? = some o ∧ W.rangeAt g 0 lx
set_option maxHeartbeats 8000000 in
theorem edgeWith (q : List ByteArray) (A : Option Addr) (c : Nat) (m : Nat) (w : World) (hq : q.length ≤ 1000) (h32 : ∀ s ∈ q, s.size = 32) (hx : Rd w w.heap.size 32 A q.length (fl q)) :
    Calls Tryd.prog 122 #[.int .i64 (m : Int), .slice A q.length c] w fun e w' => ∃ A' c', e = .returned (edV m A' q.length c') ∧ w'.ownsRow w.heap.size 9 1 (.slice A' q.length c') q.length (svs q) ∧ Below w.heap.size w w' := by
  obtain ⟨i0, hi, hz0, hz1, hz2⟩ := info_parts infoS
  have b2 := al2 w (.cells #[.int .i64 0, .slice none 0 0] 53) (.cells #[.int .i64 (m : Int), .slice none 0 0] 53)
  obtain ⟨k0, k1⟩ := nw2 w (.cells #[.int .i64 0, .slice none 0 0] 53) (.cells #[.int .i64 (m : Int), .slice none 0 0] 53)
  have HX := Lib.hid hx
  have HS := Lib.hid h32
  have K0 := Lib.hid k0
  have K1 := Lib.hid k1
  have z2 : ((w.alloc (.cells #[.int .i64 0, .slice none 0 0] 53)).alloc (.cells #[.int .i64 (m : Int), .slice none 0 0] 53)).heap.size = w.heap.size + 1 + 1 := by simp
  unfold edV
  clear hx h32 k0 k1
  go_enter Tryd.func122, Tryd.ntmps122
  go_wp2_with fail
  generalize World.alloc (World.alloc w _) _ = W0 at *
  go_loopw [12] (fun i wr => ∃ (k : Nat) (A' : Option Addr) (c' : Nat), k ≤ q.length ∧ i = .int .i64 k ∧ Hid (wr.heap[w.heap.size + 1]? = some (.cells #[.int .i64 (m : Int), .slice A' k c'] 53)) ∧ Hid (wr.heap[w.heap.size]? = some (.cells #[.int .i64 0, .slice none 0 0] 53)) ∧
      Hid (wr.ownsRow (w.heap.size + 1 + 1) 9 1 (.slice A' k c') k (svs (q.take k))) ∧ Below w.heap.size w wr ∧ w.heap.size + 1 + 1 ≤ wr.heap.size) (fun i _ => q.length - (intOf i).toNat)
  case atStart => exact ⟨0, none, 0, by omega, rfl, K1, K0, Lib.hid (World.ownsRow_nil _ _ _ _), b2, by omega⟩
  case round =>
    obtain ⟨k, A', c', hk, rfl, R1, R0, HO, hb, hsz⟩ := hrel
    by_cases hlt : k < q.length
    · obtain ⟨b, off, hA, hbB, hc⟩ := HX.out.2 (by omega)
      subst hA
      have h32 := HS.out _ (List.getElem_mem hlt)
      have hr : wr.rangeAt b (off + k * 32) (dgL q[k]) := fun j v hv => by
        have hj : j < 32 := by have := (List.getElem?_eq_some_iff.1 hv).1; rw [dgL_len, h32] at this; exact this
        have h1 := hc (k * 32 + j) v (by rw [fl_at q HS.out k hlt j hj]; exact hv)
        rw [Nat.add_assoc, hb.cell (p := ⟨b, off + (k * 32 + j), none⟩) hbB]
        exact h1
      have HT : Hid (svs (q.take (k + 1)) = svs (q.take k) ++ [.string q[k]]) := Lib.hid (by unfold svs; rw [take_snoc_g q k hlt, List.map_append]; rfl)
      have CT := Lib.hid (fun W => text q[k] W h32)
      have hone := dgL_one q[k]
      have hlen : (dgL q[k]).length = 32 := by rw [dgL_len, h32]
      generalize q[k] = x at *
      rw [dgV_L] at CT
      generalize dgL x = lx at *
      have ns : lx.toArray.size = 32 := by rw [List.size_toArray]; exact hlen
      have i0' : (0 : Int) ≤ (k : Int) := by omega
      have i1 : (k : Int) < (q.length : Int) := by omega
      clear hc
      go_wp2_with (first
        | (with_reducible refine wpList_load_mid rfl 125 (.tmp 14) rfl b (off + k * 32) rfl lx _ hr undD rfl (by rw [hlen]; exact infoD1) ?_)
        | (with_reducible refine wpList_store_mid rfl 125 (.tmp 7) (.tmp 15) rfl wr.heap.size 0 lx.toArray rfl rfl (by rw [ns]; exact there_new wr _ _ _ rfl) (by rw [ns]; exact infoD1) (all_oneCell_toArray hone) ?_))
      obtain ⟨hrS, hbS, hlS⟩ := stored_new wr #[.int .u8 0, .int .u8 0, .int .u8 0, .int .u8 0, .int .u8 0, .int .u8 0, .int .u8 0, .int .u8 0, .int .u8 0, .int .u8 0, .int .u8 0, .int .u8 0, .int .u8 0, .int .u8 0, .int .u8 0, .int .u8 0, .int .u8 0, .int .u8 0, .int .u8 0, .int .u8 0, .int .u8 0, .int .u8 0, .int .u8 0, .int .u8 0, .int .u8 0, .int .u8 0, .int .u8 0, .int .u8 0, .int .u8 0, .int .u8 0, .int .u8 0, .int .u8 0] 125 lx (by rw [hlen]; rfl) (by omega)
      generalize World.setCells (World.alloc wr (.cells _ _)) wr.heap.size 0 _ = W1 at *
      have HO1 := own_belowS HO.out hbS (Nat.le_refl _)
      have R11 := bx R1.out hbS
      have R01 := bx R0.out hbS
      have b1 := then_ (n := 0) hb hbS
      have hlo : wr.heap.size < W1.heap.size := hlS
      have X0 : (Ew (w.heap.size + 1) wr.heap.size (.cells #[.int .i64 (m : Int), .slice A' k c'] 53) lx) W1.drew := ⟨R11, (World.rangeAt_drew W1 wr.heap.size 0 lx).2 hrS⟩
      refine HL.start (S := SC 7 (Ew (w.heap.size + 1) wr.heap.size (.cells #[.int .i64 (m : Int), .slice A' k c'] 53) lx)) (by kernel_rfl) ?_
      refine HL.take (i := 0) (W := 7) (T := (Ew (w.heap.size + 1) wr.heap.size (.cells #[.int .i64 (m : Int), .slice A' k c'] 53) lx)) (oi := _) (v := ?_) rfl (by kernel_rfl) (by kernel_rfl) (by kernel_rfl) (by kernel_rfl) (by kernel_rfl) SC.t (SC.inv (by decide)) (fun _ _ _ h => h) (Or.inl ⟨by kernel_rfl, ?_⟩) (SC.of X0) (fun _ => ?_)
      rotate_left
      · intro w' hw'; clear hw'; (first | (go_simp; done) | (go_simp; with_reducible rfl))
      try simp only [Act.put, List.getElem_toArray, List.getElem_cons_succ, List.getElem_cons_zero, List.setIfInBounds_toArray, List.set_cons_zero, List.set_cons_succ]
      refine HL.take (i := 1) (W := 7) (T := (Ew (w.heap.size + 1) wr.heap.size (.cells #[.int .i64 (m : Int), .slice A' k c'] 53) lx)) (oi := _) (v := ?_) rfl (by kernel_rfl) (by kernel_rfl) (by kernel_rfl) (by kernel_rfl) (by kernel_rfl) SC.t (SC.inv (by decide)) (fun _ _ _ h => h) (Or.inl ⟨by kernel_rfl, ?_⟩) (SC.of X0) (fun _ => ?_)
      rotate_left
      · intro w' hw'; obtain ⟨e0, e1⟩ := row2 hw'.1; clear hw'; (first | (go_simp; done) | (go_simp; with_reducible rfl))
      try simp only [Act.put, List.getElem_toArray, List.getElem_cons_succ, List.getElem_cons_zero, List.setIfInBounds_toArray, List.set_cons_zero, List.set_cons_succ]
      refine HL.take (i := 2) (W := 7) (T := (Ew (w.heap.size + 1) wr.heap.size (.cells #[.int .i64 (m : Int), .slice A' k c'] 53) lx)) (oi := _) (v := .agg lx.toArray) rfl (by kernel_rfl) (by kernel_rfl) (by kernel_rfl) (by kernel_rfl) (by kernel_rfl) SC.t (SC.inv (by decide)) (fun _ _ _ h => h) (yieldsIf_load_mid (by kernel_rfl) 125 _ rfl wr.heap.size 0 rfl lx _ (fun W h => h.2) undD rfl (by rw [hlen]; exact infoD1)) (SC.of X0) (fun _ => ?_)
      try simp only [Act.put, List.getElem_toArray, List.getElem_cons_succ, List.getElem_cons_zero, List.setIfInBounds_toArray, List.set_cons_zero, List.set_cons_succ]
      refine HL.only (i := 3) (oi := _) (by kernel_rfl) rfl (by kernel_rfl) (fun K hK => ?_)
      go_simp
      refine (CT.out _).mono ?_
      rintro e' w5 ⟨rfl, b9⟩
      have B5 : Below W1.heap.size W1 w5 := (Below.refl _ W1).drew.trans b9
      have X5 : (Ew (w.heap.size + 1) wr.heap.size (.cells #[.int .i64 (m : Int), .slice A' k c'] 53) lx) w5 := ⟨bx R11 B5, range_below hrS B5 hlo⟩
      refine hK.out _ _ (SC.of X5) (fun _ => ?_)
      clear hK K b9
      try simp only [Act.put, List.getElem_toArray, List.getElem_cons_succ, List.getElem_cons_zero, List.setIfInBounds_toArray, List.set_cons_zero, List.set_cons_succ]
      refine HL.only (i := 4) (oi := _) (by kernel_rfl) rfl (by kernel_rfl) (fun K hK => ?_)
      go_simp
      have X6 : (Ew (w.heap.size + 1) wr.heap.size (.cells #[.int .i64 (m : Int), .slice A' k c'] 53) lx) (w5.alloc (.cells #[.string x] 9)) := ⟨bx X5.1 (al1 _ _), World.rangeAt_alloc X5.2 _⟩
      refine hK.out _ _ (SC.of X6) (fun _ => ?_)
      clear hK K
      try simp only [Act.put, List.getElem_toArray, List.getElem_cons_succ, List.getElem_cons_zero, List.setIfInBounds_toArray, List.set_cons_zero, List.set_cons_succ]
      have B6 : Below W1.heap.size W1 (w5.alloc (.cells #[.string x] 9)) := B5.alloc B5.size _
      have O6 := own_belowS HO1 B6 (Nat.le_refl _)
      have n6 := World.news_of_block (heap_alloc_new w5 (.cells #[.string x] 9))
      have hs6 : (w5.alloc (.cells #[.string x] 9)).heap.size = w5.heap.size + 1 := World.size_alloc _ _
      have hs5 := B5.size
      have hge : ∀ g, (Value.slice A' k c').ownBlock = some g → w.heap.size + 1 + 1 ≤ g ∧ g < wr.heap.size := fun g hg => HO.out.lt g hg
      generalize World.alloc w5 _ = W6 at *
      refine HL.only (i := 5) (oi := _) (by kernel_rfl) rfl (by kernel_rfl) (fun K hK => ?_)
      refine wp_append_lies _ _ _ _ rfl (w.heap.size + 1 + 1) 9 i0 _ 1 16 Tryd.underlying23 hi hz0 hz1 hz2 rfl (by omega) (.slice A' k c') k _ rfl O6 ⟨w5.heap.size, 0, none⟩ 1 1 _ rfl rfl n6 (by simp [Value.oneCell']) (by omega) (by unfold maxLen; omega) (by omega) (by omega) W6.heap.size rfl ?_
      intro g1 cap1 W7 hown1 hgrow hat hlt1
      have G7 : ∀ b, b < W6.heap.size → (∀ g, (Value.slice A' k c').ownBlock = some g → b ≠ g) → W7.heap[b]? = W6.heap[b]? := fun b hb hne => hgrow.block b hb (fun e => hne b e.symm rfl)
      have lt1 := bx_lt X6.1
      have K7 : W7.heap[w.heap.size + 1]? = some (.cells #[.int .i64 (m : Int), .slice A' k c'] 53) := (G7 _ lt1 (fun g hg => by have := (hge g hg).1; omega)).trans X6.1
      have X7 : (Ew (w.heap.size + 1) wr.heap.size (.cells #[.int .i64 (m : Int), .slice A' k c'] 53) lx) W7 := ⟨K7, fun j v hv => by
        rw [World.cell?_of_block (a := ⟨wr.heap.size, 0 + j, none⟩) (G7 wr.heap.size (by omega) (fun g hg => by have := (hge g hg).2; omega))]; exact X6.2 j v hv⟩
      have Z7 : W7.heap[w.heap.size]? = some (.cells #[.int .i64 0, .slice none 0 0] 53) := (G7 _ (by omega) (fun g hg => by have := (hge g hg).1; omega)).trans (bx R01 B6)
      have B7 : Below w.heap.size w W7 := (then_ (n := 0) b1 B6).grown hgrow (by have := b1.size; omega) (fun g hg => by have := (hge g hg).1; omega)
      have hs7 : W6.heap.size ≤ W7.heap.size := hgrow.size
      refine hK.out _ _ (SC.of X7) (fun _ => ?_)
      clear hK K
      try simp only [Act.put, List.getElem_toArray, List.getElem_cons_succ, List.getElem_cons_zero, List.setIfInBounds_toArray, List.set_cons_zero, List.set_cons_succ]
      obtain ⟨c0, c1⟩ := row2 K7
      obtain ⟨f0, f1⟩ := frz2 K7
      refine HL.only (i := 6) (oi := _) (by kernel_rfl) rfl (by kernel_rfl) (fun K hK => ?_)
      go_simp
      refine hK.out _ _ (SC.of X7) (fun _ => ?_)
      clear hK K
      try simp only [Act.put, List.getElem_toArray, List.getElem_cons_succ, List.getElem_cons_zero, List.setIfInBounds_toArray, List.set_cons_zero, List.set_cons_succ]
      refine HL.only (i := 7) (oi := _) (by kernel_rfl) rfl (by kernel_rfl) (fun K hK => ?_)
      go_simp
      refine hK.out _ _ (fun h => absurd ((show _ = true by kernel_rfl).symm.trans h) (by decide)) (fun _ => ?_)
      clear hK K
      try simp only [Act.put, List.getElem_toArray, List.getElem_cons_succ, List.getElem_cons_zero, List.setIfInBounds_toArray, List.set_cons_zero, List.set_cons_succ]
      refine HL.done (by kernel_rfl) ?_
      have HO8 : Hid ((W7.setCell ⟨w.heap.size + 1, 1, none⟩ (.slice (some ⟨g1, 0, none⟩) (k + 1) cap1)).ownsRow (w.heap.size + 1 + 1) 9 1 (.slice (some ⟨g1, 0, none⟩) (k + 1) cap1) (k + 1) (svs (q.take (k + 1)))) := Lib.hid (ownsRow_setCell_below (by rw [HT.out]; exact hown1) (by dsimp only; omega) _)
      have R18 : Hid ((W7.setCell ⟨w.heap.size + 1, 1, none⟩ (.slice (some ⟨g1, 0, none⟩) (k + 1) cap1)).heap[w.heap.size + 1]? = some (.cells #[.int .i64 (m : Int), .slice (some ⟨g1, 0, none⟩) (k + 1) cap1] 53)) := Lib.hid (by
        have h := heap_setCell_same W7 (w.heap.size + 1) 1 #[.int .i64 (m : Int), .slice A' k c'] 53 (.slice (some ⟨g1, 0, none⟩) (k + 1) cap1) K7
        simpa using h)
      have R08 : Hid ((W7.setCell ⟨w.heap.size + 1, 1, none⟩ (.slice (some ⟨g1, 0, none⟩) (k + 1) cap1)).heap[w.heap.size]? = some (.cells #[.int .i64 0, .slice none 0 0] 53)) := Lib.hid ((heap_setCell_other _ _ _ _ (by dsimp only; omega)).trans Z7)
      have B8 : Below w.heap.size w (W7.setCell ⟨w.heap.size + 1, 1, none⟩ (.slice (some ⟨g1, 0, none⟩) (k + 1) cap1)) := B7.setCell (by dsimp only; omega) _
      have hs8 : (W7.setCell ⟨w.heap.size + 1, 1, none⟩ (.slice (some ⟨g1, 0, none⟩) (k + 1) cap1)).heap.size = W7.heap.size := by simp [World.setCell]
      clear hown1 hgrow hat hlt1 X7 X6 X5 X0 K7 Z7 B7 B6 B5 O6 HO1 R11 R01 b1 hrS hbS c0 c1 f0 f1 G7 hge n6 CT hr
      generalize World.setCell W7 _ _ = W8 at *
      go_wp2
      go_roundw
      case rel => exact ⟨k + 1, _, _, by omega, by go_num, R18, R08, HO8, B8, by omega⟩
      case measure => simp [intOf]; omega
    · obtain rfl : k = q.length := by omega
      have HO' := HO.out
      rw [List.take_length] at HO'
      have HO2 := Lib.hid HO'
      clear HO HO'
      obtain ⟨c0, c1⟩ := row2 R1.out
      obtain ⟨f0, f1⟩ := frz2 R1.out
      obtain ⟨d0, d1⟩ := row2 R0.out
      obtain ⟨g0, g1⟩ := frz2 R0.out
      go_wp2
      obtain ⟨e0, e1⟩ := row2 (heap_set2 (x := .int .i64 (m : Int)) (y := .slice A' q.length c') R0.out)
      refine bodyPost_ret (v := .agg #[.int .i64 (m : Int), .slice A' q.length c']) (by simp [results, Tryd.results122, go_sem, e0, e1]) rfl ⟨A', c', rfl, ?_, ?_⟩
      · exact own_base (ownsRow_setCell_below (ownsRow_setCell_below HO2.out (by dsimp only; omega) _) (by dsimp only; omega) _) (show w.heap.size ≤ w.heap.size + 1 + 1 by omega)
      · exact Below.setCell (Below.setCell hb (Nat.le_refl _) _) (Nat.le_refl _) _
end Go.Proofs.YtmnihigackilkaaDoor.Fld3
