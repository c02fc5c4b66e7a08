/-
  A frontier of a number and parts, as the program makes it.
-/
import Derived.Test.YtmnihigackilkaaDoorFld2
namespace Go.Proofs.YtmnihigackilkaaDoor.Fld3
open Go.ChangeShapes Go.WideShapes Go.ChangeAt Go.RowKit
open Go.Proofs.YtmnihigackilkaaDoor.Mem Go.Proofs.YtmnihigackilkaaDoor.Ints Go.Proofs.YtmnihigackilkaaDoor.Strs Go.Proofs.YtmnihigackilkaaDoor.ShaComp Go.Proofs.YtmnihigackilkaaDoor.Digest Go.Proofs.YtmnihigackilkaaDoor.DigestI Go.Proofs.YtmnihigackilkaaDoor.Mkl Go.Proofs.YtmnihigackilkaaDoor.Slq Go.Proofs.YtmnihigackilkaaDoor.Rec Go.Proofs.YtmnihigackilkaaDoor.T8 Go.Proofs.YtmnihigackilkaaDoor.ShaSched Go.Proofs.YtmnihigackilkaaDoor.Arr Go.Proofs.YtmnihigackilkaaDoor.Edg Go.Proofs.YtmnihigackilkaaDoor.Edq Go.Proofs.YtmnihigackilkaaDoor.Hl Go.Proofs.YtmnihigackilkaaDoor.Fld Go.Proofs.YtmnihigackilkaaDoor.Fld2
set_option linter.unusedVariables false
set_option linter.unusedSimpArgs false
set_option maxRecDepth 100000

theorem fl_at : ∀ (q : List ByteArray), (∀ s ∈ q, s.size = 32) → ∀ (k : Nat) (hk : k < q.length) (j : Nat), j < 32 → (fl q)[k * 32 + j]? = (dgL q[k])[j]?
  | [], _, k, hk, _, _ => absurd hk (by simp)
  | s :: q, h, 0, hk, j, hj => by
    rw [fl_cons, Nat.zero_mul, Nat.zero_add, List.getElem?_append_left (by rw [dgL_len, h s (by simp)]; exact hj)]
    rfl
  | s :: q, h, k + 1, hk, j, hj => by
    have hl : (dgL s).length = 32 := by rw [dgL_len, h s (by simp)]
    rw [fl_cons, List.getElem?_append_right (by omega), hl, show (k + 1) * 32 + j - 32 = k * 32 + j from by omega]
    exact fl_at q (fun x hx => h x (by simp [hx])) k (by simpa using hk) j hj
/-- Held of a region till one of its operations has come up. -/
def SC (k : Nat) (T : World → Prop) (l : Array Bool) (W : World) : Prop := l.getD k true = false → T W
theorem SC.inv {k i : Nat} {T : World → Prop} (h : i ≠ k) (l : Array Bool) (w : World) : SC k T (l.setIfInBounds i true) w ↔ SC k T l w := by unfold SC; rw [getD_set_ne true h]
theorem SC.t {k : Nat} {T : World → Prop} (l : Array Bool) (w : World) (h : l.getD k true = false) (q : SC k T l w) : T w := q h
theorem SC.of {k : Nat} {T : World → Prop} {W : World} {l : Array Bool} (h : T W) : SC k T l W := fun _ => h
/-- What a round of edgeWith reads. -/
def Ew (b g : Nat) (o : Obj) (lx : List Value) (W : World) : Prop := W.heap[b]? = some o ∧ W.rangeAt g 0 lx
set_option maxHeartbeats 8000000 in
theorem edgeWith (q : List ByteArray) (A : Option Addr) (c : Nat) (m : Nat) (w : World) (hq : q.length ≤ 1000) (h32 : ∀ s ∈ q, s.size = 32) (hx : Rd w w.heap.size 32 A q.length (fl q)) :
    Calls Tryd.prog 122 #[.int .i64 (m : Int), .slice A q.length c] w fun e w' => ∃ A' c', e = .returned (edV m A' q.length c') ∧ w'.ownsRow w.heap.size 9 1 (.slice A' q.length c') q.length (svs q) ∧ Below w.heap.size w w' := by
  obtain ⟨i0, hi, hz0, hz1, hz2⟩ := info_parts infoS
  have b2 := al2 w (.cells #[.int .i64 0, .slice none 0 0] 53) (.cells #[.int .i64 (m : Int), .slice none 0 0] 53)
  obtain ⟨k0, k1⟩ := nw2 w (.cells #[.int .i64 0, .slice none 0 0] 53) (.cells #[.int .i64 (m : Int), .slice none 0 0] 53)
  have HX := Lib.hid hx
  have HS := Lib.hid h32
  have K0 := Lib.hid k0
  have K1 := Lib.hid k1
  have z2 : ((w.alloc (.cells #[.int .i64 0, .slice none 0 0] 53)).alloc (.cells #[.int .i64 (m : Int), .slice none 0 0] 53)).heap.size = w.heap.size + 1 + 1 := by simp
  unfold edV
  clear hx h32 k0 k1
  go_enter Tryd.func122, Tryd.ntmps122
  go_wp2_with fail
  generalize World.alloc (World.alloc w _) _ = W0 at *
  go_loopw [12] (fun i wr => ∃ (k : Nat) (A' : Option Addr) (c' : Nat), k ≤ q.length ∧ i = .int .i64 k ∧ Hid (wr.heap[w.heap.size + 1]? = some (.cells #[.int .i64 (m : Int), .slice A' k c'] 53)) ∧ Hid (wr.heap[w.heap.size]? = some (.cells #[.int .i64 0, .slice none 0 0] 53)) ∧
      Hid (wr.ownsRow (w.heap.size + 1 + 1) 9 1 (.slice A' k c') k (svs (q.take k))) ∧ Below w.heap.size w wr ∧ w.heap.size + 1 + 1 ≤ wr.heap.size) (fun i _ => q.length - (intOf i).toNat)
  case atStart => exact ⟨0, none, 0, by omega, rfl, K1, K0, Lib.hid (World.ownsRow_nil _ _ _ _), b2, by omega⟩
  case round =>
    obtain ⟨k, A', c', hk, rfl, R1, R0, HO, hb, hsz⟩ := hrel
    by_cases hlt : k < q.length
    · obtain ⟨b, off, hA, hbB, hc⟩ := HX.out.2 (by omega)
      subst hA
      have h32 := HS.out _ (List.getElem_mem hlt)
      have hr : wr.rangeAt b (off + k * 32) (dgL q[k]) := fun j v hv => by
        have hj : j < 32 := by have := (List.getElem?_eq_some_iff.1 hv).1; rw [dgL_len, h32] at this; exact this
        have h1 := hc (k * 32 + j) v (by rw [fl_at q HS.out k hlt j hj]; exact hv)
        rw [Nat.add_assoc, hb.cell (p := ⟨b, off + (k * 32 + j), none⟩) hbB]
        exact h1
      have HT : Hid (svs (q.take (k + 1)) = svs (q.take k) ++ [.string q[k]]) := Lib.hid (by unfold svs; rw [take_snoc_g q k hlt, List.map_append]; rfl)
      have CT := Lib.hid (fun W => text q[k] W h32)
      have hone := dgL_one q[k]
      have hlen : (dgL q[k]).length = 32 := by rw [dgL_len, h32]
      generalize q[k] = x at *
      rw [dgV_L] at CT
      generalize dgL x = lx at *
      have ns : lx.toArray.size = 32 := by rw [List.size_toArray]; exact hlen
      have i0' : (0 : Int) ≤ (k : Int) := by omega
      have i1 : (k : Int) < (q.length : Int) := by omega
      clear hc
      go_wp2_with (first
        | (with_reducible refine wpList_load_mid rfl 125 (.tmp 14) rfl b (off + k * 32) rfl lx _ hr undD rfl (by rw [hlen]; exact infoD1) ?_)
        | (with_reducible refine wpList_store_mid rfl 125 (.tmp 7) (.tmp 15) rfl wr.heap.size 0 lx.toArray rfl rfl (by rw [ns]; exact there_new wr _ _ _ rfl) (by rw [ns]; exact infoD1) (all_oneCell_toArray hone) ?_))
      obtain ⟨hrS, hbS, hlS⟩ := stored_new wr #[.int .u8 0, .int .u8 0, .int .u8 0, .int .u8 0, .int .u8 0, .int .u8 0, .int .u8 0, .int .u8 0, .int .u8 0, .int .u8 0, .int .u8 0, .int .u8 0, .int .u8 0, .int .u8 0, .int .u8 0, .int .u8 0, .int .u8 0, .int .u8 0, .int .u8 0, .int .u8 0, .int .u8 0, .int .u8 0, .int .u8 0, .int .u8 0, .int .u8 0, .int .u8 0, .int .u8 0, .int .u8 0, .int .u8 0, .int .u8 0, .int .u8 0, .int .u8 0] 125 lx (by rw [hlen]; rfl) (by omega)
      generalize World.setCells (World.alloc wr (.cells _ _)) wr.heap.size 0 _ = W1 at *
      have HO1 := own_belowS HO.out hbS (Nat.le_refl _)
      have R11 := bx R1.out hbS
      have R01 := bx R0.out hbS
      have b1 := then_ (n := 0) hb hbS
      have hlo : wr.heap.size < W1.heap.size := hlS
      have X0 : (Ew (w.heap.size + 1) wr.heap.size (.cells #[.int .i64 (m : Int), .slice A' k c'] 53) lx) W1.drew := ⟨R11, (World.rangeAt_drew W1 wr.heap.size 0 lx).2 hrS⟩
      refine HL.start (S := SC 7 (Ew (w.heap.size + 1) wr.heap.size (.cells #[.int .i64 (m : Int), .slice A' k c'] 53) lx)) (by kernel_rfl) ?_
      refine HL.take (i := 0) (W := 7) (T := (Ew (w.heap.size + 1) wr.heap.size (.cells #[.int .i64 (m : Int), .slice A' k c'] 53) lx)) (oi := _) (v := ?_) rfl (by kernel_rfl) (by kernel_rfl) (by kernel_rfl) (by kernel_rfl) (by kernel_rfl) SC.t (SC.inv (by decide)) (fun _ _ _ h => h) (Or.inl ⟨by kernel_rfl, ?_⟩) (SC.of X0) (fun _ => ?_)
      rotate_left
      · intro w' hw'; clear hw'; (first | (go_simp; done) | (go_simp; with_reducible rfl))
      try simp only [Act.put, List.getElem_toArray, List.getElem_cons_succ, List.getElem_cons_zero, List.setIfInBounds_toArray, List.set_cons_zero, List.set_cons_succ]
      refine HL.take (i := 1) (W := 7) (T := (Ew (w.heap.size + 1) wr.heap.size (.cells #[.int .i64 (m : Int), .slice A' k c'] 53) lx)) (oi := _) (v := ?_) rfl (by kernel_rfl) (by kernel_rfl) (by kernel_rfl) (by kernel_rfl) (by kernel_rfl) SC.t (SC.inv (by decide)) (fun _ _ _ h => h) (Or.inl ⟨by kernel_rfl, ?_⟩) (SC.of X0) (fun _ => ?_)
      rotate_left
      · intro w' hw'; obtain ⟨e0, e1⟩ := row2 hw'.1; clear hw'; (first | (go_simp; done) | (go_simp; with_reducible rfl))
      try simp only [Act.put, List.getElem_toArray, List.getElem_cons_succ, List.getElem_cons_zero, List.setIfInBounds_toArray, List.set_cons_zero, List.set_cons_succ]
      refine HL.take (i := 2) (W := 7) (T := (Ew (w.heap.size + 1) wr.heap.size (.cells #[.int .i64 (m : Int), .slice A' k c'] 53) lx)) (oi := _) (v := .agg lx.toArray) rfl (by kernel_rfl) (by kernel_rfl) (by kernel_rfl) (by kernel_rfl) (by kernel_rfl) SC.t (SC.inv (by decide)) (fun _ _ _ h => h) (yieldsIf_load_mid (by kernel_rfl) 125 _ rfl wr.heap.size 0 rfl lx _ (fun W h => h.2) undD rfl (by rw [hlen]; exact infoD1)) (SC.of X0) (fun _ => ?_)
      try simp only [Act.put, List.getElem_toArray, List.getElem_cons_succ, List.getElem_cons_zero, List.setIfInBounds_toArray, List.set_cons_zero, List.set_cons_succ]
      refine HL.only (i := 3) (oi := _) (by kernel_rfl) rfl (by kernel_rfl) (fun K hK => ?_)
      go_simp
      refine (CT.out _).mono ?_
      rintro e' w5 ⟨rfl, b9⟩
      have B5 : Below W1.heap.size W1 w5 := (Below.refl _ W1).drew.trans b9
      have X5 : (Ew (w.heap.size + 1) wr.heap.size (.cells #[.int .i64 (m : Int), .slice A' k c'] 53) lx) w5 := ⟨bx R11 B5, range_below hrS B5 hlo⟩
      refine hK.out _ _ (SC.of X5) (fun _ => ?_)
      clear hK K b9
      try simp only [Act.put, List.getElem_toArray, List.getElem_cons_succ, List.getElem_cons_zero, List.setIfInBounds_toArray, List.set_cons_zero, List.set_cons_succ]
      refine HL.only (i := 4) (oi := _) (by kernel_rfl) rfl (by kernel_rfl) (fun K hK => ?_)
      go_simp
      have X6 : (Ew (w.heap.size + 1) wr.heap.size (.cells #[.int .i64 (m : Int), .slice A' k c'] 53) lx) (w5.alloc (.cells #[.string x] 9)) := ⟨bx X5.1 (al1 _ _), World.rangeAt_alloc X5.2 _⟩
      refine hK.out _ _ (SC.of X6) (fun _ => ?_)
      clear hK K
      try simp only [Act.put, List.getElem_toArray, List.getElem_cons_succ, List.getElem_cons_zero, List.setIfInBounds_toArray, List.set_cons_zero, List.set_cons_succ]
      have B6 : Below W1.heap.size W1 (w5.alloc (.cells #[.string x] 9)) := B5.alloc B5.size _
      have O6 := own_belowS HO1 B6 (Nat.le_refl _)
      have n6 := World.news_of_block (heap_alloc_new w5 (.cells #[.string x] 9))
      have hs6 : (w5.alloc (.cells #[.string x] 9)).heap.size = w5.heap.size + 1 := World.size_alloc _ _
      have hs5 := B5.size
      have hge : ∀ g, (Value.slice A' k c').ownBlock = some g → w.heap.size + 1 + 1 ≤ g ∧ g < wr.heap.size := fun g hg => HO.out.lt g hg
      generalize World.alloc w5 _ = W6 at *
      refine HL.only (i := 5) (oi := _) (by kernel_rfl) rfl (by kernel_rfl) (fun K hK => ?_)
      refine wp_append_lies _ _ _ _ rfl (w.heap.size + 1 + 1) 9 i0 _ 1 16 Tryd.underlying23 hi hz0 hz1 hz2 rfl (by omega) (.slice A' k c') k _ rfl O6 ⟨w5.heap.size, 0, none⟩ 1 1 _ rfl rfl n6 (by simp [Value.oneCell']) (by omega) (by unfold maxLen; omega) (by omega) (by omega) W6.heap.size rfl ?_
      intro g1 cap1 W7 hown1 hgrow hat hlt1
      have G7 : ∀ b, b < W6.heap.size → (∀ g, (Value.slice A' k c').ownBlock = some g → b ≠ g) → W7.heap[b]? = W6.heap[b]? := fun b hb hne => hgrow.block b hb (fun e => hne b e.symm rfl)
      have lt1 := bx_lt X6.1
      have K7 : W7.heap[w.heap.size + 1]? = some (.cells #[.int .i64 (m : Int), .slice A' k c'] 53) := (G7 _ lt1 (fun g hg => by have := (hge g hg).1; omega)).trans X6.1
      have X7 : (Ew (w.heap.size + 1) wr.heap.size (.cells #[.int .i64 (m : Int), .slice A' k c'] 53) lx) W7 := ⟨K7, fun j v hv => by
        rw [World.cell?_of_block (a := ⟨wr.heap.size, 0 + j, none⟩) (G7 wr.heap.size (by omega) (fun g hg => by have := (hge g hg).2; omega))]; exact X6.2 j v hv⟩
      have Z7 : W7.heap[w.heap.size]? = some (.cells #[.int .i64 0, .slice none 0 0] 53) := (G7 _ (by omega) (fun g hg => by have := (hge g hg).1; omega)).trans (bx R01 B6)
      have B7 : Below w.heap.size w W7 := (then_ (n := 0) b1 B6).grown hgrow (by have := b1.size; omega) (fun g hg => by have := (hge g hg).1; omega)
      have hs7 : W6.heap.size ≤ W7.heap.size := hgrow.size
      refine hK.out _ _ (SC.of X7) (fun _ => ?_)
      clear hK K
      try simp only [Act.put, List.getElem_toArray, List.getElem_cons_succ, List.getElem_cons_zero, List.setIfInBounds_toArray, List.set_cons_zero, List.set_cons_succ]
      obtain ⟨c0, c1⟩ := row2 K7
      obtain ⟨f0, f1⟩ := frz2 K7
      refine HL.only (i := 6) (oi := _) (by kernel_rfl) rfl (by kernel_rfl) (fun K hK => ?_)
      go_simp
      refine hK.out _ _ (SC.of X7) (fun _ => ?_)
      clear hK K
      try simp only [Act.put, List.getElem_toArray, List.getElem_cons_succ, List.getElem_cons_zero, List.setIfInBounds_toArray, List.set_cons_zero, List.set_cons_succ]
      refine HL.only (i := 7) (oi := _) (by kernel_rfl) rfl (by kernel_rfl) (fun K hK => ?_)
      go_simp
      refine hK.out _ _ (fun h => absurd ((show _ = true by kernel_rfl).symm.trans h) (by decide)) (fun _ => ?_)
      clear hK K
      try simp only [Act.put, List.getElem_toArray, List.getElem_cons_succ, List.getElem_cons_zero, List.setIfInBounds_toArray, List.set_cons_zero, List.set_cons_succ]
      refine HL.done (by kernel_rfl) ?_
      have HO8 : Hid ((W7.setCell ⟨w.heap.size + 1, 1, none⟩ (.slice (some ⟨g1, 0, none⟩) (k + 1) cap1)).ownsRow (w.heap.size + 1 + 1) 9 1 (.slice (some ⟨g1, 0, none⟩) (k + 1) cap1) (k + 1) (svs (q.take (k + 1)))) := Lib.hid (ownsRow_setCell_below (by rw [HT.out]; exact hown1) (by dsimp only; omega) _)
      have R18 : Hid ((W7.setCell ⟨w.heap.size + 1, 1, none⟩ (.slice (some ⟨g1, 0, none⟩) (k + 1) cap1)).heap[w.heap.size + 1]? = some (.cells #[.int .i64 (m : Int), .slice (some ⟨g1, 0, none⟩) (k + 1) cap1] 53)) := Lib.hid (by
        have h := heap_setCell_same W7 (w.heap.size + 1) 1 #[.int .i64 (m : Int), .slice A' k c'] 53 (.slice (some ⟨g1, 0, none⟩) (k + 1) cap1) K7
        simpa using h)
      have R08 : Hid ((W7.setCell ⟨w.heap.size + 1, 1, none⟩ (.slice (some ⟨g1, 0, none⟩) (k + 1) cap1)).heap[w.heap.size]? = some (.cells #[.int .i64 0, .slice none 0 0] 53)) := Lib.hid ((heap_setCell_other _ _ _ _ (by dsimp only; omega)).trans Z7)
      have B8 : Below w.heap.size w (W7.setCell ⟨w.heap.size + 1, 1, none⟩ (.slice (some ⟨g1, 0, none⟩) (k + 1) cap1)) := B7.setCell (by dsimp only; omega) _
      have hs8 : (W7.setCell ⟨w.heap.size + 1, 1, none⟩ (.slice (some ⟨g1, 0, none⟩) (k + 1) cap1)).heap.size = W7.heap.size := by simp [World.setCell]
      clear hown1 hgrow hat hlt1 X7 X6 X5 X0 K7 Z7 B7 B6 B5 O6 HO1 R11 R01 b1 hrS hbS c0 c1 f0 f1 G7 hge n6 CT hr
      generalize World.setCell W7 _ _ = W8 at *
      go_wp2
      go_roundw
      case rel => exact ⟨k + 1, _, _, by omega, by go_num, R18, R08, HO8, B8, by omega⟩
      case measure => simp [intOf]; omega
    · obtain rfl : k = q.length := by omega
      have HO' := HO.out
      rw [List.take_length] at HO'
      have HO2 := Lib.hid HO'
      clear HO HO'
      obtain ⟨c0, c1⟩ := row2 R1.out
      obtain ⟨f0, f1⟩ := frz2 R1.out
      obtain ⟨d0, d1⟩ := row2 R0.out
      obtain ⟨g0, g1⟩ := frz2 R0.out
      go_wp2
      obtain ⟨e0, e1⟩ := row2 (heap_set2 (x := .int .i64 (m : Int)) (y := .slice A' q.length c') R0.out)
      refine bodyPost_ret (v := .agg #[.int .i64 (m : Int), .slice A' q.length c']) (by simp [results, Tryd.results122, go_sem, e0, e1]) rfl ⟨A', c', rfl, ?_, ?_⟩
      · exact own_base (ownsRow_setCell_below (ownsRow_setCell_below HO2.out (by dsimp only; omega) _) (by dsimp only; omega) _) (show w.heap.size ≤ w.heap.size + 1 + 1 by omega)
      · exact Below.setCell (Below.setCell hb (Nat.le_refl _) _) (Nat.le_refl _) _
end Go.Proofs.YtmnihigackilkaaDoor.Fld3
