/-
  Whether a frontier is the one of a list: by both sides.
-/
import Derived.DeepKeys
import Derived.Test.YtmnihigackilkaaDoorFld3X
import Derived.Test.YtmnihigackilkaaDoorEdoX
namespace Go.Proofs.YtmnihigackilkaaDoor.Eqa
open Go.ChangeShapes Go.WideShapes Go.ChangeAt Go.RowKit
open Go.Proofs.YtmnihigackilkaaDoor.Mem Go.Proofs.YtmnihigackilkaaDoor.Ints Go.Proofs.YtmnihigackilkaaDoor.Strs Go.Proofs.YtmnihigackilkaaDoor.ShaComp Go.Proofs.YtmnihigackilkaaDoor.Digest Go.Proofs.YtmnihigackilkaaDoor.DigestI Go.Proofs.YtmnihigackilkaaDoor.Mkl Go.Proofs.YtmnihigackilkaaDoor.Slq Go.Proofs.YtmnihigackilkaaDoor.Rec Go.Proofs.YtmnihigackilkaaDoor.T8 Go.Proofs.YtmnihigackilkaaDoor.Arr Go.Proofs.YtmnihigackilkaaDoor.Hl Go.Proofs.YtmnihigackilkaaDoor.Fld Go.Proofs.YtmnihigackilkaaDoor.Fld2
set_option linter.unusedVariables false
set_option linter.unusedSimpArgs false
set_option maxRecDepth 100000

def litB (b : UInt8) : Lit := .int .u8 (b.toNat : Int)
theorem litB_inj {a b : UInt8} (h : litB a = litB b) : a = b := by
  unfold litB at h
  simp only [Lit.int.injEq, true_and] at h
  apply UInt8.toNat_inj.1
  omega
theorem map_litB {l m : List UInt8} (h : l.map litB = m.map litB) : l = m := by
  induction l generalizing m with
  | nil => cases m with
    | nil => rfl
    | cons b m => simp at h
  | cons a l ih => cases m with
    | nil => simp at h
    | cons b m =>
      simp only [List.map_cons, List.cons.injEq] at h
      rw [litB_inj h.1, ih h.2]
theorem mapM_some {α β : Type} (f : α → Option β) (g : α → β) : ∀ (l : List α), (∀ i ∈ l, f i = some (g i)) → l.mapM f = some (l.map g)
  | [], _ => by simp
  | i :: l, h => by
    rw [List.mapM_cons, h i (by simp), mapM_some f g l (fun j hj => h j (by simp [hj]))]
    rfl
theorem flat_one (l : List UInt8) : (l.map (fun b => [litB b])).flatten = l.map litB := by
  induction l with
  | nil => rfl
  | cons b l ih => rw [List.map_cons, List.flatten_cons, ih]; rfl
theorem cellsU : Tryd.prog.cellsOf 5 = 1 := by kernel_rfl
theorem cellsD : Tryd.prog.cellsOf 125 = 32 := by kernel_rfl
theorem undU : Tryd.prog.underlying 5 = some (.int .u8) := by kernel_rfl
theorem keyU (b : UInt8) : Tryd.prog.keyLits 1 5 [byteV b] = some [litB b] := by
  have hb := b.toNat_lt
  have hw : (Lit.int .u8 (b.toNat : Int)).wf = true := by
    have m0 : IntKind.min .u8 = 0 := rfl
    have m1 : IntKind.max .u8 = 255 := rfl
    unfold Lit.wf
    rw [Bool.and_eq_true, decide_eq_true_eq, decide_eq_true_eq, m0, m1]
    omega
  simp only [Program.keyLits, undU, byteV, hw, and_self, if_true]
  rfl
theorem keyD (s : ByteArray) (hs : s.size = 32) : Tryd.prog.keyLits 2 125 (dgL s) = some (s.data.toList.map litB) := by
  have hl : s.data.toList.length = 32 := by rw [Array.length_toList]; exact hs
  simp only [Program.keyLits, undD]
  rw [if_pos (by rw [cellsD, dgL_len, hs]), cellsU]
  unfold dgL
  generalize s.data.toList = l at *
  rw [mapM_some _ (fun i => [litB (l.getD i 0)]) _ (fun i hi => ?_)]
  · rw [Option.map_some, show (List.range 32).map (fun i => [litB (l.getD i 0)]) = l.map (fun b => [litB b]) from by
      apply List.ext_getElem
      · simp [hl]
      · intro j h1 h2; simp at h1 h2 ⊢; simp [h2], flat_one]
  · have hi' : i < l.length := by rw [hl]; exact List.mem_range.1 hi
    have : (((l.map byteV).drop (i * 1)).take 1) = [byteV (l.getD i 0)] := by
      rw [Nat.mul_one, List.drop_eq_getElem_cons (by simpa using hi')]
      simp [hi']
    rw [this]
    exact keyU _
theorem formD (s : ByteArray) (hs : s.size = 32) : (Value.agg (dgL s).toArray).formed Tryd.prog 125 = true := by
  simp only [Value.formed, undD, cellsD]
  rw [beq_iff_eq, List.size_toArray, dgL_len, hs]
theorem eqD (s t : ByteArray) (hs : s.size = 32) (ht : t.size = 32) (w : World) : (Op.equalIn 10000 125 (.agg (dgL s).toArray) (.agg (dgL t).toArray)).run Tryd.prog w = .ok (decide (s = t)) w := by
  obtain ⟨r, hr, hiff⟩ := run_equalIn_deep (P := Tryd.prog) 9998 2 125 (by kernel_rfl) w 2 2 (.agg (dgL s).toArray) (.agg (dgL t).toArray) _ _ (formD s hs) (formD t ht) (keyD s hs) (keyD t ht)
  rw [show (9998 + 2 : Nat) = 10000 from rfl] at hr
  rw [hr]
  congr 1
  rw [Bool.eq_iff_iff, hiff, decide_eq_true_eq]
  constructor
  · intro h
    have := map_litB h
    obtain ⟨⟨a⟩⟩ := s
    obtain ⟨⟨b⟩⟩ := t
    simp at this
    rw [this]
  · rintro rfl; rfl
end Go.Proofs.YtmnihigackilkaaDoor.Eqa

namespace Go.Proofs.YtmnihigackilkaaDoor.Eqb
open Go.ChangeShapes Go.WideShapes Go.ChangeAt Go.RowKit
open Go.Proofs.YtmnihigackilkaaDoor.Mem Go.Proofs.YtmnihigackilkaaDoor.Ints Go.Proofs.YtmnihigackilkaaDoor.Strs Go.Proofs.YtmnihigackilkaaDoor.ShaComp Go.Proofs.YtmnihigackilkaaDoor.Digest Go.Proofs.YtmnihigackilkaaDoor.DigestI Go.Proofs.YtmnihigackilkaaDoor.Mkl Go.Proofs.YtmnihigackilkaaDoor.Slq Go.Proofs.YtmnihigackilkaaDoor.Rec Go.Proofs.YtmnihigackilkaaDoor.T8 Go.Proofs.YtmnihigackilkaaDoor.Arr Go.Proofs.YtmnihigackilkaaDoor.Hl Go.Proofs.YtmnihigackilkaaDoor.Fld Go.Proofs.YtmnihigackilkaaDoor.Fld2 Go.Proofs.YtmnihigackilkaaDoor.Fld3 Go.Proofs.YtmnihigackilkaaDoor.Eqa
set_option linter.unusedVariables false
set_option linter.unusedSimpArgs false
set_option maxRecDepth 100000

theorem split_at (q : List ByteArray) (k : Nat) (hk : k < q.length) : q.take k ++ [q[k]] ++ q.drop (k + 1) = q := by
  rw [List.append_assoc, List.singleton_append, ← List.drop_eq_getElem_cons hk, List.take_append_drop]
theorem fl_range {w : World} {base g n c : Nat} {q : List ByteArray} {k : Nat} (h : w.ownsRow base 125 32 (.slice (some ⟨g, 0, none⟩) n c) n (fl q)) (hk : k < q.length) (h32 : ∀ s ∈ q, s.size = 32) : w.rangeAt g (k * 32) (dgL q[k]) :=
  own_rangeAt (l1 := fl (q.take k)) (l2 := fl (q.drop (k + 1))) (by rw [← fl_one, ← fl_app, ← fl_app, split_at q k hk]; exact h) (by rw [fl_len _ (fun s hs => h32 s (List.mem_of_mem_take hs)), List.length_take, Nat.min_eq_left (by omega)])
theorem guardD : Tryd.prog.eqGuardType Tryd.prog.depth 125 = false := by kernel_rfl
set_option maxHeartbeats 8000000 in
theorem arrEq (A D : Option Addr) (n c d base : Nat) (a b : List ByteArray) (w : World) (hn : n ≤ 1000) (ha : a.length = n) (hb : b.length = n) (h32a : ∀ s ∈ a, s.size = 32) (h32b : ∀ s ∈ b, s.size = 32) (hx : w.ownsRow base 125 32 (.slice A n c) n (fl a)) (hy : w.ownsRow base 125 32 (.slice D n d) n (fl b)) :
    Calls Tryd.prog 112 #[.slice A n c, .slice D n d] w fun e w' => e = .returned (.bool (decide (a = b))) ∧ Below w.heap.size w w' := by
  have HX := Lib.hid hx
  have HY := Lib.hid hy
  have HA := Lib.hid h32a
  have HB := Lib.hid h32b
  have HLA := Lib.hid ha
  have HLB := Lib.hid hb
  have HR : Hid (∀ r, r = decide (a = b) → r = decide (a = b)) := Lib.hid (fun r h => h)
  clear hx hy h32a h32b ha hb
  go_enter Tryd.func112, Tryd.ntmps112
  go_wp2_with fail
  go_loopw [13] (fun i wr => ∃ k : Nat, k ≤ n ∧ i = .int .i64 k ∧ Hid (a.take k = b.take k) ∧ Below w.heap.size w wr) (fun i _ => n - (intOf i).toNat)
  case atStart => exact ⟨0, by omega, rfl, Lib.hid rfl, Below.refl _ _⟩
  case round =>
    obtain ⟨k, hk, rfl, HT, hbw⟩ := hrel
    by_cases hlt : k < n
    · have la1 : k < a.length := by rw [HLA.out]; exact hlt
      have lb1 : k < b.length := by rw [HLB.out]; exact hlt
      have O1 := own_belowS HX.out hbw (Nat.le_refl _)
      have O2 := own_belowS HY.out hbw (Nat.le_refl _)
      obtain ⟨ga, hAe, -⟩ := own_some HX.out (by omega)
      obtain ⟨gb, hDe, -⟩ := own_some HY.out (by omega)
      subst hAe hDe
      have hga : ga < wr.heap.size := (O1.lt ga rfl).2
      have hgb : gb < wr.heap.size := (O2.lt gb rfl).2
      have ra : wr.rangeAt ga (k * 32) (dgL a[k]) := fl_range O1 la1 HA.out
      have rb : wr.rangeAt gb (k * 32) (dgL b[k]) := fl_range O2 lb1 HB.out
      have na : (dgL a[k]).length = 32 := by rw [dgL_len, HA.out _ (List.getElem_mem la1)]
      have nb : (dgL b[k]).length = 32 := by rw [dgL_len, HB.out _ (List.getElem_mem lb1)]
      have E := eqD a[k] b[k] (HA.out _ (List.getElem_mem la1)) (HB.out _ (List.getElem_mem lb1))
      have HS1 : Hid (a[k] = b[k] → a.take (k + 1) = b.take (k + 1)) := Lib.hid (fun h => by rw [List.take_succ_eq_append_getElem la1, List.take_succ_eq_append_getElem lb1, HT.out, h])
      have HS2 : Hid (a[k] ≠ b[k] → decide (a = b) = false) := Lib.hid (fun h => decide_eq_false (fun e => h (by subst e; rfl)))
      have k0 : (0 : Int) ≤ (k : Int) := by omega
      have k1 : (k : Int) < (n : Int) := by omega
      generalize dgL a[k] = la at *
      generalize dgL b[k] = lb at *
      generalize a[k] = x at *
      generalize b[k] = y at *
      clear O1 O2 HX HY HA HB HLA HLB la1 lb1 HT HR
      have gD := guardD
      go_wp2_with fail
      have X0 : Below wr.heap.size wr wr.drew := (Below.refl _ wr).drew
      refine HL.start (S := fun _ W => Below wr.heap.size wr W) (by kernel_rfl) ?_
      refine HL.take (i := 0) (W := 2) (T := fun W => Below wr.heap.size wr W) (oi := _) (v := ?_) rfl (by kernel_rfl) (by kernel_rfl) (by kernel_rfl) (by kernel_rfl) (by kernel_rfl) (fun _ _ _ h => h) (fun _ _ => Iff.rfl) (fun _ _ _ h => h) (Or.inl ⟨by kernel_rfl, ?_⟩) X0 (fun _ => ?_)
      rotate_left
      · intro w' hw'; clear hw'; (first | (go_simp; done) | (go_simp; with_reducible rfl))
      try simp only [Act.put, List.getElem_toArray, List.getElem_cons_succ, List.getElem_cons_zero, List.setIfInBounds_toArray, List.set_cons_zero, List.set_cons_succ]
      refine HL.take (i := 1) (W := 2) (T := fun W => Below wr.heap.size wr W) (oi := _) (v := ?_) rfl (by kernel_rfl) (by kernel_rfl) (by kernel_rfl) (by kernel_rfl) (by kernel_rfl) (fun _ _ _ h => h) (fun _ _ => Iff.rfl) (fun _ _ _ h => h) (Or.inl ⟨by kernel_rfl, ?_⟩) X0 (fun _ => ?_)
      rotate_left
      · intro w' hw'; clear hw'; (first | (go_simp; done) | (go_simp; with_reducible rfl))
      try simp only [Act.put, List.getElem_toArray, List.getElem_cons_succ, List.getElem_cons_zero, List.setIfInBounds_toArray, List.set_cons_zero, List.set_cons_succ]
      refine HL.take (i := 2) (W := 3) (T := fun W => Below wr.heap.size wr W) (oi := _) (v := ?_) rfl (by kernel_rfl) (by kernel_rfl) (by kernel_rfl) (by kernel_rfl) (by kernel_rfl) (fun _ _ _ h => h) (fun _ _ => Iff.rfl) (fun _ _ _ h => h) (Or.inl ⟨by kernel_rfl, ?_⟩) X0 (fun _ => ?_)
      rotate_left
      · intro w' hw'; clear hw'; (first | (go_simp; done) | (go_simp; with_reducible rfl))
      try simp only [Act.put, List.getElem_toArray, List.getElem_cons_succ, List.getElem_cons_zero, List.setIfInBounds_toArray, List.set_cons_zero, List.set_cons_succ]
      refine HL.take (i := 3) (W := 8) (T := fun W => Below wr.heap.size wr W) (oi := _) (v := .agg la.toArray) rfl (by kernel_rfl) (by kernel_rfl) (by kernel_rfl) (by kernel_rfl) (by kernel_rfl) (fun _ _ _ h => h) (fun _ _ => Iff.rfl) (fun _ _ _ h => h) (yieldsIf_load_mid (by kernel_rfl) 125 _ rfl ga (k * 32) rfl la _ (fun W h => range_below ra h hga) undD rfl (by rw [na]; exact infoD1)) X0 (fun _ => ?_)
      try simp only [Act.put, List.getElem_toArray, List.getElem_cons_succ, List.getElem_cons_zero, List.setIfInBounds_toArray, List.set_cons_zero, List.set_cons_succ]
      refine HL.take (i := 4) (W := 6) (T := fun W => Below wr.heap.size wr W) (oi := _) (v := ?_) rfl (by kernel_rfl) (by kernel_rfl) (by kernel_rfl) (by kernel_rfl) (by kernel_rfl) (fun _ _ _ h => h) (fun _ _ => Iff.rfl) (fun _ _ _ h => h) (Or.inl ⟨by kernel_rfl, ?_⟩) X0 (fun _ => ?_)
      rotate_left
      · intro w' hw'; clear hw'; (first | (go_simp; done) | (go_simp; with_reducible rfl))
      try simp only [Act.put, List.getElem_toArray, List.getElem_cons_succ, List.getElem_cons_zero, List.setIfInBounds_toArray, List.set_cons_zero, List.set_cons_succ]
      refine HL.take (i := 5) (W := 6) (T := fun W => Below wr.heap.size wr W) (oi := _) (v := ?_) rfl (by kernel_rfl) (by kernel_rfl) (by kernel_rfl) (by kernel_rfl) (by kernel_rfl) (fun _ _ _ h => h) (fun _ _ => Iff.rfl) (fun _ _ _ h => h) (Or.inl ⟨by kernel_rfl, ?_⟩) X0 (fun _ => ?_)
      rotate_left
      · intro w' hw'; clear hw'; (first | (go_simp; done) | (go_simp; with_reducible rfl))
      try simp only [Act.put, List.getElem_toArray, List.getElem_cons_succ, List.getElem_cons_zero, List.setIfInBounds_toArray, List.set_cons_zero, List.set_cons_succ]
      refine HL.take (i := 6) (W := 7) (T := fun W => Below wr.heap.size wr W) (oi := _) (v := ?_) rfl (by kernel_rfl) (by kernel_rfl) (by kernel_rfl) (by kernel_rfl) (by kernel_rfl) (fun _ _ _ h => h) (fun _ _ => Iff.rfl) (fun _ _ _ h => h) (Or.inl ⟨by kernel_rfl, ?_⟩) X0 (fun _ => ?_)
      rotate_left
      · intro w' hw'; clear hw'; (first | (go_simp; done) | (go_simp; with_reducible rfl))
      try simp only [Act.put, List.getElem_toArray, List.getElem_cons_succ, List.getElem_cons_zero, List.setIfInBounds_toArray, List.set_cons_zero, List.set_cons_succ]
      refine HL.take (i := 7) (W := 8) (T := fun W => Below wr.heap.size wr W) (oi := _) (v := .agg lb.toArray) rfl (by kernel_rfl) (by kernel_rfl) (by kernel_rfl) (by kernel_rfl) (by kernel_rfl) (fun _ _ _ h => h) (fun _ _ => Iff.rfl) (fun _ _ _ h => h) (yieldsIf_load_mid (by kernel_rfl) 125 _ rfl gb (k * 32) rfl lb _ (fun W h => range_below rb h hgb) undD rfl (by rw [nb]; exact infoD1)) X0 (fun _ => ?_)
      try simp only [Act.put, List.getElem_toArray, List.getElem_cons_succ, List.getElem_cons_zero, List.setIfInBounds_toArray, List.set_cons_zero, List.set_cons_succ]
      refine HL.only (i := 8) (oi := _) (by kernel_rfl) rfl (by kernel_rfl) (fun K hK => ?_)
      by_cases hxy : x = y
      · have E1 : ∀ (w : World), (Op.equalIn 10000 125 (.agg la.toArray) (.agg lb.toArray)).run Tryd.prog w = .ok true w := by rw [decide_eq_true hxy] at E; exact E
        have HN : Hid (a.take (k + 1) = b.take (k + 1)) := Lib.hid (HS1.out hxy)
        clear E HS1 HS2 hxy
        go_simp
        refine hK.out _ _ X0 (fun _ => ?_)
        clear hK K
        have hbD := then_ (n := 0) hbw X0
        refine HL.done (by kernel_rfl) ?_
        clear ra rb na nb X0 gD
        generalize wr.drew = wd at *
        go_wp2
        go_roundw
        case rel => exact ⟨k + 1, by omega, by go_num, HN, hbD⟩
        case measure => simp [intOf]; omega
      · have E1 : ∀ (w : World), (Op.equalIn 10000 125 (.agg la.toArray) (.agg lb.toArray)).run Tryd.prog w = .ok false w := by rw [decide_eq_false hxy] at E; exact E
        have HN := HS2.out hxy
        clear E HS1 HS2 hxy
        go_simp
        refine hK.out _ _ X0 (fun _ => ?_)
        clear hK K
        have hbD := then_ (n := 0) hbw X0
        refine HL.done (by kernel_rfl) ?_
        clear ra rb na nb X0 gD
        generalize wr.drew = wd at *
        go_wp2
        go_ret
        exact ⟨by rw [HN]; rfl, hbD⟩
    · obtain rfl : k = n := by omega
      have hab : a = b := by
        have h := HT.out
        rwa [List.take_of_length_le (Nat.le_of_eq HLA.out), List.take_of_length_le (Nat.le_of_eq HLB.out)] at h
      subst hab
      clear HX HY HA HB HLA HLB HT HR
      go_wp2
      go_ret
      exact ⟨by simp, hbw⟩
end Go.Proofs.YtmnihigackilkaaDoor.Eqb

namespace Go.Proofs.YtmnihigackilkaaDoor.Edf
open Go.ChangeShapes Go.WideShapes Go.ChangeAt Go.RowKit
open Go.Proofs.YtmnihigackilkaaDoor.Mem Go.Proofs.YtmnihigackilkaaDoor.Ints Go.Proofs.YtmnihigackilkaaDoor.Strs Go.Proofs.YtmnihigackilkaaDoor.ShaComp Go.Proofs.YtmnihigackilkaaDoor.Digest Go.Proofs.YtmnihigackilkaaDoor.DigestI Go.Proofs.YtmnihigackilkaaDoor.Mkl Go.Proofs.YtmnihigackilkaaDoor.Slq Go.Proofs.YtmnihigackilkaaDoor.Rec Go.Proofs.YtmnihigackilkaaDoor.T8 Go.Proofs.YtmnihigackilkaaDoor.T8s Go.Proofs.YtmnihigackilkaaDoor.T8i Go.Proofs.YtmnihigackilkaaDoor.Arr Go.Proofs.YtmnihigackilkaaDoor.Hl Go.Proofs.YtmnihigackilkaaDoor.Fld Go.Proofs.YtmnihigackilkaaDoor.Fld2 Go.Proofs.YtmnihigackilkaaDoor.Fld3 Go.Proofs.YtmnihigackilkaaDoor.Edg Go.Proofs.YtmnihigackilkaaDoor.Pop Go.Proofs.YtmnihigackilkaaDoor.Bit Go.Proofs.YtmnihigackilkaaDoor.Pts Go.Proofs.YtmnihigackilkaaDoor.Edq Go.Proofs.YtmnihigackilkaaDoor.Edn Go.Proofs.YtmnihigackilkaaDoor.Edw Go.Proofs.YtmnihigackilkaaDoor.Edp Go.Proofs.YtmnihigackilkaaDoor.Edt Go.Proofs.YtmnihigackilkaaDoor.Edu Go.Proofs.YtmnihigackilkaaDoor.Edo Go.Proofs.YtmnihigackilkaaDoor.Eqb
set_option linter.unusedVariables false
set_option linter.unusedSimpArgs false
set_option maxRecDepth 100000

/-- What EdgeFits tells. -/
def fits (m : Int) (q l : List ByteArray) : Bool := okE m q && okL l && decide (m = (l.length : Int)) && decide (q = edL l)
theorem fits_no {m : Int} {q l : List ByteArray} (h : (okE m q && okL l) = false) : fits m q l = false := by unfold fits; rw [h]; rfl
theorem bytes_ne {y z : ByteArray} (h : y ≠ z) : (y.toList == z.toList) = false := by
  rw [beq_eq_false_iff_ne]
  intro e
  apply h
  rw [ByteArray.toList_eq, ByteArray.toList_eq] at e
  obtain ⟨⟨y⟩⟩ := y
  obtain ⟨⟨z⟩⟩ := z
  simp at e
  rw [e]
set_option maxHeartbeats 8000000 in
theorem specFits (m : Int) (A : Option Addr) (n c : Nat) (q : List ByteArray) (D : Option Addr) (k d : Nat) (l : List ByteArray) (B : Nat) (w : World) (hn : n ≤ 1048576) (hq : ∀ s ∈ q, s.size ≤ maxLen) (hk : k ≤ 1048576) (hs : ∀ s ∈ l, s.size ≤ maxLen) (hln : l.length = k) (hqn : q.length = n) (hB : B ≤ w.heap.size) (hr : Rd w B 1 A n (svs q)) (hr2 : Rd w B 1 D k (svs l)) :
    Calls Tryd.prog 48 #[edV m A n c, .slice D k d] w fun e w' => e = .returned (.tuple #[.bool (fits m q l), .bool (okE m q && okL l)]) ∧ Below w.heap.size w w' := by
  have C1 := Lib.hid (fun W (h : Below w.heap.size w W) => specGood m A n c q B W hn hq (Nat.le_trans hB h.size) (hr.below h hB))
  have C2 := Lib.hid (fun W (h : Below w.heap.size w W) => T8i.l8Leaves D k d l B W hk hs (hr2.below h hB))
  have b0 := al1 w (.cells #[.int .i64 m, .slice A n c] 53)
  have ka := nw1 w (.cells #[.int .i64 m, .slice A n c] 53)
  by_cases hE : okE m q = true
  · by_cases hL : okL l = true
    · have C3 := Lib.hid (fun W (h : Below w.heap.size w W) => l9Of D k d l B W hln hL (Nat.le_trans hB h.size) (hr2.below h hB))
      have HX := Lib.hid hr
      have HF : Hid (fits m q l = (decide (m = (k : Int)) && decide (q = edL l))) := Lib.hid (by unfold fits; rw [hE, hL, hln]; rfl)
      have HQL : Hid (m = (k : Int) → (edL l).length = n) := Lib.hid (fun h => by
        obtain ⟨k', hk', h1, h2, h3⟩ := okE_yes hE
        have := edL_len l
        rw [this, hln, ← hqn, h3]
        congr 1; omega)
      rw [hE, hL]
      rw [hE] at C1
      rw [hL] at C2
      generalize fits m q l = r at *
      generalize edL l = x at *
      unfold edV at *
      clear hr hr2 hE hL hs hq hln
      go_enter Tryd.func48, Tryd.ntmps48
      go_wp2_with fail
      generalize World.alloc w _ = W0 at *
      refine (C1.out W0 b0).mono ?_
      rintro e' w1 ⟨rfl, b9⟩
      have b1 := then_ (n := 0) b0 b9
      have ka := bx ka b9
      clear b9 b0 C1
      obtain ⟨p0, p1⟩ := row2 ka
      go_wp2_with fail
      refine (C2.out w1 b1).mono ?_
      rintro e' w' ⟨rfl, rfl⟩
      clear C2
      go_wp2_with fail
      refine (C3.out w1 b1).mono ?_
      rintro e' w2 ⟨A2, c2, rfl, o2, b9⟩
      have b2 := then_ (n := 0) b1 b9
      have ka2 := bx ka b9
      clear b9 p0 p1 ka b1 C3
      obtain ⟨p0, p1⟩ := row2 ka2
      have q2 := bx_lt ka2
      by_cases hm : m = (k : Int)
      · have hxl := HQL.out hm
        subst hm
        have HF2 : Hid (r = decide (q = x)) := Lib.hid (by rw [HF.out, decide_eq_true rfl, Bool.true_and])
        clear HF HQL
        have O2 := Lib.hid o2
        clear o2
        have b3 := then_ (n := 0) b2 (al1 w2 (.cells #[.int .i64 (k : Int), .slice A2 n c2] 53))
        have ka3 := bx ka2 (al1 w2 (.cells #[.int .i64 (k : Int), .slice A2 n c2] 53))
        have O3 := Lib.hid (own_belowS O2.out (al1 w2 (.cells #[.int .i64 (k : Int), .slice A2 n c2] 53)) (Nat.le_refl _))
        have HXL := Lib.hid hxl
        go_wp2_with fail
        generalize World.alloc w2 _ = W3 at *
        clear p0 p1 ka2 ka q2 b2 O2 hxl
        go_loopw [27] (fun i wr => ∃ j : Nat, j ≤ n ∧ i = .int .i64 j ∧ Hid (q.take j = x.take j) ∧ wr = W3) (fun i _ => n - (intOf i).toNat)
        case atStart => exact ⟨0, by omega, rfl, Lib.hid rfl, rfl⟩
        case round =>
          obtain ⟨j, hj, rfl, HT, rfl⟩ := hrel
          obtain ⟨p0, p1⟩ := row2 ka3
          by_cases hlt : j < n
          · obtain ⟨g1, o1, hl1, rfl, _, hc1⟩ := rd_str (HX.out.below b3 hB) hlt
            obtain ⟨g2, o2, hl2, rfl, _, hc2⟩ := rd_str (Rd.own O3.out) (show j < x.length by rw [HXL.out]; exact hlt)
            have j0 : (0 : Int) ≤ (j : Int) := by omega
            have j1 : (j : Int) < (n : Int) := by omega
            have HS1 : Hid (q[j] = x[j] → q.take (j + 1) = x.take (j + 1)) := Lib.hid (fun h => by rw [List.take_succ_eq_append_getElem hl1, List.take_succ_eq_append_getElem hl2, HT.out, h])
            have HS2 : Hid (q[j] ≠ x[j] → decide (q = x) = false) := Lib.hid (fun h => decide_eq_false (fun e => h (by subst e; rfl)))
            generalize q[j] = y at *
            generalize x[j] = z at *
            by_cases hyz : y = z
            · have HN := Lib.hid (HS1.out hyz)
              subst hyz
              have hus : (y.toList == y.toList) = true := by simp
              clear HS1 HS2 HF2 HX O3 HT HXL
              go_wp2
              go_roundw
              case rel => exact ⟨j + 1, by omega, by go_num, HN, by first | rfl | trivial⟩
              case measure => simp [intOf]; omega
            · have HN := HS2.out hyz
              have hus : (y.toList == z.toList) = false := bytes_ne hyz
              have hr0 : r = false := by rw [HF2.out, HN]
              subst hr0
              clear HS1 HS2 HX O3 HT HXL HN HF2
              go_wp2
              go_ret2
              exact ⟨rfl, b3⟩
          · obtain rfl : j = n := by omega
            have hr1 : r = true := by
              have h := HT.out
              rw [List.take_of_length_le (Nat.le_of_eq hqn), List.take_of_length_le (Nat.le_of_eq HXL.out)] at h
              rw [HF2.out, decide_eq_true h]
            subst hr1
            clear HX O3 HT HXL HF2
            go_wp2
            go_ret2
            exact ⟨rfl, b3⟩
      · have HF2 : r = false := by rw [HF.out, decide_eq_false hm, Bool.false_and]
        have n1 : ((k : Int) == m) = false := by rw [beq_eq_false_iff_ne]; omega
        clear HF HQL o2
        subst HF2
        have b3 : Below w.heap.size w (w2.alloc (.cells #[.int .i64 (k : Int), .slice A2 x.length c2] 53)) := then_ (n := 0) b2 (al1 w2 _)
        go_wp2
        go_ret2
        exact ⟨rfl, b3⟩
    · rw [hE, Bool.eq_false_iff.2 hL, fits_no (by rw [Bool.eq_false_iff.2 hL, Bool.and_false])]
      rw [hE] at C1
      rw [Bool.eq_false_iff.2 hL] at C2
      unfold edV at *
      clear hr hr2 hE hL hs hq hln
      go_enter Tryd.func48, Tryd.ntmps48
      go_wp2_with fail
      generalize World.alloc w _ = W0 at *
      refine (C1.out W0 b0).mono ?_
      rintro e' w1 ⟨rfl, b9⟩
      have b1 := then_ (n := 0) b0 b9
      clear b9 b0 C1 ka
      go_wp2_with fail
      refine (C2.out w1 b1).mono ?_
      rintro e' w' ⟨rfl, rfl⟩
      clear C2
      go_wp2
      go_ret2
      exact ⟨rfl, b1⟩
  · rw [Bool.eq_false_iff.2 hE, fits_no (by rw [Bool.eq_false_iff.2 hE, Bool.false_and])]
    rw [Bool.eq_false_iff.2 hE] at C1
    unfold edV at *
    clear hr hr2 hE hs hq hln C2
    go_enter Tryd.func48, Tryd.ntmps48
    go_wp2_with fail
    generalize World.alloc w _ = W0 at *
    refine (C1.out W0 b0).mono ?_
    rintro e' w1 ⟨rfl, b9⟩
    have b1 := then_ (n := 0) b0 b9
    clear b9 b0 C1 ka
    go_wp2
    go_ret2
    exact ⟨rfl, b1⟩
set_option maxHeartbeats 8000000 in
theorem implFits (m : Int) (A : Option Addr) (n c : Nat) (q : List ByteArray) (D : Option Addr) (k d : Nat) (l : List ByteArray) (B : Nat) (w : World) (hn : n ≤ 1048576) (hq : ∀ s ∈ q, s.size ≤ maxLen) (hk : k ≤ 1048576) (hs : ∀ s ∈ l, s.size ≤ maxLen) (hln : l.length = k) (hqn : q.length = n) (hB : B ≤ w.heap.size) (hr : Rd w B 1 A n (svs q)) (hr2 : Rd w B 1 D k (svs l)) (hT : Tbl w) :
    Calls Tryd.prog 44 #[edV m A n c, .slice D k d] w fun e w' => e = .returned (.tuple #[.bool (fits m q l), .bool (okE m q && okL l)]) ∧ Below w.heap.size w w' := by
  have C1 := Lib.hid (fun W (h : Below w.heap.size w W) => implGood m A n c q B W hn hq (Nat.le_trans hB h.size) (hr.below h hB))
  have C2 := Lib.hid (fun W (h : Below w.heap.size w W) => implOf D k d l B W hk hs hln (Nat.le_trans hB h.size) (hr2.below h hB) (hT.below h))
  have b0 := al1 w (.cells #[.int .i64 m, .slice A n c] 53)
  have ka := nw1 w (.cells #[.int .i64 m, .slice A n c] 53)
  by_cases hL : okL l = true
  · by_cases hE : okE m q = true
    · obtain ⟨k', hk', h1, h2, h3⟩ := okE_yes hE
      have C3 := Lib.hid (fun W (h : Below w.heap.size w W) => partsOf m A n c q B W hn h2 (Nat.le_trans hB h.size) (hr.below h hB))
      have HF : Hid (fits m q l = (decide (m = (k : Int)) && decide (q = edL l))) := Lib.hid (by unfold fits; rw [hE, hL, hln]; rfl)
      have HQL : Hid (m = (k : Int) → (edL l).length = n) := Lib.hid (fun h => by
        have := edL_len l
        rw [this, hln, ← hqn, h3]
        congr 1; omega)
      have HX32 := Lib.hid (edL_32 l)
      have HQ32 := Lib.hid h2
      have hx21 : (edL l).length ≤ 21 := by rw [edL_len]; exact pc_le21 _ (by have := (okL_yes hL).2; omega)
      rw [hE, hL]
      rw [hE] at C1
      rw [hL] at C2
      simp only [if_true] at C2
      generalize fits m q l = r at *
      generalize edL l = x at *
      unfold Ans edV at *
      clear hr hr2 hE hL hs hq hln hk' h1 h2 h3 hT
      go_enter Tryd.func44, Tryd.ntmps44
      go_wp2_with fail
      generalize World.alloc w _ = W0 at *
      refine (C2.out W0 b0).mono ?_
      rintro e' w1 ⟨A2, c2, rfl, o2, b9⟩
      have b1 := then_ (n := 0) b0 b9
      have ka := bx ka b9
      have O2 := Lib.hid o2
      clear b9 b0 C2 o2
      obtain ⟨p0, p1⟩ := row2 ka
      have q1 := bx_lt ka
      go_wp2_with fail
      clear p0 p1 q1
      have b2 := then_ (n := 0) b1 (al1 w1 (.cells #[.int .i64 (k : Int), .slice A2 x.length c2] 53))
      have ke := bx ka (al1 w1 (.cells #[.int .i64 (k : Int), .slice A2 x.length c2] 53))
      have kx := nw1 w1 (.cells #[.int .i64 (k : Int), .slice A2 x.length c2] 53)
      have z2 : (w1.alloc (.cells #[.int .i64 (k : Int), .slice A2 x.length c2] 53)).heap.size = w1.heap.size + 1 := World.size_alloc _ _
      have O2 := Lib.hid (own_base (own_belowS O2.out (al1 w1 (.cells #[.int .i64 (k : Int), .slice A2 x.length c2] 53)) (Nat.le_refl _)) (Nat.zero_le _))
      clear ka b1
      generalize World.alloc w1 _ = W2 at *
      refine (C1.out W2 b2).mono ?_
      rintro e' w3 ⟨rfl, b9⟩
      have b3 := then_ (n := 0) b2 b9
      have ke := bx ke b9
      have kx := bx kx b9
      have O2 := Lib.hid (own_belowS O2.out b9 (Nat.le_refl _))
      clear b9 b2 C1
      obtain ⟨p0, p1⟩ := row2 ke
      obtain ⟨r0, r1⟩ := row2 kx
      have l1 := bx_lt ke
      have l2 := bx_lt kx
      by_cases hm : m = (k : Int)
      · have hxl := HQL.out hm
        subst hm
        have HF2 : Hid (r = decide (q = x)) := Lib.hid (by rw [HF.out, decide_eq_true rfl, Bool.true_and])
        rw [hxl] at kx r1
        have O2n : Hid (w3.ownsRow 0 9 1 (.slice A2 n c2) n (svs x)) := Lib.hid (by have h := O2.out; rw [hxl] at h; exact h)
        have C4 := Lib.hid (fun W (h : Below w3.heap.size w3 W) => partsOf (k : Int) A2 n c2 x W.heap.size W hn HX32.out (Nat.le_refl _) (Rd.own (own_belowS O2n.out h (Nat.le_refl _))))
        have C5 := Lib.hid (fun (A5 A6 : Option Addr) (c5 c6 : Nat) W (h : W.ownsRow 0 125 32 (.slice A5 n c5) n (fl q)) (h' : W.ownsRow 0 125 32 (.slice A6 n c6) n (fl x)) => arrEq A5 A6 n c5 c6 0 q x W (by omega) hqn hxl HQ32.out HX32.out h h')
        unfold edV at C4
        rw [hxl] at C4
        rw [hqn] at C3
        rw [← HF2.out] at C5
        have BD : Hid (Below w.heap.size w w3.drew) := Lib.hid b3.drew
        have ED : Hid (Below w3.heap.size w3 w3.drew) := Lib.hid (Below.refl _ w3).drew
        have keD : Hid (w3.drew.heap[w.heap.size]? = some (.cells #[.int .i64 (k : Int), .slice A n c] 53)) := Lib.hid ke
        have kxD : Hid (w3.drew.heap[w1.heap.size]? = some (.cells #[.int .i64 (k : Int), .slice A2 n c2] 53)) := Lib.hid kx
        clear HF HQL HF2 O2 O2n HX32 HQ32 z2 hxl
        go_wp2_with fail
        go_region_held3 (fun w' => w'.cell? ⟨w.heap.size, 0, none⟩ = some (.int .i64 (k : Int)) ∧ w'.cell? ⟨w.heap.size, 1, none⟩ = some (.slice A n c) ∧ w'.cell? ⟨w1.heap.size, 0, none⟩ = some (.int .i64 (k : Int)) ∧ w'.cell? ⟨w1.heap.size, 1, none⟩ = some (.slice A2 n c2))
    (first | (go_keep; done) | (refine ⟨?_, ?_, ?_, ?_⟩ <;> with_reducible assumption))
    (first
      | (go_at_call 110; (with_reducible refine (C3.out _ BD.out).mono ?_); rintro e' w5 ⟨A5, c5, rfl, o5, b5⟩; obtain ⟨d50, d51⟩ := row2 (bx keD.out b5); obtain ⟨f50, f51⟩ := row2 (bx kxD.out b5); have X5 := Lib.hid (ED.out.trans (b5.mono ED.out.size)); have Y5 := Lib.hid (then_ (n := 0) BD.out b5); have O5 := Lib.hid (own_base o5 (Nat.zero_le _)); clear o5)
      | (go_at_call 110; (with_reducible refine (C4.out _ X5.out).mono ?_); rintro e' w6 ⟨A6, c6, rfl, o6, b6⟩; obtain ⟨d60, d61⟩ := row2 (bx (bx keD.out b5) b6); obtain ⟨f60, f61⟩ := row2 (bx (bx kxD.out b5) b6); have Y6 := Lib.hid (then_ (n := 0) Y5.out b6); have O5b := Lib.hid (own_belowS O5.out b6 (Nat.le_refl _)); have O6 := Lib.hid (own_base o6 (Nat.zero_le _)); clear o6)
      | (go_at_call 112; (with_reducible refine (C5.out _ _ _ _ _ O5b.out O6.out).mono ?_); rintro e' w7 ⟨rfl, b7⟩; obtain ⟨d70, d71⟩ := row2 (bx (bx (bx keD.out b5) b6) b7); obtain ⟨f70, f71⟩ := row2 (bx (bx (bx kxD.out b5) b6) b7)))
        have Y7 := then_ (n := 0) Y6.out b7
        go_wp2
        go_ret2
        exact ⟨rfl, Y7⟩
      · have HF2 : r = false := by rw [HF.out, decide_eq_false hm, Bool.false_and]
        have n1 : (m == (k : Int)) = false := by rw [beq_eq_false_iff_ne]; omega
        clear HF HQL O2 C3 HX32 HQ32
        subst HF2
        have b4 : Below w.heap.size w w3.drew := b3.drew
        go_wp2_with fail
        go_quiet (fail)
        have b5 : Below w.heap.size w (w3.drewN nq) := Rec.below_drewN b3 nq
        go_wp2
        go_ret2
        exact ⟨rfl, b5⟩
    · rw [Bool.eq_false_iff.2 hE, Bool.false_and, fits_no (by rw [Bool.eq_false_iff.2 hE, Bool.false_and])]
      rw [Bool.eq_false_iff.2 hE] at C1
      rw [hL] at C2
      simp only [if_true] at C2
      generalize edL l = x at *
      unfold Ans edV at *
      clear hr hr2 hE hL hs hq hln hT
      go_enter Tryd.func44, Tryd.ntmps44
      go_wp2_with fail
      generalize World.alloc w _ = W0 at *
      refine (C2.out W0 b0).mono ?_
      rintro e' w1 ⟨A2, c2, rfl, o2, b9⟩
      have b1 := then_ (n := 0) b0 b9
      have ka := bx ka b9
      clear b9 b0 C2 o2
      obtain ⟨p0, p1⟩ := row2 ka
      have q1 := bx_lt ka
      go_wp2_with fail
      have b2 := then_ (n := 0) b1 (al1 w1 (.cells #[.int .i64 (k : Int), .slice A2 x.length c2] 53))
      clear p0 p1 q1 ka
      generalize World.alloc w1 _ = W2 at *
      refine (C1.out W2 b2).mono ?_
      rintro e' w3 ⟨rfl, b9⟩
      have b3 := then_ (n := 0) b2 b9
      clear b9 b2 b1 C1
      go_wp2
      go_ret2
      exact ⟨rfl, b3⟩
  · rw [Bool.eq_false_iff.2 hL, Bool.and_false, fits_no (by rw [Bool.eq_false_iff.2 hL, Bool.and_false])]
    rw [Bool.eq_false_iff.2 hL] at C2
    simp only [Bool.false_eq_true, if_false] at C2
    unfold Ans edV at *
    clear hr hr2 hL hs hq hln C1 hT
    go_enter Tryd.func44, Tryd.ntmps44
    go_wp2_with fail
    generalize World.alloc w _ = W0 at *
    refine (C2.out W0 b0).mono ?_
    rintro e' w1 ⟨A2, c2, rfl, o2, b9⟩
    have b1 := then_ (n := 0) b0 b9
    clear b9 b0 C2 o2 ka
    have b2 := then_ (n := 0) b1 (al1 w1 (.cells #[.int .i64 0, .slice A2 ([] : List ByteArray).length c2] 53))
    go_wp2
    go_ret2
    exact ⟨rfl, b2⟩
end Go.Proofs.YtmnihigackilkaaDoor.Edf
