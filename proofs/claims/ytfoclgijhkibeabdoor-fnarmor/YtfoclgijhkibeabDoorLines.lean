/-
  The lines of a text: contracts of the reference and of the program.
-/
import Derived.Test.YtfoclgijhkibeabDoorStrs
import Derived.Test.YtfoclgijhkibeabDoorSigI
import Derived.Test.YtfoclgijhkibeabDoorShelf
namespace Go.Proofs.YtfoclgijhkibeabDoor.Lines
open Go.ChangeShapes Go.WideShapes Go.ChangeAt Go.RowKit
open Go.Proofs.YtfoclgijhkibeabDoor.Mem Go.Proofs.YtfoclgijhkibeabDoor.Ints Go.Proofs.YtfoclgijhkibeabDoor.Strs Go.Proofs.YtfoclgijhkibeabDoor.SigS Go.Proofs.YtfoclgijhkibeabDoor.SigI
set_option linter.unusedVariables false
set_option maxRecDepth 100000

def lineAt (t : ByteArray) (wd i : Nat) : ByteArray := t.extract (i * wd) (min t.size (i * wd + wd))
def lns (t : ByteArray) (wd i : Nat) : List ByteArray := (List.range i).map (lineAt t wd)
def cnt (t : ByteArray) (wd : Nat) : Nat := (t.size + wd - 1) / wd
theorem lns_snoc (t : ByteArray) (wd i : Nat) : lns t wd (i + 1) = lns t wd i ++ [lineAt t wd i] := by simp [lns, List.range_succ]
theorem lt_cnt (t : ByteArray) (wd i : Nat) (hw : 1 ≤ wd) : i < cnt t wd ↔ i * wd < t.size := by
  unfold cnt
  rw [Nat.lt_iff_add_one_le, Nat.le_div_iff_mul_le (by omega), Nat.succ_mul]
  omega
theorem cnt_le (t : ByteArray) (wd : Nat) (hw : 1 ≤ wd) : cnt t wd ≤ t.size := by
  apply Classical.byContradiction
  intro h
  have := (lt_cnt t wd t.size hw).1 (by omega)
  have h2 : t.size * 1 ≤ t.size * wd := Nat.mul_le_mul_left _ hw
  omega
theorem slice_mid (s : ByteArray) (k e : Nat) (W : World) (h0 : k ≤ e) (h : e ≤ s.size) :
    (Instr.slice 9 (.string s) (some (.int .i64 (k : Int))) (some (.int .i64 (e : Int))) none).run Tryd.prog W = .ok (.string (s.extract k e)) W := by
  have := run_slice_string (P := Tryd.prog) W 9 s .i64 .i64 (k : Int) (e : Int) Tryd.underlying9 (by omega) (by omega) (by omega)
  rw [this]
  congr 3
theorem clone (s : ByteArray) (w : World) (hlim : s.size ≤ 100000) :
    Calls Tryd.prog 86 #[.string s] w fun e w' => e = .returned (.string s) ∧ Below w.heap.size w w' := by
  go_enter Tryd.func86, Tryd.ntmps86
  go_wp2_with fail
  refine (Tryd.stringslite_Clone s _ (by omega)).mono ?_
  rintro e w' ⟨rfl, hb⟩
  go_wp2
  go_ret
  exact ⟨rfl, hb⟩
theorem app_str {w wr wa w1 : World} {e : Nat} {v v' : Value} {n m : Nat} {l : List ByteArray} {x : ByteArray} {ys : List Value} (hb : Below w.heap.size w wa)
    (hown : wr.ownsRow w.heap.size e 1 v n (svs l)) (h1 : w1.ownsRow w.heap.size e 1 v' m (svs l ++ ys)) (hy : ys = [.string x]) (hg : wa.grownBy w1 v.ownBlock) :
    w1.ownsRow w.heap.size e 1 v' m (svs (l ++ [x])) ∧ Below w.heap.size w w1 := by
  subst hy
  refine ⟨by unfold svs at *; rw [List.map_append]; exact h1, hb.grown hg hb.size (fun g hgg => ownBlock_ge hown g hgg)⟩
theorem ext_ext (t : ByteArray) (m q : Nat) (h : m + q ≤ t.size) : (t.extract m t.size).extract 0 q = t.extract m (m + q) := by
  apply ByteArray.ext
  simp only [ByteArray.data_extract, Array.extract_extract]
  congr 1
  have : t.data.size = t.size := rfl
  omega
theorem ext_rest (t : ByteArray) (m q : Nat) (h : m + q ≤ t.size) : (t.extract m t.size).extract q (t.extract m t.size).size = t.extract (m + q) t.size := by
  apply ByteArray.ext
  have h2 : (t.extract m t.size).size = t.size - m := by simp
  simp only [ByteArray.data_extract, Array.extract_extract, h2]
  congr 1
  omega

def strLen : Value → Nat
  | .string s => s.size
  | _ => 0
/-- What a function that hands lines back leaves. -/
def Made (t : ByteArray) (wd : Nat) (w : World) (e : Ending) (w' : World) (f : Value → Value) : Prop :=
  ∃ v, e = .returned (f v) ∧ w'.ownsRow w.heap.size 9 1 v (cnt t wd) (svs (lns t wd (cnt t wd))) ∧ Below w.heap.size w w'

set_option maxHeartbeats 2000000 in
theorem l3Lines (t : ByteArray) (wd : Nat) (w : World) (hs : t.size ≤ 100000) (h1 : 1 ≤ wd) (h2 : wd ≤ 100) :
    Calls Tryd.prog 88 #[.string t, .int .i64 wd] w fun e w' => Made t wd w e w' id := by
  obtain ⟨i0, hi, hz0, hz1, hz2⟩ := info_parts infoS
  have hcn := cnt_le t wd h1
  have HLT := Lib.hid (fun i => lt_cnt t wd i h1)
  go_enter Tryd.func88, Tryd.ntmps88
  go_wp2
  go_loopw [5, 6] (fun v a wr => ∃ i m : Nat, i ≤ cnt t wd ∧ Hid (i * wd = m) ∧ m ≤ 200000 ∧ a = .int .i64 m ∧ wr.ownsRow w.heap.size 9 1 v i (svs (lns t wd i)) ∧ Below w.heap.size w wr)
    (fun _ a _ => 200200 - (intOf a).toNat)
  case atStart => exact ⟨0, 0, by omega, Lib.hid (by simp), by omega, rfl, World.ownsRow_nil _ _ _ _, Below.refl _ _⟩
  case round =>
    obtain ⟨i, m, hic, HM, hm2, rfl, hown, hb⟩ := hrel
    have HO := Lib.hid hown
    clear hown
    have hbz := hb.size
    by_cases hlt : m < t.size
    · have hi1 : i < cnt t wd := (HLT.out i).2 (by rw [HM.out]; exact hlt)
      obtain ⟨en, hen⟩ : ∃ en, min t.size (m + wd) = en := ⟨_, rfl⟩
      have he1 : m ≤ en := by omega
      have he2 : en ≤ t.size := by omega
      have HE : Hid (min (t.size : Int) ((m : Int) + wd) = (en : Int)) := Lib.hid (by omega)
      have SL := fun W => slice_mid t m en W he1 he2
      have HX : Hid (t.extract m en = lineAt t wd i) := Lib.hid (by unfold lineAt; rw [HM.out, hen])
      have HSn := Lib.hid (lns_snoc t wd i)
      clear hen
      generalize t.extract m en = x at *
      go_wp2_with (first | (go_at_call 132; with_reducible refine (least' _ _ (en : Int) _ HE.out).mono ?_; rintro e w' ⟨rfl, rfl⟩) | (at_builtin; refine wpList_append_lies _ rfl _ _ _ rfl w.heap.size 9 i0 _ 1 16 Tryd.underlying35 hi hz0 hz1 hz2 rfl (by omega) _ i _ rfl (HO.out.alloc _) ⟨wr.heap.size, 0, none⟩ 1 1 _ rfl rfl (World.news_of_block (heap_alloc_new wr _)) (by simp [Value.oneCell']) (by omega) (by unfold maxLen; omega) (by omega) (by simp; omega) (wr.heap.size + 1) (by simp) ?_; intro g cap w1 hown1 hgrow hat hlt1))
      have R := app_str (x := x) (hb.alloc hbz _) HO.out hown1 rfl hgrow
      have HR : Hid (w1.ownsRow w.heap.size 9 1 (.slice (some ⟨g, 0, none⟩) (i + 1) cap) (i + 1) (svs (lns t wd (i + 1)))) := Lib.hid (by rw [HSn.out, ← HX.out]; exact R.1)
      go_roundw
      case rel => exact ⟨i + 1, m + wd, hi1, Lib.hid (by rw [Nat.succ_mul, HM.out]), by omega, by go_num, HR.out, R.2⟩
      case measure => simp [intOf]; omega
    · have hi1 : ¬ i < cnt t wd := fun h => hlt (by have := (HLT.out i).1 h; rw [HM.out] at this; exact this)
      obtain rfl : i = cnt t wd := by omega
      go_wp2
      go_ret
      exact ⟨_, rfl, HO.out, hb⟩

set_option maxHeartbeats 2000000 in
theorem implLines (t : ByteArray) (wd : Nat) (w : World) (hs : t.size ≤ 800) (h1 : 1 ≤ wd) (h2 : wd ≤ 100) :
    Calls Tryd.prog 25 #[.string t, .int .i64 wd] w fun e w' => Made t wd w e w' (fun v => .tuple #[v, .bool true]) := by
  obtain ⟨i0, hi, hz0, hz1, hz2⟩ := info_parts infoS
  have hcn := cnt_le t wd h1
  have HLT := Lib.hid (fun i => lt_cnt t wd i h1)
  have g1 : ¬ (wd : Int) < 1 := by omega
  have g2 : ¬ (100 : Int) < (wd : Int) := by omega
  go_enter Tryd.func25, Tryd.ntmps25
  go_wp2
  clear g1 g2
  go_loopw [0, 6] (fun a v wr => ∃ (i m : Nat) (t' : ByteArray), i ≤ cnt t wd ∧ m ≤ t.size ∧ Hid (m = min (i * wd) t.size ∧ t' = t.extract m t.size ∧ t'.size = t.size - m) ∧ a = .string t' ∧ wr.ownsRow w.heap.size 9 1 v i (svs (lns t wd i)) ∧ Below w.heap.size w wr)
    (fun a _ _ => strLen a)
  case atStart => exact ⟨0, 0, t, by omega, by omega, Lib.hid ⟨by simp, by simp, by simp⟩, rfl, World.ownsRow_nil _ _ _ _, Below.refl _ _⟩
  case round =>
    obtain ⟨i, m, t', hic, hm, HM, rfl, hown, hb⟩ := hrel
    have HO := Lib.hid hown
    clear hown
    have hbz := hb.size
    by_cases hlt : 0 < t'.size
    · have hms : m < t.size := by have := HM.out.2.2; omega
      have hmi : i * wd = m := by have := HM.out.1; omega
      have hi1 : i < cnt t wd := (HLT.out i).2 (by rw [hmi]; exact hms)
      obtain ⟨q, hq⟩ : ∃ q, min wd t'.size = q := ⟨_, rfl⟩
      have hq1 : 1 ≤ q := by omega
      have hq2 : q ≤ t'.size := by omega
      have ht8 : t'.size ≤ 800 := by have := HM.out.2.2; omega
      have hqi : min (wd : Int) (t'.size : Int) = (q : Int) := by omega
      have SL2 := slice_to t' q hq2
      have SL3 := slice_from t' q hq2
      have hmq : m + q ≤ t.size := by have := HM.out.2.2; omega
      have HX : Hid (t'.extract 0 q = lineAt t wd i) := Lib.hid (by
        unfold lineAt
        rw [hmi, HM.out.2.1, ext_ext t m q hmq]
        congr 1
        have := HM.out.2.2
        omega)
      have HXs : Hid ((t'.extract 0 q).size ≤ 800) := Lib.hid (by simp; omega)
      have HY : Hid (t'.extract q t'.size = t.extract (m + q) t.size) := Lib.hid (by rw [HM.out.2.1, ext_rest t m q hmq])
      have HYs : Hid ((t'.extract q t'.size).size = t.size - (m + q)) := Lib.hid (by rw [HY.out]; simp)
      have HZ : Hid (m + q = min ((i + 1) * wd) t.size) := Lib.hid (by rw [Nat.succ_mul, hmi]; have := HM.out.2.2; omega)
      have HSn := Lib.hid (lns_snoc t wd i)
      clear hq hmi
      generalize t'.extract 0 q = x at *
      generalize t'.extract q t'.size = y at *
      go_wp2_with (first | (go_at_call 86; with_reducible refine (clone x _ (by have := HXs.out; omega)).mono ?_; rintro e w2 ⟨rfl, hb2⟩; have hB2 : Below w.heap.size w w2 := hb.trans (hb2.mono hbz); have hbz2 := hB2.size; have HO2 := Lib.hid (own_belowS HO.out hb2 (Nat.le_refl _)); clear hb2) | (at_builtin; refine wpList_append_lies _ rfl _ _ _ rfl w.heap.size 9 i0 _ 1 16 Tryd.underlying35 hi hz0 hz1 hz2 rfl (by omega) _ i _ rfl (HO2.out.alloc _) ⟨w2.heap.size, 0, none⟩ 1 1 _ rfl rfl (World.news_of_block (heap_alloc_new w2 _)) (by simp [Value.oneCell']) (by omega) (by unfold maxLen; omega) (by omega) (by simp; omega) (w2.heap.size + 1) (by simp) ?_; intro g cap w1 hown1 hgrow hat hlt1))
      have R := app_str (x := x) (hB2.alloc hbz2 _) HO2.out hown1 rfl hgrow
      have HR : Hid (w1.ownsRow w.heap.size 9 1 (.slice (some ⟨g, 0, none⟩) (i + 1) cap) (i + 1) (svs (lns t wd (i + 1)))) := Lib.hid (by rw [HSn.out, ← HX.out]; exact R.1)
      go_roundw
      case rel => exact ⟨i + 1, m + q, y, hi1, hmq, Lib.hid ⟨HZ.out, HY.out, HYs.out⟩, rfl, HR.out, R.2⟩
      case measure =>
        have := HYs.out
        have := HM.out.2.2
        simp [strLen]; omega
    · have hi1 : ¬ i < cnt t wd := fun h => hlt (by have := (HLT.out i).1 h; have := HM.out.1; have := HM.out.2.2; omega)
      obtain rfl : i = cnt t wd := by omega
      have h0 : t'.size = 0 := by omega
      go_wp2
      go_ret2
      exact ⟨_, rfl, HO.out, hb⟩
theorem specLines (t : ByteArray) (wd : Nat) (w : World) (hs : t.size ≤ 800) (h1 : 1 ≤ wd) (h2 : wd ≤ 100) :
    Calls Tryd.prog 26 #[.string t, .int .i64 wd] w fun e w' => Made t wd w e w' (fun v => .tuple #[v, .bool true]) := by
  have HI := Lib.hid (fun W => Len.inYes (wd : Int) 1 100 W (by omega) (by omega))
  go_enter Tryd.func26, Tryd.ntmps26
  go_wp2_with fail
  refine (HI.out _).mono ?_
  rintro e w' ⟨rfl, rfl⟩
  go_wp2_with fail
  refine (l3Lines t wd _ (by omega) h1 h2).mono ?_
  rintro e w1 ⟨v, rfl, ho, hb⟩
  have HO := Lib.hid ho
  clear ho
  dsimp only [id]
  go_wp2
  go_ret2
  exact ⟨_, rfl, HO.out, hb⟩
theorem specNo (t : ByteArray) (wd : Int) (w : World) (hm : t.size ≤ maxLen) (h : 800 < t.size ∨ wd < 1 ∨ 100 < wd) :
    Calls Tryd.prog 26 #[.string t, .int .i64 wd] w fun e w' => e = .returned (.tuple #[.slice none 0 0, .bool false]) ∧ w = w' := by
  unfold maxLen at hm
  by_cases h1 : 800 < t.size
  · clear h
    go_enter Tryd.func26, Tryd.ntmps26
    go_wp2
    go_ret2
    exact ⟨rfl, rfl⟩
  · have h2 : wd < 1 ∨ 100 < wd := by omega
    have h3 : t.size ≤ 800 := by omega
    have HI := Lib.hid (fun W => Len.inNo wd 1 100 W h2)
    clear h h2 h1
    go_enter Tryd.func26, Tryd.ntmps26
    go_wp2_with fail
    refine (HI.out _).mono ?_
    rintro e w' ⟨rfl, rfl⟩
    go_wp2
    go_ret2
    exact ⟨rfl, rfl⟩
theorem implNo (t : ByteArray) (wd : Int) (w : World) (hm : t.size ≤ maxLen) (h : 800 < t.size ∨ wd < 1 ∨ 100 < wd) :
    Calls Tryd.prog 25 #[.string t, .int .i64 wd] w fun e w' => e = .returned (.tuple #[.slice none 0 0, .bool false]) ∧ w = w' := by
  unfold maxLen at hm
  by_cases h1 : 800 < t.size
  · clear h
    go_enter Tryd.func25, Tryd.ntmps25
    go_wp2
    go_ret2
    exact ⟨rfl, rfl⟩
  · have h3 : t.size ≤ 800 := by omega
    by_cases h4 : wd < 1
    · clear h
      go_enter Tryd.func25, Tryd.ntmps25
      go_wp2
      go_ret2
      exact ⟨rfl, rfl⟩
    · have h5 : 100 < wd := by omega
      have h6 : 1 ≤ wd := by omega
      clear h
      go_enter Tryd.func25, Tryd.ntmps25
      go_wp2
      go_ret2
      exact ⟨rfl, rfl⟩
end Go.Proofs.YtfoclgijhkibeabDoor.Lines
