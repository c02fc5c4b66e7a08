/-
  Armored text taken apart: contracts of the reference and of the program.
-/
import Derived.Test.YtfoclgijhkibeabDoorOaM
namespace Go.Proofs.YtfoclgijhkibeabDoor.Oa
open Go.ChangeShapes Go.WideShapes Go.ChangeAt Go.RowKit
open Go.Proofs.YtfoclgijhkibeabDoor.Mem Go.Proofs.YtfoclgijhkibeabDoor.Ints Go.Proofs.YtfoclgijhkibeabDoor.Strs Go.Proofs.YtfoclgijhkibeabDoor.Lines Go.Proofs.YtfoclgijhkibeabDoor.SigM Go.Proofs.YtfoclgijhkibeabDoor.SigS Go.Proofs.YtfoclgijhkibeabDoor.SigI Go.Proofs.YtfoclgijhkibeabDoor.Name Go.Proofs.YtfoclgijhkibeabDoor.Armor Go.Proofs.YtfoclgijhkibeabDoor.OaM
set_option linter.unusedVariables false
set_option maxRecDepth 100000

def seg (t : ByteArray) (f i : Nat) : List UInt8 := (t.data.toList.take i).drop f
theorem seg_ext (t : ByteArray) (f i : Nat) : (t.extract f i).data.toList = seg t f i := by
  unfold seg
  rw [Go.Lib.extract_data, List.drop_take]
theorem seg_succ (t : ByteArray) (f i : Nat) (h : i < t.size) (hf : f ≤ i) : seg t f (i + 1) = seg t f i ++ [t[i]] := by
  unfold seg
  rw [take_snoc t i h, List.drop_append_of_le_length (by rw [List.length_take]; simp; omega)]
theorem seg_self (t : ByteArray) (i : Nat) : seg t i i = [] := by
  unfold seg
  apply List.drop_eq_nil_of_le
  rw [List.length_take]; omega
theorem drop_at (t : ByteArray) (i : Nat) (h : i < t.size) : t.data.toList.drop i = t[i] :: t.data.toList.drop (i + 1) := by
  have hl : i < t.data.toList.length := by simpa using h
  rw [List.drop_eq_getElem_cons hl]; rfl
/-- What is still to be cut, behind the pieces that are there. -/
def Cuts (t : ByteArray) (o : List ByteArray) (f i : Nat) : Prop := spl t.data.toList = o.map (fun x => x.data.toList) ++ glue (seg t f i) (spl (t.data.toList.drop i))
theorem cuts_start (t : ByteArray) : Cuts t [] 0 0 := by
  unfold Cuts
  rw [seg_self, glue_nil _ (spl_ne _)]; rfl
theorem cuts_nl (t : ByteArray) (o : List ByteArray) (f i : Nat) (h : i < t.size) (hc : t[i] = 10) (H : Cuts t o f i) : Cuts t (o ++ [t.extract f i]) (i + 1) (i + 1) := by
  unfold Cuts at H ⊢
  rw [H, drop_at t i h, spl, if_pos hc, seg_self, glue_nil _ (spl_ne _), List.map_append]
  simp only [glue, List.append_nil, List.map_cons, List.map_nil, seg_ext, List.append_assoc, List.cons_append, List.nil_append]
theorem cuts_no (t : ByteArray) (o : List ByteArray) (f i : Nat) (h : i < t.size) (hf : f ≤ i) (hc : t[i] ≠ 10) (H : Cuts t o f i) : Cuts t o f (i + 1) := by
  unfold Cuts at H ⊢
  rw [H, drop_at t i h, spl, if_neg hc, glue_glue, ← seg_succ t f i h hf]
theorem cuts_end (t : ByteArray) (o : List ByteArray) (f : Nat) (H : Cuts t o f t.size) : pcs t = o ++ [t.extract f t.size] := by
  unfold Cuts at H
  unfold pcs
  rw [H, List.drop_eq_nil_of_le (by simp), List.map_append, List.map_map, show (mk ∘ fun x : ByteArray => x.data.toList) = id from funext mk_eq, List.map_id]
  congr 1
  simp only [spl, glue, List.append_nil, List.map_cons, List.map_nil]
  rw [← seg_ext, mk_eq]

set_option maxHeartbeats 2000000 in
theorem l3Split (t : ByteArray) (w : World) (hs : t.size ≤ 100000) :
    Calls Tryd.prog 70 #[.string t, .int .u8 10] w fun e w' => ∃ v, e = .returned v ∧ w'.ownsRow w.heap.size 9 1 v (pcs t).length (svs (pcs t)) ∧ Below w.heap.size w w' := by
  obtain ⟨i0, hi, hz0, hz1, hz2⟩ := info_parts infoS
  go_enter Tryd.func70, Tryd.ntmps70
  go_wp2
  go_loopw [5, 6, 7] (fun v fv iv wr => ∃ (i f q : Nat) (o : List ByteArray), f ≤ i ∧ i ≤ t.size ∧ q ≤ i ∧ fv = .int .i64 f ∧ iv = .int .i64 i ∧ Hid (Cuts t o f i ∧ o.length = q) ∧ wr.ownsRow w.heap.size 9 1 v q (svs o) ∧ Below w.heap.size w wr)
    (fun _ _ iv _ => t.size - (intOf iv).toNat)
  case atStart => exact ⟨0, 0, 0, [], by omega, by omega, by omega, rfl, rfl, Lib.hid ⟨cuts_start t, rfl⟩, World.ownsRow_nil _ _ _ _, Below.refl _ _⟩
  case round =>
    obtain ⟨i, f, q, o, hf, hi1, hq, rfl, rfl, HC, hown, hb⟩ := hrel
    have HO := Lib.hid hown
    clear hown
    have hbz := hb.size
    by_cases hlt : i < t.size
    · by_cases h10 : t[i] = 10
      · have HN := Lib.hid (cuts_nl t o f i hlt h10 HC.out.1)
        have h10n : ((t[i]).toNat : Int) = 10 := by rw [h10]; rfl
        have SL := fun W => slice_mid t f i W hf (by omega)
        clear h10
        generalize t.extract f i = x at *
        go_wp2_with (at_builtin; refine wpList_append_lies _ rfl _ _ _ rfl w.heap.size 9 i0 _ 1 16 Tryd.underlying35 hi hz0 hz1 hz2 rfl (by omega) _ q _ rfl (HO.out.alloc _) ⟨wr.heap.size, 0, none⟩ 1 1 _ rfl rfl (World.news_of_block (heap_alloc_new wr _)) (by simp [Value.oneCell']) (by omega) (by unfold maxLen; omega) (by omega) (by simp; omega) (wr.heap.size + 1) (by simp) ?_; intro g cap w1 hown1 hgrow hat hlt1)
        have R := app_str (x := x) (hb.alloc hbz _) HO.out hown1 rfl hgrow
        have HR := Lib.hid R.1
        go_roundw
        case rel => exact ⟨i + 1, i + 1, q + 1, o ++ [x], by omega, by omega, by omega, by go_num, by go_num, Lib.hid ⟨HN.out, by simp [HC.out.2]⟩, HR.out, R.2⟩
        case measure => simp [intOf]; omega
      · have HN := Lib.hid (cuts_no t o f i hlt hf h10 HC.out.1)
        have h10n : ¬ ((t[i]).toNat : Int) = 10 := by
          intro h
          apply h10
          exact UInt8.toNat_inj.1 (by show _ = 10; omega)
        clear h10
        go_wp2
        go_roundw
        case rel => exact ⟨i + 1, f, q, o, by omega, by omega, by omega, rfl, by go_num, Lib.hid ⟨HN.out, HC.out.2⟩, HO.out, hb⟩
        case measure => simp [intOf]; omega
    · obtain rfl : i = t.size := by omega
      have HE := Lib.hid (cuts_end t o f HC.out.1)
      have SL := fun W => slice_from t f hf W
      have HQ : Hid ((pcs t).length = q + 1) := Lib.hid (by rw [HE.out]; simp [HC.out.2])
      generalize t.extract f t.size = x at *
      go_wp2_with (at_builtin; refine wpList_append_lies _ rfl _ _ _ rfl w.heap.size 9 i0 _ 1 16 Tryd.underlying35 hi hz0 hz1 hz2 rfl (by omega) _ q _ rfl (HO.out.alloc _) ⟨wr.heap.size, 0, none⟩ 1 1 _ rfl rfl (World.news_of_block (heap_alloc_new wr _)) (by simp [Value.oneCell']) (by omega) (by unfold maxLen; omega) (by omega) (by simp; omega) (wr.heap.size + 1) (by simp) ?_; intro g cap w1 hown1 hgrow hat hlt1)
      have R := app_str (x := x) (hb.alloc hbz _) HO.out hown1 rfl hgrow
      have HR : Hid (w1.ownsRow w.heap.size 9 1 (.slice (some ⟨g, 0, none⟩) (q + 1) cap) (pcs t).length (svs (pcs t))) := Lib.hid (by rw [HQ.out, HE.out]; exact R.1)
      go_wp2
      go_ret
      exact ⟨_, rfl, HR.out, R.2⟩
end Go.Proofs.YtfoclgijhkibeabDoor.Oa
