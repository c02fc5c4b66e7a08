/-
  slices.Insert at the front of a row of one's own.
-/
import Derived.Test.YtiiklednbhklhaaDoorT8i
import Derived.Test.YtiiklednbhklhaaDoorIns
import Derived.Lib.SlBuf
import Derived.Deep.Upon
namespace Go.Proofs.YtiiklednbhklhaaDoor.T8m
open Go Go.RowKit Go.ChangeShapes Go.WideShapes Go.ChangeAt
open Go.Proofs.YtiiklednbhklhaaDoor.Mem Go.Proofs.YtiiklednbhklhaaDoor.Ints Go.Proofs.YtiiklednbhklhaaDoor.Strs Go.Proofs.YtiiklednbhklhaaDoor.Slq Go.Proofs.YtiiklednbhklhaaDoor.Rec
set_option linter.unusedVariables false
set_option maxRecDepth 100000

def setL (cur : Array Value) : Nat → List Value → Array Value
  | _, [] => cur
  | o, v :: r => setL (cur.setIfInBounds o v) (o + 1) r
theorem setL_size (vs : List Value) : ∀ (o : Nat) (cur : Array Value), (setL cur o vs).size = cur.size := by
  induction vs with
  | nil => intro o cur; rfl
  | cons v r ih => intro o cur; unfold setL; rw [ih]; simp
theorem heap_setL (b t : Nat) (vs : List Value) : ∀ (o : Nat) (cur : Array Value) (w : World), w.heap[b]? = some (.cells cur t (0, 0)) → (w.setCells b o vs).heap[b]? = some (.cells (setL cur o vs) t (0, 0)) := by
  induction vs with
  | nil => intro o cur w h; exact h
  | cons v r ih => intro o cur w h; exact ih (o + 1) _ _ (heap_setCell_same w b o cur t v h)
theorem setL_list (vs : List Value) : ∀ (o : Nat) (cur : Array Value), o + vs.length ≤ cur.size → (setL cur o vs).toList = cur.toList.take o ++ vs ++ cur.toList.drop (o + vs.length) := by
  induction vs with
  | nil => intro o cur h; simp [setL]
  | cons v r ih =>
    intro o cur h
    simp only [List.length_cons] at h
    unfold setL
    rw [ih (o + 1) _ (by simp; omega), Array.toList_setIfInBounds]
    have hlt : o < cur.toList.length := by simp; omega
    rw [List.take_set, List.drop_set_of_lt (by omega), List.take_succ_eq_append_getElem hlt, List.set_append_right _ _ (by simp; omega)]
    simp [show min o cur.size = o by omega, show o + 1 + r.length = o + (r.length + 1) by omega]
theorem set_size (b : Nat) (vs : List Value) : ∀ (o : Nat) (w : World), (w.setCells b o vs).heap.size = w.heap.size := by
  induction vs with
  | nil => intro o w; rfl
  | cons v r ih => intro o w; unfold World.setCells; rw [ih]; simp
theorem front (cur : Array Value) (cs : List Value) (d : Value) (h : cs.length + 1 ≤ cur.size) : (setL (setL cur 1 cs) 0 [d]).toList.take (cs.length + 1) = d :: cs := by
  rw [setL_list _ _ _ (by rw [setL_size]; simp; omega), setL_list _ _ _ (by omega)]
  have h1 : (cur.toList.take 1).length = 1 := by simp; omega
  simp only [List.length_singleton, Nat.zero_add, List.take_zero, List.nil_append]
  rw [List.append_assoc, List.drop_append_of_le_length (by omega), List.drop_eq_nil_of_le (by omega), List.nil_append]
  simp
theorem front2 (cur : Array Value) (cs : List Value) (d : Value) (h : cs.length + 1 ≤ cur.size) : (setL (setL cur 0 [d]) 1 cs).toList.take (cs.length + 1) = d :: cs := by
  rw [setL_list _ _ _ (by rw [setL_size]; omega), setL_list _ _ _ (by simp; omega)]
  simp
theorem gr_size (xs : List Value) (k : Nat) : (xs.toArray ++ Builtin.zeroCells (Value.string ⟨#[]⟩).cells k).size = xs.length + k := by
  rw [Array.size_append, size_zeroCells, show (Value.string ⟨#[]⟩).cells.size = 1 from rfl]; simp
theorem gr_take (xs : List Value) (k : Nat) : (xs.toArray ++ Builtin.zeroCells (Value.string ⟨#[]⟩).cells k).toList.take xs.length = xs := by simp
theorem one_string (l : List ByteArray) : ∀ v ∈ svs l, v.oneCell' = true := by
  intro v hv
  obtain ⟨s, _, rfl⟩ := List.mem_map.1 hv
  rfl
theorem frz {W : World} {b t : Nat} {cs : Array Value} (K : W.heap[b]? = some (.cells cs t (0, 0))) (i : Nat) : W.frozen? ⟨b, i, none⟩ = false := by simp [World.frozen?, K, go_sem]
theorem cl {W : World} {b t : Nat} {cs : Array Value} (K : W.heap[b]? = some (.cells cs t (0, 0))) (i : Nat) : W.cell? ⟨b, i, none⟩ = cs[i]? := cell_of_row W b i cs t _ K
theorem shp {W : World} {b t : Nat} {cs : Array Value} (K : W.heap[b]? = some (.cells cs t (0, 0))) : W.shape? b = some (t, cs.size) := by simp [World.shape?, K]
set_option maxHeartbeats 1000000 in
theorem insert0 (v : Value) (n base z : Nat) (l : List ByteArray) (d : ByteArray) (w : World) (hn : n ≤ 100) (hb : base ≤ w.heap.size) (hown : w.ownsRow base 9 1 v n (svs l)) (hz : w.heap[z]? = some (.cells #[.string d] 9 (0, 0))) (hne : some z ≠ v.ownBlock) :
    Calls Tryd.prog 77 #[v, .int .i64 0, .slice (some ⟨z, 0, none⟩) 1 1] w fun e w' => ∃ v', e = .returned v' ∧ w'.ownsRow base 9 1 v' (n + 1) (svs (d :: l)) ∧ Below base w w' ∧ ∀ b, b < w.heap.size → some b ≠ v.ownBlock → w'.heap[b]? = w.heap[b]? := by
  have L := Tryd.lays2x22
  have e9 : Tryd.lays2x22_ren.t 9 = 9 := rfl
  have hl : (svs l).length = n := by have := hown.1; omega
  have hvs : ∀ (j : Nat) (u : Value), [Value.string d][j]? = some u → w.cell? ⟨z, 0 + j, none⟩ = some u := by
    intro j u hu
    rw [Nat.zero_add, cl hz j]
    simpa using hu
  have h1v : ∀ u ∈ [Value.string d], u.oneCell' = true := by intro u hu; obtain rfl := List.mem_singleton.1 hu; rfl
  have hlen1 : (svs (d :: l)).length = (n + 1) * 1 := by simp [svs] at hl ⊢; omega
  have hcons : svs (d :: l) = Value.string d :: svs l := rfl
  rcases hown.2 with ⟨rfl, hn0⟩ | ⟨g, cap, cur, rfl, hbg, hg, hnc, hcm, hcs, htk⟩
  · subst hn0
    obtain rfl : l = [] := by simpa [svs] using hl
    have C := Any2.slices_Insert_string_end_grow L none 0 0 z 0 1 1 [] [.string d] w (by omega) (by omega) (by omega) (by omega) rfl rfl (fun _ => rfl) (fun a h => by cases h) hvs h1v
    rw [e9] at C
    refine C.mono ?_
    rintro e w' ⟨rfl, rfl⟩
    have hge := grownCap_ge w (0 + 1) 0 9
    have hle := grownCap_le_maxLen w (0 + 1) 0 9 (by unfold maxLen; omega)
    refine ⟨_, rfl, ⟨hlen1, .inr ⟨w.heap.size, _, _, rfl, hb, nw1 w.drew _, hge, hle, ?_, ?_⟩⟩, ?_⟩
    · have := gr_size ([] ++ [Value.string d]) (grownCap w (0 + 1) 0 9 - (0 + 1))
      refine this.trans ?_; rw [show (([] : List Value) ++ [Value.string d]).length = 1 from rfl, Nat.mul_one]; omega
    · exact gr_take ([] ++ [Value.string d]) _
    · exact ⟨(Below.refl _ w).drew.alloc hb _, fun b hlt _ => ((Below.refl w.heap.size w).drew.alloc (Nat.le_refl _) _).block b hlt⟩
  · have hcell : ∀ (j : Nat) (u : Value), (svs l)[j]? = some u → w.cell? ⟨g, 0 + j, none⟩ = some u := by
      intro j u hu
      rw [Nat.zero_add, cl hg j, ← Array.getElem?_toList]
      rw [← htk, List.getElem?_take] at hu
      split at hu
      · exact hu
      · cases hu
    have hgz : z ≠ g := fun h => hne (by rw [h]; rfl)
    rw [Nat.mul_one] at hcs
    by_cases hroom : n + 1 ≤ cap
    · by_cases h0 : n = 0
      · subst h0
        obtain rfl : l = [] := by simpa [svs] using hl
        have C := Any2.slices_Insert_string_end_room L g 0 0 cap z 0 1 1 [.string d] w (by omega) hroom (by unfold maxLen at hcm; omega) rfl
          (fun j hj => by obtain rfl : j = 0 := by omega
                          rw [cl hg]; simp; omega)
          (fun j hj => frz hg _) hvs h1v
        refine C.mono ?_
        rintro e w' ⟨rfl, rfl⟩
        refine ⟨_, rfl, ⟨hlen1, .inr ⟨g, cap, _, rfl, hbg, heap_setL _ _ _ _ _ _ hg, hroom, hcm, by rw [setL_size]; omega, ?_⟩⟩, ?_⟩
        · rw [setL_list _ _ _ (by simp; omega)]; simp [hcons]; rfl
        · exact ⟨Lib.below_setCells _ hbg _ _ (Below.refl _ w), fun b hlt hnb => World.heap_setCells_other w g _ _ hlt (fun q => hnb (by rw [q]; rfl))⟩
      · have C := Any2.slices_Insert_string_shift L g 0 n cap 0 z 0 1 1 (svs l) [.string d] w (by omega) (by omega) hroom (by unfold maxLen at hcm; omega) hgz hl rfl hcell
          (fun j hj => by rw [cl hg]; simp; omega)
          (fun j hj => frz hg _) hvs (one_string l) h1v _ _ _ _ (shp hz) (shp hg) (by omega) (frz hz _) (frz hz _)
        refine C.mono ?_
        rintro e w' ⟨rfl, rfl⟩
        refine ⟨_, rfl, ⟨hlen1, .inr ⟨g, cap, _, rfl, hbg, heap_setL _ _ _ _ _ _ (heap_setL _ _ _ _ _ _ (show w.drew.heap[g]? = _ from hg)), hroom, hcm, by rw [setL_size, setL_size]; omega, ?_⟩⟩, ?_⟩
        · have := front cur (svs l) (.string d) (by omega)
          rw [Nat.mul_one, hcons, ← hl]
          simpa using this
        · exact ⟨Lib.below_setCells _ hbg _ _ (Lib.below_setCells _ hbg _ _ (Below.refl _ w).drew), fun b hlt hnb => (World.heap_setCells_other _ g _ _ (by rw [set_size]; exact hlt) (fun q => hnb (by rw [q]; rfl))).trans (World.heap_setCells_other w.drew g _ _ hlt (fun q => hnb (by rw [q]; rfl)))⟩
    · have hge := grownCap_ge w (n + 1) cap 9
      have hle := grownCap_le_maxLen w (n + 1) cap 9 (by unfold maxLen; omega)
      by_cases h0 : n = 0
      · subst h0
        obtain rfl : l = [] := by simpa [svs] using hl
        have C := Any2.slices_Insert_string_end_grow L (some ⟨g, 0, none⟩) 0 cap z 0 1 1 [] [.string d] w (by omega) (by omega) (by omega) (by omega) rfl rfl (fun h => rfl) (fun a h j u hu => by cases hu) hvs h1v
        rw [e9] at C
        refine C.mono ?_
        rintro e w' ⟨rfl, rfl⟩
        refine ⟨_, rfl, ⟨hlen1, .inr ⟨w.heap.size, _, _, rfl, hb, nw1 w.drew _, hge, hle, ?_, ?_⟩⟩, ?_⟩
        · have := gr_size ([] ++ [Value.string d]) (grownCap w (0 + 1) cap 9 - (0 + 1))
          refine this.trans ?_; rw [show (([] : List Value) ++ [Value.string d]).length = 1 from rfl, Nat.mul_one]; omega
        · exact gr_take ([] ++ [Value.string d]) _
        · exact ⟨(Below.refl _ w).drew.alloc hb _, fun b hlt _ => ((Below.refl w.heap.size w).drew.alloc (Nat.le_refl _) _).block b hlt⟩
      · have C := Any2.slices_Insert_string_grow L g 0 n cap 0 z 0 1 1 (svs l) [.string d] w (by omega) (by omega) hnc (by omega) (by omega) hl rfl hcell hvs (one_string l) h1v
        rw [e9] at C
        refine C.mono ?_
        rintro e w' ⟨rfl, rfl⟩
        have hsz : (((svs l).take 0).toArray ++ Builtin.zeroCells (Value.string ⟨#[]⟩).cells (n + 1 - 0) ++ Builtin.zeroCells (Value.string ⟨#[]⟩).cells (grownCap w (n + 1) cap 9 - (n + 1))).size = grownCap w (n + 1) cap 9 := by
          rw [Array.size_append, gr_size, size_zeroCells, show (Value.string ⟨#[]⟩).cells.size = 1 from rfl]; simp; omega
        have hnw := nw1 w (.cells (((svs l).take 0).toArray ++ Builtin.zeroCells (Value.string ⟨#[]⟩).cells (n + 1 - 0) ++ Builtin.zeroCells (Value.string ⟨#[]⟩).cells (grownCap w (n + 1) cap 9 - (n + 1))) 9)
        generalize (((svs l).take 0).toArray ++ Builtin.zeroCells (Value.string ⟨#[]⟩).cells (n + 1 - 0) ++ Builtin.zeroCells (Value.string ⟨#[]⟩).cells (grownCap w (n + 1) cap 9 - (n + 1))) = cur0 at *
        have h2 := heap_setL w.heap.size 9 [.string d] 0 _ (w.alloc (.cells cur0 9)).drew hnw
        have h3 := heap_setL w.heap.size 9 ((svs l).drop 0) (0 + 1) _ (((w.alloc (.cells cur0 9)).drew.setCells w.heap.size 0 [.string d]).drew) h2
        refine ⟨_, rfl, ⟨hlen1, .inr ⟨w.heap.size, _, _, rfl, hb, h3, hge, hle, by rw [setL_size, setL_size]; exact hsz.trans (Nat.mul_one _).symm, ?_⟩⟩, ?_⟩
        · have := front2 cur0 (svs l) (.string d) (by rw [hsz, hl]; exact hge)
          rw [Nat.mul_one, hcons, ← hl]
          exact this
        · exact ⟨Lib.below_setCells _ hb _ _ (Lib.below_setCells _ hb _ _ ((Below.refl _ w).alloc hb _).drew).drew, fun b hlt _ => (Lib.below_setCells _ (Nat.le_refl _) _ _ (Lib.below_setCells _ (Nat.le_refl _) _ _ ((Below.refl w.heap.size w).alloc (Nat.le_refl _) _).drew).drew).block b hlt⟩
end Go.Proofs.YtiiklednbhklhaaDoor.T8m
