/-
  Slices of signatures and of strings that are read, copied and compared: contracts of the laws' own helpers. A slice may be nil or empty.
-/
import Derived.Test.YtfoclgijhkibeabDoorChlX
import Derived.Test.YtfoclgijhkibeabDoorStrs
import Derived.Deep.Slices
import Derived.Deep.Fields
import Derived.ChangeSame
namespace Go.Proofs.YtfoclgijhkibeabDoor.Sgs
open Go.ChangeShapes Go.WideShapes Go.ChangeAt Go.RowKit
open Go.Proofs.YtfoclgijhkibeabDoor.Mem Go.Proofs.YtfoclgijhkibeabDoor.Ints Go.Proofs.YtfoclgijhkibeabDoor.Strs Go.Proofs.YtfoclgijhkibeabDoor.Rec Go.Proofs.YtfoclgijhkibeabDoor.Chl
set_option linter.unusedVariables false
set_option maxRecDepth 100000

abbrev Sg := Int × Int
def sgs (l : List Sg) : List Value := l.flatMap fun p => [.int .i64 p.1, .int .i64 p.2]
theorem sgs_cons (p : Sg) (l : List Sg) : sgs (p :: l) = .int .i64 p.1 :: .int .i64 p.2 :: sgs l := by simp [sgs]
theorem sgs_len : ∀ l : List Sg, (sgs l).length = l.length * 2
  | [] => rfl
  | p :: l => by rw [sgs_cons]; simp only [List.length_cons]; rw [sgs_len l]; omega
theorem sgs_at : ∀ (l : List Sg) (k : Nat) (h : k < l.length), (sgs l)[k * 2]? = some (.int .i64 l[k].1) ∧ (sgs l)[k * 2 + 1]? = some (.int .i64 l[k].2)
  | p :: l, 0, _ => by rw [sgs_cons]; exact ⟨rfl, rfl⟩
  | p :: l, k + 1, h => by
    have h' : k < l.length := by simpa using h
    have := sgs_at l k h'
    rw [sgs_cons, show (k + 1) * 2 = k * 2 + 1 + 1 by omega, List.getElem?_cons_succ, List.getElem?_cons_succ, List.getElem?_cons_succ, List.getElem?_cons_succ]
    exact this
theorem sgs_app (a b : List Sg) : sgs (a ++ b) = sgs a ++ sgs b := by simp [sgs]
theorem rd_sg {w : World} {B n k : Nat} {A : Option Addr} {l : List Sg} (h : Rd w B 2 A n (sgs l)) (hk : k < n) : ∃ b off, ∃ hl : k < l.length, A = some ⟨b, off, none⟩ ∧ b < B ∧ w.cell? ⟨b, off + k * 2, none⟩ = some (.int .i64 l[k].1) ∧ w.cell? ⟨b, off + k * 2 + 1, none⟩ = some (.int .i64 l[k].2) := by
  obtain ⟨b, off, e, hb, hc⟩ := h.2 (by omega)
  have hl : k < l.length := by have := h.1; rw [sgs_len] at this; omega
  obtain ⟨h0, h1⟩ := sgs_at l k hl
  exact ⟨b, off, hl, e, hb, hc _ _ h0, by rw [show off + k * 2 + 1 = off + (k * 2 + 1) by omega]; exact hc _ _ h1⟩
theorem rd_sg_len {w : World} {B n : Nat} {A : Option Addr} {l : List Sg} (h : Rd w B 2 A n (sgs l)) : l.length = n := by have := h.1; rw [sgs_len] at this; omega
theorem take_snoc_g {α : Type} (zs : List α) (k : Nat) (h : k < zs.length) : zs.take (k + 1) = zs.take k ++ [zs[k]] := List.take_succ_eq_append_getElem h
theorem rep_succ {α : Type} (n k : Nat) (h : k < n) (z : α) : List.replicate (n - k) z = z :: List.replicate (n - (k + 1)) z := by
  rw [show n - k = (n - (k + 1)) + 1 by omega, List.replicate_succ]
theorem part_set2 (zs : List Sg) (k : Nat) (h : k < zs.length) : ((sgs (zs.take k ++ List.replicate (zs.length - k) (0, 0))).set (k * 2) (.int .i64 zs[k].1)).set (k * 2 + 1) (.int .i64 zs[k].2) = sgs (zs.take (k + 1) ++ List.replicate (zs.length - (k + 1)) (0, 0)) := by
  have hl : (sgs (zs.take k)).length = k * 2 := by rw [sgs_len, List.length_take]; omega
  rw [take_snoc_g zs k h, rep_succ _ k h, sgs_app, sgs_app, sgs_app, sgs_cons, sgs_cons, List.set_append_right _ _ (by omega), hl, Nat.sub_self, List.set_cons_zero, List.set_append_right _ _ (by omega), hl, Nat.add_sub_cancel_left, List.set_cons_succ, List.set_cons_zero, List.append_assoc]
  rfl
theorem part_setS (zs : List ByteArray) (k : Nat) (h : k < zs.length) : (svs (zs.take k ++ List.replicate (zs.length - k) ⟨#[]⟩)).set k (.string zs[k]) = svs (zs.take (k + 1) ++ List.replicate (zs.length - (k + 1)) ⟨#[]⟩) := by
  have hl : ((zs.take k).map Value.string).length = k := by rw [List.length_map, List.length_take]; omega
  unfold svs
  rw [take_snoc_g zs k h, rep_succ _ k h, List.map_append, List.map_append, List.map_append, List.map_cons, List.set_append_right _ _ (by omega), hl, Nat.sub_self, List.set_cons_zero, List.append_assoc]
  rfl
theorem made_two (a : Value) (n : Nat) : (madeCells #[a, a] n).toList = List.replicate n a := by
  apply List.ext_getElem
  · simp [madeCells]
  · intro i h1 h2
    simp only [madeCells, Array.getElem_toList, Array.getElem_map, Array.getElem_range, List.getElem_replicate]
    have : i % 2 = 0 ∨ i % 2 = 1 := by omega
    rcases this with e | e <;> simp [e]
theorem sgs_rep (n : Nat) : sgs (List.replicate n (0, 0)) = List.replicate (n * 2) (.int .i64 0) := by
  induction n with
  | zero => rfl
  | succ n ih => rw [List.replicate_succ, sgs_cons, ih, show (n + 1) * 2 = n * 2 + 1 + 1 by omega, List.replicate_succ, List.replicate_succ]
theorem made_sgs (n : Nat) : (madeCells (Value.agg #[.int .i64 0, .int .i64 0]).cells (n * 2)).toList = sgs (List.replicate n (0, 0)) := by
  have : (Value.agg #[Value.int IntKind.i64 0, .int .i64 0]).cells = #[.int .i64 0, .int .i64 0] := rfl
  rw [this, made_two, sgs_rep]
theorem made_strs (n : Nat) : (madeCells (Value.string ⟨#[]⟩).cells (n * 1)).toList = svs (List.replicate n ⟨#[]⟩) := by
  have : (Value.string ⟨#[]⟩).cells = #[.string ⟨#[]⟩] := rfl
  rw [this, toList_madeCells_one, Nat.mul_one]; simp [svs]
theorem infoSg : (Tryd.prog.info? 28).map (fun i => (i.zero, i.size, i.bytes)) = some (some (.agg #[.int .i64 0, .int .i64 0]), 2, 16) := by kernel_rfl
/-- A cell that reads as a slice of records of two numbers. -/
theorem sgs_open {H : Type} {enc : TypeId × Value → H} {P : Program} {w : World} {base : Nat} {spare : Nat → Bool} {held : Bool} {t e fuel : Nat} {f0 f1 : Field} {v : Value} {y : DataW H × List MemPlace}
    (ht : P.underlying t = some (.slice e)) (he : P.underlying e = some (.struct #[f0, f1])) (hc : P.cellsOf e = 2) (g0 : P.underlying f0.type = some (.int .i64)) (g1 : P.underlying f1.type = some (.int .i64)) (o0 : f0.offset = 0) (o1 : f1.offset = 1) (c0 : P.cellsOf f0.type = 1) (c1 : P.cellsOf f1.type = 1)
    (h : DataW.trod enc P w base spare held fuel t [v] = some y) : ∃ A n c l, v = .slice A n c ∧ n ≤ maxLen ∧ Rd w w.heap.size 2 A n (sgs l) := by
  rcases Deep.open_slice ht h with ⟨hcs, _⟩ | ⟨a, len, cap, m, nf, D, Pl, hcs, hb, hl, hm, hmm, _, hx⟩
  · simp at hcs
    exact ⟨none, 0, 0, [], hcs, Nat.zero_le _, by simp [sgs], fun hn => absurd hn (by omega)⟩
  · simp at hcs
    have hlm : len ≤ m := by rw [hmm]; split <;> omega
    obtain ⟨F, hF⟩ := Deep.choose_lt (α := Sg) (n := len) (p := fun i p => w.cell? (a.add (i * 2)) = some (.int .i64 p.1) ∧ w.cell? ((a.add (i * 2)).add 1) = some (.int .i64 p.2)) (fun i hi => by
      obtain ⟨cs', h1, h2⟩ := hx i (by omega)
      rw [hc] at h1
      obtain ⟨_, hlen, hcell⟩ := World.cells?_some h1
      obtain ⟨y0, y1, n2, _, _, k0, k1⟩ := trod_struct2 he h2
      rw [o0, c0] at k0
      rw [o1, c1] at k1
      match cs', hlen with
      | [u0, u1], _ =>
        obtain ⟨z0, e0, _, _⟩ := DataW.trod_int g0 k0
        obtain ⟨z1, e1, _, _⟩ := DataW.trod_int g1 k1
        simp at e0 e1
        subst e0 e1
        have a0 := hcell 0 (by omega)
        have a1 := hcell 1 (by omega)
        have az : (a.add (i * 2)).add 0 = a.add (i * 2) := by unfold Addr.add; split <;> simp_all
        rw [az] at a0
        exact ⟨(z0, z1), by simpa using a0, by simpa using a1⟩)
    refine ⟨some a, len, cap, (List.range len).map F, hcs, by omega, by rw [sgs_len]; simp, fun hn => ?_⟩
    have h0 := (hF 0 hn).1
    obtain ⟨b, off, spot⟩ := a
    have hspot : spot = none := by simpa [Addr.add] using World.cell?_spot h0
    subst hspot
    refine ⟨b, off, rfl, ?_, fun j u hu => ?_⟩
    · have := World.block_lt_of_cell? w _ h0
      simpa [Addr.add] using this
    · have hj : j < len * 2 := by
        have := (List.getElem?_eq_some_iff.1 hu).1
        rw [sgs_len] at this; simpa using this
      have hk : j / 2 < ((List.range len).map F).length := by simp; omega
      have hs := sgs_at ((List.range len).map F) (j / 2) hk
      have hf := hF (j / 2) (by omega)
      have ha : ∀ q, (⟨b, off, none⟩ : Addr).add q = ⟨b, off + q, none⟩ := by intro q; unfold Addr.add; split <;> simp_all
      have ha2 : ∀ q, (⟨b, off + q, none⟩ : Addr).add 1 = ⟨b, off + q + 1, none⟩ := by intro q; unfold Addr.add; split <;> simp_all
      rw [ha, ha2] at hf
      have hg : ((List.range len).map F)[j / 2] = F (j / 2) := by simp
      rw [hg] at hs
      rcases Nat.mod_two_eq_zero_or_one j with e | e
      · have hj2 : j = j / 2 * 2 := by omega
        rw [hj2] at hu ⊢
        rw [hs.1] at hu
        rw [hf.1]; exact hu
      · have hj2 : j = j / 2 * 2 + 1 := by omega
        rw [hj2] at hu ⊢
        rw [hs.2] at hu
        rw [← Nat.add_assoc, hf.2]; exact hu
end Go.Proofs.YtfoclgijhkibeabDoor.Sgs
