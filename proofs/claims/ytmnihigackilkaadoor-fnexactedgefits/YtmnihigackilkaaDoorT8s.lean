/-
  Trees by the reference: roots.
-/
import Derived.Test.YtmnihigackilkaaDoorT8
namespace Go.Proofs.YtmnihigackilkaaDoor.T8s
open Go.ChangeShapes Go.WideShapes Go.ChangeAt Go.RowKit
open Go.Proofs.YtmnihigackilkaaDoor.Mem Go.Proofs.YtmnihigackilkaaDoor.Ints Go.Proofs.YtmnihigackilkaaDoor.Strs Go.Proofs.YtmnihigackilkaaDoor.ShaComp Go.Proofs.YtmnihigackilkaaDoor.Digest Go.Proofs.YtmnihigackilkaaDoor.DigestI Go.Proofs.YtmnihigackilkaaDoor.Mkl Go.Proofs.YtmnihigackilkaaDoor.Sib Go.Proofs.YtmnihigackilkaaDoor.Spl Go.Proofs.YtmnihigackilkaaDoor.Slq Go.Proofs.YtmnihigackilkaaDoor.Rec Go.Proofs.YtmnihigackilkaaDoor.T8
set_option linter.unusedVariables false
set_option maxRecDepth 100000

theorem rd_takeS {w : World} {B n : Nat} {A : Option Addr} {l : List ByteArray} (k : Nat) (h : Rd w B 1 A n (svs l)) (hk : k ≤ n) : Rd w B 1 A k (svs (l.take k)) := by
  have hl := rd_len h
  refine ⟨by simp [svs]; omega, fun hn => ?_⟩
  obtain ⟨b, off, e, hb, hc⟩ := h.2 (by omega)
  refine ⟨b, off, e, hb, fun j u hu => hc j u ?_⟩
  have hj : j < k := by
    have := (List.getElem?_eq_some_iff.1 hu).1
    simp [svs] at this; omega
  rw [← hu]
  simp [svs, hj]
theorem rd_dropS {w : World} {B n b off : Nat} {l : List ByteArray} (k : Nat) (h : Rd w B 1 (some ⟨b, off, none⟩) n (svs l)) (hk : k ≤ n) : Rd w B 1 (some ⟨b, off + k, none⟩) (n - k) (svs (l.drop k)) := by
  have hl := rd_len h
  refine ⟨by simp [svs]; omega, fun hn => ?_⟩
  obtain ⟨b', off', e, hb, hc⟩ := h.2 (by omega)
  obtain ⟨rfl, rfl⟩ : b = b' ∧ off = off' := by simpa using e
  refine ⟨b, off + k, rfl, hb, fun j u hu => ?_⟩
  rw [show off + k + j = off + (k + j) by omega]
  refine hc (k + j) u ?_
  rw [← hu]
  simp [svs]
/-- A slice's front, its rest. -/
theorem sl_h (b off n c k : Nat) (h : k ≤ c) (h1 : 1 ≤ c) (W : World) : (Instr.slice 23 (.slice (some ⟨b, off, none⟩) n c) none (some (.int .i64 (k : Int))) none).run Tryd.prog W = .ok (.slice (some ⟨b, off, none⟩) k c) W := by
  obtain ⟨i0, hi, hz0, hz1, hz2⟩ := info_parts infoS
  have u := Tryd.underlying23
  have e : Tryd.prog.elem 23 = 9 := by kernel_rfl
  rw [run_slice_h (P := Tryd.prog) W 23 (some ⟨b, off, none⟩) n c (by rw [e]; exact u) .i64 (k : Int) (by omega) (by omega), e, run_sizeOf W hi]
  have hs : Tryd.prog.cellsOf 9 = 1 := by kernel_rfl
  simp only [Result.andThen, sliced, Int.toNat_natCast]
  rw [if_neg (by omega)]
  simp [Addr.add]
theorem sl_l (b off n c k : Nat) (h : k ≤ n) (hc : k < c) (W : World) : (Instr.slice 23 (.slice (some ⟨b, off, none⟩) n c) (some (.int .i64 (k : Int))) none none).run Tryd.prog W = .ok (.slice (some ⟨b, off + k, none⟩) (n - k) (c - k)) W := by
  obtain ⟨i0, hi, hz0, hz1, hz2⟩ := info_parts infoS
  have u := Tryd.underlying23
  have e : Tryd.prog.elem 23 = 9 := by kernel_rfl
  rw [run_slice_l (P := Tryd.prog) W 23 (some ⟨b, off, none⟩) n c (by rw [e]; exact u) .i64 (k : Int) (by omega) (by omega), e, run_sizeOf W hi]
  have hs : Tryd.prog.cellsOf 9 = 1 := by kernel_rfl
  simp only [Result.andThen, sliced, Int.toNat_natCast]
  rw [if_neg (by omega), hs]
  simp [Addr.add]
theorem maps_take (l : List ByteArray) (k : Nat) : (l.take k).map tl = (l.map tl).take k := List.map_take
theorem root_bs (l : List ByteArray) (h : 2 ≤ l.length) : bs (root dig (l.map tl)) = bs (pairD dig (tl (bs (root dig ((l.take (split l.length)).map tl)))) (tl (bs (root dig ((l.drop (split l.length)).map tl))))) := by
  rw [tl_bs, tl_bs, root_two dig _ (by simpa using h), List.length_map, List.map_take, List.map_drop]
theorem root32 (l : List (List UInt8)) : (bs (root dig l)).size = 32 := by rw [bs_size]; exact root_len dig dig32 l
def leaves (l : List ByteArray) : Prop := ∀ s ∈ l, s.size ≤ 100
theorem leaves_take {l : List ByteArray} (h : leaves l) (k : Nat) : leaves (l.take k) := fun s hs => h s (List.mem_of_mem_take hs)
theorem leaves_drop {l : List ByteArray} (h : leaves l) (k : Nat) : leaves (l.drop k) := fun s hs => h s (List.mem_of_mem_drop hs)
set_option maxHeartbeats 2000000 in
theorem l8Root (n : Nat) : ∀ (A : Option Addr) (m c B : Nat) (l : List ByteArray) (w : World), m ≤ n → m ≤ 20 → m ≤ c → leaves l → B ≤ w.heap.size → Rd w B 1 A m (svs l) →
    Calls Tryd.prog 79 #[.slice A m c] w fun e w' => e = .returned (.string (bs (root dig (l.map tl)))) ∧ Below w.heap.size w w' := by
  induction n with
  | zero =>
    intro A m c B l w hn h20 hc hl hB hx
    obtain rfl : m = 0 := by omega
    obtain rfl : l = [] := List.eq_nil_of_length_eq_zero (rd_len hx)
    rw [List.map_nil, root_nil]
    have C := Lib.hid (l1Digest ⟨#[]⟩ w (by show 0 ≤ _; omega))
    rw [show (⟨(dig (⟨#[]⟩ : ByteArray).data.toList).toArray⟩ : ByteArray) = bs (dig []) from rfl] at C
    generalize bs (dig []) = d at *
    clear hx
    go_enter Tryd.func79, Tryd.ntmps79
    go_wp2_with fail
    refine C.out.mono ?_
    rintro e w' ⟨rfl, hb⟩
    go_wp2
    go_ret
    exact ⟨rfl, hb⟩
  | succ n ih =>
    intro A m c B l w hn h20 hc hl hB hx
    have hlen := rd_len hx
    by_cases h0 : m = 0
    · subst h0
      obtain rfl : l = [] := List.eq_nil_of_length_eq_zero hlen
      rw [List.map_nil, root_nil]
      have C := Lib.hid (l1Digest ⟨#[]⟩ w (by show 0 ≤ _; omega))
      rw [show (⟨(dig (⟨#[]⟩ : ByteArray).data.toList).toArray⟩ : ByteArray) = bs (dig []) from rfl] at C
      generalize bs (dig []) = d at *
      clear hx ih
      go_enter Tryd.func79, Tryd.ntmps79
      go_wp2_with fail
      refine C.out.mono ?_
      rintro e w' ⟨rfl, hb⟩
      go_wp2
      go_ret
      exact ⟨rfl, hb⟩
    · by_cases h1 : m = 1
      · subst h1
        obtain ⟨b, off, h, rfl, hb, hcell⟩ := rd_str hx (k := 0) (by omega)
        match l, hlen with
        | [s], _ =>
          rw [List.map_cons, List.map_nil, root_one]
          have C := Lib.hid (T8.l8Leaf s w (by have := hl s (by simp); omega))
          generalize bs (leafD dig (tl s)) = d at *
          simp only [List.getElem_cons_zero, Nat.add_zero] at hcell
          clear hx ih hl
          go_enter Tryd.func79, Tryd.ntmps79
          go_wp2_with fail
          refine C.out.mono ?_
          rintro e w' ⟨rfl, hb⟩
          go_wp2
          go_ret
          exact ⟨rfl, hb⟩
      · have h2 : 2 ≤ m := by omega
        obtain ⟨s1, s2, s3⟩ := split_lt h2
        obtain ⟨b, off, rfl, hb, _⟩ := hx.2 (by omega)
        have ES := root_bs l (by omega)
        rw [hlen] at ES
        rw [ES]
        have r1 := root32 ((l.take (split m)).map tl)
        have r2 := root32 ((l.drop (split m)).map tl)
        have C1 := Lib.hid (fun W (h : Below w.heap.size w W) => (ih (some ⟨b, off, none⟩) (split m) c B (l.take (split m)) W (by omega) (by omega) (by omega) (leaves_take hl _) (by have := h.size; omega) (rd_takeS _ (hx.below h hB) (by omega))).mono (fun e w' (q : _ ∧ _) => (show _ ∧ Below w.heap.size w w' from ⟨q.1, then_ (n := 0) h q.2⟩)))
        have C2 := Lib.hid (fun W (h : Below w.heap.size w W) => (ih (some ⟨b, off + split m, none⟩) (m - split m) (c - split m) B (l.drop (split m)) W (by omega) (by omega) (by omega) (leaves_drop hl _) (by have := h.size; omega) (rd_dropS _ (hx.below h hB) (by omega))).mono (fun e w' (q : _ ∧ _) => (show _ ∧ Below w.heap.size w w' from ⟨q.1, then_ (n := 0) h q.2⟩)))
        have C3 := Lib.hid (fun W (h : Below w.heap.size w W) => (T8.l8Pair (bs (root dig ((l.take (split m)).map tl))) (bs (root dig ((l.drop (split m)).map tl))) W (by omega) (by omega)).mono (fun e w' (q : _ ∧ _) => (show _ ∧ Below w.heap.size w w' from ⟨q.1, then_ (n := 0) h q.2⟩)))
        have CS := Lib.hid (specSplit m w h2 h20)
        have q1 := sl_h b off m c (split m) (by omega) (by omega)
        have q2 := sl_l b off m c (split m) (by omega) (by omega)
        clear ih hl hx ES r1 r2 hlen
        generalize bs (pairD dig (tl (bs (root dig ((l.take (split m)).map tl)))) (tl (bs (root dig ((l.drop (split m)).map tl))))) = d3 at *
        generalize bs (root dig ((l.take (split m)).map tl)) = d1 at *
        generalize bs (root dig ((l.drop (split m)).map tl)) = d2 at *
        generalize split m = s at *
        have D1 : Hid (Below w.heap.size w w.drew) := Lib.hid (Below.refl _ w).drew
        go_enter Tryd.func79, Tryd.ntmps79
        go_wp2_with fail
        refine CS.out.mono ?_
        rintro e w' ⟨rfl, rfl⟩
        go_wp2_with fail
        go_region_held3 (fun _ => True) (trivial)
          (first
            | (go_at_call 79; (with_reducible refine (C1.out _ ?hb).mono ?_); (case hb => (first | exact D1.out | assumption)); rintro e w1 ⟨rfl, b1⟩)
            | (go_at_call 79; (with_reducible refine (C2.out _ ?hb).mono ?_); (case hb => (first | exact D1.out | assumption)); rintro e w2 ⟨rfl, b2⟩)
            | (go_at_call 99; (with_reducible refine (C3.out _ ?hb).mono ?_); (case hb => (first | exact D1.out | assumption)); rintro e w3 ⟨rfl, b3⟩))
        all_goals
          go_wp2
          go_ret
          exact ⟨rfl, by assumption⟩
end Go.Proofs.YtmnihigackilkaaDoor.T8s
