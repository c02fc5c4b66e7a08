/-
  The first clash on a path, by the program.
-/
import Derived.Test.YtiiklednbhklhaaDoorT8y
import Derived.Test.YtiiklednbhklhaaDoorT8l
namespace Go.Proofs.YtiiklednbhklhaaDoor.T8z
open Go.ChangeShapes Go.WideShapes Go.ChangeAt Go.RowKit
open Go.Proofs.YtiiklednbhklhaaDoor.Mem Go.Proofs.YtiiklednbhklhaaDoor.Ints Go.Proofs.YtiiklednbhklhaaDoor.Strs Go.Proofs.YtiiklednbhklhaaDoor.ShaComp Go.Proofs.YtiiklednbhklhaaDoor.Digest Go.Proofs.YtiiklednbhklhaaDoor.Mkl Go.Proofs.YtiiklednbhklhaaDoor.Sib Go.Proofs.YtiiklednbhklhaaDoor.Spl Go.Proofs.YtiiklednbhklhaaDoor.Slq Go.Proofs.YtiiklednbhklhaaDoor.Rec Go.Proofs.YtiiklednbhklhaaDoor.T8 Go.Proofs.YtiiklednbhklhaaDoor.T8s Go.Proofs.YtiiklednbhklhaaDoor.T8i Go.Proofs.YtiiklednbhklhaaDoor.T8r Go.Proofs.YtiiklednbhklhaaDoor.T8k Go.Proofs.YtiiklednbhklhaaDoor.T8l Go.Proofs.YtiiklednbhklhaaDoor.T8u Go.Proofs.YtiiklednbhklhaaDoor.T8v Go.Proofs.YtiiklednbhklhaaDoor.T8c Go.Proofs.YtiiklednbhklhaaDoor.T8d Go.Proofs.YtiiklednbhklhaaDoor.T8y
set_option linter.unusedVariables false
set_option maxRecDepth 100000

theorem prs_map (l : List ByteArray) (S : List (Nat × Nat)) : (prs l S).map tl = S.map (prt dig (l.map tl)) := by
  unfold prs; rw [List.map_map]; rfl
theorem tl_z (s : ByteArray) : tl (z1 ++ s) = 0 :: tl s := by rw [tl_app]; rfl
theorem run_of (k : Nat) (S : List (Nat × Nat)) (p : List ByteArray) (s : ByteArray) : run dig (stp k S (p.map tl)) (0 :: tl s) = (runS (stpS k S p) (z1 ++ s)).map tl := by
  rw [run_map, stp_map, tl_z]
theorem hit_at (a b : List ByteArray) (q : List UInt8 × List UInt8) (h : hit dig (a.map tl) (b.map tl) = some q) :
    ∃ i, ∃ h1 : i < a.length, ∃ h2 : i < b.length, q = (tl a[i], tl b[i]) ∧ tdS a[i] = tdS b[i] ∧ ∀ j (hj : j < i), tdS (a[j]'(by omega)) ≠ tdS (b[j]'(by omega)) := by
  unfold hit at h
  obtain ⟨h1, i, hi, h2, h3⟩ := List.find?_eq_some_iff_getElem.1 h
  have hi' : i < a.length ∧ i < b.length := by simp at hi; omega
  rw [List.getElem_zip, List.getElem_map, List.getElem_map] at h2
  refine ⟨i, hi'.1, hi'.2, h2.symm, ?_, fun j hj => ?_⟩
  · rw [← h2] at h1
    have : dig (tl a[i]) = dig (tl b[i]) := by simpa using h1
    unfold tdS; rw [this]
  · have := h3 j hj
    rw [List.getElem_zip, List.getElem_map, List.getElem_map] at this
    have hn : ¬ dig (tl (a[j]'(by omega))) = dig (tl (b[j]'(by omega))) := by simpa using this
    exact fun e => hn (bs_inj e)
theorem first_hit (l p : List ByteArray) (n k : Nat) (leaf x : ByteArray) (hl : l.length = n) (hk : k < n) (hx : l[k]? = some x) (hne : leaf ≠ x) (hp : p.length = (sib 0 n k (k + 1)).length) (hroot : (upS n k leaf p).1 = bs (root dig (l.map tl))) :
    ∃ i, ∃ h1 : i < (runS (stpS k (sib 0 n k (k + 1)) p) (z1 ++ leaf)).length, ∃ h2 : i < (runS (stpS k (sib 0 n k (k + 1)) (prs l (sib 0 n k (k + 1)))) (z1 ++ x)).length,
      (caS l k leaf p).1 = (runS (stpS k (sib 0 n k (k + 1)) p) (z1 ++ leaf))[i] ∧ (caS l k leaf p).2.1 = (runS (stpS k (sib 0 n k (k + 1)) (prs l (sib 0 n k (k + 1)))) (z1 ++ x))[i] ∧
      tdS (runS (stpS k (sib 0 n k (k + 1)) p) (z1 ++ leaf))[i] = tdS (runS (stpS k (sib 0 n k (k + 1)) (prs l (sib 0 n k (k + 1)))) (z1 ++ x))[i] ∧
      ∀ j (hj : j < i), tdS ((runS (stpS k (sib 0 n k (k + 1)) p) (z1 ++ leaf))[j]'(by omega)) ≠ tdS ((runS (stpS k (sib 0 n k (k + 1)) (prs l (sib 0 n k (k + 1)))) (z1 ++ x))[j]'(by omega)) := by
  have e := clash_run dig (l.map tl) dig32 n 0 n k (tl leaf) (tl x) (p.map tl) (by omega) (by simp; omega) (by omega) hk (by simp [hx]) (fun h => hne (tl_inj h)) (by simpa using hp)
  have u := (up_stp dig n 0 n k (tl leaf) (p.map tl) (by omega) (by omega) hk).1 (by simpa using hp)
  have hs : sub (l.map tl) 0 n = l.map tl := by have := sub_all (l.map tl); rwa [List.length_map, hl] at this
  rw [Nat.sub_zero, Nat.sub_zero] at u
  rw [Nat.sub_zero, hs, ← prs_map, run_of, run_of] at e
  obtain ⟨e1, -, e3⟩ := e
  have ht : top dig (stp k (sib 0 n k (k + 1)) (p.map tl)) (leafD dig (tl leaf)) = root dig (l.map tl) := by
    unfold upS at hroot
    rw [u] at hroot
    exact bs_inj hroot
  cases hh : hit dig ((runS (stpS k (sib 0 n k (k + 1)) p) (z1 ++ leaf)).map tl) ((runS (stpS k (sib 0 n k (k + 1)) (prs l (sib 0 n k (k + 1)))) (z1 ++ x)).map tl) with
  | none => exact absurd ht (e3 hh)
  | some q =>
    obtain ⟨i, h1, h2, rfl, h4, h5⟩ := hit_at _ _ _ hh
    refine ⟨i, h1, h2, ?_, ?_, h4, h5⟩
    · unfold caS bs3; rw [e1, hh]; unfold tell; simp only [bs_tl]
    · unfold caS bs3; rw [e1, hh]; unfold tell; simp only [bs_tl]
theorem first_hit2 (l p : List ByteArray) (n k : Nat) (leaf x : ByteArray) (hl : l.length = n) (hk : k < n) (hx : l[k]? = some x) (hne : leaf ≠ x) (hp : p.length = (sib 0 n k (k + 1)).length) (hroot : (upS n k leaf p).1 = bs (root dig (l.map tl))) :
    ∃ (i : Nat) (ya yb : ByteArray), (runS (stpS k (sib 0 n k (k + 1)) p) (z1 ++ leaf))[i]? = some ya ∧ (runS (stpS k (sib 0 n k (k + 1)) (prs l (sib 0 n k (k + 1)))) (z1 ++ x))[i]? = some yb ∧ (caS l k leaf p).1 = ya ∧ (caS l k leaf p).2.1 = yb ∧ tdS ya = tdS yb ∧
      ∀ (j : Nat), j < i → ∀ (a b : ByteArray), (runS (stpS k (sib 0 n k (k + 1)) p) (z1 ++ leaf))[j]? = some a → (runS (stpS k (sib 0 n k (k + 1)) (prs l (sib 0 n k (k + 1)))) (z1 ++ x))[j]? = some b → tdS a ≠ tdS b := by
  obtain ⟨i, h1, h2, e1, e2, e3, e4⟩ := first_hit l p n k leaf x hl hk hx hne hp hroot
  refine ⟨i, _, _, List.getElem?_eq_getElem h1, List.getElem?_eq_getElem h2, e1, e2, e3, fun j hj a b ha hb => ?_⟩
  rw [List.getElem?_eq_getElem (by omega)] at ha hb
  rw [← Option.some.inj ha, ← Option.some.inj hb]
  exact e4 j hj
set_option maxHeartbeats 4000000 in
theorem firstCollision (l p : List ByteArray) (n k m : Nat) (leaf x : ByteArray) (A : Option Addr) (c : Nat) (A' : Option Addr) (c' B B' : Nat) (w : World) (hl : l.length = n) (h20 : n ≤ 20) (hk : k < n) (hxk : l[k]? = some x) (hne : leaf ≠ x) (hm : m = (sib 0 n k (k + 1)).length) (hroot : (upS n k leaf p).1 = bs (root dig (l.map tl)))
    (hlv : leaves l) (hlf : leaf.size ≤ 500) (hps : ∀ s ∈ p, s.size ≤ 500) (hB : B ≤ w.heap.size) (hB' : B' ≤ w.heap.size) (hx : Rd w B 1 A n (svs l)) (hy : Rd w B' 1 A' m (svs p)) (hT : Tbl w) :
    Calls Tryd.prog 66 #[.slice A n c, .int .i64 (k : Int), .string leaf, .slice A' m c'] w fun e w' => e = .returned (.tuple #[.string (caS l k leaf p).1, .string (caS l k leaf p).2.1]) ∧ Below w.heap.size w w' := by
  have hpl := rd_len hy
  obtain ⟨i, ya, yb, hi1, hi2, EA, EB, EI, EJ⟩ := first_hit2 l p n k leaf x hl hk hxk hne (by omega) hroot
  rw [EA, EB]
  have hsl := sib_len n 0 n k (k + 1) (by omega)
  have hr := rch_leaf n 0 n k (by omega) (by omega) hk
  have hxsz : x.size ≤ 100 := hlv x (List.mem_of_getElem? hxk)
  have hpr : ∀ s ∈ prs l (sib 0 n k (k + 1)), s.size ≤ 500 := by
    intro s hs
    unfold prs at hs
    obtain ⟨q, _, rfl⟩ := List.mem_map.1 hs
    unfold prS; rw [T8s.root32]; omega
  have hprl : (prs l (sib 0 n k (k + 1))).length = m := by unfold prs; rw [List.length_map]; exact hm.symm
  obtain ⟨b, off, hkl, rfl, hb, hcell⟩ := rd_str hx hk
  have hxe : l[k] = x := by have := List.getElem?_eq_getElem hkl; rw [hxk] at this; exact (Option.some.inj this).symm
  rw [hxe] at hcell
  have P1 := Lib.hid (T8v.pathInputs n k leaf A' m c' B' p true w (by rw [hm]; simp) hk h20 (by omega) hlf hps hB' hy hT)
  have CL := Lib.hid (fun W => leafSpan k W (by omega))
  have CS := Lib.hid (fun W (h : Below w.heap.size w W) => T8l.siblingRoots k (k + 1) (some ⟨b, off, none⟩) n c B l W hr h20 hlv (by have := h.size; omega) (hx.below h hB) (hT.below h))
  have P2 := Lib.hid (fun A2 c2 B2 W (h : Below w.heap.size w W) (hB2 : B2 ≤ W.heap.size) (h2 : Rd W B2 1 A2 m (svs (prs l (sib 0 n k (k + 1))))) => T8v.pathInputs n k x A2 m c2 B2 (prs l (sib 0 n k (k + 1))) true W (by rw [hm]; simp) hk h20 (by omega) (by omega) hpr hB2 h2 (hT.below h))
  have HT := Lib.hid (fun W (h : Below w.heap.size w W) => hT.below h)
  have hstA : ∀ s ∈ stpS k (sib 0 n k (k + 1)) p, s.1.size ≤ 500 := by
    intro s hs
    unfold stpS at hs
    obtain ⟨i, hi1, hi2⟩ := List.getElem_of_mem hs
    rw [List.getElem_zipWith] at hi2
    rw [← hi2]
    exact hps _ (List.getElem_mem _)
  have hstB : ∀ s ∈ stpS k (sib 0 n k (k + 1)) (prs l (sib 0 n k (k + 1))), s.1.size ≤ 500 := by
    intro s hs
    unfold stpS at hs
    obtain ⟨i, hi1, hi2⟩ := List.getElem_of_mem hs
    rw [List.getElem_zipWith] at hi2
    rw [← hi2]
    exact hpr _ (List.getElem_mem _)
  have hz : ∀ s : ByteArray, s.size ≤ 500 → (z1 ++ s).size ≤ 600 := fun s h => by rw [ByteArray.size_append]; show 1 + _ ≤ _; omega
  have HSA := Lib.hid (runS_size (stpS k (sib 0 n k (k + 1)) p) (z1 ++ leaf) (hz _ hlf) hstA)
  have HSB := Lib.hid (runS_size (stpS k (sib 0 n k (k + 1)) (prs l (sib 0 n k (k + 1)))) (z1 ++ x) (hz _ (by omega)) hstB)
  have hla := runS_len (stpS k (sib 0 n k (k + 1)) p) (z1 ++ leaf)
  have hlb := runS_len (stpS k (sib 0 n k (k + 1)) (prs l (sib 0 n k (k + 1)))) (z1 ++ x)
  rw [show (stpS k (sib 0 n k (k + 1)) p).length = m by simp [stpS]; omega] at hla
  rw [show (stpS k (sib 0 n k (k + 1)) (prs l (sib 0 n k (k + 1)))).length = m by simp [stpS]; omega] at hlb
  have HEJ := Lib.hid EJ
  have HEI := Lib.hid EI
  generalize runS (stpS k (sib 0 n k (k + 1)) p) (z1 ++ leaf) = RA at *
  generalize runS (stpS k (sib 0 n k (k + 1)) (prs l (sib 0 n k (k + 1)))) (z1 ++ x) = RB at *
  rw [← hm] at CS
  generalize prs l (sib 0 n k (k + 1)) = ps at *
  have hm20 : m ≤ 20 := by omega
  unfold sp at CL CS
  rw [show ((k + 1 : Nat) : Int) = (k : Int) + 1 by omega] at CL CS
  clear hx hy hT hps hstA hstB hz hpr EA EB EI EJ hroot hxk hne hr hsl hm hlv hprl hxe hpl hl
  go_enter Tryd.func66, Tryd.ntmps66
  go_wp2_with fail
  refine P1.out.mono ?_
  rintro e W0 ⟨va, rfl, oa, b0⟩
  have oa := oa (by first | rfl | trivial)
  obtain ⟨Aa, ca, rfl⟩ := own_shapeS oa
  have HA := Lib.hid oa
  have hcell0 := (b0.cell (p := ⟨b, off + k, none⟩) (by show b < _; omega)).trans hcell
  have XS := Lib.hid (fun W (h : Below W0.heap.size W0 W) => (CS.out W (then_ (n := 0) b0 h)).mono (fun e w' (q : ∃ v, e = .returned v ∧ w'.ownsRow W.heap.size 9 1 v m (svs ps) ∧ Below W.heap.size W w') => (show ∃ v, e = .returned v ∧ w'.ownsRow W.heap.size 9 1 v m (svs ps) ∧ W.heap.size ≤ w'.heap.size ∧ Below W0.heap.size W0 w' from by obtain ⟨v, q1, q2, q3⟩ := q; exact ⟨v, q1, q2, q3.size, then_ (n := 0) h q3⟩)))
  have XL := Lib.hid (fun W (h : Below W0.heap.size W0 W) => (CL.out W).mono (fun e w' (q : _ ∧ _) => (show _ ∧ Below W0.heap.size W0 w' from ⟨q.1, then_ (n := 0) h q.2⟩)))
  have D1 : Hid (Below W0.heap.size W0 W0.drew) := Lib.hid (Below.refl _ W0).drew
  have KC := Lib.hid (fun (W : World) (h : Below W0.heap.size W0 W) => (show W.cell? ⟨b, off + k, none⟩ = some (.string x) from (h.cell (p := ⟨b, off + k, none⟩) (by show b < _; have := b0.size; omega)).trans hcell0))
  clear oa hcell CL CS P1
  have i0' : (0 : Int) ≤ (k : Int) := by omega
  have i1' : (k : Int) < (n : Int) := by omega
  go_wp2_with fail
  go_region_held3 (fun w' => w'.cell? ⟨b, off + k, none⟩ = some (.string x))
    (first | (go_keep; done) | (with_reducible assumption))
    (first
      | (go_at_call 50; (with_reducible refine (XL.out _ ?hb).mono ?_); (case hb => (first | exact D1.out | assumption)); rintro e' w1 ⟨rfl, b1⟩; have d1 := KC.out w1 b1)
      | (go_at_call 49; (with_reducible refine (XS.out _ ?hb).mono ?_); (case hb => (first | exact D1.out | assumption)); rintro e' w2 ⟨vs, rfl, o2, z2, b2⟩; obtain ⟨As, cs, rfl⟩ := own_shapeS o2; have d2 := KC.out w2 b2)
      | (go_at_call 60; refine (P2.out _ _ _ _ (then_ (n := 0) b0 b2) (Nat.le_refl _) (Rd.own o2)).mono ?_; rintro e' w3 ⟨vb, rfl, o3, b3⟩; have d3 := KC.out w3 (then_ (n := 0) b2 b3)))
  have o3 := o3 (by first | rfl | trivial)
  obtain ⟨Ab, cb, rfl⟩ := own_shapeS o3
  have B03 := then_ (n := 0) b2 b3
  have HA3 := own_belowS HA.out B03 (Nat.le_refl _)
  obtain ⟨ga, rfl, hga⟩ := own_someS HA3 (by omega)
  obtain ⟨gb, rfl, hgb⟩ := own_someS o3 (by omega)
  have B3 : Below w.heap.size w w3 := then_ (n := 0) b0 B03
  have lga := (HA3.lt _ rfl).2
  have lgb := (o3.lt _ rfl).2
  have KA := Lib.hid (fun (W : World) (h : Below w3.heap.size w3 W) (j : Nat) (a : ByteArray) (hj : RA[j]? = some a) => (show W.cell? ⟨ga, j, none⟩ = some (.string a) from by
    have hjl : j < RA.length := (List.getElem?_eq_some_iff.1 hj).1
    have := HA3.cellAt j (by omega)
    rw [show (svs RA)[j]? = some (.string a) by simp [svs, hj]] at this
    exact (h.cell (p := ⟨ga, j, none⟩) lga).trans this))
  have KB := Lib.hid (fun (W : World) (h : Below w3.heap.size w3 W) (j : Nat) (a : ByteArray) (hj : RB[j]? = some a) => (show W.cell? ⟨gb, j, none⟩ = some (.string a) from by
    have hjl : j < RB.length := (List.getElem?_eq_some_iff.1 hj).1
    have := o3.cellAt j (by omega)
    rw [show (svs RB)[j]? = some (.string a) by simp [svs, hj]] at this
    exact (h.cell (p := ⟨gb, j, none⟩) lgb).trans this))
  have him : i < m + 1 := by have := (List.getElem?_eq_some_iff.1 hi1).1; omega
  have hlen1 := Lib.hid hla
  have hlen2 := Lib.hid hlb
  clear HA3 o3 o2 HA KC XS XL P2 D1 d3 b3 b2 B03 z2 hga hgb lga lgb hcell0
  try clear d1
  try clear d2
  go_wp2_with fail
  go_loopw [14] (fun t wr => ∃ j : Nat, j ≤ i ∧ t = .int .i64 j ∧ Below w3.heap.size w3 wr) (fun t _ => i - (intOf t).toNat)
  case atStart => exact ⟨0, by omega, rfl, Below.refl _ _⟩
  case round =>
    obtain ⟨j, hj, rfl, hbb⟩ := hrel
    have jA : j < RA.length := by have := hlen1.out; omega
    have jB : j < RB.length := by have := hlen2.out; omega
    obtain ⟨a, ha⟩ : ∃ a, RA[j]? = some a := ⟨_, List.getElem?_eq_getElem jA⟩
    obtain ⟨d, hd⟩ : ∃ d, RB[j]? = some d := ⟨_, List.getElem?_eq_getElem jB⟩
    have CA := T8.treeDigest a
    have CB := T8.treeDigest d
    have sa := HSA.out a (List.mem_of_getElem? ha)
    have sd := HSB.out d (List.mem_of_getElem? hd)
    have hBw : Below w.heap.size w wr := then_ (n := 0) B3 hbb
    have XA := Lib.hid (fun W (h : Below wr.heap.size wr W) => (T8.treeDigest a W sa (HT.out W (then_ (n := 0) hBw h))).mono (fun e w' (q : _ ∧ _) => (show e = .returned (.string (tdS a)) ∧ Below wr.heap.size wr w' from ⟨q.1, then_ (n := 0) h q.2⟩)))
    have XB := Lib.hid (fun W (h : Below wr.heap.size wr W) => (T8.treeDigest d W sd (HT.out W (then_ (n := 0) hBw h))).mono (fun e w' (q : _ ∧ _) => (show e = .returned (.string (tdS d)) ∧ Below wr.heap.size wr w' from ⟨q.1, then_ (n := 0) h q.2⟩)))
    have D4 : Hid (Below wr.heap.size wr wr.drew) := Lib.hid (Below.refl _ wr).drew
    have d1 := KA.out wr hbb j a ha
    have d2 := KB.out wr hbb j d hd
    have k0 : (0 : Int) ≤ (j : Int) := by omega
    have k1 : (j : Int) < ((m + 1 : Nat) : Int) := by omega
    have k2 : (j : Int) < (m : Int) + 1 := by omega
    clear CA CB sa sd jA jB
    by_cases hji : j = i
    · subst hji
      obtain rfl : a = ya := Option.some.inj (ha.symm.trans hi1)
      obtain rfl : d = yb := Option.some.inj (hd.symm.trans hi2)
      rw [← HEI.out] at XB
      generalize tdS a = dg at *
      clear HEI HEJ HT
      go_wp2_with fail
      go_region_held3 (fun w' => w'.cell? ⟨ga, j, none⟩ = some (.string a) ∧ w'.cell? ⟨gb, j, none⟩ = some (.string d))
        (first | (go_keep; done) | (refine ⟨?_, ?_⟩ <;> with_reducible assumption))
        (first
          | (go_at_call 61; (with_reducible refine (XA.out _ ?hb).mono ?_); (case hb => (first | exact D4.out | assumption)); rintro e' w5 ⟨rfl, b5⟩; have d5 := KA.out w5 (hbb.trans (b5.mono hbb.size)) j a ha; have d6 := KB.out w5 (hbb.trans (b5.mono hbb.size)) j d hd)
          | (go_at_call 61; (with_reducible refine (XB.out _ ?hb).mono ?_); (case hb => (first | exact D4.out | assumption)); rintro e' w6 ⟨rfl, b6⟩; have d7 := KA.out w6 (hbb.trans (b6.mono hbb.size)) j a ha; have d8 := KB.out w6 (hbb.trans (b6.mono hbb.size)) j d hd))
      all_goals
          have B7 : Below w.heap.size w _ := then_ (n := 0) hBw (by assumption)
          go_wp2
          go_quiet (fail)
          go_wp2
          go_ret2
          exact ⟨rfl, Rec.below_drewN B7 _⟩
    · have hne : tdS a ≠ tdS d := HEJ.out j (by omega) a d ha hd
      have hnd : ((tdS a).toList != (tdS d).toList) = true := by have := str_ne hne; simp only [bne, this]; rfl
      have hnd' : ((tdS a).toList == (tdS d).toList) = false := str_ne hne
      generalize tdS a = dg at *
      generalize tdS d = dh at *
      clear HEI HEJ HT hne
      go_wp2_with fail
      go_region_held3 (fun w' => w'.cell? ⟨ga, j, none⟩ = some (.string a) ∧ w'.cell? ⟨gb, j, none⟩ = some (.string d))
        (first | (go_keep; done) | (refine ⟨?_, ?_⟩ <;> with_reducible assumption))
        (first
          | (go_at_call 61; (with_reducible refine (XA.out _ ?hb).mono ?_); (case hb => (first | exact D4.out | assumption)); rintro e' w5 ⟨rfl, b5⟩; have d5 := KA.out w5 (hbb.trans (b5.mono hbb.size)) j a ha; have d6 := KB.out w5 (hbb.trans (b5.mono hbb.size)) j d hd)
          | (go_at_call 61; (with_reducible refine (XB.out _ ?hb).mono ?_); (case hb => (first | exact D4.out | assumption)); rintro e' w6 ⟨rfl, b6⟩; have d7 := KA.out w6 (hbb.trans (b6.mono hbb.size)) j a ha; have d8 := KB.out w6 (hbb.trans (b6.mono hbb.size)) j d hd))
      all_goals
          go_wp2
          go_roundw
          case rel => exact ⟨j + 1, by omega, by go_num, hbb.trans ((by assumption : Below wr.heap.size wr _).mono hbb.size)⟩
          case measure => simp [intOf]; omega
end Go.Proofs.YtiiklednbhklhaaDoor.T8z
