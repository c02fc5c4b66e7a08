/-
  CollisionOf, by both sides, and its law.
-/
import Derived.Test.YtiiklednbhklhaaDoorT8z
import Derived.Test.YtiiklednbhklhaaDoorT8w
namespace Go.Proofs.YtiiklednbhklhaaDoor.T8o
open Go.ChangeShapes Go.WideShapes Go.ChangeAt Go.RowKit
open Go.Proofs.YtiiklednbhklhaaDoor.Mem Go.Proofs.YtiiklednbhklhaaDoor.Ints Go.Proofs.YtiiklednbhklhaaDoor.Strs Go.Proofs.YtiiklednbhklhaaDoor.ShaComp Go.Proofs.YtiiklednbhklhaaDoor.Digest Go.Proofs.YtiiklednbhklhaaDoor.Mkl Go.Proofs.YtiiklednbhklhaaDoor.Sib Go.Proofs.YtiiklednbhklhaaDoor.Spl Go.Proofs.YtiiklednbhklhaaDoor.Slq Go.Proofs.YtiiklednbhklhaaDoor.Rec Go.Proofs.YtiiklednbhklhaaDoor.T8 Go.Proofs.YtiiklednbhklhaaDoor.T8s Go.Proofs.YtiiklednbhklhaaDoor.T8i Go.Proofs.YtiiklednbhklhaaDoor.T8r Go.Proofs.YtiiklednbhklhaaDoor.T8k Go.Proofs.YtiiklednbhklhaaDoor.T8l Go.Proofs.YtiiklednbhklhaaDoor.T8u Go.Proofs.YtiiklednbhklhaaDoor.T8v Go.Proofs.YtiiklednbhklhaaDoor.T8c Go.Proofs.YtiiklednbhklhaaDoor.T8d Go.Proofs.YtiiklednbhklhaaDoor.T8y Go.Proofs.YtiiklednbhklhaaDoor.T8z
set_option linter.unusedVariables false
set_option maxRecDepth 100000

def tup (q : Int) (s t : ByteArray) (b : Bool) : Value := .tuple #[.int .i64 q, .string s, .string t, .bool b]
set_option maxHeartbeats 4000000 in
theorem colBoth (l p : List ByteArray) (n m : Nat) (K : Int) (leaf : ByteArray) (hn : n ≤ 1048576) (hm : m ≤ 1048576) (hl : l.length = n) (hp : p.length = m) (hs : ∀ s ∈ l, s.size ≤ maxLen) (hps : ∀ s ∈ p, s.size ≤ maxLen) (hlf : leaf.size ≤ maxLen) : ∃ (q : Int) (s t : ByteArray) (b : Bool), (∀ A c A' c' B B' w, n ≤ c → m ≤ c' → B ≤ w.heap.size → B' ≤ w.heap.size → Rd w B 1 A n (svs l) → Rd w B' 1 A' m (svs p) → Calls Tryd.prog 24 #[.slice A n c, .int .i64 K, .string leaf, .slice A' m c'] w fun e w' => e = .returned (tup q s t b) ∧ Below w.heap.size w w') ∧
    (∀ A c A' c' B B' w, n ≤ c → m ≤ c' → B ≤ w.heap.size → B' ≤ w.heap.size → Rd w B 1 A n (svs l) → Rd w B' 1 A' m (svs p) → Tbl w → Calls Tryd.prog 23 #[.slice A n c, .int .i64 K, .string leaf, .slice A' m c'] w fun e w' => e = .returned (tup q s t b) ∧ Below w.heap.size w w') := by
  obtain ⟨u, bk, hbk, hu1, hu0, -, HI⟩ := T8w.rootBoth l n hn hl hs
  have r32 := T8s.root32 (l.map tl)
  have hu600 : u.size ≤ maxLen := by
    cases hb : bk
    · rw [hu0 hb]; exact Nat.zero_le _
    · rw [hu1 hb, r32]; unfold maxLen; omega
  by_cases hC : okC u (n : Int) K leaf p
  case neg =>
    refine ⟨0, ⟨#[]⟩, ⟨#[]⟩, false, fun A c A' c' B B' w hc hc' hB hB' hx hy => ?_, fun A c A' c' B B' w hc hc' hB hB' hx hy hT => ?_⟩
    · unfold tup
      cases hok : okL l
      · have C0 := Lib.hid (T8i.l8Leaves A n c l B w hn hs hx)
        rw [hok] at C0
        clear hx hy HI hC hbk hu1 hu0 r32 hu600 hs hps hok
        go_enter Tryd.func24, Tryd.ntmps24
        go_wp2_with fail
        refine C0.out.mono ?_
        rintro e w' ⟨rfl, rfl⟩
        go_wp2
        refine bodyPost_ret (v := .tuple #[.int .i64 0, .string ⟨#[]⟩, .string ⟨#[]⟩, .bool false]) (by simp [results, Tryd.results24, go_sem]) rfl ⟨rfl, Below.refl _ _⟩
      · obtain ⟨hlv, h20⟩ := okL_yes hok
        have hu := hu1 (hbk.trans hok)
        rw [hu] at hC
        by_cases hn0 : n = 0
        · have C0 := Lib.hid (T8i.l8Leaves A n c l B w hn hs hx)
          rw [hok] at C0
          subst hn0
          clear hx hy HI hC hbk hu1 hu0 r32 hu600 hs hps hok hu hlv
          go_enter Tryd.func24, Tryd.ntmps24
          go_wp2_with fail
          refine C0.out.mono ?_
          rintro e w' ⟨rfl, rfl⟩
          go_wp2
          refine bodyPost_ret (v := .tuple #[.int .i64 0, .string ⟨#[]⟩, .string ⟨#[]⟩, .bool false]) (by simp [results, Tryd.results24, go_sem]) rfl ⟨rfl, Below.refl _ _⟩
        have C0 := Lib.hid (T8i.l8Leaves A n c l B w hn hs hx)
        have C1 := Lib.hid (T8s.l8Root n A n c B l w (Nat.le_refl _) (by omega) hc hlv hB hx)
        have C2 := Lib.hid (fun W (h : Below w.heap.size w W) => specC (bs (root dig (l.map tl))) (n : Int) K leaf A' m c' B' p W (by rw [r32]; unfold maxLen; omega) hlf hm hps (hy.below h hB') hc' (by have := h.size; omega))
        rw [hok] at C0
        have nn0 : ¬ ((n : Int) = 0) := by omega
        rw [decide_eq_false hC, show isC (bs (root dig (l.map tl))) (n : Int) K leaf p = false by unfold isC; rw [decide_eq_false hC]; rfl] at C2
        clear hx hy HI hC hbk hu1 hu0 r32 hu600 hs hps hok hu hlv
        generalize bs (root dig (l.map tl)) = R at *
        go_enter Tryd.func24, Tryd.ntmps24
        go_wp2_with fail
        refine C0.out.mono ?_
        rintro e w' ⟨rfl, rfl⟩
        go_wp2_with fail
        refine C1.out.mono ?_
        rintro e w1 ⟨rfl, b1⟩
        go_wp2_with fail
        refine (C2.out _ b1).mono ?_
        rintro e w2 ⟨rfl, b2⟩
        have B2 := then_ (n := 0) b1 b2
        go_wp2
        refine bodyPost_ret (v := .tuple #[.int .i64 0, .string ⟨#[]⟩, .string ⟨#[]⟩, .bool false]) (by simp [results, Tryd.results24, go_sem]) rfl ⟨rfl, B2⟩
    · unfold tup
      have D1 := Lib.hid (HI A c B w hc hB hx hT)
      have D2 := Lib.hid (fun W (h : Below w.heap.size w W) => implC u (n : Int) K leaf A' m c' B' p W hu600 hlf hm hps (hy.below h hB') hc' (by have := h.size; omega) (hT.below h))
      rw [decide_eq_false hC, show isC u (n : Int) K leaf p = false by unfold isC; rw [decide_eq_false hC]; rfl] at D2
      clear hx hy HI hC hbk hu1 hu0 r32 hu600 hs hps hT
      go_enter Tryd.func23, Tryd.ntmps23
      go_wp2_with fail
      refine D1.out.mono ?_
      rintro e w1 ⟨rfl, b1⟩
      go_wp2_with fail
      refine (D2.out _ b1).mono ?_
      rintro e w2 ⟨rfl, b2⟩
      have B2 := then_ (n := 0) b1 b2
      go_wp2
      refine bodyPost_ret (v := .tuple #[.int .i64 0, .string ⟨#[]⟩, .string ⟨#[]⟩, .bool false]) (by simp [results, Tryd.results23, go_sem]) rfl ⟨rfl, B2⟩
  have hC' := hC
  obtain ⟨p0, ⟨p1a, p1b⟩, ⟨p2a, p2b⟩, p3, p4⟩ := hC'
  have hbt : bk = true := by cases hb : bk; (rw [hu0 hb] at p0; cases p0); rfl
  have hu := hu1 hbt
  have hok : okL l = true := hbk.symm.trans hbt
  obtain ⟨hlv, h20⟩ := okL_yes hok
  rw [hbt] at HI
  obtain ⟨j, rfl⟩ : ∃ j : Nat, K = j := ⟨K.toNat, by omega⟩
  have hjn : j < n := by omega
  obtain ⟨hd32, hd10⟩ := okD_yes p4
  have hp500 : ∀ s ∈ p, s.size ≤ 500 := fun s h => by rw [hd32 s h]; omega
  obtain ⟨x, hxk⟩ : ∃ x, l[j]? = some x := ⟨_, List.getElem?_eq_getElem (by omega)⟩
  cases hI : isC u (n : Int) (j : Int) leaf p
  · refine ⟨1, ⟨#[]⟩, ⟨#[]⟩, true, fun A c A' c' B B' w hc hc' hB hB' hx hy => ?_, fun A c A' c' B B' w hc hc' hB hB' hx hy hT => ?_⟩
    · unfold tup
      have C0 := Lib.hid (T8i.l8Leaves A n c l B w hn hs hx)
      have C1 := Lib.hid (T8s.l8Root n A n c B l w (Nat.le_refl _) (by omega) hc hlv hB hx)
      have C2 := Lib.hid (fun W (h : Below w.heap.size w W) => specC (bs (root dig (l.map tl))) (n : Int) (j : Int) leaf A' m c' B' p W (by rw [r32]; unfold maxLen; omega) hlf hm hps (hy.below h hB') hc' (by have := h.size; omega))
      rw [hok] at C0
      have nn0 : ¬ ((n : Int) = 0) := by omega
      rw [← hu, decide_eq_true hC, hI] at C2
      rw [← hu] at C1
      clear hx hy HI hC hbk hu1 hu0 r32 hu600 hs hps hok hu hlv p0 p3 p4 hd32 hp500
      go_enter Tryd.func24, Tryd.ntmps24
      go_wp2_with fail
      refine C0.out.mono ?_
      rintro e w' ⟨rfl, rfl⟩
      go_wp2_with fail
      refine C1.out.mono ?_
      rintro e w1 ⟨rfl, b1⟩
      go_wp2_with fail
      refine (C2.out _ b1).mono ?_
      rintro e w2 ⟨rfl, b2⟩
      have B2 := then_ (n := 0) b1 b2
      go_wp2
      refine bodyPost_ret (v := .tuple #[.int .i64 1, .string ⟨#[]⟩, .string ⟨#[]⟩, .bool true]) (by simp [results, Tryd.results24, go_sem]) rfl ⟨rfl, B2⟩
    · unfold tup
      have D1 := Lib.hid (HI A c B w hc hB hx hT)
      have D2 := Lib.hid (fun W (h : Below w.heap.size w W) => implC u (n : Int) (j : Int) leaf A' m c' B' p W hu600 hlf hm hps (hy.below h hB') hc' (by have := h.size; omega) (hT.below h))
      rw [decide_eq_true hC, hI] at D2
      clear hx hy HI hC hbk hu1 hu0 r32 hu600 hs hps hT hok hu hlv p0 p3 p4 hd32 hp500
      go_enter Tryd.func23, Tryd.ntmps23
      go_wp2_with fail
      refine D1.out.mono ?_
      rintro e w1 ⟨rfl, b1⟩
      go_wp2_with fail
      refine (D2.out _ b1).mono ?_
      rintro e w2 ⟨rfl, b2⟩
      have B2 := then_ (n := 0) b1 b2
      go_wp2
      refine bodyPost_ret (v := .tuple #[.int .i64 1, .string ⟨#[]⟩, .string ⟨#[]⟩, .bool true]) (by simp [results, Tryd.results23, go_sem]) rfl ⟨rfl, B2⟩
  by_cases hlx : leaf = x
  · subst hlx
    refine ⟨0, ⟨#[]⟩, ⟨#[]⟩, true, fun A c A' c' B B' w hc hc' hB hB' hx hy => ?_, fun A c A' c' B B' w hc hc' hB hB' hx hy hT => ?_⟩
    · unfold tup
      have C0 := Lib.hid (T8i.l8Leaves A n c l B w hn hs hx)
      have C1 := Lib.hid (T8s.l8Root n A n c B l w (Nat.le_refl _) (by omega) hc hlv hB hx)
      have C2 := Lib.hid (fun W (h : Below w.heap.size w W) => specC (bs (root dig (l.map tl))) (n : Int) (j : Int) leaf A' m c' B' p W (by rw [r32]; unfold maxLen; omega) hlf hm hps (hy.below h hB') hc' (by have := h.size; omega))
      rw [hok] at C0
      have nn0 : ¬ ((n : Int) = 0) := by omega
      obtain ⟨gb, off, hkl, rfl, hgb, hcell⟩ := rd_str hx hjn
      rw [show l[j] = leaf from by have := List.getElem?_eq_getElem hkl; rw [hxk] at this; exact (Option.some.inj this).symm] at hcell
      rw [← hu, decide_eq_true hC, hI] at C2
      rw [← hu] at C1
      clear hx hy HI hC hbk hu1 hu0 r32 hu600 hs hps hok hu hlv p0 p3 p4 hd32 hp500 hxk
      go_enter Tryd.func24, Tryd.ntmps24
      go_wp2_with fail
      refine C0.out.mono ?_
      rintro e w' ⟨rfl, rfl⟩
      go_wp2_with fail
      refine C1.out.mono ?_
      rintro e w1 ⟨rfl, b1⟩
      go_wp2_with fail
      refine (C2.out _ b1).mono ?_
      rintro e w2 ⟨rfl, b2⟩
      have B2 := then_ (n := 0) b1 b2
      have hcell2 := (B2.cell (p := ⟨gb, off + j, none⟩) (by show gb < _; omega)).trans hcell
      go_wp2
      refine bodyPost_ret (v := .tuple #[.int .i64 0, .string ⟨#[]⟩, .string ⟨#[]⟩, .bool true]) (by simp [results, Tryd.results24, go_sem]) rfl ⟨rfl, B2⟩
    · unfold tup
      have D1 := Lib.hid (HI A c B w hc hB hx hT)
      have D2 := Lib.hid (fun W (h : Below w.heap.size w W) => implC u (n : Int) (j : Int) leaf A' m c' B' p W hu600 hlf hm hps (hy.below h hB') hc' (by have := h.size; omega) (hT.below h))
      obtain ⟨gb, off, hkl, rfl, hgb, hcell⟩ := rd_str hx hjn
      rw [show l[j] = leaf from by have := List.getElem?_eq_getElem hkl; rw [hxk] at this; exact (Option.some.inj this).symm] at hcell
      rw [decide_eq_true hC, hI] at D2
      clear hx hy HI hC hbk hu1 hu0 r32 hu600 hs hps hT hok hu hlv p0 p3 p4 hd32 hp500 hxk
      go_enter Tryd.func23, Tryd.ntmps23
      go_wp2_with fail
      refine D1.out.mono ?_
      rintro e w1 ⟨rfl, b1⟩
      go_wp2_with fail
      refine (D2.out _ b1).mono ?_
      rintro e w2 ⟨rfl, b2⟩
      have B2 := then_ (n := 0) b1 b2
      have hcell2 := (B2.cell (p := ⟨gb, off + j, none⟩) (by show gb < _; omega)).trans hcell
      go_wp2
      refine bodyPost_ret (v := .tuple #[.int .i64 0, .string ⟨#[]⟩, .string ⟨#[]⟩, .bool true]) (by simp [results, Tryd.results23, go_sem]) rfl ⟨rfl, B2⟩
  have hne : (leaf.toList == x.toList) = false := str_ne hlx
  have hne2 : (x.toList == leaf.toList) = false := str_ne (fun h => hlx h.symm)
  have hII : (upS n j leaf p).2 = true ∧ (upS n j leaf p).1 = u := by
    unfold isC at hI
    rw [decide_eq_true hC, Bool.true_and, Int.toNat_natCast, Int.toNat_natCast] at hI
    obtain ⟨a, b⟩ := Bool.and_eq_true_iff.1 hI
    exact ⟨a, of_decide_eq_true b⟩
  have hml : m = (sib 0 n j (j + 1)).length := by
    apply Classical.byContradiction; intro h
    have := not_up n j leaf p hjn (by omega)
    rw [hII.1] at this; cases this
  refine ⟨2, (caS l j leaf p).1, (caS l j leaf p).2.1, true, fun A c A' c' B B' w hc hc' hB hB' hx hy => ?_, fun A c A' c' B B' w hc hc' hB hB' hx hy hT => ?_⟩
  · unfold tup
    have C0 := Lib.hid (T8i.l8Leaves A n c l B w hn hs hx)
    have C1 := Lib.hid (T8s.l8Root n A n c B l w (Nat.le_refl _) (by omega) hc hlv hB hx)
    have C2 := Lib.hid (fun W (h : Below w.heap.size w W) => specC (bs (root dig (l.map tl))) (n : Int) (j : Int) leaf A' m c' B' p W (by rw [r32]; unfold maxLen; omega) hlf hm hps (hy.below h hB') hc' (by have := h.size; omega))
    rw [hok] at C0
    have nn0 : ¬ ((n : Int) = 0) := by omega
    have C4 := Lib.hid (fun W (h : Below w.heap.size w W) => T8y.l8Clash n l j leaf p A n c A' m c' B B' W (Nat.le_refl _) hjn (by omega) hc hlv (by omega) hp500 (by omega) hc' hII.1 (by have := h.size; omega) (by have := h.size; omega) (hx.below h hB) (hy.below h hB'))
    obtain ⟨gb, off, hkl, rfl, hgb, hcell⟩ := rd_str hx hjn
    rw [show l[j] = x from by have := List.getElem?_eq_getElem hkl; rw [hxk] at this; exact (Option.some.inj this).symm] at hcell
    rw [← hu, decide_eq_true hC, hI] at C2
    rw [← hu] at C1
    generalize (caS l j leaf p).1 = s1 at *
    generalize (caS l j leaf p).2.1 = s2 at *
    generalize (caS l j leaf p).2.2 = s3 at *
    clear hx hy HI hC hbk hu1 hu0 r32 hu600 hs hps hok hu hlv p0 p3 p4 hd32 hp500 hxk hII hml
    go_enter Tryd.func24, Tryd.ntmps24
    go_wp2_with fail
    refine C0.out.mono ?_
    rintro e w' ⟨rfl, rfl⟩
    go_wp2_with fail
    refine C1.out.mono ?_
    rintro e w1 ⟨rfl, b1⟩
    go_wp2_with fail
    refine (C2.out _ b1).mono ?_
    rintro e w2 ⟨rfl, b2⟩
    have B2 := then_ (n := 0) b1 b2
    have hcell2 := (B2.cell (p := ⟨gb, off + j, none⟩) (by show gb < _; omega)).trans hcell
    go_wp2_with fail
    refine (C4.out _ B2).mono ?_
    rintro e w3 ⟨rfl, b3⟩
    go_wp2
    refine bodyPost_ret (v := .tuple #[.int .i64 2, .string s1, .string s2, .bool true]) (by simp [results, Tryd.results24, go_sem]) rfl ⟨rfl, then_ (n := 0) B2 b3⟩
  · unfold tup
    have D1 := Lib.hid (HI A c B w hc hB hx hT)
    have D2 := Lib.hid (fun W (h : Below w.heap.size w W) => implC u (n : Int) (j : Int) leaf A' m c' B' p W hu600 hlf hm hps (hy.below h hB') hc' (by have := h.size; omega) (hT.below h))
    have D4 := Lib.hid (fun W (h : Below w.heap.size w W) => T8z.firstCollision l p n j m leaf x A c A' c' B B' W hl (by omega) hjn hxk hlx hml (hII.2.trans hu) hlv (by omega) hp500 (by have := h.size; omega) (by have := h.size; omega) (hx.below h hB) (hy.below h hB') (hT.below h))
    obtain ⟨gb, off, hkl, rfl, hgb, hcell⟩ := rd_str hx hjn
    rw [show l[j] = x from by have := List.getElem?_eq_getElem hkl; rw [hxk] at this; exact (Option.some.inj this).symm] at hcell
    rw [decide_eq_true hC, hI] at D2
    generalize (caS l j leaf p).1 = s1 at *
    generalize (caS l j leaf p).2.1 = s2 at *
    clear hx hy HI hC hbk hu1 hu0 r32 hu600 hs hps hT hok hu hlv p0 p3 p4 hd32 hp500 hxk hII hml
    go_enter Tryd.func23, Tryd.ntmps23
    go_wp2_with fail
    refine D1.out.mono ?_
    rintro e w1 ⟨rfl, b1⟩
    go_wp2_with fail
    refine (D2.out _ b1).mono ?_
    rintro e w2 ⟨rfl, b2⟩
    have B2 := then_ (n := 0) b1 b2
    have hcell2 := (B2.cell (p := ⟨gb, off + j, none⟩) (by show gb < _; omega)).trans hcell
    go_wp2_with fail
    refine (D4.out _ B2).mono ?_
    rintro e w3 ⟨rfl, b3⟩
    go_wp2
    refine bodyPost_ret (v := .tuple #[.int .i64 2, .string s1, .string s2, .bool true]) (by simp [results, Tryd.results23, go_sem]) rfl ⟨rfl, then_ (n := 0) B2 b3⟩

set_option maxHeartbeats 2000000 in
theorem walk (A : Option Addr) (n c : Nat) (l : List ByteArray) (K : Int) (leaf : ByteArray) (A' : Option Addr) (m c' : Nat) (p : List ByteArray) (hn : n ≤ maxLen) (hs : ∀ s ∈ l, s.size ≤ maxLen) (hw : (Lit.int .i64 K).wf = true) (hlf : leaf.size ≤ maxLen) (hm : m ≤ maxLen) (hps : ∀ s ∈ p, s.size ≤ maxLen) (w : World) (hT : Tbl w) (R1 : Rd w w.heap.size 1 A n (svs l)) (R2 : Rd w w.heap.size 1 A' m (svs p)) :
    Calls Tryd.prog 12 #[.slice A n c, .int .i64 K, .string leaf, .slice A' m c'] w fun e w' => e = .returned (.bool true) ∧ Below w.heap.size w w' := by
  clear hw
  have hl := rd_len R1
  have hp := rd_len R2
  have H1 := Lib.hid R1
  have H2 := Lib.hid R2
  have HS := Lib.hid hs
  have HP := Lib.hid hps
  have HT := Lib.hid (fun W (h : Below w.heap.size w W) => hT.below h)
  have HL := Lib.hid hlf
  have Z1 : Calls Tryd.prog 41 #[.slice A n c, .int .i64 1048576] w (Sz 1048576 n l w) := szStrS A n c l w.heap.size 1048576 w hn (Nat.le_refl _) hs R1
  have Z := Lib.hid Z1
  have Y := Lib.hid (fun (z : Nat) (hz : z ≤ 1048576) => (szStrS A' m c' p w.heap.size z w hm hz hps R2 : Calls Tryd.prog 41 #[.slice A' m c', .int .i64 (z : Int)] w (Sz z m p w)))
  unfold maxLen at hlf
  clear R1 R2 hs hps Z1 hT
  go_enter Tryd.func12, Tryd.ntmps12
  by_cases hbig : 1048576 < leaf.size
  · clear Z Y
    go_wp2
    go_ret
    exact ⟨rfl, Below.refl _ _⟩
  go_wp2_with fail
  refine Z.out.mono ?_
  rintro e w' ⟨z, rfl, rfl, hz0, hz1, hz2⟩
  have HZ := Lib.hid hz2
  clear hz2 Z
  by_cases hneg : z < 0
  · clear HZ Y
    go_wp2
    go_ret
    exact ⟨rfl, Below.refl _ _⟩
  have hnn : n ≤ 1048576 := (HZ.out (by omega)).1
  clear HZ
  obtain ⟨zn, rfl⟩ : ∃ zn : Nat, z = zn := ⟨z.toNat, by omega⟩
  go_wp2_with fail
  refine (Y.out zn (by omega)).mono ?_
  rintro e w' ⟨y, rfl, rfl, hy0, hy1, hy2⟩
  have HY := Lib.hid hy2
  clear hy2 Y
  by_cases hneg2 : y < 0
  · clear HY
    go_wp2
    go_ret
    exact ⟨rfl, Below.refl _ _⟩
  have hmm : m ≤ 1048576 := by have := (HY.out (by omega)).1; omega
  clear HY
  obtain ⟨q, s, t, b, S0, I0⟩ := colBoth l p n m K leaf hnn hmm hl hp HS.out HP.out HL.out
  unfold tup at S0 I0
  have S := Lib.hid S0
  have I := Lib.hid I0
  have T1 := Lib.hid (fun W (h : Below w.heap.size w W) => toStrS A n c l W hnn (Rdm H1.out (Nat.le_refl _) h))
  have T2 := Lib.hid (fun W (h : Below w.heap.size w W) => toStrS A' m c' p W hmm (Rdm H2.out (Nat.le_refl _) h))
  have Q1 := Lib.hid (fun (A D : Option Addr) (c d : Nat) B B' W (h : Rd W B 1 A n (svs l)) (h' : Rd W B' 1 D n (svs l)) => eqSame A D n c d l B B' W hnn h h')
  have Q2 := Lib.hid (fun (A D : Option Addr) (c d : Nat) B B' W (h : Rd W B 1 A m (svs p)) (h' : Rd W B' 1 D m (svs p)) => eqSame A D m c d p B B' W hmm h h')
  clear S0 I0 HS HP HL hl hp H1 H2
  go_wp2_with fail
  refine (T1.out w (Below.refl _ _)).mono ?_
  rintro e v1 ⟨rfl, o1, b1⟩
  have O1 := Lib.hid (Rd.own o1)
  have B1 := Lib.hid b1
  clear o1 b1
  go_wp2_with fail
  refine (T2.out v1 B1.out).mono ?_
  rintro e v2 ⟨rfl, o2, b2⟩
  have O2 := Lib.hid (Rd.own o2)
  have O1' := Lib.hid (Rdm O1.out (Nat.le_refl _) b2)
  have B2 := Lib.hid (then_ (n := 0) B1.out b2)
  have y2 := b2.size
  clear o2 b2 O1 B1
  go_wp2_with fail
  refine (S.out _ _ _ _ _ _ v2 (Nat.le_refl _) (Nat.le_refl _) (Nat.le_refl _) (Nat.le_refl _) O1'.out O2.out).mono ?_
  rintro e v3 ⟨rfl, b3⟩
  have B3 := Lib.hid (then_ (n := 0) B2.out b3)
  clear b3 B2 O1' O2 S y2
  cases b
  all_goals
    go_wp2_with fail
    refine (T1.out v3 B3.out).mono ?_
    rintro e v4 ⟨rfl, o4, b4⟩
    have O4 := Lib.hid (Rd.own o4)
    have B4 := Lib.hid (then_ (n := 0) B3.out b4)
    clear o4 b4 B3
    go_wp2_with fail
    refine (T2.out v4 B4.out).mono ?_
    rintro e v5 ⟨rfl, o5, b5⟩
    have O5 := Lib.hid (Rd.own o5)
    have O4' := Lib.hid (Rdm O4.out (Nat.le_refl _) b5)
    have B5 := Lib.hid (then_ (n := 0) B4.out b5)
    have y5 := b5.size
    clear o5 b5 O4 B4
    go_wp2_with fail
    refine (I.out _ _ _ _ _ _ v5 (Nat.le_refl _) (Nat.le_refl _) (Nat.le_refl _) (Nat.le_refl _) O4'.out O5.out (HT.out v5 B5.out)).mono ?_
    rintro e v6 ⟨rfl, b6⟩
    have O4 := Lib.hid (Rdm O4'.out (Nat.le_refl _) b6)
    have O5' := Lib.hid (Rdm O5.out (Nat.le_refl _) b6)
    have B6 := Lib.hid (then_ (n := 0) B5.out b6)
    have y6 := b6.size
    clear b6 B5 O4' O5 I HT
    go_wp2_with fail
    refine (T1.out v6 B6.out).mono ?_
    rintro e v7 ⟨rfl, o7, b7⟩
    have O7 := Lib.hid (Rd.own o7)
    have O4' := Lib.hid (Rdm O4.out (Nat.le_refl _) b7)
    have O5 := Lib.hid (Rdm O5'.out (Nat.le_refl _) b7)
    have B7 := Lib.hid (then_ (n := 0) B6.out b7)
    have y7 := b7.size
    clear o7 b7 O4 O5' B6
    go_wp2_with fail
    refine (Q1.out _ _ _ _ _ _ v7 O4'.out O7.out).mono ?_
    rintro e w' ⟨rfl, k7, rfl⟩
    have D7 := Lib.hid (Rec.below_drewN (Below.refl v7.heap.size v7) k7)
    have O5' := Lib.hid (Rdm O5.out (Nat.le_refl _) D7.out)
    have B8 := Lib.hid (then_ (n := 0) B7.out D7.out)
    have y8 := D7.out.size
    clear D7 B7 O4' O7 O5
    generalize v7.drewN k7 = v8 at *
    go_wp2_with fail
    refine (T2.out v8 B8.out).mono ?_
    rintro e v9 ⟨rfl, o9, b9⟩
    have O9 := Lib.hid (Rd.own o9)
    have O5 := Lib.hid (Rdm O5'.out (Nat.le_refl _) b9)
    have B9 := Lib.hid (then_ (n := 0) B8.out b9)
    clear o9 b9 O5' B8
    go_wp2_with fail
    refine (Q2.out _ _ _ _ _ _ v9 O5.out O9.out).mono ?_
    rintro e w' ⟨rfl, k9, rfl⟩
    have B10 := Rec.below_drewN B9.out k9
    clear B9 O5 O9 T1 T2 Q1 Q2
    generalize v9.drewN k9 = v10 at *
    go_wp2
    go_ret
    exact ⟨rfl, B10⟩
end Go.Proofs.YtiiklednbhklhaaDoor.T8o
