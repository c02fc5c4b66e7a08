/-
  Parts of a list, and the closure of their roots, by the program.
-/
import Derived.Test.YtmnihigackilkaaDoorT8i
import Derived.Laws.EntriesVeiled
namespace Go.Proofs.YtmnihigackilkaaDoor.T8r
open Go.ChangeShapes Go.WideShapes Go.ChangeAt Go.RowKit
open Go.Proofs.YtmnihigackilkaaDoor.Mem Go.Proofs.YtmnihigackilkaaDoor.Ints Go.Proofs.YtmnihigackilkaaDoor.Strs Go.Proofs.YtmnihigackilkaaDoor.ShaComp Go.Proofs.YtmnihigackilkaaDoor.Digest Go.Proofs.YtmnihigackilkaaDoor.DigestI Go.Proofs.YtmnihigackilkaaDoor.Mkl Go.Proofs.YtmnihigackilkaaDoor.Sib Go.Proofs.YtmnihigackilkaaDoor.Spl Go.Proofs.YtmnihigackilkaaDoor.Slq Go.Proofs.YtmnihigackilkaaDoor.Rec Go.Proofs.YtmnihigackilkaaDoor.T8 Go.Proofs.YtmnihigackilkaaDoor.T8s Go.Proofs.YtmnihigackilkaaDoor.T8i
set_option linter.unusedVariables false
set_option maxRecDepth 100000

/-- The part f..t of a list. -/
def sp (f t : Nat) : Value := .agg #[.int .i64 (f : Int), .int .i64 (t : Int)]
set_option maxHeartbeats 1000000 in
theorem halves (f t : Nat) (w : World) (h2 : 2 ≤ t - f) (h20 : t ≤ 20) : Calls Tryd.prog 130 #[sp f t] w fun e w' => e = .returned (.tuple #[sp f (f + split (t - f)), sp (f + split (t - f)) t]) ∧ Below w.heap.size w w' := by
  have C1 := Lib.hid (fun W => implSplit (t - f) W h2 (by omega))
  obtain ⟨s1, s2, s3⟩ := split_lt h2
  generalize hs : split (t - f) = s at *
  have e1 : (t : Int) - (f : Int) = ((t - f : Nat) : Int) := by omega
  obtain ⟨m, hm⟩ : ∃ m, f + s = m := ⟨_, rfl⟩
  have e2 : (f : Int) + (s : Int) = (m : Int) := by omega
  rw [hm]
  obtain ⟨d, hd⟩ : ∃ d, t - f = d := ⟨_, rfl⟩
  rw [hd] at e1 C1
  have b1 : m ≤ 20 := by omega
  have b2 : f ≤ 20 := by omega
  have b3 : d ≤ 20 := by omega
  clear hs hd
  unfold sp
  go_enter Tryd.func130, Tryd.ntmps130
  go_wp2_with fail
  obtain ⟨k0, k1, k2⟩ := nw3 w (.cells #[.int .i64 (f : Int), .int .i64 (t : Int)] 91) (.cells #[.int .i64 0, .int .i64 0] 91) (.cells #[.int .i64 0, .int .i64 0] 91)
  have B0 := al3 w (.cells #[.int .i64 (f : Int), .int .i64 (t : Int)] 91) (.cells #[.int .i64 0, .int .i64 0] 91) (.cells #[.int .i64 0, .int .i64 0] 91)
  generalize World.alloc (World.alloc (World.alloc w _) _) _ = W0 at *
  obtain ⟨c0, c1⟩ := row2 k0
  have hw1 : IntKind.i64.wrap ((t : Int) - (f : Int)) = (d : Int) := by rw [e1]; exact IntWalk.i64_in _ (by omega)
  have hw2 : IntKind.i64.wrap ((f : Int) + (s : Int)) = (m : Int) := by rw [e2]; exact IntWalk.i64_in _ (by omega)
  clear e1 e2 hm
  have C2 := Lib.hid (fun W => (C1.out W).mono (fun e w' (q : _ ∧ W = w') => (show _ ∧ w' = W from ⟨q.1, q.2.symm⟩)))
  clear C1
  go_quiet ((go_at_call 106; exact Calls.quiet_of_same (C2.out _)))
  rename_i nq
  have B1 := below_drewN B0 nq
  have k0 : (W0.drewN nq).heap[w.heap.size]? = _ := k0
  have k1 : (W0.drewN nq).heap[w.heap.size + 1]? = _ := k1
  have k2 : (W0.drewN nq).heap[w.heap.size + 1 + 1]? = _ := k2
  generalize W0.drewN nq = W1 at *
  clear B0 c0 c1 hw1 hw2 C2
  obtain ⟨c0, c1⟩ := row2 k0
  obtain ⟨c2, c3⟩ := row2 k1
  obtain ⟨c4, c5⟩ := row2 k2
  obtain ⟨f2, f3⟩ := frz2 k1
  obtain ⟨f4, f5⟩ := frz2 k2
  go_wp2_with fail
  go_region_held3 (fun w' => w'.cell? ⟨w.heap.size, 0, none⟩ = some (.int .i64 f) ∧ w'.cell? ⟨w.heap.size, 1, none⟩ = some (.int .i64 t))
    (first | (go_keep; done) | (refine ⟨?_, ?_⟩ <;> with_reducible assumption) | (simp [*, go_sem]; done)) (fail)
  all_goals
    have z1 : w.heap.size + 1 < W1.heap.size := bx_lt k1
    have z2 : w.heap.size + 1 + 1 < W1.heap.size := bx_lt k2
    go_wp2
    refine bodyPost_ret (v := .tuple #[.agg #[.int .i64 (f : Int), .int .i64 (m : Int)], .agg #[.int .i64 (m : Int), .int .i64 (t : Int)]]) (by simp [results, Tryd.results130, go_sem, c2, c3, c4, c5]) rfl ⟨rfl, ?_⟩
    repeat (first | exact B1 | refine Below.drew ?_ | refine Below.setCell ?_ (by first | (simp; done) | (simp; omega)) _)
set_option maxHeartbeats 1000000 in
theorem leafSpan (k : Nat) (w : World) (h : k ≤ 1000) : Calls Tryd.prog 74 #[.int .i64 (k : Int)] w fun e w' => e = .returned (sp k (k + 1)) ∧ Below w.heap.size w w' := by
  unfold sp
  go_enter Tryd.func74, Tryd.ntmps74
  go_wp2_with fail
  refine bodyPost_ret (v := .agg #[.int .i64 (k : Int), .int .i64 ((k + 1 : Nat) : Int)]) (by simp [results, Tryd.results74, go_sem]) rfl ⟨rfl, ?_⟩
  exact al1 w _
set_option maxHeartbeats 1000000 in
theorem wholeSpan (k : Nat) (w : World) (h : k ≤ 1000) : Calls Tryd.prog 78 #[.int .i64 (k : Int)] w fun e w' => e = .returned (sp 0 k) ∧ Below w.heap.size w w' := by
  unfold sp
  go_enter Tryd.func78, Tryd.ntmps78
  go_wp2_with fail
  refine bodyPost_ret (v := .agg #[.int .i64 ((0 : Nat) : Int), .int .i64 (k : Int)]) (by simp [results, Tryd.results78, go_sem]) rfl ⟨rfl, ?_⟩
  exact al1 w _
/-- What the closure of roots has captured: the list's box and its own. -/
def Rtf (W : World) (b : Nat) (A : Option Addr) (n c : Nat) : Prop := W.heap[b]? = some (.cells #[.slice A n c] 23) ∧ W.heap[b + 1]? = some (.cells #[.func (.func 129) #[] #[.pointer (some ⟨b, 0, none⟩), .pointer (some ⟨b + 1, 0, none⟩)]] 94)
theorem Rtf.below {W W' : World} {b n c : Nat} {A : Option Addr} (h : Rtf W b A n c) (hb : Below W.heap.size W W') : Rtf W' b A n c := ⟨bx h.1 hb, bx h.2 hb⟩
def rtV (b : Nat) : Value := .func (.func 129) #[] #[.pointer (some ⟨b, 0, none⟩), .pointer (some ⟨b + 1, 0, none⟩)]
set_option maxHeartbeats 1000000 in
theorem rootsOf (A : Option Addr) (n c : Nat) (w : World) : Calls Tryd.prog 77 #[.slice A n c] w fun e w' => e = .returned (rtV w.heap.size) ∧ Rtf w' w.heap.size A n c ∧ Below w.heap.size w w' := by
  have hmf : ∀ (fn : Fn) (first cap : Array Value) (w : World), (Instr.makeFunc fn first cap).run Tryd.prog w = .ok (.func fn first cap) w := fun _ _ _ _ => rfl
  unfold rtV
  go_enter Tryd.func77, Tryd.ntmps77
  go_wp2_with fail
  go_ret
  exact ⟨rfl, nw2 w _ _, al2 w _ _⟩
/-- The root of a part, by the closure. -/
def prS (l : List ByteArray) (f t : Nat) : ByteArray := bs (root dig (sub (l.map tl) f t))
theorem pr32 (l : List ByteArray) (f t : Nat) : (prS l f t).size = 32 := by unfold prS; exact root32 _
theorem pr_none (l : List ByteArray) (f : Nat) : prS l f f = bs (dig []) := by
  unfold prS sub; rw [Nat.sub_self, List.take_zero, root_nil]
theorem pr_one (l : List ByteArray) (f : Nat) (h : f < l.length) : prS l f (f + 1) = bs (leafD dig (tl l[f])) := by
  unfold prS sub
  rw [show f + 1 - f = 1 by omega, List.drop_eq_getElem_cons (by simpa using h)]
  simp only [List.take_succ_cons, List.take_zero, root_one, List.getElem_map]
theorem pr_two (l : List ByteArray) (f t : Nat) (h : 2 ≤ t - f) (ht : t ≤ l.length) : prS l f t = bs (pairD dig (tl (prS l f (f + split (t - f)))) (tl (prS l (f + split (t - f)) t))) := by
  obtain ⟨s1, s2, s3⟩ := split_lt h
  have hl : (sub (l.map tl) f t).length = t - f := sub_len _ (by simpa using ht)
  unfold prS
  rw [tl_bs, tl_bs, root_two dig _ (by rw [hl]; exact h), hl, sub_take _ (by omega), sub_drop _ (by omega)]
theorem pr_all (l : List ByteArray) : prS l 0 l.length = bs (root dig (l.map tl)) := by
  unfold prS
  rw [show l.length = (l.map tl).length by simp, sub_all]
set_option maxHeartbeats 4000000 in
theorem root (n : Nat) : ∀ (f t : Nat) (A : Option Addr) (m c b B : Nat) (l : List ByteArray) (w : World), t - f ≤ n → f ≤ t → t ≤ m → m ≤ 20 → leaves l → B ≤ w.heap.size → Rd w B 1 A m (svs l) → Rtf w b A m c → Tbl w →
    Calls Tryd.prog 129 #[sp f t, .pointer (some ⟨b, 0, none⟩), .pointer (some ⟨b + 1, 0, none⟩)] w fun e w' => e = .returned (.string (prS l f t)) ∧ Below w.heap.size w w' := by
  induction n with
  | zero =>
    intro f t A m c b B l w hn hft htm h20 hl hB hx hR hT
    obtain rfl : t = f := by omega
    rw [pr_none]
    have C := Lib.hid (fun W (h : Below w.heap.size w W) => T8.treeDigest ⟨#[]⟩ W (by show 0 ≤ 600; omega) (hT.below h))
    rw [show bs (dig (tl (⟨#[]⟩ : ByteArray))) = bs (dig []) from rfl] at C
    generalize bs (dig []) = d at *
    clear hx hR hT
    have B1 := al1 w (.cells #[.int .i64 (t : Int), .int .i64 (t : Int)] 91)
    unfold sp
    go_enter Tryd.func129, Tryd.ntmps129
    go_wp2_with fail
    refine (C.out _ B1).mono ?_
    rintro e w' ⟨rfl, hb⟩
    go_wp2
    go_ret
    exact ⟨rfl, then_ (n := 0) B1 hb⟩
  | succ n ih =>
    intro f t A m c b B l w hn hft htm h20 hl hB hx hR hT
    have hlen := rd_len hx
    by_cases h0 : t = f
    · subst h0
      rw [pr_none]
      have C := Lib.hid (fun W (h : Below w.heap.size w W) => T8.treeDigest ⟨#[]⟩ W (by show 0 ≤ 600; omega) (hT.below h))
      rw [show bs (dig (tl (⟨#[]⟩ : ByteArray))) = bs (dig []) from rfl] at C
      generalize bs (dig []) = d at *
      clear hx hR hT ih
      have B1 := al1 w (.cells #[.int .i64 (t : Int), .int .i64 (t : Int)] 91)
      unfold sp
      go_enter Tryd.func129, Tryd.ntmps129
      go_wp2_with fail
      refine (C.out _ B1).mono ?_
      rintro e w' ⟨rfl, hb⟩
      go_wp2
      go_ret
      exact ⟨rfl, then_ (n := 0) B1 hb⟩
    · by_cases h1 : t = f + 1
      · subst h1
        obtain ⟨b', off, h, rfl, hb', hcell⟩ := rd_str hx (k := f) (by omega)
        rw [pr_one l f h]
        have hs := hl _ (List.getElem_mem h)
        have C1 := Lib.hid (fun W => leafInput l[f] W (by omega))
        have C2 := Lib.hid (fun W (h' : Below w.heap.size w W) => T8.treeDigest (z1 ++ l[f]) W (by rw [ByteArray.size_append]; show 1 + _ ≤ _; omega) (hT.below h'))
        rw [leaf_in] at C2
        generalize bs (leafD dig (tl l[f])) = d at *
        generalize l[f] = x at *
        generalize z1 ++ x = y at *
        have B1 := al1 w (.cells #[.int .i64 (f : Int), .int .i64 ((f + 1 : Nat) : Int)] 91)
        have k1 := nw1 w (.cells #[.int .i64 (f : Int), .int .i64 ((f + 1 : Nat) : Int)] 91)
        have R1 := hR.below B1
        have hcell1 : (w.alloc (.cells #[.int .i64 (f : Int), .int .i64 ((f + 1 : Nat) : Int)] 91)).cell? ⟨b', off + f, none⟩ = some (.string x) := (B1.cell (p := ⟨b', off + f, none⟩) (by show b' < _; omega)).trans hcell
        have hw : IntKind.i64.wrap (((f + 1 : Nat) : Int) - (f : Int)) = 1 := by rw [show ((f + 1 : Nat) : Int) - (f : Int) = 1 by omega]; rfl
        have i0 : (0 : Int) ≤ (f : Int) := by omega
        have i1 : (f : Int) < (m : Int) := by omega
        have c2 := cell_of_row _ _ 0 _ _ _ R1.1
        simp only [List.getElem?_toArray, List.getElem?_cons_zero] at c2
        generalize ht : ((f + 1 : Nat) : Int) = t1 at *
        clear ih hx hR hT hl hs R1 k1
        unfold sp
        rw [ht]
        go_enter Tryd.func129, Tryd.ntmps129
        go_wp2_with fail
        refine (C1.out _).mono ?_
        rintro e w' ⟨rfl, rfl⟩
        go_wp2_with fail
        refine (C2.out _ B1).mono ?_
        rintro e w' ⟨rfl, hb⟩
        go_wp2
        go_ret
        exact ⟨rfl, then_ (n := 0) B1 hb⟩
      · have h2 : 2 ≤ t - f := by omega
        obtain ⟨s1, s2, s3⟩ := split_lt h2
        rw [pr_two l f t h2 (by omega)]
        have r1 := pr32 l f (f + split (t - f))
        have r2 := pr32 l (f + split (t - f)) t
        have CH := Lib.hid (fun W => halves f t W h2 (by omega))
        have C1 := Lib.hid (fun W (h : Below w.heap.size w W) => ih f (f + split (t - f)) A m c b B l W (by omega) (by omega) (by omega) h20 hl (by have := h.size; omega) (hx.below h hB) (hR.below h) (hT.below h))
        have C2 := Lib.hid (fun W (h : Below w.heap.size w W) => ih (f + split (t - f)) t A m c b B l W (by omega) (by omega) (by omega) h20 hl (by have := h.size; omega) (hx.below h hB) (hR.below h) (hT.below h))
        have C3 := Lib.hid (fun W => pairInput (prS l f (f + split (t - f))) (prS l (f + split (t - f)) t) W (by omega) (by omega))
        have C4 := Lib.hid (fun W (h : Below w.heap.size w W) => T8.treeDigest (o1 ++ prS l f (f + split (t - f)) ++ prS l (f + split (t - f)) t) W (by rw [ByteArray.size_append, ByteArray.size_append, r1, r2]; show 1 + 32 + 32 ≤ 600; omega) (hT.below h))
        rw [pair_in] at C4
        have RT := Lib.hid (fun W (h : Below w.heap.size w W) => (hR.below h))
        obtain ⟨q, hq⟩ : ∃ q, f + split (t - f) = q := ⟨_, rfl⟩
        rw [hq] at CH C1 C2 C3 C4 ⊢
        have q0 : f < q := by omega
        have q1 : q < t := by omega
        clear ih hx hR hT hl r1 r2 hlen
        generalize bs (pairD dig (tl (prS l f q)) (tl (prS l q t))) = d at *
        generalize prS l f q = x at *
        generalize prS l q t = y at *
        generalize o1 ++ x ++ y = u at *
        have B1 := al1 w (.cells #[.int .i64 (f : Int), .int .i64 (t : Int)] 91)
        have k1 := nw1 w (.cells #[.int .i64 (f : Int), .int .i64 (t : Int)] 91)
        have j0 : ¬ ((t : Int) - (f : Int) = 0) := by omega
        have j1 : ¬ ((t : Int) - (f : Int) = 1) := by omega
        have e0 : ((t : Int) - (f : Int) == 0) = false := by simpa using j0
        have e1 : ((t : Int) - (f : Int) == 1) = false := by simpa using j1
        have hw : IntKind.i64.wrap ((t : Int) - (f : Int)) = (t : Int) - (f : Int) := IntWalk.i64_in _ (by omega)
        unfold sp at CH C1 C2 ⊢
        go_enter Tryd.func129, Tryd.ntmps129
        go_wp2_with fail
        refine (CH.out _).mono ?_
        rintro e w1 ⟨rfl, hb⟩
        have k2 := bx k1 hb
        have B2 := then_ (n := 0) B1 hb
        clear CH B1 k1 hb hw
        go_wp2_with fail
        obtain ⟨h5, h6⟩ := nw2 w1 (.cells #[.int .i64 (f : Int), .int .i64 (q : Int)] 91) (.cells #[.int .i64 (q : Int), .int .i64 (t : Int)] 91)
        have B3 := then_ (n := 0) B2 (al2 w1 (.cells #[.int .i64 (f : Int), .int .i64 (q : Int)] 91) (.cells #[.int .i64 (q : Int), .int .i64 (t : Int)] 91))
        generalize World.alloc (World.alloc w1 _) _ = W0 at *
        have h7 := (RT.out W0 B3).2
        have H5 := Lib.hid h5
        have H6 := Lib.hid h6
        have H7 := Lib.hid h7
        have D1 : Hid (Below W0.heap.size W0 W0.drew) := Lib.hid (Below.refl _ W0).drew
        have X1 := Lib.hid (fun W (h : Below W0.heap.size W0 W) => (C1.out W (then_ (n := 0) B3 h)).mono (fun e w' (q : _ ∧ _) => (show _ ∧ Below W0.heap.size W0 w' from ⟨q.1, then_ (n := 0) h q.2⟩)))
        have X2 := Lib.hid (fun W (h : Below W0.heap.size W0 W) => (C2.out W (then_ (n := 0) B3 h)).mono (fun e w' (q : _ ∧ _) => (show _ ∧ Below W0.heap.size W0 w' from ⟨q.1, then_ (n := 0) h q.2⟩)))
        have X4 := Lib.hid (fun W (h : Below W0.heap.size W0 W) => (C4.out W (then_ (n := 0) B3 h)).mono (fun e w' (q : _ ∧ _) => (show _ ∧ Below W0.heap.size W0 w' from ⟨q.1, then_ (n := 0) h q.2⟩)))
        have X3 := Lib.hid (fun W (h : Below W0.heap.size W0 W) => (C3.out W).mono (fun e w' (q : _ ∧ W = w') => (show _ ∧ Below W0.heap.size W0 w' from ⟨q.1, q.2 ▸ h⟩)))
        obtain ⟨c0, c1⟩ := row2 h5
        obtain ⟨c2, c3⟩ := row2 h6
        have c4 := cell_of_row _ _ 0 _ _ _ h7
        simp only [List.getElem?_toArray, List.getElem?_cons_zero] at c4
        clear h5 h6 h7 k2 C1 C2 C3 C4 RT B2 j0 j1 e0 e1
        go_region_held3 (fun w' => w'.cell? ⟨b + 1, 0, none⟩ = some (.func (.func 129) #[] #[.pointer (some ⟨b, 0, none⟩), .pointer (some ⟨b + 1, 0, none⟩)]) ∧ w'.cell? ⟨w1.heap.size, 0, none⟩ = some (.int .i64 f) ∧ w'.cell? ⟨w1.heap.size, 1, none⟩ = some (.int .i64 q) ∧ w'.cell? ⟨w1.heap.size + 1, 0, none⟩ = some (.int .i64 q) ∧ w'.cell? ⟨w1.heap.size + 1, 1, none⟩ = some (.int .i64 t))
          (first | (go_keep; done) | (refine ⟨?_, ?_, ?_, ?_, ?_⟩ <;> with_reducible assumption))
          (first
            | (go_at_call 129; (with_reducible refine (X1.out _ ?hb).mono ?_); (case hb => (first | exact D1.out | assumption)); rintro e w2 ⟨rfl, b2⟩; obtain ⟨d0, d1⟩ := row2 (bx H5.out b2); obtain ⟨d2, d3⟩ := row2 (bx H6.out b2); have d4 := cell_of_row _ _ 0 _ _ _ (bx H7.out b2); simp only [List.getElem?_toArray, List.getElem?_cons_zero] at d4)
            | (go_at_call 129; (with_reducible refine (X2.out _ ?hb).mono ?_); (case hb => (first | exact D1.out | assumption)); rintro e w3 ⟨rfl, b3⟩; obtain ⟨d0, d1⟩ := row2 (bx H5.out b3); obtain ⟨d2, d3⟩ := row2 (bx H6.out b3); have d4 := cell_of_row _ _ 0 _ _ _ (bx H7.out b3); simp only [List.getElem?_toArray, List.getElem?_cons_zero] at d4)
            | (go_at_call 98; (with_reducible refine (X3.out _ ?hb).mono ?_); (case hb => (first | exact D1.out | assumption)); rintro e w4 ⟨rfl, b4⟩; obtain ⟨d0, d1⟩ := row2 (bx H5.out b4); obtain ⟨d2, d3⟩ := row2 (bx H6.out b4); have d4 := cell_of_row _ _ 0 _ _ _ (bx H7.out b4); simp only [List.getElem?_toArray, List.getElem?_cons_zero] at d4)
            | (go_at_call 85; (with_reducible refine (X4.out _ ?hb).mono ?_); (case hb => (first | exact D1.out | assumption)); rintro e w5 ⟨rfl, b5⟩; obtain ⟨d0, d1⟩ := row2 (bx H5.out b5); obtain ⟨d2, d3⟩ := row2 (bx H6.out b5); have d4 := cell_of_row _ _ 0 _ _ _ (bx H7.out b5); simp only [List.getElem?_toArray, List.getElem?_cons_zero] at d4))
        all_goals
          go_wp2
          go_ret
          exact ⟨rfl, then_ (n := 0) B3 (by assumption)⟩
end Go.Proofs.YtmnihigackilkaaDoor.T8r
