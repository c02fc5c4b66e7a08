/-
  CheckGrowth, by both sides.
-/
import Derived.Test.YtiiklednbhklhaaDoorT8h
import Derived.Test.YtiiklednbhklhaaDoorT8g
namespace Go.Proofs.YtiiklednbhklhaaDoor.T8f
open Go.ChangeShapes Go.WideShapes Go.ChangeAt Go.RowKit
open Go.Proofs.YtiiklednbhklhaaDoor.Mem Go.Proofs.YtiiklednbhklhaaDoor.Ints Go.Proofs.YtiiklednbhklhaaDoor.Strs Go.Proofs.YtiiklednbhklhaaDoor.ShaComp Go.Proofs.YtiiklednbhklhaaDoor.Digest Go.Proofs.YtiiklednbhklhaaDoor.Mkl Go.Proofs.YtiiklednbhklhaaDoor.Sib Go.Proofs.YtiiklednbhklhaaDoor.Spl Go.Proofs.YtiiklednbhklhaaDoor.Slq Go.Proofs.YtiiklednbhklhaaDoor.Rec Go.Proofs.YtiiklednbhklhaaDoor.T8 Go.Proofs.YtiiklednbhklhaaDoor.T8s Go.Proofs.YtiiklednbhklhaaDoor.T8i Go.Proofs.YtiiklednbhklhaaDoor.T8r Go.Proofs.YtiiklednbhklhaaDoor.T8k Go.Proofs.YtiiklednbhklhaaDoor.T8l Go.Proofs.YtiiklednbhklhaaDoor.T8u Go.Proofs.YtiiklednbhklhaaDoor.T8v Go.Proofs.YtiiklednbhklhaaDoor.T8c Go.Proofs.YtiiklednbhklhaaDoor.T8d Go.Proofs.YtiiklednbhklhaaDoor.T8h
set_option linter.unusedVariables false
set_option maxRecDepth 100000

def oldS (st : List (ByteArray × Bool)) (x : ByteArray) : ByteArray := st.foldl (fun d s => if s.2 then tdS (inpS s d) else d) x
def topS (st : List (ByteArray × Bool)) (x : ByteArray) : ByteArray := st.foldl (fun d s => tdS (inpS s d)) x
theorem oldS_snoc (st : List (ByteArray × Bool)) (s : ByteArray × Bool) (x : ByteArray) : oldS (st ++ [s]) x = if s.2 then tdS (inpS s (oldS st x)) else oldS st x := by simp [oldS]
theorem topS_snoc (st : List (ByteArray × Bool)) (s : ByteArray × Bool) (x : ByteArray) : topS (st ++ [s]) x = tdS (inpS s (topS st x)) := by simp [topS]
theorem oldS_le (st : List (ByteArray × Bool)) (x : ByteArray) (h : x.size ≤ 32) : (oldS st x).size ≤ 32 := by
  induction st using Sib.rev with
  | h0 => exact h
  | h1 l s ih => rw [oldS_snoc]; split; (rw [td32]; omega); exact ih
theorem topS_le (st : List (ByteArray × Bool)) (x : ByteArray) (h : x.size ≤ 32) : (topS st x).size ≤ 32 := by
  induction st using Sib.rev with
  | h0 => exact h
  | h1 l s ih => rw [topS_snoc, td32]; omega
theorem tl_td (y : ByteArray) : tl (tdS y) = dig (tl y) := rfl
theorem old_map (st : List (ByteArray × Bool)) (x : ByteArray) : old dig (st.map (fun p => (tl p.1, p.2))) (tl x) = tl (oldS st x) := by
  induction st using Sib.rev with
  | h0 => rfl
  | h1 l s ih =>
    rw [List.map_append, List.map_cons, List.map_nil, old_snoc, oldS_snoc, ih]
    cases hs : s.2
    · simp
    · simp only [if_true]; rw [tl_td, tl_inp, hs]
theorem top_map (st : List (ByteArray × Bool)) (x : ByteArray) : top dig (st.map (fun p => (tl p.1, p.2))) (tl x) = tl (topS st x) := by
  induction st using Sib.rev with
  | h0 => rfl
  | h1 l s ih => rw [List.map_append, List.map_cons, List.map_nil, top_snoc, topS_snoc, ih, tl_td, tl_inp]
theorem gn_stp (first many : Nat) (one : ByteArray) (l : List ByteArray) (h1 : 1 ≤ first) (h2 : first ≤ many) :
    Tells dig (grown dig first many (tl one) true (l.map tl)) (last 0 many first).1 (sib 0 many (last 0 many first).1 first) (hd (last 0 many first).1 (tl one) (l.map tl)) := by
  have := grown_stp dig many 0 many first (tl one) (l.map tl) (by omega) (by omega) h2
  rwa [Nat.sub_zero, Nat.sub_zero, show decide (0 = 0) = true from rfl] at this
theorem gn_of (first many : Nat) (one x : ByteArray) (l q : List ByteArray) (h1 : 1 ≤ first) (h2 : first ≤ many) (hh : hd (last 0 many first).1 (tl one) (l.map tl) = some (tl x, q.map tl)) :
    (q.length = (sib 0 many (last 0 many first).1 first).length → gnS first many one true l = (oldS (stpS (last 0 many first).1 (sib 0 many (last 0 many first).1 first) q) x, topS (stpS (last 0 many first).1 (sib 0 many (last 0 many first).1 first) q) x, true)) ∧
    (q.length ≠ (sib 0 many (last 0 many first).1 first).length → (gnS first many one true l).2.2 = false) := by
  have t := gn_stp first many one l h1 h2
  rw [hh] at t
  obtain ⟨t1, t2⟩ := t
  refine ⟨fun h => ?_, fun h => ?_⟩
  · have e := t1 (by simpa using h)
    unfold gnS
    rw [e, ← stp_map, old_map, top_map]
    simp only [bs_tl]
  · exact t2 (by simpa using h)
theorem gn_none (first many : Nat) (one : ByteArray) (h1 : 1 ≤ first) (h2 : first ≤ many) (hb : (last 0 many first).1 ≠ 0) : (gnS first many one true []).2.2 = false := by
  have t := gn_stp first many one [] h1 h2
  rw [show hd (last 0 many first).1 (tl one) (([] : List ByteArray).map tl) = none by unfold hd; rw [if_neg hb]; rfl] at t
  exact t
theorem sl_x (b off n c k : Nat) (h : k ≤ n) (hc : n ≤ c) : ∃ o, (∀ W, (Instr.slice 23 (.slice (some ⟨b, off, none⟩) n c) (some (.int .i64 (k : Int))) none none).run Tryd.prog W = .ok (.slice (some ⟨b, o, none⟩) (n - k) (c - k)) W) ∧ (k < n → o = off + k) := by
  by_cases hk : k < c
  · exact ⟨off + k, fun W => sl_l b off n c k h hk W, fun _ => rfl⟩
  · refine ⟨off, fun W => ?_, fun h' => by omega⟩
    obtain ⟨i0, hi, hz0, hz1, hz2⟩ := info_parts infoS
    have u := Tryd.underlying23
    have e : Tryd.prog.elem 23 = 9 := by kernel_rfl
    rw [run_slice_l (P := Tryd.prog) W 23 (some ⟨b, off, none⟩) n c (by rw [e]; exact u) .i64 (k : Int) (by omega) (by omega), e, run_sizeOf W hi]
    have hs : Tryd.prog.cellsOf 9 = 1 := by kernel_rfl
    simp only [Result.andThen, sliced, Int.toNat_natCast]
    rw [if_pos (by omega)]
theorem rd_tail {W : World} {B n b off o : Nat} {x : ByteArray} {r : List ByteArray} (h : Rd W B 1 (some ⟨b, off, none⟩) (n + 1) (svs (x :: r))) (ho : 1 < n + 1 → o = off + 1) : Rd W B 1 (some ⟨b, o, none⟩) n (svs r) := by
  by_cases hn : n = 0
  · subst hn
    have hl := rd_len h
    obtain rfl : r = [] := by simpa using hl
    exact ⟨rfl, fun h => absurd h (by omega)⟩
  · obtain rfl := ho (by omega)
    have := rd_dropS 1 h (by omega)
    simpa using this
/-- What CheckGrowth requires. -/
def okG (first many : Int) (one two : ByteArray) (l : List ByteArray) : Prop := (1 ≤ many ∧ many ≤ 20) ∧ (1 ≤ first ∧ first ≤ many) ∧ one.size = 32 ∧ two.size = 32 ∧ okD l = true
instance (first many : Int) (one two : ByteArray) (l : List ByteArray) : Decidable (okG first many one two l) := by unfold okG; infer_instance
def ansG (r : ByteArray × ByteArray × Bool) (one two : ByteArray) : Bool := r.2.2 && (decide (r.1 = one) && decide (r.2.1 = two))
/-- What it answers: whether the proof tells both roots. -/
def isG (first many : Int) (one two : ByteArray) (l : List ByteArray) : Bool := decide (okG first many one two l) && ansG (gnS first.toNat many.toNat one true l) one two

set_option maxHeartbeats 2000000 in
theorem specNoG (first many : Int) (one two : ByteArray) (A : Option Addr) (n c B : Nat) (l : List ByteArray) (w : World) (hr : one.size ≤ maxLen) (hlf : two.size ≤ maxLen) (hn : n ≤ 1048576) (hs : ∀ s ∈ l, s.size ≤ maxLen) (hx : Rd w B 1 A n (svs l)) (hno : ¬ okG first many one two l) :
    Calls Tryd.prog 37 #[.int .i64 first, .int .i64 many, .string one, .string two, .slice A n c] w fun e w' => e = .returned (.tuple #[.bool false, .bool false]) ∧ w = w' := by
  have C1 := Lib.hid (fun W => l1B many 1 20 W)
  have C2 := Lib.hid (fun W => l1B first 1 many W)
  have C5 := Lib.hid (T8i.l8Digests A n c l B w hn hs hx)
  unfold okG at hno
  unfold maxLen at hr hlf
  clear hx hs
  by_cases p1 : 1 ≤ many ∧ many ≤ 20
  case neg =>
    rw [show (decide ((1 : Int) ≤ many) && decide (many ≤ 20)) = false by simp; omega] at C1
    clear hno p1
    go_enter Tryd.func37, Tryd.ntmps37
    go_wp2_with fail
    refine (C1.out _).mono ?_
    rintro e w' ⟨rfl, rfl⟩
    go_wp2
    go_ret2
    exact ⟨rfl, rfl⟩
  rw [show (decide ((1 : Int) ≤ many) && decide (many ≤ 20)) = true by simp; omega] at C1
  by_cases p2 : 1 ≤ first ∧ first ≤ many
  case neg =>
    rw [show (decide ((1 : Int) ≤ first) && decide (first ≤ many)) = false by simp; omega] at C2
    obtain ⟨p1a, p1b⟩ := p1
    clear hno p2
    go_enter Tryd.func37, Tryd.ntmps37
    go_wp2_with fail
    refine (C1.out _).mono ?_
    rintro e w' ⟨rfl, rfl⟩
    go_wp2_with fail
    refine (C2.out _).mono ?_
    rintro e w' ⟨rfl, rfl⟩
    go_wp2
    go_ret2
    exact ⟨rfl, rfl⟩
  rw [show (decide ((1 : Int) ≤ first) && decide (first ≤ many)) = true by simp; omega] at C2
  obtain ⟨p1a, p1b⟩ := p1
  obtain ⟨p2a, p2b⟩ := p2
  by_cases p3 : one.size = 32
  case neg =>
    have np3 : ((one.size : Int) != 32) = true := by rw [bne_iff_ne]; omega
    clear hno p3
    go_enter Tryd.func37, Tryd.ntmps37
    go_wp2_with fail
    refine (C1.out _).mono ?_
    rintro e w' ⟨rfl, rfl⟩
    go_wp2_with fail
    refine (C2.out _).mono ?_
    rintro e w' ⟨rfl, rfl⟩
    go_wp2
    go_ret2
    exact ⟨rfl, rfl⟩
  have np3 : ((one.size : Int) != 32) = false := by rw [bne_eq_false_iff_eq]; omega
  by_cases p4 : two.size = 32
  case neg =>
    have np4 : ((two.size : Int) != 32) = true := by rw [bne_iff_ne]; omega
    clear hno p4 p3
    go_enter Tryd.func37, Tryd.ntmps37
    go_wp2_with fail
    refine (C1.out _).mono ?_
    rintro e w' ⟨rfl, rfl⟩
    go_wp2_with fail
    refine (C2.out _).mono ?_
    rintro e w' ⟨rfl, rfl⟩
    go_wp2
    go_ret2
    exact ⟨rfl, rfl⟩
  have np4 : ((two.size : Int) != 32) = false := by rw [bne_eq_false_iff_eq]; omega
  have p5 : okD l = false := by cases h : okD l with
    | false => rfl
    | true => exact absurd ⟨⟨p1a, p1b⟩, ⟨p2a, p2b⟩, p3, p4, h⟩ hno
  rw [p5] at C5
  clear hno p5 p4 p3
  go_enter Tryd.func37, Tryd.ntmps37
  go_wp2_with fail
  refine (C1.out _).mono ?_
  rintro e w' ⟨rfl, rfl⟩
  go_wp2_with fail
  refine (C2.out _).mono ?_
  rintro e w' ⟨rfl, rfl⟩
  go_wp2_with fail
  refine C5.out.mono ?_
  rintro e w' ⟨rfl, rfl⟩
  go_wp2
  go_ret2
  exact ⟨rfl, rfl⟩

set_option maxHeartbeats 2000000 in
theorem implNoG (first many : Int) (one two : ByteArray) (A : Option Addr) (n c B : Nat) (l : List ByteArray) (w : World) (hr : one.size ≤ maxLen) (hlf : two.size ≤ maxLen) (hn : n ≤ 1048576) (hs : ∀ s ∈ l, s.size ≤ maxLen) (hx : Rd w B 1 A n (svs l)) (hno : ¬ okG first many one two l) :
    Calls Tryd.prog 35 #[.int .i64 first, .int .i64 many, .string one, .string two, .slice A n c] w fun e w' => e = .returned (.tuple #[.bool false, .bool false]) ∧ w = w' := by
  have C1 := Lib.hid (fun W => isLeafCount many W)
  have C3 := Lib.hid (isDigest one w hr)
  have C4 := Lib.hid (isDigest two w hlf)
  have C5 := Lib.hid (T8i.isProof A n c l B w hn hs hx)
  unfold okG at hno
  unfold maxLen at hr hlf
  clear hx hs
  by_cases p1 : 1 ≤ many ∧ many ≤ 20
  case neg =>
    rw [show (decide ((1 : Int) ≤ many) && decide (many ≤ 20)) = false by simp; omega] at C1
    clear hno p1
    go_enter Tryd.func35, Tryd.ntmps35
    go_wp2_with fail
    refine (C1.out _).mono ?_
    rintro e w' ⟨rfl, rfl⟩
    go_wp2
    go_ret2
    exact ⟨rfl, rfl⟩
  rw [show (decide ((1 : Int) ≤ many) && decide (many ≤ 20)) = true by simp; omega] at C1
  by_cases p2 : 1 ≤ first ∧ first ≤ many
  case neg =>
    obtain ⟨p1a, p1b⟩ := p1
    by_cases p2a : first < 1
    · clear hno p2
      go_enter Tryd.func35, Tryd.ntmps35
      go_wp2_with fail
      refine (C1.out _).mono ?_
      rintro e w' ⟨rfl, rfl⟩
      go_wp2
      go_ret2
      exact ⟨rfl, rfl⟩
    · have p2b : many < first := by omega
      clear hno p2
      go_enter Tryd.func35, Tryd.ntmps35
      go_wp2_with fail
      refine (C1.out _).mono ?_
      rintro e w' ⟨rfl, rfl⟩
      go_wp2
      go_ret2
      exact ⟨rfl, rfl⟩
  obtain ⟨p1a, p1b⟩ := p1
  obtain ⟨p2a, p2b⟩ := p2
  by_cases p3 : one.size = 32
  case neg =>
    rw [decide_eq_false p3] at C3
    clear hno p3
    go_enter Tryd.func35, Tryd.ntmps35
    go_wp2_with fail
    refine (C1.out _).mono ?_
    rintro e w' ⟨rfl, rfl⟩
    go_wp2_with fail
    refine C3.out.mono ?_
    rintro e w' ⟨rfl, rfl⟩
    go_wp2
    go_ret2
    exact ⟨rfl, rfl⟩
  rw [decide_eq_true p3] at C3
  by_cases p4 : two.size = 32
  case neg =>
    rw [decide_eq_false p4] at C4
    clear hno p4 p3
    go_enter Tryd.func35, Tryd.ntmps35
    go_wp2_with fail
    refine (C1.out _).mono ?_
    rintro e w' ⟨rfl, rfl⟩
    go_wp2_with fail
    refine C3.out.mono ?_
    rintro e w' ⟨rfl, rfl⟩
    go_wp2_with fail
    refine C4.out.mono ?_
    rintro e w' ⟨rfl, rfl⟩
    go_wp2
    go_ret2
    exact ⟨rfl, rfl⟩
  rw [decide_eq_true p4] at C4
  have p5 : okD l = false := by cases h : okD l with
    | false => rfl
    | true => exact absurd ⟨⟨p1a, p1b⟩, ⟨p2a, p2b⟩, p3, p4, h⟩ hno
  rw [p5] at C5
  clear hno p5 p4 p3
  go_enter Tryd.func35, Tryd.ntmps35
  go_wp2_with fail
  refine (C1.out _).mono ?_
  rintro e w' ⟨rfl, rfl⟩
  go_wp2_with fail
  refine C3.out.mono ?_
  rintro e w' ⟨rfl, rfl⟩
  go_wp2_with fail
  refine C4.out.mono ?_
  rintro e w' ⟨rfl, rfl⟩
  go_wp2_with fail
  refine C5.out.mono ?_
  rintro e w' ⟨rfl, rfl⟩
  go_wp2
  go_ret2
  exact ⟨rfl, rfl⟩

set_option maxHeartbeats 2000000 in
theorem specYesG (first many : Int) (one two : ByteArray) (A : Option Addr) (n c B : Nat) (l : List ByteArray) (w : World) (hr : one.size ≤ maxLen) (hlf : two.size ≤ maxLen) (hn : n ≤ 1048576) (hs : ∀ s ∈ l, s.size ≤ maxLen) (hx : Rd w B 1 A n (svs l)) (hc : n ≤ c) (hB : B ≤ w.heap.size) (hyes : okG first many one two l) :
    Calls Tryd.prog 37 #[.int .i64 first, .int .i64 many, .string one, .string two, .slice A n c] w fun e w' => e = .returned (.tuple #[.bool (isG first many one two l), .bool true]) ∧ Below w.heap.size w w' := by
  have hlen := rd_len hx
  have EI : Hid (isG first many one two l = ansG (gnS first.toNat many.toNat one true l) one two) := Lib.hid (by unfold isG; rw [decide_eq_true hyes, Bool.true_and])
  obtain ⟨⟨p1a, p1b⟩, ⟨p2a, p2b⟩, p3, p4, p5⟩ := hyes
  obtain ⟨hd32, hd10⟩ := okD_yes p5
  obtain ⟨m, rfl⟩ : ∃ m : Nat, many = m := ⟨many.toNat, by omega⟩
  obtain ⟨j, rfl⟩ : ∃ j : Nat, first = j := ⟨first.toNat, by omega⟩
  rw [Int.toNat_natCast, Int.toNat_natCast] at EI
  have hj1 : 1 ≤ j := by omega
  have hjm : j ≤ m := by omega
  have hl500 : ∀ s ∈ l, s.size ≤ 500 := fun s h => by rw [hd32 s h]; omega
  have C1 := Lib.hid (fun W => l1B (m : Int) 1 20 W)
  have C2 := Lib.hid (fun W => l1B (j : Int) 1 (m : Int) W)
  have C5 := Lib.hid (T8i.l8Digests A n c l B w hn hs hx)
  have CU := Lib.hid (T8h.l8Grown m j m one true A n c B l w (Nat.le_refl _) hj1 hjm (by omega) (by omega) hc (by omega) hl500 hB hx)
  rw [p5] at C5
  rw [show (decide ((1 : Int) ≤ (m : Int)) && decide ((m : Int) ≤ 20)) = true by simp; omega] at C1
  rw [show (decide ((1 : Int) ≤ (j : Int)) && decide ((j : Int) ≤ (m : Int))) = true by simp; omega] at C2
  have n3 : ((one.size : Int) != 32) = false := by rw [bne_eq_false_iff_eq]; omega
  have n4 : ((two.size : Int) != 32) = false := by rw [bne_eq_false_iff_eq]; omega
  clear hx hs p3 p4 p5 hd32 hlen hl500
  unfold ansG at EI
  generalize (gnS j m one true l).1 = u at *
  generalize (gnS j m one true l).2.1 = v at *
  generalize (gnS j m one true l).2.2 = b at *
  generalize isG j m one two l = r at *
  cases b
  · have ER : Hid (r = false) := Lib.hid (by rw [EI.out]; rfl)
    clear EI
    go_enter Tryd.func37, Tryd.ntmps37
    go_wp2_with fail
    refine (C1.out _).mono ?_
    rintro e w' ⟨rfl, rfl⟩
    go_wp2_with fail
    refine (C2.out _).mono ?_
    rintro e w' ⟨rfl, rfl⟩
    go_wp2_with fail
    refine C5.out.mono ?_
    rintro e w' ⟨rfl, rfl⟩
    go_wp2_with fail
    refine CU.out.mono ?_
    rintro e w1 ⟨rfl, b1⟩
    go_wp2
    go_ret2
    exact ⟨by rw [ER.out]; rfl, b1⟩
  · by_cases hu : u = one
    · subst hu
      by_cases hv : v = two
      · subst hv
        have ER : Hid (r = true) := Lib.hid (by rw [EI.out]; simp)
        clear EI
        go_enter Tryd.func37, Tryd.ntmps37
        go_wp2_with fail
        refine (C1.out _).mono ?_
        rintro e w' ⟨rfl, rfl⟩
        go_wp2_with fail
        refine (C2.out _).mono ?_
        rintro e w' ⟨rfl, rfl⟩
        go_wp2_with fail
        refine C5.out.mono ?_
        rintro e w' ⟨rfl, rfl⟩
        go_wp2_with fail
        refine CU.out.mono ?_
        rintro e w1 ⟨rfl, b1⟩
        go_wp2
        go_ret2
        exact ⟨by rw [ER.out]; first | rfl | simp, b1⟩
      · have hne : (v.toList == two.toList) = false := str_ne hv
        have ER : Hid (r = false) := Lib.hid (by rw [EI.out]; simp [hv])
        clear EI hv
        go_enter Tryd.func37, Tryd.ntmps37
        go_wp2_with fail
        refine (C1.out _).mono ?_
        rintro e w' ⟨rfl, rfl⟩
        go_wp2_with fail
        refine (C2.out _).mono ?_
        rintro e w' ⟨rfl, rfl⟩
        go_wp2_with fail
        refine C5.out.mono ?_
        rintro e w' ⟨rfl, rfl⟩
        go_wp2_with fail
        refine CU.out.mono ?_
        rintro e w1 ⟨rfl, b1⟩
        go_wp2
        go_ret2
        exact ⟨by rw [ER.out]; first | rfl | (simp [hne]), b1⟩
    · have hne : (u.toList == one.toList) = false := str_ne hu
      have ER : Hid (r = false) := Lib.hid (by rw [EI.out]; simp [hu])
      clear EI hu
      go_enter Tryd.func37, Tryd.ntmps37
      go_wp2_with fail
      refine (C1.out _).mono ?_
      rintro e w' ⟨rfl, rfl⟩
      go_wp2_with fail
      refine (C2.out _).mono ?_
      rintro e w' ⟨rfl, rfl⟩
      go_wp2_with fail
      refine C5.out.mono ?_
      rintro e w' ⟨rfl, rfl⟩
      go_wp2_with fail
      refine CU.out.mono ?_
      rintro e w1 ⟨rfl, b1⟩
      go_wp2
      go_ret2
      exact ⟨by rw [ER.out]; first | rfl | (simp [hne]), b1⟩

set_option maxHeartbeats 4000000 in
theorem implG0 (first many : Int) (one two : ByteArray) (A : Option Addr) (n c B : Nat) (l : List ByteArray) (w : World) (hr : one.size ≤ maxLen) (hlf : two.size ≤ maxLen) (hn : n ≤ 1048576) (hs : ∀ s ∈ l, s.size ≤ maxLen) (hx : Rd w B 1 A n (svs l)) (hc : n ≤ c) (hB : B ≤ w.heap.size) (hT : Tbl w) (hyes : okG first many one two l) (hb0 : (last 0 many.toNat first.toNat).1 = 0) :
    Calls Tryd.prog 35 #[.int .i64 first, .int .i64 many, .string one, .string two, .slice A n c] w fun e w' => e = .returned (.tuple #[.bool (isG first many one two l), .bool true]) ∧ Below w.heap.size w w' := by
  have hlen := rd_len hx
  have EI : Hid (isG first many one two l = ansG (gnS first.toNat many.toNat one true l) one two) := Lib.hid (by unfold isG; rw [decide_eq_true hyes, Bool.true_and])
  obtain ⟨⟨p1a, p1b⟩, ⟨p2a, p2b⟩, p3, p4, p5⟩ := hyes
  obtain ⟨hd32, hd10⟩ := okD_yes p5
  obtain ⟨m, rfl⟩ : ∃ m : Nat, many = m := ⟨many.toNat, by omega⟩
  obtain ⟨j, rfl⟩ : ∃ j : Nat, first = j := ⟨first.toNat, by omega⟩
  rw [Int.toNat_natCast, Int.toNat_natCast] at EI
  have hj1 : 1 ≤ j := by omega
  have hjm : j ≤ m := by omega
  have hl500 : ∀ s ∈ l, s.size ≤ 500 := fun s h => by rw [hd32 s h]; omega
  rw [Int.toNat_natCast, Int.toNat_natCast] at hb0
  have C1 := Lib.hid (fun W => isLeafCount (m : Int) W)
  have C3 := Lib.hid (isDigest one w hr)
  have C4 := Lib.hid (isDigest two w hlf)
  have C5 := Lib.hid (T8i.isProof A n c l B w hn hs hx)
  have CL := Lib.hid (fun W => T8g.lastSpan j m W hj1 hjm (by omega))
  rw [decide_eq_true p3] at C3
  rw [decide_eq_true p4] at C4
  rw [p5] at C5
  rw [show (decide ((1 : Int) ≤ (m : Int)) && decide ((m : Int) ≤ 20)) = true by simp; omega] at C1
  obtain ⟨hrch, hend⟩ := last_rch m 0 m j (by omega) (by omega) hjm
  obtain ⟨b, hbe⟩ : ∃ b, (last 0 m j).1 = b := ⟨_, rfl⟩
  rw [hend] at hrch CL
  rw [hbe] at hrch CL hb0
  clear hend
  unfold sp at CL
  have hsl := sib_len m 0 m b j (by omega)
  generalize isG j m one two l = r at *
  subst hb0
  have hhd : hd (last 0 m j).1 (tl one) (l.map tl) = some (tl one, l.map tl) := by unfold hd; rw [if_pos hbe]
  have hxq := hx
  have hq500 := hl500
  have hx500 : one.size ≤ 32 := by omega
  have hst0 : ∀ s ∈ stpS 0 (sib 0 m 0 j) l, s.1.size ≤ 500 := by
    intro s hs
    unfold stpS at hs
    obtain ⟨i, hi1, hi2⟩ := List.getElem_of_mem hs
    rw [List.getElem_zipWith] at hi2
    rw [← hi2]
    exact hq500 _ (List.getElem_mem _)
  have CF := Lib.hid (fun W (h : Below w.heap.size w W) => stepsFrom 0 j m A n c B l (decide (n = (sib 0 m 0 j).length)) W rfl hrch (by omega) (by omega) (by have := h.size; omega) (hxq.below h hB))
  unfold sp at CF
  have hg := gn_of j m one one l l hj1 hjm hhd
  rw [hbe] at hg
  have hql := rd_len hxq
  by_cases hok : n = (sib 0 m 0 j).length
  case neg =>
    have hu := hg.2 (by omega)
    rw [decide_eq_false hok] at CF
    have ER : Hid (r = false) := Lib.hid (by rw [EI.out]; unfold ansG; rw [hu]; rfl)
    clear hx hs p3 p4 p5 hd32 hl500 hlen hu hg EI hst0 hhd hxq hq500 hT hok hql hbe hrch
    go_enter Tryd.func35, Tryd.ntmps35
    go_wp2_with fail
    refine (C1.out _).mono ?_
    rintro e w' ⟨rfl, rfl⟩
    go_wp2_with fail
    refine C3.out.mono ?_
    rintro e w' ⟨rfl, rfl⟩
    go_wp2_with fail
    refine C4.out.mono ?_
    rintro e w' ⟨rfl, rfl⟩
    go_wp2_with fail
    refine C5.out.mono ?_
    rintro e w' ⟨rfl, rfl⟩
    go_wp2_with fail
    refine (CL.out _).mono ?_
    rintro e w1 ⟨rfl, b1⟩
    have k2 := nw1 w1 (.cells #[.int .i64 ((0 : Nat) : Int), .int .i64 (j : Int)] 68)
    have B2 := then_ (n := 0) b1 (al1 w1 (.cells #[.int .i64 ((0 : Nat) : Int), .int .i64 (j : Int)] 68))
    obtain ⟨c0, c1⟩ := row2 k2
    clear b1
    have BB := B2
    go_wp2_with fail
    refine (CF.out _ BB).mono ?_
    rintro e w3 ⟨vs, rfl, -, b3⟩
    go_wp2
    go_ret2
    exact ⟨by rw [ER.out]; rfl, then_ (n := 0) BB b3⟩
  have hu := hg.1 (by omega)
  rw [decide_eq_true hok] at CF
  have hstl : (stpS 0 (sib 0 m 0 j) l).length = n := by simp [stpS]; omega
  rw [hu] at EI
  have hX : one.size ≤ 32 := hx500
  have HT := Lib.hid (fun W (h : Below w.heap.size w W) => hT.below h)
  have EI' : Hid (r = (decide (oldS (stpS 0 (sib 0 m 0 j) l) one = one) && decide (topS (stpS 0 (sib 0 m 0 j) l) one = two))) := Lib.hid (by rw [EI.out]; unfold ansG; rfl)
  generalize stpS 0 (sib 0 m 0 j) l = st at *
  have HST := Lib.hid hst0
  have hN20 : n ≤ 20 := by omega
  clear hx hs p3 p4 p5 hd32 hl500 hlen hu hg EI hst0 hhd hxq hq500 hT hok hql hbe hrch
  go_enter Tryd.func35, Tryd.ntmps35
  go_wp2_with fail
  refine (C1.out _).mono ?_
  rintro e w' ⟨rfl, rfl⟩
  go_wp2_with fail
  refine C3.out.mono ?_
  rintro e w' ⟨rfl, rfl⟩
  go_wp2_with fail
  refine C4.out.mono ?_
  rintro e w' ⟨rfl, rfl⟩
  go_wp2_with fail
  refine C5.out.mono ?_
  rintro e w' ⟨rfl, rfl⟩
  go_wp2_with fail
  refine (CL.out _).mono ?_
  rintro e w1 ⟨rfl, b1⟩
  have k2 := nw1 w1 (.cells #[.int .i64 ((0 : Nat) : Int), .int .i64 (j : Int)] 68)
  have B2 := then_ (n := 0) b1 (al1 w1 (.cells #[.int .i64 ((0 : Nat) : Int), .int .i64 (j : Int)] 68))
  obtain ⟨c0, c1⟩ := row2 k2
  clear b1
  have BB := B2
  go_wp2_with fail
  refine (CF.out _ BB).mono ?_
  rintro e w3 ⟨vs, rfl, o3, b3⟩
  have B3 := then_ (n := 0) BB b3
  have o3 := o3 (by first | rfl | trivial)
  obtain ⟨As, cs, rfl⟩ := own_shapeS o3
  have RS := Lib.hid (Rd.own o3)
  clear o3 b3 BB CF
  go_wp2_with fail
  go_loopw [13, 16, 73] (fun o nw i wr => ∃ k : Nat, k ≤ n ∧ i = .int .i64 k ∧ o = .string (oldS (st.take k) one) ∧ nw = .string (topS (st.take k) one) ∧ Below w3.heap.size w3 wr) (fun _ _ i _ => n - (intOf i).toNat)
  case atStart => exact ⟨0, by omega, rfl, rfl, rfl, Below.refl _ _⟩
  case round =>
    obtain ⟨k, hk, rfl, rfl, rfl, hb⟩ := hrel
    by_cases hlt : k < n
    · obtain ⟨bp, op, u1, u2, rfl, hbp, x1, x2, y1, y2⟩ := rd_two (RS.out.below hb (Nat.le_refl _)) hlt
      have hjs : k < st.length := by omega
      obtain ⟨g1, g2⟩ := sts_at st k hjs
      obtain rfl : u1 = .string st[k].1 := Option.some.inj (x1.symm.trans g1)
      obtain rfl : u2 = .bool st[k].2 := Option.some.inj (x2.symm.trans g2)
      have hds := HST.out _ (List.getElem_mem hjs)
      have ho := oldS_le (st.take k) one hX
      have hp := topS_le (st.take k) one hX
      have EO := oldS_snoc (st.take k) st[k] one
      have EP := topS_snoc (st.take k) st[k] one
      rw [← List.take_succ_eq_append_getElem hjs] at EO EP
      have C1o := Lib.hid (fun W => stepInput st[k].1 (oldS (st.take k) one) st[k].2 W (by omega) (by omega))
      have C1p := Lib.hid (fun W => stepInput st[k].1 (topS (st.take k) one) st[k].2 W (by omega) (by omega))
      rw [show (st[k].1, st[k].2) = st[k] from rfl] at C1o C1p
      have C2o := Lib.hid (fun W (h : Below w.heap.size w W) => T8.treeDigest (inpS st[k] (oldS (st.take k) one)) W (by rw [inp_size]; omega) (HT.out W h))
      have C2p := Lib.hid (fun W (h : Below w.heap.size w W) => T8.treeDigest (inpS st[k] (topS (st.take k) one)) W (by rw [inp_size]; omega) (HT.out W h))
      rw [show bs (dig (tl (inpS st[k] (oldS (st.take k) one)))) = tdS (inpS st[k] (oldS (st.take k) one)) from rfl] at C2o
      rw [show bs (dig (tl (inpS st[k] (topS (st.take k) one)))) = tdS (inpS st[k] (topS (st.take k) one)) from rfl] at C2p
      have HEO := Lib.hid EO
      have HEP := Lib.hid EP
      generalize inpS st[k] (oldS (st.take k) one) = io at *
      generalize inpS st[k] (topS (st.take k) one) = ip at *
      generalize tdS io = dO at *
      generalize tdS ip = dp at *
      generalize oldS (st.take k) one = o at *
      generalize topS (st.take k) one = p at *
      generalize st[k].1 = d at *
      generalize hsa : st[k].2 = sa at *
      have hBw : Below w.heap.size w wr := then_ (n := 0) B3 hb
      have i0' : (0 : Int) ≤ (k : Int) := by omega
      have i1' : (k : Int) < (n : Int) := by omega
      have B6 := al1 wr (.cells #[.string d, .bool sa] 97)
      have k6 := nw1 wr (.cells #[.string d, .bool sa] 97)
      clear x1 x2 g1 g2 hds ho hp EO EP hsa
      cases sa
      · rw [if_neg (by decide)] at HEO
        go_wp2_with fail
        obtain ⟨d0, d1⟩ := row2 k6
        go_wp2_with fail
        refine (C1p.out _).mono ?_
        rintro e w7 ⟨rfl, b7⟩
        go_wp2_with fail
        refine (C2p.out _ (hBw.trans ((B6.trans (b7.mono B6.size)).mono hBw.size))).mono ?_
        rintro e w8 ⟨rfl, b8⟩
        have B8 : Below w3.heap.size w3 w8 := hb.trans ((B6.trans ((b7.trans (b8.mono b7.size)).mono B6.size)).mono hb.size)
        go_wp2
        go_roundw
        case rel => exact ⟨k + 1, by omega, by go_num, by rw [HEO.out], by rw [HEP.out], B8⟩
        case measure => simp [intOf]; omega
      · rw [if_pos rfl] at HEO
        go_wp2_with fail
        obtain ⟨d0, d1⟩ := row2 k6
        go_wp2_with fail
        refine (C1o.out _).mono ?_
        rintro e w4 ⟨rfl, b4⟩
        obtain ⟨d2, d3⟩ := row2 (bx k6 b4)
        go_wp2_with fail
        refine (C2o.out _ (hBw.trans ((B6.trans (b4.mono B6.size)).mono hBw.size))).mono ?_
        rintro e w5 ⟨rfl, b5⟩
        obtain ⟨d4, d5⟩ := row2 (bx (bx k6 b4) b5)
        go_wp2_with fail
        refine (C1p.out _).mono ?_
        rintro e w7 ⟨rfl, b7⟩
        have B7 := B6.trans ((b4.trans ((b5.trans (b7.mono b5.size)).mono b4.size)).mono B6.size)
        go_wp2_with fail
        refine (C2p.out _ (hBw.trans (B7.mono hBw.size))).mono ?_
        rintro e w8 ⟨rfl, b8⟩
        have B8 : Below w3.heap.size w3 w8 := hb.trans ((B7.trans (b8.mono B7.size)).mono hb.size)
        go_wp2
        go_roundw
        case rel => exact ⟨k + 1, by omega, by go_num, by rw [HEO.out], by rw [HEP.out], B8⟩
        case measure => simp [intOf]; omega
    · have e1 : st.take k = st := List.take_of_length_le (by omega)
      have hkn : ¬ (k : Int) < (n : Int) := by omega
      rw [e1]
      have B7 : Below w.heap.size w wr := then_ (n := 0) B3 hb
      generalize oldS st one = u at *
      generalize topS st one = v at *
      clear e1 HT HST RS
      by_cases hu : u = one
      · subst hu
        by_cases hv : v = two
        · subst hv
          have ER : Hid (r = true) := Lib.hid (by rw [EI'.out]; simp)
          clear EI'
          go_wp2
          go_ret2
          exact ⟨by rw [ER.out]; first | rfl | simp, B7⟩
        · have hne : (v.toList == two.toList) = false := str_ne hv
          have ER : Hid (r = false) := Lib.hid (by rw [EI'.out]; simp [hv])
          clear EI' hv
          go_wp2
          go_ret2
          exact ⟨by rw [ER.out]; first | rfl | (simp [hne]), B7⟩
      · have hne : (u.toList == one.toList) = false := str_ne hu
        have ER : Hid (r = false) := Lib.hid (by rw [EI'.out]; simp [hu])
        clear EI' hu
        go_wp2
        go_ret2
        exact ⟨by rw [ER.out]; first | rfl | (simp [hne]), B7⟩

set_option maxHeartbeats 4000000 in
theorem implG1 (first many : Int) (one two : ByteArray) (A : Option Addr) (n c B : Nat) (l : List ByteArray) (w : World) (hr : one.size ≤ maxLen) (hlf : two.size ≤ maxLen) (hn : n ≤ 1048576) (hs : ∀ s ∈ l, s.size ≤ maxLen) (hx : Rd w B 1 A n (svs l)) (hc : n ≤ c) (hB : B ≤ w.heap.size) (hT : Tbl w) (hyes : okG first many one two l) (hb0 : (last 0 many.toNat first.toNat).1 ≠ 0 ∧ n = 0) :
    Calls Tryd.prog 35 #[.int .i64 first, .int .i64 many, .string one, .string two, .slice A n c] w fun e w' => e = .returned (.tuple #[.bool (isG first many one two l), .bool true]) ∧ Below w.heap.size w w' := by
  have hlen := rd_len hx
  have EI : Hid (isG first many one two l = ansG (gnS first.toNat many.toNat one true l) one two) := Lib.hid (by unfold isG; rw [decide_eq_true hyes, Bool.true_and])
  obtain ⟨⟨p1a, p1b⟩, ⟨p2a, p2b⟩, p3, p4, p5⟩ := hyes
  obtain ⟨hd32, hd10⟩ := okD_yes p5
  obtain ⟨m, rfl⟩ : ∃ m : Nat, many = m := ⟨many.toNat, by omega⟩
  obtain ⟨j, rfl⟩ : ∃ j : Nat, first = j := ⟨first.toNat, by omega⟩
  rw [Int.toNat_natCast, Int.toNat_natCast] at EI
  have hj1 : 1 ≤ j := by omega
  have hjm : j ≤ m := by omega
  have hl500 : ∀ s ∈ l, s.size ≤ 500 := fun s h => by rw [hd32 s h]; omega
  rw [Int.toNat_natCast, Int.toNat_natCast] at hb0
  have C1 := Lib.hid (fun W => isLeafCount (m : Int) W)
  have C3 := Lib.hid (isDigest one w hr)
  have C4 := Lib.hid (isDigest two w hlf)
  have C5 := Lib.hid (T8i.isProof A n c l B w hn hs hx)
  have CL := Lib.hid (fun W => T8g.lastSpan j m W hj1 hjm (by omega))
  rw [decide_eq_true p3] at C3
  rw [decide_eq_true p4] at C4
  rw [p5] at C5
  rw [show (decide ((1 : Int) ≤ (m : Int)) && decide ((m : Int) ≤ 20)) = true by simp; omega] at C1
  obtain ⟨hrch, hend⟩ := last_rch m 0 m j (by omega) (by omega) hjm
  obtain ⟨b, hbe⟩ : ∃ b, (last 0 m j).1 = b := ⟨_, rfl⟩
  rw [hend] at hrch CL
  rw [hbe] at hrch CL hb0
  clear hend
  unfold sp at CL
  have hsl := sib_len m 0 m b j (by omega)
  generalize isG j m one two l = r at *
  obtain ⟨hb0, rfl⟩ := hb0
  have hbp : (0 : Int) < (b : Int) := by omega
  obtain rfl := List.eq_nil_of_length_eq_zero hlen
  have hu := gn_none j m one hj1 hjm (by rw [hbe]; exact hb0)
  have ER : Hid (r = false) := Lib.hid (by rw [EI.out]; unfold ansG; rw [hu]; rfl)
  clear hx hs p3 p4 p5 hd32 hl500 hlen hu EI hT hbe hrch
  go_enter Tryd.func35, Tryd.ntmps35
  go_wp2_with fail
  refine (C1.out _).mono ?_
  rintro e w' ⟨rfl, rfl⟩
  go_wp2_with fail
  refine C3.out.mono ?_
  rintro e w' ⟨rfl, rfl⟩
  go_wp2_with fail
  refine C4.out.mono ?_
  rintro e w' ⟨rfl, rfl⟩
  go_wp2_with fail
  refine C5.out.mono ?_
  rintro e w' ⟨rfl, rfl⟩
  go_wp2_with fail
  refine (CL.out _).mono ?_
  rintro e w1 ⟨rfl, b1⟩
  have k2 := nw1 w1 (.cells #[.int .i64 (b : Int), .int .i64 (j : Int)] 68)
  have B2 := then_ (n := 0) b1 (al1 w1 (.cells #[.int .i64 (b : Int), .int .i64 (j : Int)] 68))
  obtain ⟨c0, c1⟩ := row2 k2
  clear b1
  go_wp2
  go_ret2
  exact ⟨by rw [ER.out]; rfl, B2⟩
end Go.Proofs.YtiiklednbhklhaaDoor.T8f
