/-
  CheckProof, by both sides, and its law.
-/
import Derived.Test.YtiiklednbhklhaaDoorT8c
import Derived.Test.YtiiklednbhklhaaDoorT8w
namespace Go.Proofs.YtiiklednbhklhaaDoor.T8d
open Go.ChangeShapes Go.WideShapes Go.ChangeAt Go.RowKit
open Go.Proofs.YtiiklednbhklhaaDoor.Mem Go.Proofs.YtiiklednbhklhaaDoor.Ints Go.Proofs.YtiiklednbhklhaaDoor.Strs Go.Proofs.YtiiklednbhklhaaDoor.ShaComp Go.Proofs.YtiiklednbhklhaaDoor.Digest Go.Proofs.YtiiklednbhklhaaDoor.Mkl Go.Proofs.YtiiklednbhklhaaDoor.Sib Go.Proofs.YtiiklednbhklhaaDoor.Spl Go.Proofs.YtiiklednbhklhaaDoor.Slq Go.Proofs.YtiiklednbhklhaaDoor.Rec Go.Proofs.YtiiklednbhklhaaDoor.T8 Go.Proofs.YtiiklednbhklhaaDoor.T8s Go.Proofs.YtiiklednbhklhaaDoor.T8i Go.Proofs.YtiiklednbhklhaaDoor.T8r Go.Proofs.YtiiklednbhklhaaDoor.T8k Go.Proofs.YtiiklednbhklhaaDoor.T8l Go.Proofs.YtiiklednbhklhaaDoor.T8u Go.Proofs.YtiiklednbhklhaaDoor.T8v Go.Proofs.YtiiklednbhklhaaDoor.T8c
set_option linter.unusedVariables false
set_option maxRecDepth 100000

theorem tl_o1 (a b : ByteArray) : tl (o1 ++ a ++ b) = 1 :: (tl a ++ tl b) := by rw [tl_app, tl_app]; rfl
theorem tl_inp (s : ByteArray × Bool) (own : ByteArray) : tl (inpS s own) = inp (tl s.1, s.2) (tl own) := by
  unfold inpS inp
  cases s.2 <;> simp [tl_o1]
theorem stp_map (b : Nat) (parts : List (Nat × Nat)) (l : List ByteArray) : (stpS b parts l).map (fun p => (tl p.1, p.2)) = stp b parts (l.map tl) := by
  unfold stpS stp
  induction parts generalizing l with
  | nil => simp
  | cons p parts ih =>
    cases l with
    | nil => simp
    | cons x l => simp only [List.zipWith_cons_cons, List.map_cons]; rw [ih]
theorem run_map (st : List (ByteArray × Bool)) (x : ByteArray) : (runS st x).map tl = run dig (st.map (fun p => (tl p.1, p.2))) (tl x) := by
  induction st using Sib.rev with
  | h0 => rfl
  | h1 l s ih =>
    rw [runS_snoc, List.map_append, List.map_append, ih, List.map_cons, List.map_nil, List.map_cons, List.map_nil, run_snoc, tl_inp]
    congr 3
    have hl := runS_len l x
    have h' : l.length < (runS l x).length := by omega
    rw [getLastD_at _ _ _ hl h', ← ih, getLastD_at _ l.length [] (by simpa using hl) (by simpa using h'), List.getElem_map]
    rfl
/-- The last input's digest is the root that the proof tells. -/
theorem last_up (many k : Nat) (leaf : ByteArray) (l : List ByteArray) (hk : k < many) (h : l.length = (sib 0 many k (k + 1)).length) :
    upS many k leaf l = (tdS ((runS (stpS k (sib 0 many k (k + 1)) l) (z1 ++ leaf)).getLastD ⟨#[]⟩), true) := by
  have e := (up_stp dig many 0 many k (tl leaf) (l.map tl) (by omega) (by omega) hk).1 (by simpa using h)
  rw [Nat.sub_zero, Nat.sub_zero] at e
  unfold upS
  rw [e]
  have hl := runS_len (stpS k (sib 0 many k (k + 1)) l) (z1 ++ leaf)
  have h' : (stpS k (sib 0 many k (k + 1)) l).length < (runS (stpS k (sib 0 many k (k + 1)) l) (z1 ++ leaf)).length := by omega
  have t := run_top dig (stp k (sib 0 many k (k + 1)) (l.map tl)) (tl (z1 ++ leaf))
  rw [← stp_map, ← run_map, getLastD_at _ _ [] (by simpa using hl) (by simpa using h'), List.getElem_map] at t
  unfold tdS
  rw [getLastD_at _ _ _ hl h', ← stp_map]
  rw [show dig (tl (z1 ++ leaf)) = leafD dig (tl leaf) by rw [tl_app]; rfl] at t
  rw [t]
theorem not_up (many k : Nat) (leaf : ByteArray) (l : List ByteArray) (hk : k < many) (h : l.length ≠ (sib 0 many k (k + 1)).length) : (upS many k leaf l).2 = false := by
  have e := (up_stp dig many 0 many k (tl leaf) (l.map tl) (by omega) (by omega) hk).2 (by simpa using h)
  rwa [Nat.sub_zero, Nat.sub_zero] at e
theorem isLeafCount (n : Int) (w : World) : Calls Tryd.prog 57 #[.int .i64 n] w fun e w' => e = .returned (.bool (decide (1 ≤ n) && decide (n ≤ 20))) ∧ w = w' := by
  by_cases h0 : 1 ≤ n
  · have E : Hid ((decide (1 ≤ n) && decide (n ≤ 20)) = decide (n ≤ 20)) := Lib.hid (by simp [h0])
    go_enter Tryd.func57, Tryd.ntmps57
    go_wp2
    go_ret
    exact ⟨by rw [E.out]; rfl, rfl⟩
  · have E : Hid ((decide (1 ≤ n) && decide (n ≤ 20)) = false) := Lib.hid (by simp [h0])
    go_enter Tryd.func57, Tryd.ntmps57
    go_wp2
    go_ret
    exact ⟨by rw [E.out]; rfl, rfl⟩
/-- What CheckProof requires. -/
def okC (root : ByteArray) (many k : Int) (leaf : ByteArray) (l : List ByteArray) : Prop := root.size = 32 ∧ (1 ≤ many ∧ many ≤ 20) ∧ (0 ≤ k ∧ k < many) ∧ leaf.size ≤ 100 ∧ okD l = true
instance (root : ByteArray) (many k : Int) (leaf : ByteArray) (l : List ByteArray) : Decidable (okC root many k leaf l) := by unfold okC; infer_instance
/-- What it answers: whether the proof tells the root. -/
def isC (root : ByteArray) (many k : Int) (leaf : ByteArray) (l : List ByteArray) : Bool := decide (okC root many k leaf l) && ((upS many.toNat k.toNat leaf l).2 && decide ((upS many.toNat k.toNat leaf l).1 = root))

set_option maxHeartbeats 2000000 in
theorem specNoC (root : ByteArray) (many k : Int) (leaf : ByteArray) (A : Option Addr) (n c B : Nat) (l : List ByteArray) (w : World) (hr : root.size ≤ maxLen) (hlf : leaf.size ≤ maxLen) (hn : n ≤ 1048576) (hs : ∀ s ∈ l, s.size ≤ maxLen) (hx : Rd w B 1 A n (svs l)) (hno : ¬ okC root many k leaf l) :
    Calls Tryd.prog 21 #[.string root, .int .i64 many, .int .i64 k, .string leaf, .slice A n c] w fun e w' => e = .returned (.tuple #[.bool false, .bool false]) ∧ w = w' := by
  have C1 := Lib.hid (fun W => l1B many 1 20 W)
  have C2 := Lib.hid (fun W => l1B k 0 (many - 1) W)
  have C4 := Lib.hid (T8i.l8Digests A n c l B w hn hs hx)
  unfold okC at hno
  unfold maxLen at hr hlf
  clear hx hs
  by_cases p0 : root.size = 32
  case neg =>
    have n0 : ((root.size : Int) != 32) = true := by rw [bne_iff_ne]; omega
    clear hno p0
    go_enter Tryd.func21, Tryd.ntmps21
    go_wp2
    go_ret2
    exact ⟨rfl, rfl⟩
  have n0 : ((root.size : Int) != 32) = false := by rw [bne_eq_false_iff_eq]; omega
  by_cases p1 : 1 ≤ many ∧ many ≤ 20
  case neg =>
    rw [show (decide ((1 : Int) ≤ many) && decide (many ≤ 20)) = false by simp; omega] at C1
    clear hno p1 p0
    go_enter Tryd.func21, Tryd.ntmps21
    go_wp2_with fail
    refine (C1.out _).mono ?_
    rintro e w' ⟨rfl, rfl⟩
    go_wp2
    go_ret2
    exact ⟨rfl, rfl⟩
  rw [show (decide ((1 : Int) ≤ many) && decide (many ≤ 20)) = true by simp; omega] at C1
  have hw : IntKind.i64.wrap (many - 1) = many - 1 := IntWalk.i64_in _ (by omega)
  by_cases p2 : 0 ≤ k ∧ k < many
  case neg =>
    rw [show (decide ((0 : Int) ≤ k) && decide (k ≤ many - 1)) = false by simp; omega] at C2
    obtain ⟨p1a, p1b⟩ := p1
    clear hno p2 p0
    go_enter Tryd.func21, Tryd.ntmps21
    go_wp2_with fail
    refine (C1.out _).mono ?_
    rintro e w' ⟨rfl, rfl⟩
    go_wp2_with fail
    refine (C2.out _).mono ?_
    rintro e w' ⟨rfl, rfl⟩
    go_wp2
    go_ret2
    exact ⟨rfl, rfl⟩
  rw [show (decide ((0 : Int) ≤ k) && decide (k ≤ many - 1)) = true by simp; omega] at C2
  obtain ⟨p1a, p1b⟩ := p1
  by_cases p3 : leaf.size ≤ 100
  case neg =>
    have n3 : (100 : Int) < (leaf.size : Int) := by omega
    obtain ⟨p2a, p2b⟩ := p2
    clear hno p3 p0
    go_enter Tryd.func21, Tryd.ntmps21
    go_wp2_with fail
    refine (C1.out _).mono ?_
    rintro e w' ⟨rfl, rfl⟩
    go_wp2_with fail
    refine (C2.out _).mono ?_
    rintro e w' ⟨rfl, rfl⟩
    go_wp2
    go_ret2
    exact ⟨rfl, rfl⟩
  have n3 : ¬ (100 : Int) < (leaf.size : Int) := by omega
  have p4 : okD l = false := by cases h : okD l with
    | false => rfl
    | true => exact absurd ⟨p0, ⟨p1a, p1b⟩, p2, p3, h⟩ hno
  rw [p4] at C4
  obtain ⟨p2a, p2b⟩ := p2
  clear hno p4 p3 p0
  go_enter Tryd.func21, Tryd.ntmps21
  go_wp2_with fail
  refine (C1.out _).mono ?_
  rintro e w' ⟨rfl, rfl⟩
  go_wp2_with fail
  refine (C2.out _).mono ?_
  rintro e w' ⟨rfl, rfl⟩
  go_wp2_with fail
  refine C4.out.mono ?_
  rintro e w' ⟨rfl, rfl⟩
  go_wp2
  go_ret2
  exact ⟨rfl, rfl⟩

set_option maxHeartbeats 2000000 in
theorem implNoC (root : ByteArray) (many k : Int) (leaf : ByteArray) (A : Option Addr) (n c B : Nat) (l : List ByteArray) (w : World) (hr : root.size ≤ maxLen) (hlf : leaf.size ≤ maxLen) (hn : n ≤ 1048576) (hs : ∀ s ∈ l, s.size ≤ maxLen) (hx : Rd w B 1 A n (svs l)) (hno : ¬ okC root many k leaf l) :
    Calls Tryd.prog 19 #[.string root, .int .i64 many, .int .i64 k, .string leaf, .slice A n c] w fun e w' => e = .returned (.tuple #[.bool false, .bool false]) ∧ w = w' := by
  have C0 := Lib.hid (isDigest root w hr)
  have C1 := Lib.hid (fun W => isLeafCount many W)
  have C3 := Lib.hid (isLeaf leaf w hlf)
  have C4 := Lib.hid (T8i.isProof A n c l B w hn hs hx)
  unfold okC at hno
  unfold maxLen at hr hlf
  clear hx hs
  by_cases p0 : root.size = 32
  case neg =>
    rw [decide_eq_false p0] at C0
    clear hno p0
    go_enter Tryd.func19, Tryd.ntmps19
    go_wp2_with fail
    refine C0.out.mono ?_
    rintro e w' ⟨rfl, rfl⟩
    go_wp2
    go_ret2
    exact ⟨rfl, rfl⟩
  rw [decide_eq_true p0] at C0
  by_cases p1 : 1 ≤ many ∧ many ≤ 20
  case neg =>
    rw [show (decide ((1 : Int) ≤ many) && decide (many ≤ 20)) = false by simp; omega] at C1
    clear hno p1 p0
    go_enter Tryd.func19, Tryd.ntmps19
    go_wp2_with fail
    refine C0.out.mono ?_
    rintro e w' ⟨rfl, rfl⟩
    go_wp2_with fail
    refine (C1.out _).mono ?_
    rintro e w' ⟨rfl, rfl⟩
    go_wp2
    go_ret2
    exact ⟨rfl, rfl⟩
  rw [show (decide ((1 : Int) ≤ many) && decide (many ≤ 20)) = true by simp; omega] at C1
  by_cases p2 : 0 ≤ k ∧ k < many
  case neg =>
    obtain ⟨p1a, p1b⟩ := p1
    by_cases p2a : k < 0
    · clear hno p2 p0
      go_enter Tryd.func19, Tryd.ntmps19
      go_wp2_with fail
      refine C0.out.mono ?_
      rintro e w' ⟨rfl, rfl⟩
      go_wp2_with fail
      refine (C1.out _).mono ?_
      rintro e w' ⟨rfl, rfl⟩
      go_wp2
      go_ret2
      exact ⟨rfl, rfl⟩
    · have p2b : many ≤ k := by omega
      clear hno p2 p0
      go_enter Tryd.func19, Tryd.ntmps19
      go_wp2_with fail
      refine C0.out.mono ?_
      rintro e w' ⟨rfl, rfl⟩
      go_wp2_with fail
      refine (C1.out _).mono ?_
      rintro e w' ⟨rfl, rfl⟩
      go_wp2
      go_ret2
      exact ⟨rfl, rfl⟩
  obtain ⟨p1a, p1b⟩ := p1
  by_cases p3 : leaf.size ≤ 100
  case neg =>
    rw [decide_eq_false p3] at C3
    obtain ⟨p2a, p2b⟩ := p2
    clear hno p3 p0
    go_enter Tryd.func19, Tryd.ntmps19
    go_wp2_with fail
    refine C0.out.mono ?_
    rintro e w' ⟨rfl, rfl⟩
    go_wp2_with fail
    refine (C1.out _).mono ?_
    rintro e w' ⟨rfl, rfl⟩
    go_wp2_with fail
    refine C3.out.mono ?_
    rintro e w' ⟨rfl, rfl⟩
    go_wp2
    go_ret2
    exact ⟨rfl, rfl⟩
  rw [decide_eq_true p3] at C3
  have p4 : okD l = false := by cases h : okD l with
    | false => rfl
    | true => exact absurd ⟨p0, ⟨p1a, p1b⟩, p2, p3, h⟩ hno
  rw [p4] at C4
  obtain ⟨p2a, p2b⟩ := p2
  clear hno p4 p3 p0
  go_enter Tryd.func19, Tryd.ntmps19
  go_wp2_with fail
  refine C0.out.mono ?_
  rintro e w' ⟨rfl, rfl⟩
  go_wp2_with fail
  refine (C1.out _).mono ?_
  rintro e w' ⟨rfl, rfl⟩
  go_wp2_with fail
  refine C3.out.mono ?_
  rintro e w' ⟨rfl, rfl⟩
  go_wp2_with fail
  refine C4.out.mono ?_
  rintro e w' ⟨rfl, rfl⟩
  go_wp2
  go_ret2
  exact ⟨rfl, rfl⟩

set_option maxHeartbeats 2000000 in
theorem specYesC (root : ByteArray) (many k : Int) (leaf : ByteArray) (A : Option Addr) (n c B : Nat) (l : List ByteArray) (w : World) (hr : root.size ≤ maxLen) (hlf : leaf.size ≤ maxLen) (hn : n ≤ 1048576) (hs : ∀ s ∈ l, s.size ≤ maxLen) (hx : Rd w B 1 A n (svs l)) (hc : n ≤ c) (hB : B ≤ w.heap.size) (hyes : okC root many k leaf l) :
    Calls Tryd.prog 21 #[.string root, .int .i64 many, .int .i64 k, .string leaf, .slice A n c] w fun e w' => e = .returned (.tuple #[.bool (isC root many k leaf l), .bool true]) ∧ Below w.heap.size w w' := by
  have hlen := rd_len hx
  have EI : Hid (isC root many k leaf l = ((upS many.toNat k.toNat leaf l).2 && decide ((upS many.toNat k.toNat leaf l).1 = root))) := Lib.hid (by unfold isC; rw [decide_eq_true hyes, Bool.true_and])
  obtain ⟨p0, ⟨p1a, p1b⟩, ⟨p2a, p2b⟩, p3, p4⟩ := hyes
  obtain ⟨hd32, hd10⟩ := okD_yes p4
  obtain ⟨m, rfl⟩ : ∃ m : Nat, many = m := ⟨many.toNat, by omega⟩
  obtain ⟨j, rfl⟩ : ∃ j : Nat, k = j := ⟨k.toNat, by omega⟩
  rw [Int.toNat_natCast, Int.toNat_natCast] at EI
  have C1 := Lib.hid (fun W => l1B (m : Int) 1 20 W)
  have C2 := Lib.hid (fun W => l1B (j : Int) 0 ((m : Int) - 1) W)
  have C4 := Lib.hid (T8i.l8Digests A n c l B w hn hs hx)
  have CU := Lib.hid (T8c.l8Up m m j leaf A n c B l w (Nat.le_refl _) (by omega) (by omega) (by omega) (by omega) hc (by omega) (fun s h => by rw [hd32 s h]; omega) hB hx)
  rw [p4] at C4
  rw [show (decide ((1 : Int) ≤ (m : Int)) && decide ((m : Int) ≤ 20)) = true by simp; omega] at C1
  rw [show (decide ((0 : Int) ≤ (j : Int)) && decide ((j : Int) ≤ (m : Int) - 1)) = true by simp; omega] at C2
  have n0 : ((root.size : Int) != 32) = false := by rw [bne_eq_false_iff_eq]; omega
  have hw : IntKind.i64.wrap ((m : Int) - 1) = (m : Int) - 1 := IntWalk.i64_in _ (by omega)
  have n3 : ¬ (100 : Int) < (leaf.size : Int) := by omega
  clear hx hs p0 p3 p4 hd32 hlen
  generalize (upS m j leaf l).1 = u at *
  generalize (upS m j leaf l).2 = b at *
  generalize isC root m j leaf l = r at *
  by_cases hb : (b && decide (u = root)) = true
  · obtain ⟨hb1, hb2⟩ := Bool.and_eq_true_iff.1 hb
    obtain rfl : u = root := of_decide_eq_true hb2
    subst hb1
    have ER : Hid (r = true) := Lib.hid (EI.out.trans hb)
    clear hb hb2 EI
    go_enter Tryd.func21, Tryd.ntmps21
    go_wp2_with fail
    refine (C1.out _).mono ?_
    rintro e w' ⟨rfl, rfl⟩
    go_wp2_with fail
    refine (C2.out _).mono ?_
    rintro e w' ⟨rfl, rfl⟩
    go_wp2_with fail
    refine C4.out.mono ?_
    rintro e w' ⟨rfl, rfl⟩
    go_wp2_with fail
    refine CU.out.mono ?_
    rintro e w1 ⟨rfl, b1⟩
    go_wp2
    go_ret2
    exact ⟨by rw [ER.out]; rfl, b1⟩
  · have ER : Hid (r = false) := Lib.hid (EI.out.trans (Bool.eq_false_iff.2 hb))
    clear EI
    cases b
    · clear hb
      go_enter Tryd.func21, Tryd.ntmps21
      go_wp2_with fail
      refine (C1.out _).mono ?_
      rintro e w' ⟨rfl, rfl⟩
      go_wp2_with fail
      refine (C2.out _).mono ?_
      rintro e w' ⟨rfl, rfl⟩
      go_wp2_with fail
      refine C4.out.mono ?_
      rintro e w' ⟨rfl, rfl⟩
      go_wp2_with fail
      refine CU.out.mono ?_
      rintro e w1 ⟨rfl, b1⟩
      go_wp2
      go_ret2
      exact ⟨by rw [ER.out]; rfl, b1⟩
    · have hne : (u.toList == root.toList) = false := str_ne (fun h => hb (by simp [h]))
      clear hb
      go_enter Tryd.func21, Tryd.ntmps21
      go_wp2_with fail
      refine (C1.out _).mono ?_
      rintro e w' ⟨rfl, rfl⟩
      go_wp2_with fail
      refine (C2.out _).mono ?_
      rintro e w' ⟨rfl, rfl⟩
      go_wp2_with fail
      refine C4.out.mono ?_
      rintro e w' ⟨rfl, rfl⟩
      go_wp2_with fail
      refine CU.out.mono ?_
      rintro e w1 ⟨rfl, b1⟩
      go_wp2
      go_ret2
      exact ⟨by rw [ER.out]; first | rfl | (simp [hne]), b1⟩

set_option maxHeartbeats 2000000 in
theorem implYesC (root : ByteArray) (many k : Int) (leaf : ByteArray) (A : Option Addr) (n c B : Nat) (l : List ByteArray) (w : World) (hr : root.size ≤ maxLen) (hlf : leaf.size ≤ maxLen) (hn : n ≤ 1048576) (hs : ∀ s ∈ l, s.size ≤ maxLen) (hx : Rd w B 1 A n (svs l)) (hc : n ≤ c) (hB : B ≤ w.heap.size) (hT : Tbl w) (hyes : okC root many k leaf l) :
    Calls Tryd.prog 19 #[.string root, .int .i64 many, .int .i64 k, .string leaf, .slice A n c] w fun e w' => e = .returned (.tuple #[.bool (isC root many k leaf l), .bool true]) ∧ Below w.heap.size w w' := by
  have hlen := rd_len hx
  have EI : Hid (isC root many k leaf l = ((upS many.toNat k.toNat leaf l).2 && decide ((upS many.toNat k.toNat leaf l).1 = root))) := Lib.hid (by unfold isC; rw [decide_eq_true hyes, Bool.true_and])
  obtain ⟨p0, ⟨p1a, p1b⟩, ⟨p2a, p2b⟩, p3, p4⟩ := hyes
  obtain ⟨hd32, hd10⟩ := okD_yes p4
  obtain ⟨m, rfl⟩ : ∃ m : Nat, many = m := ⟨many.toNat, by omega⟩
  obtain ⟨j, rfl⟩ : ∃ j : Nat, k = j := ⟨k.toNat, by omega⟩
  rw [Int.toNat_natCast, Int.toNat_natCast] at EI
  have hjm : j < m := by omega
  have C0 := Lib.hid (isDigest root w hr)
  have C1 := Lib.hid (fun W => isLeafCount (m : Int) W)
  have C3 := Lib.hid (isLeaf leaf w hlf)
  have C4 := Lib.hid (T8i.isProof A n c l B w hn hs hx)
  have CP := Lib.hid (T8v.pathInputs m j leaf A n c B l (decide (n = (sib 0 m j (j + 1)).length)) w rfl hjm (by omega) hn (by omega) (fun s h => by rw [hd32 s h]; omega) hB hx hT)
  have HT := Lib.hid (fun W (h : Below w.heap.size w W) => hT.below h)
  have hl500 : ∀ s ∈ l, s.size ≤ 500 := fun s h => by rw [hd32 s h]; omega
  have hst0 : ∀ s ∈ stpS j (sib 0 m j (j + 1)) l, s.1.size ≤ 500 := by
    intro s hs
    unfold stpS at hs
    obtain ⟨i, hi1, hi2⟩ := List.getElem_of_mem hs
    rw [List.getElem_zipWith] at hi2
    rw [← hi2]
    exact hl500 _ (List.getElem_mem _)
  rw [decide_eq_true p0] at C0
  rw [decide_eq_true p3] at C3
  rw [p4] at C4
  rw [show (decide ((1 : Int) ≤ (m : Int)) && decide ((m : Int) ≤ 20)) = true by simp; omega] at C1
  have hsl := sib_len m 0 m j (j + 1) (by omega)
  by_cases hok : n = (sib 0 m j (j + 1)).length
  case neg =>
    have hu := not_up m j leaf l hjm (by omega)
    rw [hu] at EI
    rw [decide_eq_false hok] at CP
    have ER : Hid (isC root m j leaf l = false) := Lib.hid EI.out
    generalize isC root m j leaf l = r at *
    clear hx hs p0 p3 p4 hd32 hok hu EI hst0 hl500 hT hlen hsl
    go_enter Tryd.func19, Tryd.ntmps19
    go_wp2_with fail
    refine C0.out.mono ?_
    rintro e w' ⟨rfl, rfl⟩
    go_wp2_with fail
    refine (C1.out _).mono ?_
    rintro e w' ⟨rfl, rfl⟩
    go_wp2_with fail
    refine C3.out.mono ?_
    rintro e w' ⟨rfl, rfl⟩
    go_wp2_with fail
    refine C4.out.mono ?_
    rintro e w' ⟨rfl, rfl⟩
    go_wp2_with fail
    refine CP.out.mono ?_
    rintro e w1 ⟨v, rfl, -, b1⟩
    go_wp2
    go_ret2
    exact ⟨by rw [ER.out]; rfl, b1⟩
  have hu := last_up m j leaf l hjm (by omega)
  rw [hu] at EI
  rw [decide_eq_true hok] at CP
  have hrl := runS_len (stpS j (sib 0 m j (j + 1)) l) (z1 ++ leaf)
  have hstl : (stpS j (sib 0 m j (j + 1)) l).length = n := by simp [stpS]; omega
  rw [hstl] at hrl
  have hnr : n < (runS (stpS j (sib 0 m j (j + 1)) l) (z1 ++ leaf)).length := by omega
  rw [getLastD_at _ n _ hrl hnr] at EI
  have hys := runS_size (stpS j (sib 0 m j (j + 1)) l) (z1 ++ leaf) (by rw [ByteArray.size_append]; show 1 + _ ≤ _; omega) hst0 _ (List.getElem_mem hnr)
  have CT := Lib.hid (fun W (h : Below w.heap.size w W) => T8.treeDigest (runS (stpS j (sib 0 m j (j + 1)) l) (z1 ++ leaf))[n] W hys (HT.out W h))
  have HXS : Hid ((svs (runS (stpS j (sib 0 m j (j + 1)) l) (z1 ++ leaf)))[n]? = some (.string (runS (stpS j (sib 0 m j (j + 1)) l) (z1 ++ leaf))[n])) := Lib.hid (by simp [svs, hnr])
  rw [show bs (dig (tl (runS (stpS j (sib 0 m j (j + 1)) l) (z1 ++ leaf))[n])) = tdS (runS (stpS j (sib 0 m j (j + 1)) l) (z1 ++ leaf))[n] from rfl] at CT
  dsimp only at EI
  rw [Bool.true_and] at EI
  generalize tdS (runS (stpS j (sib 0 m j (j + 1)) l) (z1 ++ leaf))[n] = u at *
  generalize (runS (stpS j (sib 0 m j (j + 1)) l) (z1 ++ leaf))[n] = y at *
  generalize svs (runS (stpS j (sib 0 m j (j + 1)) l) (z1 ++ leaf)) = ys at *
  generalize isC root m j leaf l = r at *
  have hn20 : n ≤ 20 := by omega
  have i1 : (n : Int) < (n : Int) + 1 := by omega
  clear hx hs p0 p3 p4 hd32 hok hu hst0 hl500 hT hlen hsl hrl hnr hys hstl
  by_cases hb : u = root
  · subst hb
    have ER : Hid (r = true) := Lib.hid (by rw [EI.out]; simp)
    clear EI
    go_enter Tryd.func19, Tryd.ntmps19
    go_wp2_with fail
    refine C0.out.mono ?_
    rintro e w' ⟨rfl, rfl⟩
    go_wp2_with fail
    refine (C1.out _).mono ?_
    rintro e w' ⟨rfl, rfl⟩
    go_wp2_with fail
    refine C3.out.mono ?_
    rintro e w' ⟨rfl, rfl⟩
    go_wp2_with fail
    refine C4.out.mono ?_
    rintro e w' ⟨rfl, rfl⟩
    go_wp2_with fail
    refine CP.out.mono ?_
    rintro e w1 ⟨v, rfl, o1, b1⟩
    have o1 := o1 (by first | rfl | trivial)
    obtain ⟨Av, cv, rfl⟩ := own_shapeS o1
    obtain ⟨gv, rfl, hgv⟩ := own_someS o1 (by omega)
    have hc1 := o1.cellAt n (by omega)
    rw [HXS.out] at hc1
    clear o1 HXS
    go_wp2_with fail
    refine (CT.out _ b1).mono ?_
    rintro e w2 ⟨rfl, b2⟩
    go_wp2
    go_ret2
    exact ⟨by rw [ER.out]; rfl, then_ (n := 0) b1 b2⟩
  · have hne : (u.toList == root.toList) = false := str_ne hb
    have ER : Hid (r = false) := Lib.hid (by rw [EI.out]; simp [hb])
    clear EI hb
    go_enter Tryd.func19, Tryd.ntmps19
    go_wp2_with fail
    refine C0.out.mono ?_
    rintro e w' ⟨rfl, rfl⟩
    go_wp2_with fail
    refine (C1.out _).mono ?_
    rintro e w' ⟨rfl, rfl⟩
    go_wp2_with fail
    refine C3.out.mono ?_
    rintro e w' ⟨rfl, rfl⟩
    go_wp2_with fail
    refine C4.out.mono ?_
    rintro e w' ⟨rfl, rfl⟩
    go_wp2_with fail
    refine CP.out.mono ?_
    rintro e w1 ⟨v, rfl, o1, b1⟩
    have o1 := o1 (by first | rfl | trivial)
    obtain ⟨Av, cv, rfl⟩ := own_shapeS o1
    obtain ⟨gv, rfl, hgv⟩ := own_someS o1 (by omega)
    have hc1 := o1.cellAt n (by omega)
    rw [HXS.out] at hc1
    clear o1 HXS
    go_wp2_with fail
    refine (CT.out _ b1).mono ?_
    rintro e w2 ⟨rfl, b2⟩
    go_wp2
    go_ret2
    exact ⟨by rw [ER.out]; first | rfl | (simp [hne]), then_ (n := 0) b1 b2⟩
/-- One answer of both sides. -/
theorem specC (root : ByteArray) (many k : Int) (leaf : ByteArray) (A : Option Addr) (n c B : Nat) (l : List ByteArray) (w : World) (hr : root.size ≤ maxLen) (hlf : leaf.size ≤ maxLen) (hn : n ≤ 1048576) (hs : ∀ s ∈ l, s.size ≤ maxLen) (hx : Rd w B 1 A n (svs l)) (hc : n ≤ c) (hB : B ≤ w.heap.size) : Calls Tryd.prog 21 #[.string root, .int .i64 many, .int .i64 k, .string leaf, .slice A n c] w fun e w' => e = .returned (.tuple #[.bool (isC root many k leaf l), .bool (decide (okC root many k leaf l))]) ∧ Below w.heap.size w w' := by
  by_cases h : okC root many k leaf l
  · rw [decide_eq_true h]; exact specYesC root many k leaf A n c B l w hr hlf hn hs hx hc hB h
  · rw [decide_eq_false h, show isC root many k leaf l = false by unfold isC; rw [decide_eq_false h]; rfl]
    refine (specNoC root many k leaf A n c B l w hr hlf hn hs hx h).mono ?_
    rintro e w' ⟨rfl, rfl⟩; exact ⟨rfl, Below.refl _ _⟩
theorem implC (root : ByteArray) (many k : Int) (leaf : ByteArray) (A : Option Addr) (n c B : Nat) (l : List ByteArray) (w : World) (hr : root.size ≤ maxLen) (hlf : leaf.size ≤ maxLen) (hn : n ≤ 1048576) (hs : ∀ s ∈ l, s.size ≤ maxLen) (hx : Rd w B 1 A n (svs l)) (hc : n ≤ c) (hB : B ≤ w.heap.size) (hT : Tbl w) : Calls Tryd.prog 19 #[.string root, .int .i64 many, .int .i64 k, .string leaf, .slice A n c] w fun e w' => e = .returned (.tuple #[.bool (isC root many k leaf l), .bool (decide (okC root many k leaf l))]) ∧ Below w.heap.size w w' := by
  by_cases h : okC root many k leaf l
  · rw [decide_eq_true h]; exact implYesC root many k leaf A n c B l w hr hlf hn hs hx hc hB hT h
  · rw [decide_eq_false h, show isC root many k leaf l = false by unfold isC; rw [decide_eq_false h]; rfl]
    refine (implNoC root many k leaf A n c B l w hr hlf hn hs hx h).mono ?_
    rintro e w' ⟨rfl, rfl⟩; exact ⟨rfl, Below.refl _ _⟩

set_option maxHeartbeats 1000000 in
theorem walk (root : ByteArray) (many k : Int) (leaf : ByteArray) (A : Option Addr) (n c : Nat) (l : List ByteArray) (hr : root.size ≤ maxLen) (hw1 : (Lit.int .i64 many).wf = true) (hw2 : (Lit.int .i64 k).wf = true) (hlf : leaf.size ≤ maxLen) (hn : n ≤ maxLen) (hs : ∀ s ∈ l, s.size ≤ maxLen) (w : World) (hT : Tbl w) (R1 : Rd w w.heap.size 1 A n (svs l)) :
    Calls Tryd.prog 9 #[.string root, .int .i64 many, .int .i64 k, .string leaf, .slice A n c] w fun e w' => e = .returned (.bool true) ∧ Below w.heap.size w w' := by
  clear hw1 hw2
  have H1 := Lib.hid R1
  have HS := Lib.hid hs
  have HT := Lib.hid (fun W (h : Below w.heap.size w W) => hT.below h)
  have HR := Lib.hid hr
  have HL := Lib.hid hlf
  have Z1 : Calls Tryd.prog 41 #[.slice A n c, .int .i64 1048576] w (Sz 1048576 n l w) := szStrS A n c l w.heap.size 1048576 w hn (Nat.le_refl _) hs R1
  have Z := Lib.hid Z1
  unfold maxLen at hr hlf
  clear R1 hs Z1 hT
  go_enter Tryd.func9, Tryd.ntmps9
  by_cases hbig : 1048576 < root.size
  · clear Z
    go_wp2
    go_ret
    exact ⟨rfl, Below.refl _ _⟩
  by_cases hbig2 : 1048576 < leaf.size
  · clear Z
    go_wp2
    go_ret
    exact ⟨rfl, Below.refl _ _⟩
  go_wp2_with fail
  refine Z.out.mono ?_
  rintro e w' ⟨z, rfl, rfl, hz0, hz1, hz2⟩
  have HZ := Lib.hid hz2
  clear hz2 Z
  by_cases hneg : z < 0
  · clear HZ
    go_wp2
    go_ret
    exact ⟨rfl, Below.refl _ _⟩
  have hnn : n ≤ 1048576 := (HZ.out (by omega)).1
  clear HZ
  have S := Lib.hid (fun g W (o : W.ownsRow (g : Nat) 9 1 (.slice (some ⟨g, 0, none⟩) n n) n (svs l)) => specC root many k leaf (some ⟨g, 0, none⟩) n n W.heap.size l W HR.out HL.out hnn HS.out (Rd.own o) (Nat.le_refl _) (Nat.le_refl _))
  have I := Lib.hid (fun g W (o : W.ownsRow (g : Nat) 9 1 (.slice (some ⟨g, 0, none⟩) n n) n (svs l)) (h : Below w.heap.size w W) => implC root many k leaf (some ⟨g, 0, none⟩) n n W.heap.size l W HR.out HL.out hnn HS.out (Rd.own o) (Nat.le_refl _) (Nat.le_refl _) (HT.out W h))
  generalize isC root many k leaf l = r1 at *
  generalize decide (okC root many k leaf l) = r2 at *
  go_wp2_with fail
  refine (toStrS A n c l w hnn H1.out).mono ?_
  rintro e v1 ⟨rfl, o1, b1⟩
  go_wp2_with fail
  refine (S.out _ _ o1).mono ?_
  rintro e v2 ⟨rfl, b2⟩
  have B2 := Lib.hid (then_ (n := 0) b1 b2)
  clear o1 b1 b2
  go_wp2_with fail
  refine (toStrS A n c l v2 hnn (Rdm H1.out (Nat.le_refl _) B2.out)).mono ?_
  rintro e v3 ⟨rfl, o3, b3⟩
  have B3 := Lib.hid (then_ (n := 0) B2.out b3)
  have O3 := Lib.hid o3
  clear o3 b3 B2
  go_wp2_with fail
  refine (I.out _ _ O3.out B3.out).mono ?_
  rintro e v4 ⟨rfl, b4⟩
  have B4 := Lib.hid (then_ (n := 0) B3.out b4)
  have P3 := Lib.hid (Rdo O3.out b4)
  clear b4 B3 O3 I S HS HT
  cases r1 <;> cases r2
  all_goals
    go_wp2_with fail
    refine (toStrS A n c l v4 hnn (Rdm H1.out (Nat.le_refl _) B4.out)).mono ?_
    rintro e v5 ⟨rfl, o5, b5⟩
    have B5 := Lib.hid (then_ (n := 0) B4.out b5)
    have P3' := Lib.hid (Rdm P3.out (Nat.le_refl _) b5)
    have O5 := Lib.hid (Rd.own o5)
    clear b5 o5 B4 P3
    go_wp2_with fail
    refine (eqSame _ _ n n n l _ _ v5 hnn P3'.out O5.out).mono ?_
    rintro e v6 ⟨rfl, q, rfl⟩
    have B6 := Rec.below_drewN B5.out q
    clear B5 P3' O5 H1
    generalize v5.drewN q = v6 at *
    go_wp2
    go_ret
    exact ⟨rfl, B6⟩
end Go.Proofs.YtiiklednbhklhaaDoor.T8d
