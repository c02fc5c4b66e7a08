/-
  NewEdge and GoodEdge by both sides; their laws.
-/
import Derived.Test.YtmnihigackilkaaDoorPts
import Derived.Test.YtmnihigackilkaaDoorEdq
namespace Go.Proofs.YtmnihigackilkaaDoor.Edn
open Go.ChangeShapes Go.WideShapes Go.ChangeAt Go.RowKit
open Go.Proofs.YtmnihigackilkaaDoor.Mem Go.Proofs.YtmnihigackilkaaDoor.Ints Go.Proofs.YtmnihigackilkaaDoor.Strs Go.Proofs.YtmnihigackilkaaDoor.Slq Go.Proofs.YtmnihigackilkaaDoor.Rec Go.Proofs.YtmnihigackilkaaDoor.Edg Go.Proofs.YtmnihigackilkaaDoor.Pop Go.Proofs.YtmnihigackilkaaDoor.Bit Go.Proofs.YtmnihigackilkaaDoor.Pts Go.Proofs.YtmnihigackilkaaDoor.Edq
set_option linter.unusedVariables false
set_option maxRecDepth 100000

/-- What a frontier must be. -/
def okE (m : Int) (l : List ByteArray) : Bool := okM m && l.all (fun s => decide (s.size = 32)) && decide (l.length = pc m.toNat)
theorem okE_yes {m : Int} {l : List ByteArray} (h : okE m l = true) : ∃ k : Nat, m = k ∧ k ≤ 1000000 ∧ (∀ s ∈ l, s.size = 32) ∧ l.length = pc k := by
  unfold okE at h
  rw [Bool.and_eq_true, Bool.and_eq_true, List.all_eq_true, decide_eq_true_eq] at h
  obtain ⟨k, rfl, hk⟩ := okM_yes h.1.1
  exact ⟨k, rfl, hk, fun s hs => by have := h.1.2 s hs; simpa using this, by simpa using h.2⟩
theorem okE_of (k : Nat) (l : List ByteArray) (h1 : k ≤ 1000000) (h2 : ∀ s ∈ l, s.size = 32) (h3 : l.length = pc k) : okE k l = true := by
  unfold okE
  rw [Bool.and_eq_true, Bool.and_eq_true, List.all_eq_true, decide_eq_true_eq]
  exact ⟨⟨okM_of k h1, fun s hs => by simpa using h2 s hs⟩, by simpa using h3⟩
def all32 (l : List ByteArray) : Bool := l.all (fun s => decide (s.size = 32))
theorem all32_step (l : List ByteArray) (k : Nat) (h : k < l.length) : all32 (l.drop k) = (decide (l[k].size = 32) && all32 (l.drop (k + 1))) := by
  unfold all32
  rw [List.drop_eq_getElem_cons h, List.all_cons]
set_option maxHeartbeats 4000000 in
theorem specGood (m : Int) (A : Option Addr) (n c : Nat) (l : List ByteArray) (B : Nat) (w : World) (hn : n ≤ 1048576) (hs : ∀ s ∈ l, s.size ≤ maxLen) (hB : B ≤ w.heap.size) (hx : Rd w B 1 A n (svs l)) :
    Calls Tryd.prog 57 #[edV m A n c] w fun e w' => e = .returned (.bool (okE m l)) ∧ Below w.heap.size w w' := by
  unfold edV
  have lx := rd_len hx
  subst lx
  have b0 := al1 w (.cells #[.int .i64 m, .slice A l.length c] 53)
  have HX := Lib.hid (hx.below b0 hB)
  have HS := Lib.hid hs
  have HK := Lib.hid (nw1 w (.cells #[.int .i64 m, .slice A l.length c] 53))
  have C1 := Lib.hid (fun W => inB m 0 1000000 W)
  have C2 : Hid (∀ W, okM m = true → Calls Tryd.prog 119 #[.int .i64 m] W fun e w' => ∃ A c, e = .returned (.slice A (pts m.toNat).length c) ∧ Below W.heap.size W w') := Lib.hid (fun W h => by
    obtain ⟨k, rfl, hk⟩ := okM_yes h
    refine (l9Parts k W hk).mono ?_
    rintro e w' ⟨A, c, rfl, -, hb⟩
    exact ⟨A, c, by simp, hb⟩)
  have HO : Hid (okE m l = (okM m && all32 l && decide (l.length = (pts m.toNat).length))) := Lib.hid rfl
  generalize okE m l = r at *
  have e8 : w.heap.size < (World.alloc w (.cells #[.int .i64 m, .slice A l.length c] 53)).heap.size := by simp
  clear hx hs
  go_enter Tryd.func57, Tryd.ntmps57
  go_wp2_with fail
  generalize World.alloc w _ = W0 at *
  generalize hL : (pts m.toNat).length = pl at *
  go_loopw [8] (fun i wr => ∃ k : Nat, k ≤ l.length ∧ i = .int .i64 k ∧ Hid (all32 l = all32 (l.drop k)) ∧ wr = W0) (fun i _ => l.length - (intOf i).toNat)
  case atStart => exact ⟨0, by omega, rfl, Lib.hid rfl, rfl⟩
  case round =>
    obtain ⟨k, hk, rfl, HA, rfl⟩ := hrel
    by_cases hlt : k < l.length
    · obtain ⟨b, off, hl, rfl, _, hc⟩ := rd_str HX.out hlt
      have hsz := HS.out _ (List.getElem_mem hl)
      have HD := Lib.hid (all32_step l k hl)
      have i0 : (0 : Int) ≤ (k : Int) := by omega
      have i1 : (k : Int) < (l.length : Int) := by omega
      unfold maxLen at hsz
      generalize l[k] = x at *
      by_cases hp : x.size = 32
      · have HA2 : Hid (all32 l = all32 (l.drop (k + 1))) := Lib.hid (by rw [HA.out, HD.out, decide_eq_true hp, Bool.true_and])
        have n1 : ((x.size : Int) != 32) = false := by rw [bne_eq_false_iff_eq]; omega
        clear HA HD hp C1 C2 HO
        go_wp2
        go_roundw
        case rel => exact ⟨k + 1, by omega, by go_num, HA2, by first | rfl | trivial⟩
        case measure => simp [intOf]; omega
      · have HR : Hid (r = false) := Lib.hid (by rw [HO.out, HA.out, HD.out, decide_eq_false hp]; simp)
        have n1 : ((x.size : Int) != 32) = true := by rw [bne_iff_ne]; omega
        obtain rfl : r = false := HR.out
        clear HA HD hp C1 C2 HO HR
        go_wp2
        go_ret
        exact ⟨rfl, b0⟩
    · have HA2 : Hid (all32 l = true) := Lib.hid (by rw [HA.out, List.drop_eq_nil_of_le (by omega)]; rfl)
      obtain ⟨c0, c1⟩ := row2 HK.out
      by_cases hm : okM m = true
      · have h1 : decide (0 ≤ m ∧ m ≤ 1000000) = true := hm
        rw [h1] at C1
        have HR : Hid (((l.length : Int) == (pl : Int)) = r) := Lib.hid (by
          rw [HO.out, HA2.out, hm]
          by_cases q : l.length = pl
          · rw [q]; simp
          · rw [decide_eq_false q, beq_eq_false_iff_ne.2 (by omega)]; rfl)
        have hpl : pl ≤ 21 := by
          obtain ⟨q, rfl, hq⟩ := okM_yes hm
          rw [← hL]; exact pc_le21 _ (by omega)
        have C3 := Lib.hid (fun W => C2.out W hm)
        have D1 : Hid (Below w.heap.size w wr.drew) := Lib.hid b0.drew
        have hD : wr.drew.heap[w.heap.size]? = some (.cells #[.int .i64 m, .slice A l.length c] 53) := HK.out
        have HKD := Lib.hid hD
        clear HA hL C2 HO h1 hD
        go_wp2_with fail
        go_region_held3 (fun w' => w'.cell? ⟨w.heap.size, 0, none⟩ = some (.int .i64 m) ∧ w'.cell? ⟨w.heap.size, 1, none⟩ = some (.slice A l.length c))
          (first | (go_keep; done) | (refine ⟨?_, ?_⟩ <;> with_reducible assumption))
          (first
            | (go_at_call 86; (with_reducible refine (C1.out _).mono ?_); rintro e' w6 ⟨rfl, rfl⟩)
            | (go_at_call 119; (with_reducible refine (C3.out _).mono ?_); rintro e' w7 ⟨A9, c9, rfl, b7⟩; obtain ⟨d6, d7⟩ := row2 (bx HKD.out b7)))
        have BF := Lib.hid (then_ (n := 0) D1.out b7)
        clear HKD b7 d6 d7 c0 c1 D1
        go_wp2
        go_ret
        exact ⟨congrArg (fun b => Ending.returned (Value.bool b)) HR.out, BF.out⟩
      · have h1 : decide (0 ≤ m ∧ m ≤ 1000000) = false := Bool.eq_false_iff.2 hm
        rw [h1] at C1
        have hr : r = false := by rw [HO.out]; simp [show okM m = false from h1]
        subst hr
        clear HA hL C2 HO h1
        go_wp2_with fail
        go_quiet ((go_at_call 86; exact Calls.quiet_of_same ((C1.out _).mono (fun e w' q => ⟨q.1, q.2.symm⟩))))
        go_wp2
        go_ret
        exact ⟨rfl, by first | exact b0 | exact b0.drew | exact below_drewN b0 _⟩
set_option maxHeartbeats 4000000 in
theorem implGood (m : Int) (A : Option Addr) (n c : Nat) (l : List ByteArray) (B : Nat) (w : World) (hn : n ≤ 1048576) (hs : ∀ s ∈ l, s.size ≤ maxLen) (hB : B ≤ w.heap.size) (hx : Rd w B 1 A n (svs l)) :
    Calls Tryd.prog 45 #[edV m A n c] w fun e w' => e = .returned (.bool (okE m l)) ∧ Below w.heap.size w w' := by
  unfold edV
  have lx := rd_len hx
  subst lx
  have b0 := al1 w (.cells #[.int .i64 m, .slice A l.length c] 53)
  have HX := Lib.hid (hx.below b0 hB)
  have HS := Lib.hid hs
  have HK := Lib.hid (nw1 w (.cells #[.int .i64 m, .slice A l.length c] 53))
  have C1 := Lib.hid (fun W => isCount m W)
  have C2 : Hid (∀ W, okM m = true → Calls Tryd.prog 114 #[.int .i64 m] W fun e w' => e = .returned (.int .i64 ((pts m.toNat).length : Int)) ∧ W = w') := Lib.hid (fun W h => by
    obtain ⟨k, rfl, hk⟩ := okM_yes h
    refine (partCount k W hk).mono ?_
    rintro e w' ⟨rfl, rfl⟩
    exact ⟨by simp [pc], rfl⟩)
  have HO : Hid (okE m l = (okM m && all32 l && decide (l.length = (pts m.toNat).length))) := Lib.hid rfl
  have K := Lib.hid (fun s W (h : s.size ≤ maxLen) => Bit.isDigest s W h)
  generalize okE m l = r at *
  clear hx hs
  obtain ⟨c0, c1⟩ := row2 HK.out
  by_cases hm : okM m = true
  · rw [hm] at C1
    have hpl : (pts m.toNat).length ≤ 21 := by
      obtain ⟨q, rfl, hq⟩ := okM_yes hm
      exact pc_le21 _ (by omega)
    have C3 := Lib.hid (fun W => C2.out W hm)
    generalize (pts m.toNat).length = pl at *
    clear C2
    by_cases hq : l.length = pl
    · have n0 : ((l.length : Int) != (pl : Int)) = false := by rw [bne_eq_false_iff_eq]; omega
      have HO2 : Hid (r = all32 l) := Lib.hid (by rw [HO.out, hm, decide_eq_true hq]; simp)
      clear HO hq
      go_enter Tryd.func45, Tryd.ntmps45
      go_wp2_with fail
      generalize World.alloc w _ = W0 at *
      go_quiet (first | (go_at_call 113; exact Calls.quiet_of_same ((C1.out _).mono (fun e w' q => ⟨q.1, q.2.symm⟩))) | (go_at_call 114; exact Calls.quiet_of_same ((C3.out _).mono (fun e w' q => ⟨q.1, q.2.symm⟩))))
      clear C1 C3 n0
      have b1 : Below w.heap.size w (W0.drewN nq) := below_drewN b0 nq
      have HX1 : Hid (Rd (W0.drewN nq) B 1 A l.length (svs l)) := Lib.hid (HX.out.below (below_drewN (Below.refl _ W0) nq) (Nat.le_trans hB b0.size))
      obtain ⟨c0, c1⟩ : (W0.drewN nq).cell? ⟨w.heap.size, 0, none⟩ = some (.int .i64 m) ∧ (W0.drewN nq).cell? ⟨w.heap.size, 1, none⟩ = some (.slice A l.length c) := ⟨c0, c1⟩
      generalize W0.drewN nq = W1 at *
      clear HX HK b0
      go_wp2_with fail
      go_loopw [21] (fun i wr => ∃ k : Nat, k ≤ l.length ∧ i = .int .i64 k ∧ Hid (all32 l = all32 (l.drop k)) ∧ wr = W1) (fun i _ => l.length - (intOf i).toNat)
      case atStart => exact ⟨0, by omega, rfl, Lib.hid rfl, rfl⟩
      case round =>
        obtain ⟨k, hk, rfl, HA, rfl⟩ := hrel
        by_cases hlt : k < l.length
        · obtain ⟨b, off, hl, rfl, _, hc⟩ := rd_str HX1.out hlt
          have hsz := HS.out _ (List.getElem_mem hl)
          have HD := Lib.hid (all32_step l k hl)
          have i0 : (0 : Int) ≤ (k : Int) := by omega
          have i1 : (k : Int) < (l.length : Int) := by omega
          generalize l[k] = x at *
          have KX := Lib.hid (K.out x wr hsz)
          by_cases hp : x.size = 32
          · have HA2 : Hid (all32 l = all32 (l.drop (k + 1))) := Lib.hid (by rw [HA.out, HD.out, decide_eq_true hp, Bool.true_and])
            rw [decide_eq_true hp] at KX
            clear HA HD hp HO2 hsz
            go_wp2_with fail
            refine KX.out.mono ?_
            rintro e w' ⟨rfl, rfl⟩
            go_wp2
            go_roundw
            case rel => exact ⟨k + 1, by omega, by go_num, HA2, by first | rfl | trivial⟩
            case measure => simp [intOf]; omega
          · have HR : Hid (r = false) := Lib.hid (by rw [HO2.out, HA.out, HD.out, decide_eq_false hp]; simp)
            rw [decide_eq_false hp] at KX
            obtain rfl : r = false := HR.out
            clear HA HD hp HO2 HR hsz
            go_wp2_with fail
            refine KX.out.mono ?_
            rintro e w' ⟨rfl, rfl⟩
            go_wp2
            go_ret
            exact ⟨rfl, b1⟩
        · obtain rfl : r = true := by rw [HO2.out, HA.out, List.drop_eq_nil_of_le (by omega)]; rfl
          clear HA HO2
          go_wp2
          go_ret
          exact ⟨rfl, b1⟩
    · have n0 : ((l.length : Int) != (pl : Int)) = true := by rw [bne_iff_ne]; omega
      obtain rfl : r = false := by rw [HO.out, hm, decide_eq_false hq]; simp
      clear HO hq
      go_enter Tryd.func45, Tryd.ntmps45
      go_wp2_with fail
      generalize World.alloc w _ = W0 at *
      go_quiet (first | (go_at_call 113; exact Calls.quiet_of_same ((C1.out _).mono (fun e w' q => ⟨q.1, q.2.symm⟩))) | (go_at_call 114; exact Calls.quiet_of_same ((C3.out _).mono (fun e w' q => ⟨q.1, q.2.symm⟩))))
      go_wp2
      go_ret
      exact ⟨rfl, below_drewN b0 _⟩
  · rw [Bool.eq_false_iff.2 hm] at C1
    obtain rfl : r = false := by rw [HO.out, Bool.eq_false_iff.2 hm]; simp
    clear HO C2
    go_enter Tryd.func45, Tryd.ntmps45
    go_wp2_with fail
    generalize World.alloc w _ = W0 at *
    go_quiet ((go_at_call 113; exact Calls.quiet_of_same ((C1.out _).mono (fun e w' q => ⟨q.1, q.2.symm⟩))))
    go_wp2
    go_ret
    exact ⟨rfl, below_drewN b0 _⟩
end Go.Proofs.YtmnihigackilkaaDoor.Edn
