/-
  Lists of leaves and of digests, checked by both sides; parts of a list and the closure of their roots, by the program.
-/
import Derived.Test.YtmnihigackilkaaDoorT8s
namespace Go.Proofs.YtmnihigackilkaaDoor.T8i
open Go.ChangeShapes Go.WideShapes Go.ChangeAt Go.RowKit
open Go.Proofs.YtmnihigackilkaaDoor.Mem Go.Proofs.YtmnihigackilkaaDoor.Ints Go.Proofs.YtmnihigackilkaaDoor.Strs Go.Proofs.YtmnihigackilkaaDoor.ShaComp Go.Proofs.YtmnihigackilkaaDoor.Digest Go.Proofs.YtmnihigackilkaaDoor.DigestI Go.Proofs.YtmnihigackilkaaDoor.Mkl Go.Proofs.YtmnihigackilkaaDoor.Sib Go.Proofs.YtmnihigackilkaaDoor.Spl Go.Proofs.YtmnihigackilkaaDoor.Slq Go.Proofs.YtmnihigackilkaaDoor.Rec Go.Proofs.YtmnihigackilkaaDoor.T8 Go.Proofs.YtmnihigackilkaaDoor.T8s
set_option linter.unusedVariables false
set_option maxRecDepth 100000

def okL (l : List ByteArray) : Bool := l.all (fun s => decide (s.size ≤ 100)) && decide (l.length ≤ 20)
def okD (l : List ByteArray) : Bool := l.all (fun s => decide (s.size = 32)) && decide (l.length ≤ 10)
theorem okL_yes {l : List ByteArray} (h : okL l = true) : leaves l ∧ l.length ≤ 20 := by
  simpa [okL, leaves] using h
theorem okD_yes {l : List ByteArray} (h : okD l = true) : (∀ s ∈ l, s.size = 32) ∧ l.length ≤ 10 := by
  simpa [okD] using h
theorem isLeaf (s : ByteArray) (w : World) (h : s.size ≤ maxLen) : Calls Tryd.prog 82 #[.string s] w fun e w' => e = .returned (.bool (decide (s.size ≤ 100))) ∧ w = w' := by
  have E : Hid (decide (s.size ≤ 100) = decide ((s.size : Int) ≤ 100)) := Lib.hid (by congr 1; simp; omega)
  go_enter Tryd.func82, Tryd.ntmps82
  go_wp2
  go_ret
  exact ⟨by rw [E.out]; rfl, rfl⟩
theorem isDigest (s : ByteArray) (w : World) (h : s.size ≤ maxLen) : Calls Tryd.prog 80 #[.string s] w fun e w' => e = .returned (.bool (decide (s.size = 32))) ∧ w = w' := by
  by_cases h32 : s.size = 32
  · have e : ((s.size : Int) == 32) = true := by simp; omega
    rw [decide_eq_true h32]
    clear h32
    go_enter Tryd.func80, Tryd.ntmps80
    go_wp2
    go_ret
    exact ⟨by first | rfl | rw [e], rfl⟩
  · have e : ((s.size : Int) == 32) = false := by simp; omega
    rw [decide_eq_false h32]
    clear h32
    go_enter Tryd.func80, Tryd.ntmps80
    go_wp2
    go_ret
    exact ⟨by first | rfl | rw [e], rfl⟩

set_option maxHeartbeats 1000000 in
theorem areLeaves (A : Option Addr) (n c : Nat) (l : List ByteArray) (B : Nat) (w : World) (hn : n ≤ 1048576) (hs : ∀ s ∈ l, s.size ≤ maxLen) (hx : Rd w B 1 A n (svs l)) :
    Calls Tryd.prog 72 #[.slice A n c] w fun e w' => e = .returned (.bool (okL l)) ∧ w = w' := by
  have lx := rd_len hx
  subst lx
  have K := Lib.hid (fun s W (h : s.size ≤ maxLen) => isLeaf s W h)
  have HX := Lib.hid hx
  have HS := Lib.hid hs
  have HO : Hid (okL l = (l.all (fun s => decide (s.size ≤ 100)) && decide (l.length ≤ 20))) := Lib.hid rfl
  clear hx hs
  generalize okL l = r at *
  go_enter Tryd.func72, Tryd.ntmps72
  go_wp2
  go_loopw [7] (fun i wr => ∃ k : Nat, k ≤ l.length ∧ i = .int .i64 k ∧ Hid (l.all (fun s => decide (s.size ≤ 100)) = (l.drop k).all (fun s => decide (s.size ≤ 100))) ∧ wr = w) (fun i _ => l.length - (intOf i).toNat)
  case atStart => exact ⟨0, by omega, rfl, Lib.hid rfl, rfl⟩
  case round =>
    obtain ⟨k, hk, rfl, HA, rfl⟩ := hrel
    by_cases hlt : k < l.length
    · obtain ⟨b, off, hl, rfl, _, hc⟩ := rd_str HX.out hlt
      have hsz := HS.out _ (List.getElem_mem hl)
      have HD : Hid ((l.drop k).all (fun s => decide (s.size ≤ 100)) = ((fun s : ByteArray => decide (s.size ≤ 100)) l[k] && (l.drop (k + 1)).all (fun s => decide (s.size ≤ 100)))) := Lib.hid (by rw [List.drop_eq_getElem_cons hl, List.all_cons])
      have i0 : (0 : Int) ≤ (k : Int) := by omega
      have i1 : (k : Int) < (l.length : Int) := by omega
      generalize l[k] = x at *
      by_cases hp : (fun s : ByteArray => decide (s.size ≤ 100)) x = true
      · have HA2 : Hid (l.all (fun s => decide (s.size ≤ 100)) = (l.drop (k + 1)).all (fun s => decide (s.size ≤ 100))) := Lib.hid (by rw [HA.out, HD.out, hp, Bool.true_and])
        have hp' := hp
        simp only [decide_eq_true_eq] at hp'
        clear HA HD
        go_wp2_with fail
        refine (K.out _ _ hsz).mono ?_
        rintro e w' ⟨rfl, rfl⟩
        rw [show (decide (x.size ≤ 100)) = true from hp]
        go_wp2
        go_roundw
        case rel => exact ⟨k + 1, by omega, by go_num, HA2, by first | rfl | trivial⟩
        case measure => simp [intOf]; omega
      · have HR : Hid (r = false) := Lib.hid (by rw [HO.out, HA.out, HD.out, Bool.eq_false_iff.2 hp]; rfl)
        have hp' := hp
        simp only [decide_eq_true_eq] at hp'
        have hp2 : (fun s : ByteArray => decide (s.size ≤ 100)) x = false := Bool.eq_false_iff.2 hp
        clear HA HD
        go_wp2_with fail
        refine (K.out _ _ hsz).mono ?_
        rintro e w' ⟨rfl, rfl⟩
        rw [show (decide (x.size ≤ 100)) = false from hp2]
        go_wp2
        go_ret
        exact ⟨by rw [HR.out]; rfl, rfl⟩
    · obtain rfl : k = l.length := by omega
      have HR : Hid (r = decide (l.length ≤ 20)) := Lib.hid (by rw [HO.out, HA.out]; simp)
      clear HA
      go_wp2
      go_ret
      exact ⟨by rw [HR.out]; congr 2; simp; omega, rfl⟩

set_option maxHeartbeats 1000000 in
theorem l8Leaves (A : Option Addr) (n c : Nat) (l : List ByteArray) (B : Nat) (w : World) (hn : n ≤ 1048576) (hs : ∀ s ∈ l, s.size ≤ maxLen) (hx : Rd w B 1 A n (svs l)) :
    Calls Tryd.prog 75 #[.slice A n c] w fun e w' => e = .returned (.bool (okL l)) ∧ w = w' := by
  have lx := rd_len hx
  subst lx
  have HX := Lib.hid hx
  have HS := Lib.hid hs
  have HO : Hid (okL l = (l.all (fun s => decide (s.size ≤ 100)) && decide (l.length ≤ 20))) := Lib.hid rfl
  clear hx hs
  generalize okL l = r at *
  go_enter Tryd.func75, Tryd.ntmps75
  go_wp2
  go_loopw [7] (fun i wr => ∃ k : Nat, k ≤ l.length ∧ i = .int .i64 k ∧ Hid (l.all (fun s => decide (s.size ≤ 100)) = (l.drop k).all (fun s => decide (s.size ≤ 100))) ∧ wr = w) (fun i _ => l.length - (intOf i).toNat)
  case atStart => exact ⟨0, by omega, rfl, Lib.hid rfl, rfl⟩
  case round =>
    obtain ⟨k, hk, rfl, HA, rfl⟩ := hrel
    by_cases hlt : k < l.length
    · obtain ⟨b, off, hl, rfl, _, hc⟩ := rd_str HX.out hlt
      have hsz := HS.out _ (List.getElem_mem hl)
      have HD : Hid ((l.drop k).all (fun s => decide (s.size ≤ 100)) = ((fun s : ByteArray => decide (s.size ≤ 100)) l[k] && (l.drop (k + 1)).all (fun s => decide (s.size ≤ 100)))) := Lib.hid (by rw [List.drop_eq_getElem_cons hl, List.all_cons])
      have i0 : (0 : Int) ≤ (k : Int) := by omega
      have i1 : (k : Int) < (l.length : Int) := by omega
      generalize l[k] = x at *
      by_cases hp : (fun s : ByteArray => decide (s.size ≤ 100)) x = true
      · have HA2 : Hid (l.all (fun s => decide (s.size ≤ 100)) = (l.drop (k + 1)).all (fun s => decide (s.size ≤ 100))) := Lib.hid (by rw [HA.out, HD.out, hp, Bool.true_and])
        have hp' := hp
        simp only [decide_eq_true_eq] at hp'
        clear HA HD
        go_wp2
        go_roundw
        case rel => exact ⟨k + 1, by omega, by go_num, HA2, by first | rfl | trivial⟩
        case measure => simp [intOf]; omega
      · have HR : Hid (r = false) := Lib.hid (by rw [HO.out, HA.out, HD.out, Bool.eq_false_iff.2 hp]; rfl)
        have hp' := hp
        simp only [decide_eq_true_eq] at hp'
        have hp2 : (fun s : ByteArray => decide (s.size ≤ 100)) x = false := Bool.eq_false_iff.2 hp
        clear HA HD
        go_wp2
        go_ret
        exact ⟨by rw [HR.out]; rfl, rfl⟩
    · obtain rfl : k = l.length := by omega
      have HR : Hid (r = decide (l.length ≤ 20)) := Lib.hid (by rw [HO.out, HA.out]; simp)
      clear HA
      go_wp2
      go_ret
      exact ⟨by rw [HR.out]; congr 2; simp; omega, rfl⟩

set_option maxHeartbeats 1000000 in
theorem isProof (A : Option Addr) (n c : Nat) (l : List ByteArray) (B : Nat) (w : World) (hn : n ≤ 1048576) (hs : ∀ s ∈ l, s.size ≤ maxLen) (hx : Rd w B 1 A n (svs l)) :
    Calls Tryd.prog 83 #[.slice A n c] w fun e w' => e = .returned (.bool (okD l)) ∧ w = w' := by
  have lx := rd_len hx
  subst lx
  have K := Lib.hid (fun s W (h : s.size ≤ maxLen) => isDigest s W h)
  have HX := Lib.hid hx
  have HS := Lib.hid hs
  have HO : Hid (okD l = (l.all (fun s => decide (s.size = 32)) && decide (l.length ≤ 10))) := Lib.hid rfl
  clear hx hs
  generalize okD l = r at *
  go_enter Tryd.func83, Tryd.ntmps83
  go_wp2
  go_loopw [7] (fun i wr => ∃ k : Nat, k ≤ l.length ∧ i = .int .i64 k ∧ Hid (l.all (fun s => decide (s.size = 32)) = (l.drop k).all (fun s => decide (s.size = 32))) ∧ wr = w) (fun i _ => l.length - (intOf i).toNat)
  case atStart => exact ⟨0, by omega, rfl, Lib.hid rfl, rfl⟩
  case round =>
    obtain ⟨k, hk, rfl, HA, rfl⟩ := hrel
    by_cases hlt : k < l.length
    · obtain ⟨b, off, hl, rfl, _, hc⟩ := rd_str HX.out hlt
      have hsz := HS.out _ (List.getElem_mem hl)
      have HD : Hid ((l.drop k).all (fun s => decide (s.size = 32)) = ((fun s : ByteArray => decide (s.size = 32)) l[k] && (l.drop (k + 1)).all (fun s => decide (s.size = 32)))) := Lib.hid (by rw [List.drop_eq_getElem_cons hl, List.all_cons])
      have i0 : (0 : Int) ≤ (k : Int) := by omega
      have i1 : (k : Int) < (l.length : Int) := by omega
      generalize l[k] = x at *
      by_cases hp : (fun s : ByteArray => decide (s.size = 32)) x = true
      · have HA2 : Hid (l.all (fun s => decide (s.size = 32)) = (l.drop (k + 1)).all (fun s => decide (s.size = 32))) := Lib.hid (by rw [HA.out, HD.out, hp, Bool.true_and])
        have hp' := hp
        simp only [decide_eq_true_eq] at hp'
        clear HA HD
        go_wp2_with fail
        refine (K.out _ _ hsz).mono ?_
        rintro e w' ⟨rfl, rfl⟩
        rw [show (decide (x.size = 32)) = true from hp]
        go_wp2
        go_roundw
        case rel => exact ⟨k + 1, by omega, by go_num, HA2, by first | rfl | trivial⟩
        case measure => simp [intOf]; omega
      · have HR : Hid (r = false) := Lib.hid (by rw [HO.out, HA.out, HD.out, Bool.eq_false_iff.2 hp]; rfl)
        have hp' := hp
        simp only [decide_eq_true_eq] at hp'
        have hp2 : (fun s : ByteArray => decide (s.size = 32)) x = false := Bool.eq_false_iff.2 hp
        clear HA HD
        go_wp2_with fail
        refine (K.out _ _ hsz).mono ?_
        rintro e w' ⟨rfl, rfl⟩
        rw [show (decide (x.size = 32)) = false from hp2]
        go_wp2
        go_ret
        exact ⟨by rw [HR.out]; rfl, rfl⟩
    · obtain rfl : k = l.length := by omega
      have HR : Hid (r = decide (l.length ≤ 10)) := Lib.hid (by rw [HO.out, HA.out]; simp)
      clear HA
      go_wp2
      go_ret
      exact ⟨by rw [HR.out]; congr 2; simp; omega, rfl⟩

set_option maxHeartbeats 1000000 in
theorem l8Digests (A : Option Addr) (n c : Nat) (l : List ByteArray) (B : Nat) (w : World) (hn : n ≤ 1048576) (hs : ∀ s ∈ l, s.size ≤ maxLen) (hx : Rd w B 1 A n (svs l)) :
    Calls Tryd.prog 87 #[.slice A n c] w fun e w' => e = .returned (.bool (okD l)) ∧ w = w' := by
  have lx := rd_len hx
  subst lx
  have HX := Lib.hid hx
  have HS := Lib.hid hs
  have HO : Hid (okD l = (l.all (fun s => decide (s.size = 32)) && decide (l.length ≤ 10))) := Lib.hid rfl
  clear hx hs
  generalize okD l = r at *
  go_enter Tryd.func87, Tryd.ntmps87
  go_wp2
  go_loopw [7] (fun i wr => ∃ k : Nat, k ≤ l.length ∧ i = .int .i64 k ∧ Hid (l.all (fun s => decide (s.size = 32)) = (l.drop k).all (fun s => decide (s.size = 32))) ∧ wr = w) (fun i _ => l.length - (intOf i).toNat)
  case atStart => exact ⟨0, by omega, rfl, Lib.hid rfl, rfl⟩
  case round =>
    obtain ⟨k, hk, rfl, HA, rfl⟩ := hrel
    by_cases hlt : k < l.length
    · obtain ⟨b, off, hl, rfl, _, hc⟩ := rd_str HX.out hlt
      have hsz := HS.out _ (List.getElem_mem hl)
      have HD : Hid ((l.drop k).all (fun s => decide (s.size = 32)) = ((fun s : ByteArray => decide (s.size = 32)) l[k] && (l.drop (k + 1)).all (fun s => decide (s.size = 32)))) := Lib.hid (by rw [List.drop_eq_getElem_cons hl, List.all_cons])
      have i0 : (0 : Int) ≤ (k : Int) := by omega
      have i1 : (k : Int) < (l.length : Int) := by omega
      generalize l[k] = x at *
      by_cases hp : (fun s : ByteArray => decide (s.size = 32)) x = true
      · have HA2 : Hid (l.all (fun s => decide (s.size = 32)) = (l.drop (k + 1)).all (fun s => decide (s.size = 32))) := Lib.hid (by rw [HA.out, HD.out, hp, Bool.true_and])
        have hp' := hp
        simp only [decide_eq_true_eq] at hp'
        clear HA HD
        go_wp2
        go_roundw
        case rel => exact ⟨k + 1, by omega, by go_num, HA2, by first | rfl | trivial⟩
        case measure => simp [intOf]; omega
      · have HR : Hid (r = false) := Lib.hid (by rw [HO.out, HA.out, HD.out, Bool.eq_false_iff.2 hp]; rfl)
        have hp' := hp
        simp only [decide_eq_true_eq] at hp'
        have hp2 : (fun s : ByteArray => decide (s.size = 32)) x = false := Bool.eq_false_iff.2 hp
        clear HA HD
        go_wp2
        go_ret
        exact ⟨by rw [HR.out]; rfl, rfl⟩
    · obtain rfl : k = l.length := by omega
      have HR : Hid (r = decide (l.length ≤ 10)) := Lib.hid (by rw [HO.out, HA.out]; simp)
      clear HA
      go_wp2
      go_ret
      exact ⟨by rw [HR.out]; congr 2; simp; omega, rfl⟩
end Go.Proofs.YtmnihigackilkaaDoor.T8i
