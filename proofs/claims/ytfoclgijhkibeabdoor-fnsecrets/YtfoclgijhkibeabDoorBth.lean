/-
  Several signatures of one key: contracts of both sides.
-/
import Derived.Test.YtfoclgijhkibeabDoorSgq
namespace Go.Proofs.YtfoclgijhkibeabDoor.Bth
open Go.ChangeShapes Go.WideShapes Go.ChangeAt Go.RowKit
open Go.Proofs.YtfoclgijhkibeabDoor.Mem Go.Proofs.YtfoclgijhkibeabDoor.Ints Go.Proofs.YtfoclgijhkibeabDoor.Strs Go.Proofs.YtfoclgijhkibeabDoor.Key Go.Proofs.YtfoclgijhkibeabDoor.Cha Go.Proofs.YtfoclgijhkibeabDoor.Chb Go.Proofs.YtfoclgijhkibeabDoor.Rec Go.Proofs.YtfoclgijhkibeabDoor.Chk Go.Proofs.YtfoclgijhkibeabDoor.Chl Go.Proofs.YtfoclgijhkibeabDoor.Sgs Go.Proofs.YtfoclgijhkibeabDoor.Sgq
set_option linter.unusedVariables false
set_option maxRecDepth 100000

def ck (k : Int) (s : ByteArray) (p : Sg) : Bool := (okK k && okT s) && okX p.1 p.2
def hd (k : Int) (s : ByteArray) (p : Sg) : Bool := ck k s p && hold k.toNat s p.1.toNat p.2.toNat
theorem implCk (k : Int) (s : ByteArray) (p : Sg) (hs : s.size ≤ maxLen) (W : World) (hT : Tb W) : Calls Tryd.prog 17 #[.int .i64 k, .string s, .agg #[.int .i64 p.1, .int .i64 p.2]] W fun e w' => e = .returned (.tuple #[.bool (hd k s p), .bool (ck k s p)]) ∧ Below W.heap.size W w' := by
  obtain ⟨x, b, I, -, rfl, rfl⟩ := checkBoth k s p.1 p.2 hs
  exact I W hT
theorem specCk (k : Int) (s : ByteArray) (p : Sg) (hs : s.size ≤ maxLen) (W : World) : Calls Tryd.prog 62 #[.int .i64 k, .string s, .agg #[.int .i64 p.1, .int .i64 p.2]] W fun e w' => e = .returned (.tuple #[.bool (hd k s p), .bool (ck k s p)]) ∧ Below W.heap.size W w' := by
  obtain ⟨x, b, -, S, rfl, rfl⟩ := checkBoth k s p.1 p.2 hs
  exact S W
def bhL (k : Int) : List ByteArray → List Sg → Bool → Bool × Bool
  | s :: l, p :: a, h => if ck k s p then bhL k l a (h && hd k s p) else (false, false)
  | _, _, h => (h, true)
theorem bhL_end (k : Int) (l : List ByteArray) (a : List Sg) (h : Bool) (hl : l = []) : bhL k l a h = (h, true) := by subst hl; cases a <;> rfl
theorem bhL_step (k : Int) (l : List ByteArray) (a : List Sg) (j : Nat) (h : Bool) (hl : j < l.length) (ha : j < a.length) : bhL k (l.drop j) (a.drop j) h = if ck k l[j] a[j] then bhL k (l.drop (j + 1)) (a.drop (j + 1)) (h && hd k l[j] a[j]) else (false, false) := by
  rw [List.drop_eq_getElem_cons hl, List.drop_eq_getElem_cons ha]; rfl
def bh (k : Int) (l : List ByteArray) (a : List Sg) : Bool × Bool := if okK k && (decide (l.length ≤ 10) && decide (l.length = a.length)) then bhL k l a true else (false, false)
theorem bh_key (k : Int) (l : List ByteArray) (a : List Sg) (h : okK k = false) (hn : 0 < l.length) (ha : 0 < a.length) : bhL k l a true = (false, false) := by
  match l, a, hn, ha with
  | s :: l, p :: a, _, _ => simp [bhL, ck, h]
set_option maxHeartbeats 2000000 in
theorem implBoth (k : Int) (A : Option Addr) (n c : Nat) (l : List ByteArray) (D : Option Addr) (m d : Nat) (a : List Sg) (w : World) (u v : Bool) (hn : n ≤ 1048576) (hm : m ≤ maxLen) (hs : ∀ s ∈ l, s.size ≤ maxLen) (hx : Rd w w.heap.size 1 A n (svs l)) (hy : Rd w w.heap.size 2 D m (sgs a)) (hT : Tb w) (hA : Hid (bh k l a = (u, v))) :
    Calls Tryd.prog 15 #[.int .i64 k, .slice A n c, .slice D m d] w fun e w' => e = .returned (.tuple #[.bool u, .bool v]) ∧ Below w.heap.size w w' := by
  have lx := rd_len hx
  have ly := rd_sg_len hy
  subst lx ly
  unfold maxLen at hm
  have K := Lib.hid (fun W => implKey k W)
  have HX := Lib.hid hx
  have HY := Lib.hid hy
  have HS := Lib.hid hs
  have HT := Lib.hid (fun W (h : Below w.heap.size w W) => hT.below h)
  clear hx hy hs hT
  cases hk : okK k
  · obtain ⟨rfl, rfl⟩ : u = false ∧ v = false := by have := hA.out; unfold bh at this; rw [hk] at this; simpa [eq_comm] using this
    rw [hk] at K
    clear hA hk
    go_enter Tryd.func15, Tryd.ntmps15
    go_wp2_with fail
    refine (K.out _).mono ?_
    rintro e w' ⟨rfl, rfl⟩
    go_wp2
    go_ret2
    exact ⟨rfl, Below.refl _ _⟩
  rw [hk] at K
  by_cases h10 : 10 < l.length
  · obtain ⟨rfl, rfl⟩ : u = false ∧ v = false := by have := hA.out; unfold bh at this; rw [show decide (l.length ≤ 10) = false by simp; omega] at this; simpa [eq_comm] using this
    clear hA hk
    go_enter Tryd.func15, Tryd.ntmps15
    go_wp2_with fail
    refine (K.out _).mono ?_
    rintro e w' ⟨rfl, rfl⟩
    go_wp2
    go_ret2
    exact ⟨rfl, Below.refl _ _⟩
  by_cases hnm : l.length = a.length
  case neg =>
    obtain ⟨rfl, rfl⟩ : u = false ∧ v = false := by have := hA.out; unfold bh at this; rw [show decide (l.length = a.length) = false by simp [hnm]] at this; simpa [eq_comm] using this
    have hne : ((l.length : Int) != (a.length : Int)) = true := by rw [bne_iff_ne]; omega
    clear hA hk hnm
    go_enter Tryd.func15, Tryd.ntmps15
    go_wp2_with fail
    refine (K.out _).mono ?_
    rintro e w' ⟨rfl, rfl⟩
    go_wp2
    go_ret2
    exact ⟨rfl, Below.refl _ _⟩
  have HA : Hid (bhL k l a true = (u, v)) := Lib.hid (by rw [← hA.out]; unfold bh; rw [hk, show decide (l.length ≤ 10) = true by simp; omega, show decide (l.length = a.length) = true by simp [hnm]]; rfl)
  have hne : ((l.length : Int) != (a.length : Int)) = false := by rw [bne_eq_false_iff_eq]; omega
  have HNM := Lib.hid hnm
  clear hA hk hnm
  go_enter Tryd.func15, Tryd.ntmps15
  go_wp2_with fail
  refine (K.out _).mono ?_
  rintro e w' ⟨rfl, rfl⟩
  clear K
  go_wp2
  go_loopw [8, 30] (fun s i wr => ∃ (j : Nat) (h : Bool), j ≤ l.length ∧ i = .int .i64 j ∧ s = .bool h ∧ Hid (bhL k (l.drop j) (a.drop j) h = (u, v)) ∧ Below w.heap.size w wr) (fun _ i _ => l.length - (intOf i).toNat)
  case atStart => exact ⟨0, true, by omega, rfl, rfl, HA, Below.refl _ _⟩
  case round =>
    obtain ⟨j, h, hj, rfl, rfl, HB, hb⟩ := hrel
    by_cases hlt : j < l.length
    · obtain ⟨b, off, hll, rfl, hbB, hc⟩ := rd_str (HX.out.below hb (Nat.le_refl _)) hlt
      obtain ⟨b', off', hal, rfl, hbB', hc', hd'⟩ := rd_sg (HY.out.below hb (Nat.le_refl _)) (show j < a.length by have := HNM.out; omega)
      have C := Lib.hid (fun W (h : Tb W) => implCk k l[j] a[j] (HS.out _ (List.getElem_mem hll)) W h)
      have HST := Lib.hid (bhL_step k l a j h hll hal)
      have hja : (j : Int) < (a.length : Int) := by omega
      have hjl : (j : Int) < (l.length : Int) := by omega
      have i0 : (0 : Int) ≤ (j : Int) := by omega
      generalize ck k l[j] a[j] = cb at *
      generalize hd k l[j] a[j] = hb' at *
      generalize l[j] = s at *
      generalize a[j].1 = X at *
      generalize a[j].2 = Y at *
      have HTb := Lib.hid (HT.out _ hb)
      clear HA
      go_wp2_with fail
      refine (C.out _ HTb.out).mono ?_
      rintro e w1 ⟨rfl, hb1⟩
      have hB1 := hb.trans (hb1.mono hb.size)
      clear hb1 hb C HTb hc hc' hd'
      cases cb
      · obtain ⟨rfl, rfl⟩ : u = false ∧ v = false := by have := HB.out; rw [HST.out] at this; simpa [eq_comm] using this
        clear HB HST
        go_wp2
        go_ret2
        exact ⟨rfl, hB1⟩
      · have HN : Hid (bhL k (l.drop (j + 1)) (a.drop (j + 1)) (h && hb') = (u, v)) := Lib.hid (by rw [← HB.out, HST.out]; rfl)
        clear HB HST
        cases h
        · go_wp2
          go_roundw
          case rel => exact ⟨j + 1, false, by omega, by go_num, rfl, HN, hB1⟩
          case measure => simp [intOf]; omega
        · go_wp2
          go_roundw
          case rel => exact ⟨j + 1, hb', by omega, by go_num, rfl, Lib.hid (by simpa using HN.out), hB1⟩
          case measure => simp [intOf]; omega
    · obtain ⟨rfl, rfl⟩ : u = h ∧ v = true := by
        have := HB.out
        rw [bhL_end k _ _ h (List.drop_eq_nil_of_le (by omega))] at this
        simpa [eq_comm] using this
      clear HB HX HY HS HT HA
      go_wp2
      go_ret2
      exact ⟨rfl, hb⟩
set_option maxHeartbeats 2000000 in
theorem specBoth (k : Int) (A : Option Addr) (n c : Nat) (l : List ByteArray) (D : Option Addr) (m d : Nat) (a : List Sg) (w : World) (u v : Bool) (hn : n ≤ 1048576) (hm : m ≤ maxLen) (hs : ∀ s ∈ l, s.size ≤ maxLen) (hx : Rd w w.heap.size 1 A n (svs l)) (hy : Rd w w.heap.size 2 D m (sgs a)) (hA : Hid (bh k l a = (u, v))) :
    Calls Tryd.prog 16 #[.int .i64 k, .slice A n c, .slice D m d] w fun e w' => e = .returned (.tuple #[.bool u, .bool v]) ∧ Below w.heap.size w w' := by
  have lx := rd_len hx
  have ly := rd_sg_len hy
  subst lx ly
  unfold maxLen at hm
  have K := Lib.hid (fun W => specKey k W)
  have HX := Lib.hid hx
  have HY := Lib.hid hy
  have HS := Lib.hid hs
  clear hx hy hs
  by_cases h10 : 10 < l.length
  · obtain ⟨rfl, rfl⟩ : u = false ∧ v = false := by have := hA.out; unfold bh at this; rw [show decide (l.length ≤ 10) = false by simp; omega] at this; simpa [eq_comm] using this
    clear hA
    go_enter Tryd.func16, Tryd.ntmps16
    go_wp2
    go_ret2
    exact ⟨rfl, Below.refl _ _⟩
  by_cases hnm : l.length = a.length
  case neg =>
    obtain ⟨rfl, rfl⟩ : u = false ∧ v = false := by have := hA.out; unfold bh at this; rw [show decide (l.length = a.length) = false by simp [hnm]] at this; simpa [eq_comm] using this
    have hne : ((l.length : Int) != (a.length : Int)) = true := by rw [bne_iff_ne]; omega
    clear hA hnm
    go_enter Tryd.func16, Tryd.ntmps16
    go_wp2
    go_ret2
    exact ⟨rfl, Below.refl _ _⟩
  have hne : ((l.length : Int) != (a.length : Int)) = false := by rw [bne_eq_false_iff_eq]; omega
  have HNM := Lib.hid hnm
  have HA : Hid (if okK k = true then bhL k l a true = (u, v) else u = false ∧ v = false) := Lib.hid (by
    have h := hA.out
    unfold bh at h
    rw [show decide (l.length ≤ 10) = true by simp; omega, show decide (l.length = a.length) = true by simp [hnm]] at h
    cases hk : okK k
    · rw [hk] at h; simpa [eq_comm] using h
    · rw [hk] at h; simpa using h)
  clear hA hnm
  go_enter Tryd.func16, Tryd.ntmps16
  go_wp2
  go_loopw [8, 25] (fun s i wr => ∃ (j : Nat) (h : Bool), j ≤ l.length ∧ i = .int .i64 j ∧ s = .bool h ∧ Hid (if okK k = true then bhL k (l.drop j) (a.drop j) h = (u, v) else u = false ∧ v = false) ∧ Below w.heap.size w wr) (fun _ i _ => l.length - (intOf i).toNat)
  case atStart => exact ⟨0, true, by omega, rfl, rfl, HA, Below.refl _ _⟩
  case round =>
    obtain ⟨j, h, hj, rfl, rfl, HB, hb⟩ := hrel
    by_cases hlt : j < l.length
    · obtain ⟨b, off, hll, rfl, hbB, hc⟩ := rd_str (HX.out.below hb (Nat.le_refl _)) hlt
      obtain ⟨b', off', hal, rfl, hbB', hc', hd'⟩ := rd_sg (HY.out.below hb (Nat.le_refl _)) (show j < a.length by have := HNM.out; omega)
      have C := Lib.hid (fun W => specCk k l[j] a[j] (HS.out _ (List.getElem_mem hll)) W)
      have HST := Lib.hid (bhL_step k l a j h hll hal)
      have HCK : Hid (okK k = false → ck k l[j] a[j] = false) := Lib.hid (fun hk => by simp [ck, hk])
      have hja : (j : Int) < (a.length : Int) := by omega
      have hjl : (j : Int) < (l.length : Int) := by omega
      have i0 : (0 : Int) ≤ (j : Int) := by omega
      generalize ck k l[j] a[j] = cb at *
      generalize hd k l[j] a[j] = hb' at *
      generalize l[j] = s at *
      generalize a[j].1 = X at *
      generalize a[j].2 = Y at *
      clear HA K
      go_wp2_with fail
      refine (C.out _).mono ?_
      rintro e w1 ⟨rfl, hb1⟩
      have hB1 := hb.trans (hb1.mono hb.size)
      clear hb1 hb C hc hc' hd'
      cases cb
      · obtain ⟨rfl, rfl⟩ : u = false ∧ v = false := by
          have h1 := HB.out
          split at h1
          · rw [HST.out] at h1; simpa [eq_comm] using h1
          · exact h1
        clear HB HST HCK
        go_wp2
        go_ret2
        exact ⟨rfl, hB1⟩
      · have hk : okK k = true := by cases e : okK k with | true => rfl | false => have := HCK.out e; cases this
        have HN : Hid (if okK k = true then bhL k (l.drop (j + 1)) (a.drop (j + 1)) (h && hb') = (u, v) else u = false ∧ v = false) := Lib.hid (by
          have h1 := HB.out
          rw [if_pos hk] at h1 ⊢
          rw [← h1, HST.out]; rfl)
        clear HB HST HCK hk
        cases h
        · go_wp2
          go_roundw
          case rel => exact ⟨j + 1, false, by omega, by go_num, rfl, HN, hB1⟩
          case measure => simp [intOf]; omega
        · go_wp2
          go_roundw
          case rel => exact ⟨j + 1, hb', by omega, by go_num, rfl, Lib.hid (by simpa using HN.out), hB1⟩
          case measure => simp [intOf]; omega
    · have HE : Hid (if okK k = true then (h, true) = (u, v) else u = false ∧ v = false) := Lib.hid (by
        have h1 := HB.out
        rw [bhL_end k _ _ h (List.drop_eq_nil_of_le (by omega))] at h1
        exact h1)
      clear HB HX HY HS HA
      generalize okK k = kb at *
      cases kb
      · obtain ⟨rfl, rfl⟩ : u = false ∧ v = false := by simpa using HE.out
        clear HE
        go_wp2_with fail
        refine (K.out _).mono ?_
        rintro e w' ⟨rfl, rfl⟩
        go_wp2
        go_ret2
        exact ⟨rfl, hb⟩
      · obtain ⟨rfl, rfl⟩ : u = h ∧ v = true := by simpa [eq_comm] using HE.out
        clear HE
        go_wp2_with fail
        refine (K.out _).mono ?_
        rintro e w' ⟨rfl, rfl⟩
        go_wp2
        go_ret2
        exact ⟨rfl, hb⟩
theorem Rdm {w w' : World} {B s n : Nat} {A : Option Addr} {xs : List Value} (h : Rd w B s A n xs) (hB : B ≤ w.heap.size) (hb : Below w.heap.size w w') : Rd w' w'.heap.size s A n xs := (h.below hb hB).mono (Nat.le_trans hB hb.size)
theorem Rdo {w w' : World} {base e s n c : Nat} {A : Option Addr} {xs : List Value} (h : w.ownsRow base e s (.slice A n c) n xs) (hb : Below w.heap.size w w') : Rd w' w'.heap.size s A n xs := Rdm (Rd.own h) (Nat.le_refl _) hb
/-- A cell that reads as a slice of strings. -/
theorem strs_open {H : Type} {enc : TypeId × Value → H} {P : Program} {w : World} {base : Nat} {spare : Nat → Bool} {held : Bool} {t e fuel : Nat} {v : Value} {y : DataW H × List MemPlace}
    (ht : P.underlying t = some (.slice e)) (he : P.underlying e = some .string) (hc : P.cellsOf e = 1) (h : DataW.trod enc P w base spare held fuel t [v] = some y) :
    ∃ A n c l, v = .slice A n c ∧ n ≤ maxLen ∧ (∀ s ∈ l, s.size ≤ maxLen) ∧ Rd w w.heap.size 1 A n (svs l) := by
  rcases open_strings ht he hc h with ⟨hcs, _⟩ | ⟨a, len, cap, ss, hcs, _, hl, hm, hz, _, hcell, hws⟩
  · simp at hcs
    exact ⟨none, 0, 0, [], hcs, Nat.zero_le _, by simp, by simp [svs], fun hn => absurd hn (by omega)⟩
  · simp at hcs
    have hzl : len ≤ ss.length := by rw [hz]; split <;> omega
    refine ⟨some a, len, cap, ss.take len, hcs, by omega, fun s h => hws s (List.mem_of_mem_take h), by simp [svs, hzl], fun hn => ?_⟩
    have h0 := hcell 0 (by omega)
    obtain ⟨b, off, spot⟩ := a
    have hspot : spot = none := by simpa [Addr.add] using World.cell?_spot h0
    subst hspot
    refine ⟨b, off, rfl, ?_, fun j u hu => ?_⟩
    · have := World.block_lt_of_cell? w _ h0
      simpa [Addr.add] using this
    · have hj : j < len := by
        have := (List.getElem?_eq_some_iff.1 hu).1
        simp [svs] at this; omega
      have hcj := hcell j (by omega)
      have ha : (⟨b, off, none⟩ : Addr).add j = ⟨b, off + j, none⟩ := by unfold Addr.add; split <;> simp_all
      rw [ha] at hcj
      rw [hcj, ← hu]
      have hjz : j < ss.length := by omega
      simp [svs, hj, hjz]
end Go.Proofs.YtfoclgijhkibeabDoor.Bth
