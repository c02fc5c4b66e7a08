/-
  Slices of strings: compared, marked and looked at again by the laws' own helpers. A slice may be nil or empty.
-/
import Derived.Test.YtmnihigackilkaaDoorInts
namespace Go.Proofs.YtmnihigackilkaaDoor.Strs
open Go.ChangeShapes Go.WideShapes Go.ChangeAt Go.RowKit
open Go.Proofs.YtmnihigackilkaaDoor.Mem Go.Proofs.YtmnihigackilkaaDoor.Ints
set_option linter.unusedVariables false

def svs (l : List ByteArray) : List Value := l.map Value.string
theorem rd_str {w : World} {B n k : Nat} {A : Option Addr} {l : List ByteArray} (h : Rd w B 1 A n (svs l)) (hk : k < n) : ∃ b off, ∃ hl : k < l.length, A = some ⟨b, off, none⟩ ∧ b < B ∧ w.cell? ⟨b, off + k, none⟩ = some (.string l[k]) := by
  obtain ⟨b, off, u, e, hb, hx, hc⟩ := h.at1 hk
  have hl : k < l.length := by have := h.1; simp [svs] at this; omega
  refine ⟨b, off, hl, e, hb, ?_⟩
  rw [hc, ← hx]
  simp [svs, hl]
theorem rd_len {w : World} {B n : Nat} {A : Option Addr} {l : List ByteArray} (h : Rd w B 1 A n (svs l)) : l.length = n := by have := h.1; simpa [svs] using this
theorem strs_one (l : List ByteArray) : ∀ u ∈ svs l, u.oneCell' = true := by
  intro u hu
  obtain ⟨c, _, rfl⟩ := List.mem_map.1 hu
  rfl
theorem infoS : (Tryd.prog.info? 9).map (fun i => (i.zero, i.size, i.bytes)) = some (some (.string ⟨#[]⟩), 1, 16) := by kernel_rfl

set_option maxHeartbeats 1000000 in
/-- Two slices that hold the same strings. -/
theorem eqSame (A D : Option Addr) (n c d : Nat) (l : List ByteArray) (B B' : Nat) (w : World) (hn : n ≤ 1048576) (hx : Rd w B 1 A n (svs l)) (hy : Rd w B' 1 D n (svs l)) :
    Calls Tryd.prog 68 #[.slice A n c, .slice D n d] w fun e w' => e = .returned (.bool true) ∧ ∃ q, w' = w.drewN q := by
  have HX := Lib.hid hx
  have HY := Lib.hid hy
  clear hx hy
  go_enter Tryd.func68, Tryd.ntmps68
  go_wp2
  go_loopw [5] (fun i wr => ∃ k q : Nat, k ≤ n ∧ i = .int .i64 k ∧ wr = w.drewN q) (fun i _ => n - (intOf i).toNat)
  case atStart => exact ⟨0, 0, by omega, rfl, rfl⟩
  case round =>
    obtain ⟨k, q, hk, rfl, rfl⟩ := hrel
    by_cases hlt : k < n
    · obtain ⟨b, off, hl, rfl, _, hc⟩ := rd_str HX.out hlt
      obtain ⟨b', off', hl', rfl, _, hc'⟩ := rd_str HY.out hlt
      have i0 : (0 : Int) ≤ (k : Int) := by omega
      have i1 : (k : Int) < (n : Int) := by omega
      generalize l[k] = x at *
      go_wp2
      go_quiet (fail)
      go_wp2
      go_roundw
      case rel => exact ⟨k + 1, _, by omega, by go_num, rfl⟩
      case measure => simp [intOf]; omega
    · go_wp2
      go_ret
      exact ⟨rfl, _, rfl⟩

def mdig (k : Nat) (out : ByteArray) : ByteArray := if h : k = 0 then out else mdig (k / 10) ((⟨#[UInt8.ofNat (48 + k % 10)]⟩ : ByteArray) ++ out)
termination_by k
decreasing_by omega
theorem mdig_zero (out : ByteArray) : mdig 0 out = out := by unfold mdig; simp
theorem mdig_pos (k : Nat) (out : ByteArray) (h : 0 < k) : mdig k out = mdig (k / 10) ((⟨#[UInt8.ofNat (48 + k % 10)]⟩ : ByteArray) ++ out) := by rw [mdig, dif_neg (by omega)]
def mt (k : Nat) : ByteArray := (⟨#[109]⟩ : ByteArray) ++ mdig k ⟨#[]⟩
theorem dig_one (k : Nat) : [Value.int .u8 (48 + (k : Int) % 10)] = [UInt8.ofNat (48 + k % 10)].map byteV := by
  simp only [List.map, byteV]
  rw [UInt8.toNat_ofNat']
  congr 2
  omega
set_option maxHeartbeats 1000000 in
theorem markText (k : Nat) (w : World) (h1 : 1 ≤ k) (h2 : k < 10 ^ 12) :
    Calls Tryd.prog 126 #[.int .i64 k] w fun e w' => e = .returned (.string (mt k)) ∧ Below w.heap.size w w' := by
  have hk0 : ¬ k = 0 := by omega
  go_enter Tryd.func126, Tryd.ntmps126
  go_wp2
  go_loopw [0, 3] (fun a o wr => ∃ (j f : Nat) (out : ByteArray), a = .int .i64 j ∧ o = .string out ∧ Hid (j < 10 ^ f) ∧ j < 1000000000000 ∧ out.size + f ≤ 12 ∧ Hid (mdig j out = mdig k ⟨#[]⟩) ∧ Below w.heap.size w wr) (fun a _ _ => (intOf a).toNat)
  case atStart => exact ⟨k, 12, ⟨#[]⟩, rfl, rfl, Lib.hid h2, by omega, by simp [ByteArray.size], Lib.hid rfl, Below.refl _ _⟩
  case round =>
    obtain ⟨j, f, out, rfl, rfl, HF, hj, ho, HM, hb⟩ := hrel
    have hbz := hb.size
    by_cases hp : 0 < j
    · have hf : 0 < f := by
        apply Nat.pos_of_ne_zero
        intro h0
        have := HF.out
        rw [h0] at this
        omega
      have hown := World.ownsRow_lit (base := w.heap.size) (e := 5) (size := 1) wr #[.int .u8 (48 + (j : Int) % 10)] 1 hbz (by unfold maxLen; omega) (by simp)
      rw [show (#[Value.int .u8 (48 + (j : Int) % 10)] : Array Value).toList = [UInt8.ofNat (48 + j % 10)].map byteV from dig_one j] at hown
      have hconv := run_own_string (P := Tryd.prog) (wr.alloc (.cells #[.int .u8 (48 + (j : Int) % 10)] 5)) 22 9 5 _ _ _ _ Tryd.underlying22 Tryd.underlying5 Tryd.underlying9 hown
      have HN : Hid (mdig (j / 10) ((⟨#[UInt8.ofNat (48 + j % 10)]⟩ : ByteArray) ++ out) = mdig k ⟨#[]⟩) := Lib.hid (by rw [← mdig_pos j out hp]; exact HM.out)
      have hs1 : ((⟨#[UInt8.ofNat (48 + j % 10)]⟩ : ByteArray) ++ out).size = out.size + 1 := by rw [ByteArray.size_append]; show 1 + out.size = _; omega
      have HS := Lib.hid hs1
      have hd1 : (⟨#[UInt8.ofNat (48 + j % 10)]⟩ : ByteArray).size ≤ 1 := Nat.le_refl _
      clear hs1 hown
      have e1 : (⟨[UInt8.ofNat (48 + j % 10)].toArray⟩ : ByteArray) = ⟨#[UInt8.ofNat (48 + j % 10)]⟩ := rfl
      rw [e1] at hconv
      clear e1
      generalize (⟨#[UInt8.ofNat (48 + j % 10)]⟩ : ByteArray) = d at *
      have hB := hb.alloc hbz (.cells #[.int .u8 (48 + (j : Int) % 10)] 5)
      go_wp2
      go_roundw
      case rel => exact ⟨j / 10, f - 1, d ++ out, by simp, rfl, Lib.hid (by
        have h1 := HF.out
        rw [show f = (f - 1) + 1 from by omega, Nat.pow_succ] at h1
        omega), by omega, by rw [HS.out]; omega, HN, hB⟩
      case measure => simp [intOf]; omega
    · obtain rfl : j = 0 := by omega
      have HM' := HM.out
      rw [mdig_zero] at HM'
      subst HM'
      have hsm : (mdig k ⟨#[]⟩).size ≤ 12 := by omega
      go_wp2
      go_ret
      exact ⟨rfl, hb⟩

theorem own_keepS {w w' : World} {base e size n : Nat} {v : Value} {xs : List Value} (h : w.ownsRow base e size v n xs) (hk : ∀ b, b < w.heap.size → base ≤ b → w'.heap[b]? = w.heap[b]?) : w'.ownsRow base e size v n xs := by
  refine ⟨h.1, ?_⟩
  rcases h.2 with h0 | ⟨g, cap, cur, h1, h2, h3, h4⟩
  · exact .inl h0
  · exact .inr ⟨g, cap, cur, h1, h2, (hk g (Array.getElem?_eq_some_iff.1 h3).1 h2).trans h3, h4⟩
theorem own_belowS {w w' : World} {base e size n B : Nat} {v : Value} {xs : List Value} (h : w.ownsRow base e size v n xs) (hb : Below B w w') (hB : w.heap.size ≤ B) : w'.ownsRow base e size v n xs :=
  own_keepS h fun b hlt _ => hb.block b (by omega)
theorem own_shapeS {w : World} {base e size n : Nat} {v : Value} {xs : List Value} (h : w.ownsRow base e size v n xs) : ∃ A c, v = .slice A n c := by
  rcases h.2 with ⟨h0, h1⟩ | ⟨g, cap, cur, h1, _⟩
  · exact ⟨none, 0, by rw [h0, h1]⟩
  · exact ⟨_, _, h1⟩
theorem own_someS {w : World} {base e n c : Nat} {A : Option Addr} {xs : List Value} (h : w.ownsRow base e 1 (.slice A n c) n xs) (hn : 0 < n) : ∃ g, A = some ⟨g, 0, none⟩ ∧ base ≤ g := by
  rcases h.2 with ⟨h0, h1⟩ | ⟨g, cap, cur, h1, h2, _⟩
  · omega
  · injection h1 with hA _ _
    exact ⟨g, hA, h2⟩

def mts (k n : Nat) : List ByteArray := (List.range n).map fun i => mt (k + i)
theorem mts_len (k n : Nat) : (mts k n).length = n := by simp [mts]
theorem mts_at (k n i : Nat) (h' : i < (mts k n).length) : (mts k n)[i] = mt (k + i) := by simp [mts]
theorem mts_set (l : List ByteArray) (k i : Nat) (h : i < l.length) : (svs (mts k i ++ l.drop i)).set i (.string (mt (k + i))) = svs (mts k (i + 1) ++ l.drop (i + 1)) := by
  unfold svs
  rw [← List.map_set, List.set_append_right _ _ (by rw [mts_len]; exact Nat.le_refl _), mts_len, Nat.sub_self, List.drop_eq_getElem_cons h, List.set_cons_zero]
  simp [mts, List.range_succ]
set_option maxHeartbeats 1000000 in
theorem markS (A : Option Addr) (n c : Nat) (l : List ByteArray) (k base : Nat) (w : World) (hk : 1 ≤ k ∧ k ≤ 1000000) (hn : n ≤ 1000000) (hB : base ≤ w.heap.size) (ho : w.ownsRow base 9 1 (.slice A n c) n (svs l)) :
    Calls Tryd.prog 69 #[.slice A n c, .int .i64 k] w fun e w' => e = .returned (.int .i64 ((k + n : Nat) : Int)) ∧ w'.ownsRow base 9 1 (.slice A n c) n (svs (mts k n)) ∧ Below base w w' := by
  have hk1 := hk.1
  have hk2 := hk.2
  have hll : l.length = n := by have := ho.1; simpa [svs] using this
  have LL := Lib.hid hll
  have HO := Lib.hid ho
  clear ho hk hll
  go_enter Tryd.func69, Tryd.ntmps69
  go_wp2
  go_loopw [1, 5] (fun x i wr => ∃ j : Nat, j ≤ n ∧ x = .int .i64 ((k + j : Nat) : Int) ∧ i = .int .i64 j ∧ wr.ownsRow base 9 1 (.slice A n c) n (svs (mts k j ++ l.drop j)) ∧ Below base w wr)
    (fun _ i _ => n - (intOf i).toNat)
  case atStart => exact ⟨0, by omega, by simp, rfl, by simpa [mts] using HO.out, Below.refl _ _⟩
  case round =>
    obtain ⟨j, hj, rfl, rfl, hown, hb⟩ := hrel
    have HO' := Lib.hid hown
    clear HO hown
    by_cases hlt : j < n
    · obtain ⟨g, rfl, hg⟩ := own_someS HO'.out (by omega)
      have HS := Lib.hid (mts_set l k j (by rw [LL.out]; exact hlt))
      have HL : Hid (j < (svs (mts k j ++ l.drop j)).length) := Lib.hid (by simp [svs, mts_len]; have := LL.out; omega)
      obtain ⟨d, hd⟩ : ∃ d, k + j = d := ⟨_, rfl⟩
      have hd1 : 1 ≤ d := by omega
      have hd2 : d < 10 ^ 12 := by omega
      have hd3 : d ≤ 2000000 := by omega
      have HD := Lib.hid hd
      rw [hd] at HS ⊢
      clear hd
      have hbz := hb.size
      go_wp2_with (go_at_call 126; with_reducible refine (markText d _ hd1 hd2).mono ?_; rintro e w1 ⟨rfl, hb1⟩; have ho1 := own_belowS HO'.out hb1 (Nat.le_refl _); have hc1 := ho1.cellAt j (by omega); rw [List.getElem?_eq_getElem HL.out] at hc1; have hf1 := ho1.frozenAt j; have hR := (ho1.stored j (.string (mt d))).1; rw [HS.out] at hR; have HR := Lib.hid hR; clear ho1 hR; have hB1 : Below base w w1 := hb.trans (hb1.mono (by omega)))
      go_roundw
      case rel => exact ⟨j + 1, by omega, by have := HD.out; congr 1; omega, by go_num, HR.out, hB1.setCell (p := ⟨g, j, none⟩) hg _⟩
      case measure => simp [intOf]; omega
    · obtain rfl : j = n := by omega
      have HR : Hid (wr.ownsRow base 9 1 (.slice A j c) j (svs (mts k j))) := Lib.hid (by
        have := HO'.out
        rw [List.drop_eq_nil_of_le (by rw [LL.out]; exact Nat.le_refl _), List.append_nil] at this
        exact this)
      clear HO'
      go_wp2
      go_ret
      exact ⟨rfl, HR.out, hb⟩
set_option maxHeartbeats 1000000 in
theorem heldS (A : Option Addr) (n c k B : Nat) (w : World) (hk : 1 ≤ k ∧ k ≤ 1000000) (hn : n ≤ 1000000) (hBw : B ≤ w.heap.size) (hx : Rd w B 1 A n (svs (mts k n))) :
    Calls Tryd.prog 125 #[.slice A n c, .int .i64 k] w fun e w' => e = .returned (.int .i64 ((k + n : Nat) : Int)) ∧ Below w.heap.size w w' := by
  have HX := Lib.hid hx
  have hk1 := hk.1
  have hk2 := hk.2
  clear hx hk
  go_enter Tryd.func125, Tryd.ntmps125
  go_wp2
  go_loopw [1, 5] (fun x i wr => ∃ j : Nat, j ≤ n ∧ x = .int .i64 ((k + j : Nat) : Int) ∧ i = .int .i64 j ∧ Below w.heap.size w wr)
    (fun _ i _ => n - (intOf i).toNat)
  case atStart => exact ⟨0, by omega, by simp, rfl, Below.refl _ _⟩
  case round =>
    obtain ⟨j, hj, rfl, rfl, hb⟩ := hrel
    by_cases hlt : j < n
    · obtain ⟨b, off, hl, rfl, hbB, hc⟩ := rd_str (HX.out.below hb hBw) hlt
      rw [mts_at] at hc
      obtain ⟨d, hd⟩ : ∃ d, k + j = d := ⟨_, rfl⟩
      have hd1 : 1 ≤ d := by omega
      have hd2 : d < 10 ^ 12 := by omega
      have hd3 : d ≤ 2000000 := by omega
      have HD := Lib.hid hd
      rw [hd] at hc ⊢
      clear hd
      have hbz := hb.size
      have i0 : (0 : Int) ≤ (j : Int) := by omega
      have i1 : (j : Int) < (n : Int) := by omega
      have hbw : b < wr.heap.size := by omega
      have M := fun W => markText d W hd1 hd2
      generalize mt d = x at *
      have HM := Lib.hid M
      clear M
      go_wp2
      go_region_held3 (fun w' => w'.cell? ⟨b, off + j, none⟩ = some (.string x)) (first | assumption | (go_keep; done) | (simpa using hc)) ((go_at_call 126; refine (HM.out _).mono ?_; rintro e w1 ⟨rfl, hb1⟩; have hc1 : w1.cell? ⟨b, off + j, none⟩ = some (.string x) := (hb1.cell (p := ⟨b, off + j, none⟩) (by first | exact hbw | (simp; exact hbw))).trans (by first | exact hc | simpa using hc)))
      have hB : Below w.heap.size w w1 := hb.drew.trans (hb1.mono (by simpa using hbz))
      clear hb1
      go_wp2
      go_roundw
      case rel => exact ⟨j + 1, by omega, by have := HD.out; congr 1; omega, by go_num, hB⟩
      case measure => simp [intOf]; omega
    · obtain rfl : j = n := by omega
      go_wp2
      go_ret
      exact ⟨rfl, hb⟩
end Go.Proofs.YtmnihigackilkaaDoor.Strs
