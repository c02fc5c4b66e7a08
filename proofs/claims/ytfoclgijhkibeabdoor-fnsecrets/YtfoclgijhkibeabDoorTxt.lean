/-
  Decimal numerals and the number of a digest's first four bytes: contracts of both sides.
-/
import Derived.Test.YtfoclgijhkibeabDoorDigestIX
import Derived.Lib.ItoaNum
import Derived.Lib.ItoaLen
import Derived.Lib.ItoaMem
namespace Go.Proofs.YtfoclgijhkibeabDoor.Txt
open Go.ChangeShapes Go.WideShapes Go.ChangeAt Go.RowKit
open Go.Proofs.YtfoclgijhkibeabDoor.Mem Go.Proofs.YtfoclgijhkibeabDoor.Ints
set_option linter.unusedVariables false
set_option maxRecDepth 100000

/-- A numeral. -/
def nu (n : Nat) : ByteArray := ⟨(Lib.decDigits n).toArray⟩
theorem nu_size (n : Nat) (h : n ≤ 100000) : (nu n).size ≤ 21 := by
  have := Lib.itoa_length_le n (by omega) (by omega)
  rw [Lib.itoa_nonneg] at this
  simpa [nu, ByteArray.size] using this
theorem nu_one (n : Nat) (h : n < 10) : nu n = ⟨#[UInt8.ofNat (48 + n)]⟩ := by unfold nu; rw [Lib.decDigits_one h]
theorem nu_more (n : Nat) (h : ¬ n < 10) : nu n = nu (n / 10) ++ (⟨#[UInt8.ofNat (48 + n % 10)]⟩ : ByteArray) := by
  unfold nu
  rw [Lib.decDigits, dif_neg h]
  apply ByteArray.ext
  rw [ByteArray.data_append]
  simp
theorem dig_one (k : Nat) (h : k < 10) : [Value.int .u8 (48 + (k : Int))] = [UInt8.ofNat (48 + k)].map byteV := by
  simp only [List.map, byteV]
  rw [UInt8.toNat_ofNat']
  congr 2
  omega
theorem one_digit (wr : World) (k : Nat) (h : k < 10) : (convert 22 9 (.slice (some ⟨wr.heap.size, 0, none⟩) 1 1)).run Tryd.prog (wr.alloc (.cells #[.int .u8 (48 + (k : Int))] 5)) = .ok (.string ⟨#[UInt8.ofNat (48 + k)]⟩) (wr.alloc (.cells #[.int .u8 (48 + (k : Int))] 5)) := by
  have hown := World.ownsRow_lit (base := wr.heap.size) (e := 5) (size := 1) wr #[.int .u8 (48 + (k : Int))] 1 (Nat.le_refl _) (by unfold maxLen; omega) (by simp)
  rw [show (#[Value.int .u8 (48 + (k : Int))] : Array Value).toList = [UInt8.ofNat (48 + k)].map byteV from dig_one k h] at hown
  exact run_own_string (P := Tryd.prog) (wr.alloc (.cells #[.int .u8 (48 + (k : Int))] 5)) 22 9 5 _ _ _ _ Tryd.underlying22 Tryd.underlying5 Tryd.underlying9 hown
theorem digit_at {v w1 : World} (k : Nat) (h : k < 10) (hb : Below (v.alloc (.cells #[.int .u8 (48 + (k : Int))] 5)).heap.size (v.alloc (.cells #[.int .u8 (48 + (k : Int))] 5)) w1) :
    (convert 22 9 (.slice (some ⟨v.heap.size, 0, none⟩) 1 1)).run Tryd.prog w1 = .ok (.string ⟨#[UInt8.ofNat (48 + k)]⟩) w1 := by
  refine run_convert_bytes_back _ _ _ _ ⟨v.heap.size, 0, none⟩ _ [UInt8.ofNat (48 + k)] Tryd.underlying22 Tryd.underlying5 Tryd.underlying9 (fun j hj => ?_)
  have hadd : (⟨v.heap.size, 0, none⟩ : Addr).add j = ⟨v.heap.size, j, none⟩ := by unfold Addr.add; split <;> simp_all
  obtain rfl : j = 0 := by simpa using hj
  rw [hadd, hb.cell (by simp), cell_of_row _ v.heap.size 0 _ _ (0, 0) (heap_alloc_new v _)]
  have := dig_one k h
  simpa [byteV] using this
set_option maxHeartbeats 1000000 in
theorem l1Num (f : Nat) : ∀ (n : Nat) (w : World), n < f → n ≤ 100000 → Calls Tryd.prog 117 #[.int .i64 n] w fun e w' => e = .returned (.string (nu n)) ∧ Below w.heap.size w w' := by
  induction f with
  | zero => intro n w h; omega
  | succ f ih =>
    intro n w hf hn
    by_cases h : n < 10
    · have hc := one_digit w n h
      have E := Lib.hid (nu_one n h)
      have hB : Below w.heap.size w (w.alloc (.cells #[.int .u8 (48 + (n : Int))] 5)) := (Below.refl _ _).alloc (Nat.le_refl _) _
      generalize (⟨#[UInt8.ofNat (48 + n)]⟩ : ByteArray) = d at *
      go_enter Tryd.func117, Tryd.ntmps117
      go_wp2
      go_ret
      exact ⟨by rw [E.out]; rfl, hB⟩
    · have E := Lib.hid (nu_more n h)
      have C := Lib.hid (fun W => ih (n / 10) W (by omega) (by omega))
      have D := Lib.hid (fun W => one_digit W (n % 10) (by omega))
      have CB := Lib.hid (fun (v w1 : World) => digit_at (v := v) (w1 := w1) (n % 10) (by omega))
      have s1 := nu_size (n / 10) (by omega)
      have s2 : (⟨#[UInt8.ofNat (48 + n % 10)]⟩ : ByteArray).size ≤ 1 := Nat.le_refl _
      generalize (⟨#[UInt8.ofNat (48 + n % 10)]⟩ : ByteArray) = d at *
      generalize nu (n / 10) = u at *
      have hcast : ((n / 10 : Nat) : Int) = (n : Int) / 10 := by omega
      have hcast2 : ((n % 10 : Nat) : Int) = (n : Int) % 10 := by omega
      rw [hcast] at C
      rw [hcast2] at D CB
      go_enter Tryd.func117, Tryd.ntmps117
      have hD := D.out
      have hDd : ∀ W : World, (convert 22 9 (.slice (some ⟨W.heap.size, 0, none⟩) 1 1)).run Tryd.prog (W.alloc (.cells #[.int .u8 (48 + (n : Int) % 10)] 5)).drew = .ok (.string d) (W.alloc (.cells #[.int .u8 (48 + (n : Int) % 10)] 5)).drew := fun W => CB.out W _ (Below.refl _ _).drew
      have CBd := Lib.hid (fun (v w1 : World) (h : Below (v.alloc (.cells #[.int .u8 (48 + (n : Int) % 10)] 5)).drew.heap.size (v.alloc (.cells #[.int .u8 (48 + (n : Int) % 10)] 5)).drew w1) => (show (convert 22 9 (.slice (some ⟨v.heap.size, 0, none⟩) 1 1)).run Tryd.prog w1 = .ok (.string d) w1 from CB.out v w1 ((Below.refl _ _).drew.trans h)))
      have hadd : ∀ W, (Op.stringOp .add u d).run Tryd.prog W = .ok (.string (u ++ d)) W := fun W => run_string_add W u d (by omega) (by omega)
      have q1 : IntKind.i64.wrap ((n : Int) / 10) = (n : Int) / 10 := by rw [IntKind.wrap_i64]; omega
      have q2 : (n : Int).tmod 10 = (n : Int) % 10 := Int.tmod_eq_emod_of_nonneg (by omega)
      have q3 : IntKind.i64.wrap (48 + (n : Int) % 10) = 48 + (n : Int) % 10 := by rw [IntKind.wrap_i64]; omega
      have q4 : IntKind.u8.wrap (48 + (n : Int) % 10) = 48 + (n : Int) % 10 := by rw [IntKind.wrap_u8]; omega
      go_wp2_with fail
      go_region_with (first | (go_at_call 117; refine (C.out _).mono ?_; rintro e w1 ⟨rfl, hb1⟩; first | (have hc := CBd.out _ _ (by with_reducible exact hb1)) | (have hc := CB.out _ _ (by with_reducible exact hb1)) | skip))
      all_goals
        go_wp2
        go_ret
        refine ⟨by rw [E.out]; rfl, ?_⟩
        first
          | exact hb1.alloc hb1.size _
          | exact ((Below.refl w.heap.size w).drew.trans hb1).alloc hb1.size _
          | exact ((((Below.refl w.heap.size w).drew.trans hb1).alloc hb1.size _)).drew
          | (refine (((Below.refl w.heap.size w).alloc (Nat.le_refl _) _).drew).trans (hb1.mono ?_); show w.heap.size ≤ (w.alloc _).heap.size; simp)
def fo (l : List UInt8) : Nat → Nat
  | 0 => 0
  | k + 1 => fo l k * 256 + (l.getD k 0).toNat
theorem fo_lt (l : List UInt8) : ∀ k, fo l k < 256 ^ k
  | 0 => by simp [fo]
  | k + 1 => by
    have h := fo_lt l k
    have c := (l.getD k 0).toNat_lt
    have e : 256 ^ (k + 1) = 256 ^ k * 256 := Nat.pow_succ _ _
    show fo l k * 256 + (l.getD k 0).toNat < 256 ^ (k + 1)
    omega
theorem fo_le (l : List UInt8) (k : Nat) (hk : k ≤ 3) : fo l k ≤ 16777215 := by
  have := fo_lt l k
  have h2 : 256 ^ k ≤ 256 ^ 3 := Nat.pow_le_pow_right (by omega) hk
  omega
theorem or8 (x : Nat) (c : UInt8) (hx : x ≤ 16777215) : bits .or .i64 ((x : Int) * 256) (c.toNat : Int) = ((x * 256 + c.toNat : Nat) : Int) := by
  have hc := c.toNat_lt
  have h := bits_join .i64 63 (by decide) (fun n h0 h1 => by rw [IntKind.wrap_i64]; omega) 8 ((x : Int) * 256) (c.toNat : Int) (by omega) (by omega) (by omega) (by omega) (by omega) (by omega)
  rw [h]; omega
theorem dig_len (l : List UInt8) : (ByteArray.mk (Digest.dig l).toArray).size = 32 := by
  unfold Digest.dig
  simp only [ByteArray.size, List.size_toArray, End.outL_len]
  rfl
/-- The number of the first four bytes of a text's digest. -/
def four (s : ByteArray) : Nat := fo (Digest.dig s.data.toList) 4
theorem four_lt (s : ByteArray) : four s < 4294967296 := fo_lt _ 4
theorem at_mk (l : List UInt8) (k : Nat) (h : k < (ByteArray.mk l.toArray).size) : (ByteArray.mk l.toArray)[k] = l.getD k 0 := by
  have h' : k < l.length := by simpa [ByteArray.size] using h
  show (l.toArray)[k]'(by simpa using h') = _
  simp [List.getD_eq_getElem?_getD, h']
set_option maxHeartbeats 1000000 in
theorem digestNumber (s : ByteArray) (w : World) (hs : s.size ≤ 600) (hf : w.rangeAt 0 0 (u32s Words.firsts)) (hk : w.rangeAt 1 0 (u32s ShaComp.consts)) :
    Calls Tryd.prog 107 #[.string s] w fun e w' => e = .returned (.int .i64 (four s : Nat)) ∧ Below w.heap.size w w' := by
  have C := Lib.hid (DigestI.implDigest s w hs hf hk)
  clear hf hk
  have hd := dig_len s.data.toList
  have HA := Lib.hid (at_mk (Digest.dig s.data.toList))
  unfold four
  generalize Digest.dig s.data.toList = l at *
  generalize (ByteArray.mk l.toArray) = d at *
  go_enter Tryd.func107, Tryd.ntmps107
  go_wp2_with fail
  refine C.out.mono ?_
  rintro e w1 ⟨rfl, hb1⟩
  clear C
  go_wp2
  go_loop [5, 12] (fun n i => ∃ j : Nat, j ≤ 4 ∧ i = .int .i64 j ∧ n = .int .i64 (fo l j : Nat)) (fun _ i => 4 - (intOf i).toNat)
  case atStart => exact ⟨0, by omega, rfl, rfl⟩
  case round =>
    obtain ⟨j, hj, rfl, rfl⟩ := hrel
    by_cases hj4 : j < 4
    · have ha := fo_le l j (by omega)
      have hjd : j < d.size := by omega
      have HE := Lib.hid (HA.out j hjd)
      have hor := or8 (fo l j) d[j] ha
      have hc := d[j].toNat_lt
      have HN : Hid (fo l (j + 1) = fo l j * 256 + d[j].toNat) := Lib.hid (by rw [HE.out]; rfl)
      clear HA
      go_wp2
      go_round
      case rel => exact ⟨j + 1, by omega, by go_num, by rw [HN.out, Int.natCast_add, Int.natCast_mul]; rfl⟩
      case measure => simp [intOf]; omega
    · obtain rfl : j = 4 := by omega
      go_wp2
      go_ret
      exact ⟨rfl, hb1⟩
theorem ext4 (d : ByteArray) (h : d.size = 32) : (d.extract 0 4).size = 4 := by rw [ByteArray.size_extract]; omega
theorem ext4_at (d : ByteArray) (h : d.size = 32) (k : Nat) (hk : k < 4) : ((d.extract 0 4)[k]'(by rw [ext4 d h]; exact hk)) = d[k]'(by omega) := by
  rw [ByteArray.getElem_extract]; congr 1; omega
set_option maxHeartbeats 1000000 in
theorem l6Four (s : ByteArray) (w : World) (hs : s.size ≤ 1000000) :
    Calls Tryd.prog 116 #[.string s] w fun e w' => e = .returned (.int .i64 (four s : Nat)) ∧ Below w.heap.size w w' := by
  have C := Lib.hid (Digest.l1Digest s w hs)
  have hd := dig_len s.data.toList
  have HA := Lib.hid (at_mk (Digest.dig s.data.toList))
  unfold four
  generalize Digest.dig s.data.toList = l at *
  generalize (ByteArray.mk l.toArray) = d at *
  have e4 := ext4 d hd
  have HX := Lib.hid (ext4_at d hd)
  have ST := Lib.hid (fun w1 => str_bytes (P := Tryd.prog) w1 9 22 5 (d.extract 0 4) Tryd.underlying9 Tryd.underlying22 Tryd.underlying5)
  go_enter Tryd.func116, Tryd.ntmps116
  go_wp2_with fail
  refine C.out.mono ?_
  rintro e w1 ⟨rfl, hb1⟩
  obtain ⟨cap, W, hrun, hcell, hbW⟩ := ST.out w1
  rw [e4] at hrun
  have HC : Hid (∀ k (hk : k < 4), W.cell? ⟨w1.heap.size, k, none⟩ = some (.int .u8 ((d[k]'(by omega)).toNat : Int))) := Lib.hid (fun k hk => by
    rw [hcell k (by rw [e4]; exact hk), HX.out k hk])
  have hB : Below w.heap.size w W := hb1.trans (hbW.mono hb1.size)
  clear hcell C ST HX hb1 hbW
  go_wp2
  clear hrun
  go_loop [3, 11] (fun n i => ∃ j : Nat, j ≤ 4 ∧ i = .int .i64 j ∧ n = .int .i64 (fo l j : Nat)) (fun _ i => 4 - (intOf i).toNat)
  case atStart => exact ⟨0, by omega, rfl, rfl⟩
  case round =>
    obtain ⟨j, hj, rfl, rfl⟩ := hrel
    by_cases hj4 : j < 4
    · have ha := fo_le l j (by omega)
      have hjd : j < d.size := by omega
      have HE := Lib.hid (HA.out j hjd)
      have hcc := HC.out j hj4
      have hor := or8 (fo l j) d[j] ha
      have hc := d[j].toNat_lt
      have HN : Hid (fo l (j + 1) = fo l j * 256 + d[j].toNat) := Lib.hid (by rw [HE.out]; rfl)
      clear HA HC
      go_wp2
      go_round
      case rel => exact ⟨j + 1, by omega, by go_num, by rw [HN.out, Int.natCast_add, Int.natCast_mul]; rfl⟩
      case measure => simp [intOf]; omega
    · obtain rfl : j = 4 := by omega
      go_wp2
      go_ret
      exact ⟨rfl, hB⟩
end Go.Proofs.YtfoclgijhkibeabDoor.Txt
