/-
  The bytes of a rune: contracts of the reference and of the program, and the walk of the law on RuneBytes. For every number both answer alike.
-/
import Derived.Test.YtehmlkcnhccjmabDoorRune
namespace Go.Proofs.YtehmlkcnhccjmabDoor.Enc
open Go.ChangeShapes Go.WideShapes Go.ChangeAt Go.RowKit
open Go.Proofs.YtehmlkcnhccjmabDoor.Mem Go.Proofs.YtehmlkcnhccjmabDoor.Rune
set_option linter.unusedVariables false

theorem valid_good {n : Int} (h : goodR n = true) : Utf8.valid n = true := by
  have := goodR_bd h
  unfold Utf8.valid; simp; omega
theorem enc1 {n : Int} (h : goodR n = true) (h1 : n < 128) : Utf8.encode n = ⟨#[UInt8.ofNat n.toNat]⟩ := by
  have := goodR_bd h
  unfold Utf8.encode
  simp only [valid_good h, if_true]
  rw [if_pos (by omega)]
theorem enc2 {n : Int} (h : goodR n = true) (h0 : 128 ≤ n) (h1 : n < 2048) : Utf8.encode n = ⟨#[UInt8.ofNat (192 + n.toNat / 64), UInt8.ofNat (128 + n.toNat % 64)]⟩ := by
  unfold Utf8.encode
  simp only [valid_good h, if_true]
  rw [if_neg (by omega), if_pos (by omega)]
theorem enc3 {n : Int} (h : goodR n = true) (h0 : 2048 ≤ n) (h1 : n < 65536) : Utf8.encode n = ⟨#[UInt8.ofNat (224 + n.toNat / 4096), UInt8.ofNat (128 + n.toNat / 64 % 64), UInt8.ofNat (128 + n.toNat % 64)]⟩ := by
  unfold Utf8.encode
  simp only [valid_good h, if_true]
  rw [if_neg (by omega), if_neg (by omega), if_pos (by omega)]
theorem enc4 {n : Int} (h : goodR n = true) (h0 : 65536 ≤ n) : Utf8.encode n = ⟨#[UInt8.ofNat (240 + n.toNat / 262144), UInt8.ofNat (128 + n.toNat / 4096 % 64), UInt8.ofNat (128 + n.toNat / 64 % 64), UInt8.ofNat (128 + n.toNat % 64)]⟩ := by
  unfold Utf8.encode
  simp only [valid_good h, if_true]
  rw [if_neg (by omega), if_neg (by omega), if_neg (by omega)]
theorem byteV_of (z : Int) (m : Nat) (h : z = ((m % 256 : Nat) : Int)) : Value.int .u8 z = byteV (UInt8.ofNat m) := by
  unfold byteV; rw [h, UInt8.toNat_ofNat']
theorem i64_and63 (x : Int) (h0 : 0 ≤ x) (h1 : x < 4294967296) : bits .and .i64 x 63 = x % 64 := by
  have h := bits_mask .i64 62 (by decide) (fun n h0 h1 => by rw [IntKind.wrap_i64]; omega) 6 (by decide) x h0 (by omega)
  have e : ((2 : Int) ^ 6 - 1) = 63 := by decide
  rw [e] at h
  simpa using h
theorem l1 {a c : Value} (h : a = c) : [a] = [c] := by rw [h]
theorem l2 {a b c d : Value} (h : a = c) (k : b = d) : [a, b] = [c, d] := by rw [h, k]
theorem l3 {a b c x y z : Value} (h : a = x) (k : b = y) (m : c = z) : [a, b, c] = [x, y, z] := by rw [h, k, m]
theorem l4 {a b c d x y z u : Value} (h : a = x) (k : b = y) (m : c = z) (o : d = u) : [a, b, c, d] = [x, y, z, u] := by rw [h, k, m, o]
/-- 'string([]byte{..})': the literal was just laid. -/
theorem lit_str (W : World) (cs : Array Value) (t n : Nat) (l : List UInt8) (b : ByteArray) (hb : b = ⟨l.toArray⟩) (hn : l.length = n) (h : cs.toList = l.map byteV) :
    (convert 38 9 (.slice (some ⟨W.heap.size, 0, none⟩) n n)).run Tryd.prog (W.alloc (.cells cs t)) = .ok (.string b) (W.alloc (.cells cs t)) := by
  subst hn hb
  refine run_convert_bytes_back _ _ _ _ ⟨W.heap.size, 0, none⟩ _ l Tryd.underlying38 Tryd.underlying5 Tryd.underlying9 (fun j hj => ?_)
  have hadd : (⟨W.heap.size, 0, none⟩ : Addr).add j = ⟨W.heap.size, j, none⟩ := by unfold Addr.add; split <;> simp_all
  rw [hadd, cell_of_row _ W.heap.size j cs t (0, 0) (heap_alloc_new W _)]
  have h1 : cs.toList[j]? = some (byteV l[j]) := by rw [h, List.getElem?_map, List.getElem?_eq_getElem hj]; rfl
  simpa [byteV] using h1
set_option maxHeartbeats 1000000 in
theorem l2Bytes (n : Int) (w : World) (h : goodR n = true) :
    Calls Tryd.prog 82 #[.int .i64 n] w fun e w' => e = .returned (.string (Utf8.encode n)) ∧ Below w.heap.size w w' := by
  obtain ⟨b0, b1, _⟩ := goodR_bd h
  by_cases h1 : n < 128
  · have E := Lib.hid (enc1 h h1)
    have C := lit_str w #[.int .u8 n] 5 1 [UInt8.ofNat n.toNat] _ E.out rfl (l1 (byteV_of _ _ (by omega)))
    clear h
    go_enter Tryd.func82, Tryd.ntmps82
    go_wp2
    go_ret
    exact ⟨rfl, (Below.refl _ w).alloc (Nat.le_refl _) _⟩
  by_cases h2 : n < 2048
  · have E := Lib.hid (enc2 h (by omega) h2)
    have A := i64_and63 n b0 (by omega)
    have C := lit_str w #[.int .u8 (192 + n / 64), .int .u8 (128 + n % 64)] 5 2 [UInt8.ofNat (192 + n.toNat / 64), UInt8.ofNat (128 + n.toNat % 64)] _ E.out rfl (l2 (byteV_of _ _ (by omega)) (byteV_of _ _ (by omega)))
    clear h
    go_enter Tryd.func82, Tryd.ntmps82
    go_wp2
    go_ret
    exact ⟨rfl, (Below.refl _ w).alloc (Nat.le_refl _) _⟩
  by_cases h3 : n < 65536
  · have E := Lib.hid (enc3 h (by omega) h3)
    have A := i64_and63 n b0 (by omega)
    have A1 := i64_and63 (n / 64) (by omega) (by omega)
    have C := lit_str w #[.int .u8 (224 + n / 4096), .int .u8 (128 + n / 64 % 64), .int .u8 (128 + n % 64)] 5 3 [UInt8.ofNat (224 + n.toNat / 4096), UInt8.ofNat (128 + n.toNat / 64 % 64), UInt8.ofNat (128 + n.toNat % 64)] _ E.out rfl (l3 (byteV_of _ _ (by omega)) (byteV_of _ _ (by omega)) (byteV_of _ _ (by omega)))
    clear h
    go_enter Tryd.func82, Tryd.ntmps82
    go_wp2
    go_ret
    exact ⟨rfl, (Below.refl _ w).alloc (Nat.le_refl _) _⟩
  · have E := Lib.hid (enc4 h (by omega))
    have A := i64_and63 n b0 (by omega)
    have A1 := i64_and63 (n / 64) (by omega) (by omega)
    have A2 := i64_and63 (n / 4096) (by omega) (by omega)
    have C := lit_str w #[.int .u8 (240 + n / 262144), .int .u8 (128 + n / 4096 % 64), .int .u8 (128 + n / 64 % 64), .int .u8 (128 + n % 64)] 5 4 [UInt8.ofNat (240 + n.toNat / 262144), UInt8.ofNat (128 + n.toNat / 4096 % 64), UInt8.ofNat (128 + n.toNat / 64 % 64), UInt8.ofNat (128 + n.toNat % 64)] _ E.out rfl (l4 (byteV_of _ _ (by omega)) (byteV_of _ _ (by omega)) (byteV_of _ _ (by omega)) (byteV_of _ _ (by omega)))
    clear h
    go_enter Tryd.func82, Tryd.ntmps82
    go_wp2
    go_ret
    exact ⟨rfl, (Below.refl _ w).alloc (Nat.le_refl _) _⟩
def encB (n : Int) : ByteArray := if goodR n then Utf8.encode n else ⟨#[]⟩
theorem encB_yes {n : Int} (h : goodR n = true) : encB n = Utf8.encode n := by unfold encB; rw [if_pos h]
theorem encB_no {n : Int} (h : goodR n = false) : encB n = ⟨#[]⟩ := by unfold encB; rw [h]; rfl
theorem specBytes (n : Int) (w : World) :
    Calls Tryd.prog 41 #[.int .i64 n] w fun e w' => e = .returned (.tuple #[.string (encB n), .bool (goodR n)]) ∧ Below w.heap.size w w' := by
  have S := Lib.hid (specGood n w)
  rcases hg : goodR n with _ | _
  · rw [encB_no hg]
    rw [hg] at S
    clear hg
    go_enter Tryd.func41, Tryd.ntmps41
    go_wp2_with fail
    refine S.out.mono ?_
    rintro e w' ⟨rfl, rfl⟩
    go_wp2
    go_ret2
    exact ⟨rfl, Below.refl _ _⟩
  · have B := Lib.hid (l2Bytes n w hg)
    rw [encB_yes hg]
    rw [hg] at S
    clear hg
    go_enter Tryd.func41, Tryd.ntmps41
    go_wp2_with fail
    refine S.out.mono ?_
    rintro e w' ⟨rfl, rfl⟩
    go_wp2_with fail
    refine B.out.mono ?_
    rintro e w' ⟨rfl, hb⟩
    go_wp2
    go_ret2
    exact ⟨rfl, hb⟩
theorem implBytes (n : Int) (w : World) :
    Calls Tryd.prog 40 #[.int .i64 n] w fun e w' => e = .returned (.tuple #[.string (encB n), .bool (goodR n)]) ∧ w = w' := by
  have S := Lib.hid (implGood n w)
  rcases hg : goodR n with _ | _
  · rw [encB_no hg]
    rw [hg] at S
    clear hg
    go_enter Tryd.func40, Tryd.ntmps40
    go_wp2_with fail
    refine S.out.mono ?_
    rintro e w' ⟨rfl, rfl⟩
    go_wp2
    go_ret2
    exact ⟨rfl, rfl⟩
  · rw [encB_yes hg]
    obtain ⟨b0, b1, _⟩ := goodR_bd hg
    rw [hg] at S
    clear hg
    go_enter Tryd.func40, Tryd.ntmps40
    go_wp2_with fail
    refine S.out.mono ?_
    rintro e w' ⟨rfl, rfl⟩
    go_wp2
    go_ret2
    exact ⟨rfl, rfl⟩
end Go.Proofs.YtehmlkcnhccjmabDoor.Enc
