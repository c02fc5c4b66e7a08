/-
  Nonces and challenges: contracts of both sides.
-/
import Derived.Test.YtfoclgijhkibeabDoorTxt
import Derived.Test.YtfoclgijhkibeabDoorKeyX
import Derived.Lib.SmallJoins
import Derived.Lib.AppendIntMem
namespace Go.Proofs.YtfoclgijhkibeabDoor.Cha
open Go.ChangeShapes Go.WideShapes Go.ChangeAt Go.RowKit
open Go.Proofs.YtfoclgijhkibeabDoor.Mem Go.Proofs.YtfoclgijhkibeabDoor.Ints Go.Proofs.YtfoclgijhkibeabDoor.State Go.Proofs.YtfoclgijhkibeabDoor.ShaComp Go.Proofs.YtfoclgijhkibeabDoor.ShaSched Go.Proofs.YtfoclgijhkibeabDoor.ShaRound Go.Proofs.YtfoclgijhkibeabDoor.Absorb Go.Proofs.YtfoclgijhkibeabDoor.Num Go.Proofs.YtfoclgijhkibeabDoor.Mod Go.Proofs.YtfoclgijhkibeabDoor.Pow Go.Proofs.YtfoclgijhkibeabDoor.Sch Go.Proofs.YtfoclgijhkibeabDoor.Key Go.Proofs.YtfoclgijhkibeabDoor.Txt
set_option linter.unusedVariables false
set_option maxRecDepth 100000

/-- The program's two tables and the library's table of powers, as their texts lay them. -/
def Tb (w : World) : Prop := w.rangeAt 0 0 (u32s Words.firsts) ∧ w.rangeAt 1 0 (u32s consts) ∧ Lib.TabIs Tryd.prog w "internal/strconv.uint64pow10" .u64 Lib.pow10Tab
theorem gPow : Tryd.prog.globalNamed "internal/strconv.uint64pow10" = some 5 := by kernel_rfl
theorem Tb.below {w w' : World} (h : Tb w) (hb : Below w.heap.size w w') : Tb w' := by
  have h1 : 0 < w.heap.size := World.block_lt_of_cell? w ⟨0, 0, none⟩ (h.1 0 (.int .u32 1779033703) rfl)
  have h2 : 1 < w.heap.size := World.block_lt_of_cell? w ⟨1, 0, none⟩ (h.2.1 0 (.int .u32 0x428a2f98) rfl)
  exact ⟨rangeAt_heap (hb.block _ h1) h.1, rangeAt_heap (hb.block _ h2) h.2.1, Go.Joins.tab_stays gPow h.2.2 hb (Nat.le_refl _)⟩
theorem itoa (n : Nat) (w : World) (hn : n ≤ 100000) (ht : Tb w) : Calls Tryd.prog 108 #[.int .i64 n] w fun e w' => e = .returned (.string (nu n)) ∧ Below w.heap.size w w' := by
  refine (Tryd.strconv_Itoa n (by omega) (by omega) w ht.2.2).mono ?_
  rintro e w' ⟨rfl, k, os, rfl⟩
  rw [Lib.itoa_nonneg]
  exact ⟨rfl, Lib.below_grow _ _ (Nat.le_refl _) _ _⟩

/-- A message that fits. -/
def okT (s : ByteArray) : Bool := decide (s.size ≤ 200)
theorem isMessage (s : ByteArray) (w : World) (hm : s.size ≤ maxLen) : Calls Tryd.prog 49 #[.string s] w fun e w' => e = .returned (.bool (okT s)) ∧ w = w' := by
  unfold maxLen at hm
  have E : Hid (okT s = decide ((s.size : Int) ≤ 200)) := Lib.hid (by simp [okT]; omega)
  go_enter Tryd.func49, Tryd.ntmps49
  go_wp2
  go_ret
  exact ⟨by rw [E.out]; rfl, rfl⟩
theorem l6Text (s : ByteArray) (w : World) (hm : s.size ≤ maxLen) : Calls Tryd.prog 112 #[.string s] w fun e w' => e = .returned (.bool (okT s)) ∧ w = w' := by
  unfold maxLen at hm
  have E : Hid (okT s = decide ((s.size : Int) ≤ 200)) := Lib.hid (by simp [okT]; omega)
  go_enter Tryd.func112, Tryd.ntmps112
  go_wp2
  go_ret
  exact ⟨by rw [E.out]; rfl, rfl⟩
/-- What is hashed for a nonce and for a challenge. -/
def nt (n : Nat) (t : ByteArray) : ByteArray := (⟨#[110]⟩ : ByteArray) ++ nu n ++ (⟨#[46]⟩ : ByteArray) ++ t
def ct (r k : Nat) (t : ByteArray) : ByteArray := (⟨#[99]⟩ : ByteArray) ++ nu r ++ (⟨#[46]⟩ : ByteArray) ++ nu k ++ (⟨#[46]⟩ : ByteArray) ++ t
def nonce (n : Nat) (t : ByteArray) : Nat := four (nt n t) % 1012 + 1
def chal (r k : Nat) (t : ByteArray) : Nat := four (ct r k t) % 1013
theorem nonce_in (n : Nat) (t : ByteArray) : 1 ≤ nonce n t ∧ nonce n t ≤ 1012 := by unfold nonce; omega
theorem chal_lt (r k : Nat) (t : ByteArray) : chal r k t < 1013 := Nat.mod_lt _ (by omega)
theorem one_size (c : UInt8) : (⟨#[c]⟩ : ByteArray).size = 1 := rfl
theorem nt_sizes (u t : ByteArray) : ((⟨#[110]⟩ : ByteArray) ++ u).size = 1 + u.size ∧ ((⟨#[110]⟩ : ByteArray) ++ u ++ (⟨#[46]⟩ : ByteArray)).size = 2 + u.size ∧ ((⟨#[110]⟩ : ByteArray) ++ u ++ (⟨#[46]⟩ : ByteArray) ++ t).size = 2 + u.size + t.size := by
  refine ⟨?_, ?_, ?_⟩ <;> simp only [ByteArray.size_append, one_size] <;> omega
theorem ct_sizes (u v t : ByteArray) : ((⟨#[99]⟩ : ByteArray) ++ u).size = 1 + u.size ∧ ((⟨#[99]⟩ : ByteArray) ++ u ++ (⟨#[46]⟩ : ByteArray)).size = 2 + u.size ∧ ((⟨#[99]⟩ : ByteArray) ++ u ++ (⟨#[46]⟩ : ByteArray) ++ v).size = 2 + u.size + v.size ∧ ((⟨#[99]⟩ : ByteArray) ++ u ++ (⟨#[46]⟩ : ByteArray) ++ v ++ (⟨#[46]⟩ : ByteArray)).size = 3 + u.size + v.size ∧ ((⟨#[99]⟩ : ByteArray) ++ u ++ (⟨#[46]⟩ : ByteArray) ++ v ++ (⟨#[46]⟩ : ByteArray) ++ t).size = 3 + u.size + v.size + t.size := by
  refine ⟨?_, ?_, ?_, ?_, ?_⟩ <;> simp only [ByteArray.size_append, one_size] <;> omega
theorem l6Nonce (n : Nat) (t : ByteArray) (w : World) (hn : n ≤ 100000) (ht : t.size ≤ 200) :
    Calls Tryd.prog 120 #[.int .i64 n, .string t] w fun e w' => e = .returned (.int .i64 (nonce n t : Nat)) ∧ Below w.heap.size w w' := by
  have C1 := Lib.hid (fun W => l1Num (n + 1) n W (by omega) hn)
  have s1 := nu_size n hn
  obtain ⟨a1, a2, a3⟩ := nt_sizes (nu n) t
  have C2 := Lib.hid (fun W => l6Four (nt n t) W (by unfold nt; omega))
  have h4 := four_lt (nt n t)
  have E : Hid ((nonce n t : Int) = (four (nt n t) : Int) % 1012 + 1) := Lib.hid (by unfold nonce; omega)
  generalize four (nt n t) = x at *
  unfold nt at C2
  generalize nu n = u at *
  go_enter Tryd.func120, Tryd.ntmps120
  go_wp2_with fail
  refine (C1.out _).mono ?_
  rintro e w1 ⟨rfl, hb1⟩
  go_wp2_with fail
  refine (C2.out _).mono ?_
  rintro e w2 ⟨rfl, hb2⟩
  have hB := hb1.trans (hb2.mono hb1.size)
  clear hb1 hb2 C1 C2
  go_wp2
  go_ret
  exact ⟨by rw [E.out]; rfl, hB⟩
theorem l6Challenge (r k : Nat) (t : ByteArray) (w : World) (hr : r ≤ 100000) (hk : k ≤ 100000) (ht : t.size ≤ 200) :
    Calls Tryd.prog 63 #[.int .i64 r, .int .i64 k, .string t] w fun e w' => e = .returned (.int .i64 (chal r k t : Nat)) ∧ Below w.heap.size w w' := by
  have C1 := Lib.hid (fun W => l1Num (r + 1) r W (by omega) hr)
  have C3 := Lib.hid (fun W => l1Num (k + 1) k W (by omega) hk)
  have s1 := nu_size r hr
  have s2 := nu_size k hk
  obtain ⟨a1, a2, a3, a4, a5⟩ := ct_sizes (nu r) (nu k) t
  have C2 := Lib.hid (fun W => l6Four (ct r k t) W (by unfold ct; omega))
  have h4 := four_lt (ct r k t)
  have E : Hid ((chal r k t : Int) = (four (ct r k t) : Int) % 1013) := Lib.hid (by unfold chal; omega)
  generalize four (ct r k t) = x at *
  unfold ct at C2
  generalize nu r = u at *
  generalize nu k = v at *
  go_enter Tryd.func63, Tryd.ntmps63
  go_wp2_with fail
  refine (C1.out _).mono ?_
  rintro e w1 ⟨rfl, hb1⟩
  go_wp2_with fail
  refine (C3.out _).mono ?_
  rintro e w3 ⟨rfl, hb3⟩
  go_wp2_with fail
  refine (C2.out _).mono ?_
  rintro e w2 ⟨rfl, hb2⟩
  have hB := (hb1.trans (hb3.mono hb1.size)).trans (hb2.mono (hb1.trans (hb3.mono hb1.size)).size)
  clear hb1 hb2 hb3 C1 C2 C3
  go_wp2
  go_ret
  exact ⟨by rw [E.out]; rfl, hB⟩
end Go.Proofs.YtfoclgijhkibeabDoor.Cha
