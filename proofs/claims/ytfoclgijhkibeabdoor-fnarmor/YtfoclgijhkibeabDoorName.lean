/-
  Whether a string is a name of an armored text: the reference and the program answer alike.
-/
import Derived.Test.YtfoclgijhkibeabDoorSigI
namespace Go.Proofs.YtfoclgijhkibeabDoor.Name
open Go.ChangeShapes Go.WideShapes Go.ChangeAt Go.RowKit
open Go.Proofs.YtfoclgijhkibeabDoor.Mem
set_option linter.unusedVariables false
set_option maxRecDepth 100000

def capB (c : UInt8) : Prop := 65 ≤ c.toNat ∧ c.toNat ≤ 90
def nameOK (n : ByteArray) : Prop := (∀ c ∈ n.data.toList, capB c) ∧ 1 ≤ n.size ∧ n.size ≤ 16
theorem cap_step (n : ByteArray) (k : Nat) (h : k < n.size) (ho : ∀ c ∈ n.data.toList.take k, capB c) (hk : capB n[k]) : ∀ c ∈ n.data.toList.take (k + 1), capB c := by
  rw [take_snoc n k h]
  intro c hc
  rcases List.mem_append.1 hc with h1 | h1
  · exact ho c h1
  · simp at h1; subst h1; exact hk
theorem not_ok (n : ByteArray) (k : Nat) (h : k < n.size) (hk : ¬ capB n[k]) : ¬ nameOK n := by
  intro ho
  have h' : k < n.data.toList.length := by simpa using h
  exact hk (ho.1 _ (List.getElem_mem h'))
theorem all_ok (n : ByteArray) (k : Nat) (h : n.size ≤ k) (ho : ∀ c ∈ n.data.toList.take k, capB c) : ∀ c ∈ n.data.toList, capB c := by
  rw [take_all n k h] at ho; exact ho

set_option maxHeartbeats 1000000 in
theorem implName (n : ByteArray) (b : Bool) (w : World) (hm : n.size ≤ maxLen) (HY : Hid (nameOK n → b = true)) (HNo : Hid (¬ nameOK n → b = false)) :
    Calls Tryd.prog 80 #[.string n] w fun e w' => e = .returned (.bool b) ∧ w = w' := by
  unfold maxLen at hm
  go_enter Tryd.func80, Tryd.ntmps80
  go_wp2
  go_loop [6] (fun i => ∃ k : Nat, k ≤ n.size ∧ i = .int .i64 k ∧ Hid (∀ c ∈ n.data.toList.take k, capB c)) (fun i => n.size - (intOf i).toNat)
  case atStart => exact ⟨0, by omega, rfl, Lib.hid (by simp)⟩
  case round =>
    obtain ⟨k, hk, rfl, HA⟩ := hrel
    by_cases hlt : k < n.size
    · have h255 : n[k].toNat < 256 := n[k].toNat_lt
      by_cases h1 : n[k].toNat < 65
      · obtain rfl := HNo.out (not_ok n k hlt (fun h => by unfold capB at h; omega))
        clear HNo HY
        go_wp2
        go_ret
        exact ⟨rfl, rfl⟩
      · by_cases h2 : 90 < n[k].toNat
        · obtain rfl := HNo.out (not_ok n k hlt (fun h => by unfold capB at h; omega))
          have h3 : 65 ≤ n[k].toNat := by omega
          clear HNo HY
          go_wp2
          go_ret
          exact ⟨rfl, rfl⟩
        · have h3 : 65 ≤ n[k].toNat := by omega
          have h4 : n[k].toNat ≤ 90 := by omega
          have HB := Lib.hid (cap_step n k hlt HA.out ⟨h3, h4⟩)
          go_wp2
          go_round
          case rel => exact ⟨k + 1, by omega, by go_num, HB⟩
          case measure => simp [intOf]; omega
    · have HA' := Lib.hid (all_ok n k (by omega) HA.out)
      by_cases h1 : n.size = 0
      · obtain rfl := HNo.out (fun h => by have := h.2.1; omega)
        clear HNo HY
        go_wp2
        go_ret
        exact ⟨rfl, rfl⟩
      · by_cases h2 : 16 < n.size
        · obtain rfl := HNo.out (fun h => by have := h.2.2; omega)
          have h3 : 1 ≤ n.size := by omega
          clear HNo HY
          go_wp2
          go_ret
          exact ⟨by simp; omega, rfl⟩
        · obtain rfl := HY.out ⟨HA'.out, by omega, by omega⟩
          have h3 : 1 ≤ n.size := by omega
          have h4 : n.size ≤ 16 := by omega
          clear HNo HY
          go_wp2
          go_ret
          exact ⟨by simp; omega, rfl⟩
set_option maxHeartbeats 1000000 in
theorem specName (n : ByteArray) (b : Bool) (w : World) (hm : n.size ≤ maxLen) (HY : Hid (nameOK n → b = true)) (HNo : Hid (¬ nameOK n → b = false)) :
    Calls Tryd.prog 72 #[.string n] w fun e w' => e = .returned (.bool b) ∧ w = w' := by
  unfold maxLen at hm
  go_enter Tryd.func72, Tryd.ntmps72
  go_wp2
  go_loop [3] (fun i => ∃ k : Nat, k ≤ n.size ∧ i = .int .i64 k ∧ Hid (∀ c ∈ n.data.toList.take k, capB c)) (fun i => n.size - (intOf i).toNat)
  case atStart => exact ⟨0, by omega, rfl, Lib.hid (by simp)⟩
  case round =>
    obtain ⟨k, hk, rfl, HA⟩ := hrel
    by_cases hlt : k < n.size
    · have h255 : n[k].toNat < 256 := n[k].toNat_lt
      by_cases h1 : n[k].toNat < 65
      · obtain rfl := HNo.out (not_ok n k hlt (fun h => by unfold capB at h; omega))
        clear HNo HY
        go_wp2
        go_ret
        exact ⟨rfl, rfl⟩
      · by_cases h2 : 90 < n[k].toNat
        · obtain rfl := HNo.out (not_ok n k hlt (fun h => by unfold capB at h; omega))
          have h3 : 65 ≤ n[k].toNat := by omega
          clear HNo HY
          go_wp2
          go_ret
          exact ⟨rfl, rfl⟩
        · have h3 : 65 ≤ n[k].toNat := by omega
          have h4 : n[k].toNat ≤ 90 := by omega
          have HB := Lib.hid (cap_step n k hlt HA.out ⟨h3, h4⟩)
          go_wp2
          go_round
          case rel => exact ⟨k + 1, by omega, by go_num, HB⟩
          case measure => simp [intOf]; omega
    · have HA' := Lib.hid (all_ok n k (by omega) HA.out)
      by_cases h1 : 1 ≤ n.size ∧ n.size ≤ 16
      · obtain rfl := HY.out ⟨HA'.out, h1⟩
        have C := Lib.hid (fun W => Len.inYes (n.size : Int) 1 16 W (by omega) (by omega))
        clear HNo HY h1
        go_wp2_with (go_at_call 87; with_reducible refine (C.out _).mono ?_; rintro e w' ⟨rfl, rfl⟩)
        go_ret
        exact ⟨rfl, rfl⟩
      · obtain rfl := HNo.out (fun h => h1 h.2)
        have C := Lib.hid (fun W => Len.inNo (n.size : Int) 1 16 W (by omega))
        clear HNo HY h1
        go_wp2_with (go_at_call 87; with_reducible refine (C.out _).mono ?_; rintro e w' ⟨rfl, rfl⟩)
        go_ret
        exact ⟨rfl, rfl⟩
end Go.Proofs.YtfoclgijhkibeabDoor.Name
