/-
  A row of strings marked by the laws' own helper: nothing but the row changes.
-/
import Derived.Test.YtmnihigackilkaaDoorSlq
import Derived.Test.YtmnihigackilkaaDoorItr
namespace Go.Proofs.YtmnihigackilkaaDoor.Mkg
open Go.ChangeShapes Go.WideShapes Go.ChangeAt Go.RowKit
open Go.Proofs.YtmnihigackilkaaDoor.Mem Go.Proofs.YtmnihigackilkaaDoor.Ints Go.Proofs.YtmnihigackilkaaDoor.Strs Go.Proofs.YtmnihigackilkaaDoor.Slq Go.Proofs.YtmnihigackilkaaDoor.Itr
set_option linter.unusedVariables false
set_option maxRecDepth 100000
set_option maxHeartbeats 1000000 in
theorem markSg (g0 : Nat) (n c : Nat) (l : List ByteArray) (k base : Nat) (w : World) (hk : 1 ≤ k ∧ k ≤ 1000000) (hn : n ≤ 1048576) (hB : base ≤ w.heap.size) (ho : w.ownsRow base 9 1 (.slice (some ⟨g0, 0, none⟩) n c) n (svs l)) :
    Calls Tryd.prog 69 #[.slice (some ⟨g0, 0, none⟩) n c, .int .i64 k] w fun e w' => e = .returned (.int .i64 ((k + n : Nat) : Int)) ∧ w'.ownsRow base 9 1 (.slice (some ⟨g0, 0, none⟩) n c) n (svs (mts k n)) ∧ St (fun k => k = g0) w w' := by
  have hk1 := hk.1
  have hk2 := hk.2
  have hll : l.length = n := by have := ho.1; simpa [svs] using this
  have LL := Lib.hid hll
  have HO := Lib.hid ho
  clear ho hk hll
  go_enter Tryd.func69, Tryd.ntmps69
  go_wp2
  go_loopw [1, 5] (fun x i wr => ∃ j : Nat, j ≤ n ∧ x = .int .i64 ((k + j : Nat) : Int) ∧ i = .int .i64 j ∧ wr.ownsRow base 9 1 (.slice (some ⟨g0, 0, none⟩) n c) n (svs (mts k j ++ l.drop j)) ∧ St (fun k => k = g0) w wr)
    (fun _ i _ => n - (intOf i).toNat)
  case atStart => exact ⟨0, by omega, by simp, rfl, by simpa [mts] using HO.out, St.refl _ _⟩
  case round =>
    obtain ⟨j, hj, rfl, rfl, hown, hb⟩ := hrel
    have HO' := Lib.hid hown
    clear HO hown
    by_cases hlt : j < n
    · obtain ⟨g, hgg, hg⟩ := own_someS HO'.out (by omega)
      obtain rfl : g0 = g := by simpa using hgg
      clear hgg
      have HS := Lib.hid (mts_set l k j (by rw [LL.out]; exact hlt))
      have HL : Hid (j < (svs (mts k j ++ l.drop j)).length) := Lib.hid (by simp [svs, mts_len]; have := LL.out; omega)
      obtain ⟨d, hd⟩ : ∃ d, k + j = d := ⟨_, rfl⟩
      have hd1 : 1 ≤ d := by omega
      have hd2 : d < 10 ^ 12 := by omega
      have hd3 : d ≤ 3000000 := by omega
      have HD := Lib.hid hd
      rw [hd] at HS ⊢
      clear hd
      have hbz := hb.size
      go_wp2_with (go_at_call 126; with_reducible refine (markText d _ hd1 hd2).mono ?_; rintro e w1 ⟨rfl, hb1⟩; have ho1 := own_belowS HO'.out hb1 (Nat.le_refl _); have hc1 := ho1.cellAt j (by omega); rw [List.getElem?_eq_getElem HL.out] at hc1; have hf1 := ho1.frozenAt j; have hR := (ho1.stored j (.string (mt d))).1; rw [HS.out] at hR; have HR := Lib.hid hR; clear ho1 hR; have hB1 : St (fun k => k = g0) w w1 := hb.trans (.all hb1 _))
      go_roundw
      case rel => exact ⟨j + 1, by omega, by have := HD.out; congr 1; omega, by go_num, HR.out, hB1.trans (.setCell _ (p := ⟨g0, j, none⟩) _ rfl)⟩
      case measure => simp [intOf]; omega
    · obtain rfl : j = n := by omega
      have HR : Hid (wr.ownsRow base 9 1 (.slice (some ⟨g0, 0, none⟩) j c) j (svs (mts k j))) := Lib.hid (by
        have := HO'.out
        rw [List.drop_eq_nil_of_le (by rw [LL.out]; exact Nat.le_refl _), List.append_nil] at this
        exact this)
      clear HO'
      go_wp2
      go_ret
      exact ⟨rfl, HR.out, hb⟩
theorem own_other {K : Nat → Prop} {w w' : World} {base e size n : Nat} {v : Value} {xs : List Value} (h : w.ownsRow base e size v n xs) (hs : St K w w') (hK : ∀ k, K k → k < base) : w'.ownsRow base e size v n xs :=
  own_keepS h (fun b hlt hge => hs.block b hlt (fun hk => by have := hK b hk; omega))
end Go.Proofs.YtmnihigackilkaaDoor.Mkg
