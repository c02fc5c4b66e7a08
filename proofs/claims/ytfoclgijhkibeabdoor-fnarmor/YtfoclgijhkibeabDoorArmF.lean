/-
  What the law on armored texts turns on.
-/
import Derived.Test.YtfoclgijhkibeabDoorOa3
import Derived.Test.YtfoclgijhkibeabDoorDrawR
namespace Go.Proofs.YtfoclgijhkibeabDoor.ArmF
open Go.ChangeShapes Go.WideShapes Go.ChangeAt Go.RowKit
open Go.Proofs.YtfoclgijhkibeabDoor.Mem Go.Proofs.YtfoclgijhkibeabDoor.Ints Go.Proofs.YtfoclgijhkibeabDoor.Strs Go.Proofs.YtfoclgijhkibeabDoor.Lines Go.Proofs.YtfoclgijhkibeabDoor.SigM Go.Proofs.YtfoclgijhkibeabDoor.SigI Go.Proofs.YtfoclgijhkibeabDoor.Name Go.Proofs.YtfoclgijhkibeabDoor.Armor Go.Proofs.YtfoclgijhkibeabDoor.OaM Go.Proofs.YtfoclgijhkibeabDoor.Oa2 Go.Proofs.YtfoclgijhkibeabDoor.Oa3
set_option linter.unusedVariables false
set_option maxRecDepth 100000

/-- A call that gives an answer wherever the library's variable holds some number. -/
def Gm (f : Nat) (args : Array Value) (v : Value) : Prop := ∀ W, Mx W → Calls Tryd.prog f args W fun e w' => e = .returned v ∧ Below W.heap.size W w'
/-- A call that gives an answer in every world. -/
def Gw (f : Nat) (args : Array Value) (v : Value) : Prop := ∀ W, Calls Tryd.prog f args W fun e w' => e = .returned v ∧ Below W.heap.size W w'
theorem factsA (n s : ByteArray) (hn : n.size ≤ 17) (hs : s.size ≤ 601) : ∃ (t : ByteArray) (ok : Bool),
    Gw 21 #[.string n, .string s] (.tuple #[.string t, .bool ok]) ∧ Gw 22 #[.string n, .string s] (.tuple #[.string t, .bool ok]) ∧ t.size ≤ 1000 ∧
    (ok = true → Gm 19 #[.string t] (.tuple #[.string n, .string s, .bool true])) := by
  by_cases h : nameOK n ∧ s.size ≤ 600
  · have hz : (armB n s).size ≤ 911 := by unfold armB; rw [mk_size]; exact DrawR.arm_le n s h.1.2.2 h.2
    refine ⟨armB n s, true, fun W => implArmor n s W h.1.2.2 h.2 h.1, fun W => specYesA n s W h.2 h.1, by omega, fun _ => ?_⟩
    obtain ⟨n', s', b, h1, h2, -, -, I, -⟩ := oaBoth (armB n s) (by unfold maxLen; omega)
    obtain ⟨rfl, rfl, rfl⟩ := h2 n s ⟨h.1, h.2, rfl⟩ (by omega)
    exact I
  · refine ⟨⟨#[]⟩, false, fun W => implNoA n s W (by unfold maxLen; omega) (by unfold maxLen; omega) h, fun W => (specNoA n s W (by unfold maxLen; omega) (by unfold maxLen; omega) h).mono ?_, by show 0 ≤ 1000; omega, fun h => by cases h⟩
    rintro e w' ⟨rfl, rfl⟩
    exact ⟨rfl, Below.refl _ _⟩
theorem factsB (t : ByteArray) (ht : t.size ≤ maxLen) : ∃ (a b : ByteArray) (is : Bool),
    Gm 19 #[.string t] (.tuple #[.string a, .string b, .bool is]) ∧ Gw 18 #[.string t] (.tuple #[.string a, .string b, .bool is]) ∧
    (is = true → Gw 21 #[.string a, .string b] (.tuple #[.string t, .bool true])) := by
  obtain ⟨a, b, is, h1, h2, -, -, I, S⟩ := oaBoth t ht
  refine ⟨a, b, is, I, S, fun h => ?_⟩
  obtain ⟨k1, k2, k3⟩ := h1 h
  subst k3
  exact fun W => implArmor a b W k1.2.2 k2 k1
/-- Some lines, owned. -/
def SomeL (l : List ByteArray) (w : World) (e : Ending) (w' : World) : Prop := ∃ v, e = .returned (.tuple #[v, .bool true]) ∧ w'.ownsRow w.heap.size 9 1 v l.length (svs l) ∧ Below w.heap.size w w'
theorem factsC (t : ByteArray) (z : Int) (ht : t.size ≤ 1200) (h0 : 0 ≤ z) (h1 : z ≤ 101) :
    (∃ l : List ByteArray, (∀ W, Calls Tryd.prog 25 #[.string t, .int .i64 z] W (SomeL l W)) ∧ (∀ W, Calls Tryd.prog 26 #[.string t, .int .i64 z] W (SomeL l W)) ∧ l.length ≤ 800 ∧ cat l = t.data.toList ∧
      (∀ i (h : i < l.length), 0 < l[i].size ∧ (l[i].size : Int) ≤ z ∧ (i < l.length - 1 → (l[i].size : Int) = z))) ∨
    ((∀ W, Calls Tryd.prog 25 #[.string t, .int .i64 z] W fun e w' => e = .returned (.tuple #[.slice none 0 0, .bool false]) ∧ W = w') ∧ (∀ W, Calls Tryd.prog 26 #[.string t, .int .i64 z] W fun e w' => e = .returned (.tuple #[.slice none 0 0, .bool false]) ∧ W = w')) := by
  by_cases h : 800 < t.size ∨ z < 1 ∨ 100 < z
  · exact .inr ⟨fun W => implNo t z W (by unfold maxLen; omega) h, fun W => specNo t z W (by unfold maxLen; omega) h⟩
  · obtain ⟨wd, rfl⟩ := Int.eq_ofNat_of_zero_le h0
    have e : (lns t wd (cnt t wd)).length = cnt t wd := lns_len _ _ _
    have hc := cnt_le t wd (by omega)
    refine .inl ⟨lns t wd (cnt t wd), fun W => (implLines t wd W (by omega) (by omega) (by omega)).mono fun e' w' hh => ?_, fun W => (specLines t wd W (by omega) (by omega) (by omega)).mono fun e' w' hh => ?_, by omega, cat_all t wd (by omega), fun i hi => ?_⟩
    · unfold SomeL; rw [e]; exact hh
    · unfold SomeL; rw [e]; exact hh
    · rw [e] at hi ⊢
      rw [lns_get]
      have hl := (lt_cnt t wd i (by omega)).1 hi
      have hz : (lineAt t wd i).size = min t.size (i * wd + wd) - i * wd := by unfold lineAt; rw [ByteArray.size_extract]; omega
      refine ⟨by omega, by omega, fun hi2 => ?_⟩
      have hl2 := (lt_cnt t wd (i + 1) (by omega)).1 (by omega)
      rw [Nat.succ_mul] at hl2
      omega
end Go.Proofs.YtfoclgijhkibeabDoor.ArmF
