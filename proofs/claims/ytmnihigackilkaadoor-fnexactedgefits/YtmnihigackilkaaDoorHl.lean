/-
  A drawn region whose last writes hit cells that it loads: what is held of the world may hang on which operations have come up.
-/
import Derived.OrdersHeld
import Derived.Deep.RegionHeld3
import Derived.Lib.Hide
namespace Go.Proofs.YtmnihigackilkaaDoor.Hl
open Go Go.RowKit
set_option linter.unusedVariables false

section
variable {P : Program} {ops : Array Oper} {Q : Exit → Act → World → Prop} {md : Region.Mode} {S : Array Bool → World → Prop}

/-- Every order from here on; behind each operation S holds of what has come up and of the world. -/
def HL (P : Program) (md : Region.Mode) (ops : Array Oper) (Q : Exit → Act → World → Prop) (S : Array Bool → World → Prop) : Nat → Array Bool → Act → World → Prop
  | 0, l, a, w => Region.ready md ops l = [] ∧ Q .normal a w
  | f + 1, l, a, w => (Region.ready md ops l = [] → Q .normal a w) ∧ ∀ j, j ∈ Region.ready md ops l → wpOp P ops Q j (fun a' w' => S (l.setIfInBounds j true) w' ∧ HL P md ops Q S f (l.setIfInBounds j true) a' w') a w

theorem HL.any : ∀ (f : Nat) (l : Array Bool) (a : Act) (w : World), HL P md ops Q S f l a w → wpAny P md ops Q f l a w
  | 0, _, _, _, h => h
  | f + 1, l, a, w, h => ⟨h.1, fun j hj => wpOp_mono (fun a' w' k => HL.any f _ a' w' k.2) (h.2 j hj)⟩

/-- W waits for i. -/
def waits (md : Region.Mode) (ops : Array Oper) (W i : Nat) : Bool := ((ops[W]?).map fun o => o.after.any fun e => Region.binds md e && e.on == i).getD false
theorem waits_spec {W i : Nat} (h : waits md ops W i = true) : ∃ oW, ops[W]? = some oW ∧ ∃ e ∈ oW.after, Region.binds md e = true ∧ e.on = i := by
  unfold waits at h
  cases ho : ops[W]? with
  | none => rw [ho] at h; cases h
  | some oW =>
    rw [ho] at h
    simp only [Option.map_some, Option.getD_some] at h
    obtain ⟨e, he, hb⟩ := Array.any_eq_true'.1 h
    simp only [Bool.and_eq_true, beq_iff_eq] at hb
    exact ⟨oW, rfl, e, he, hb.1, hb.2⟩
/-- An operation that has not come up, and that is waited for by W: whoever may come up beside it is not W. -/
theorem not_waiter {W i j : Nat} {l : Array Bool} (hw : waits md ops W i = true) (hi : i ∈ Region.ready md ops l) (hj : j ∈ Region.ready md ops l) : j ≠ W := by
  rintro rfl
  obtain ⟨oW, ho, e, he, hb, rfl⟩ := waits_spec hw
  obtain ⟨_, o, ho', hall⟩ := mem_ready.1 hj
  obtain rfl : oW = o := Option.some.inj (ho.symm.trans ho')
  have h1 := hall e he hb
  have h0 := (mem_ready.1 hi).1
  rcases Nat.lt_or_ge e.on l.size with h' | h'
  · simp [h'] at h0 h1; rw [h0] at h1; cases h1
  · simp [Array.getElem?_eq_none h'] at h1
theorem not_before {i : Nat} {l : Array Bool} {oj : Oper} (hi : i ∈ Region.ready md ops l) (hall : ∀ e ∈ oj.after, Region.binds md e = true → l.getD e.on false = true) : ∀ e ∈ oj.after, Region.binds md e = true → e.on ≠ i := by
  intro e he hb heq
  have h1 := hall e he hb
  have h0 := (mem_ready.1 hi).1
  rw [heq] at h1
  rcases Nat.lt_or_ge i l.size with h' | h'
  · simp [h'] at h0 h1; rw [h0] at h1; cases h1
  · simp [Array.getElem?_eq_none h'] at h1

theorem HL.first {i W : Nat} {oi : Oper} {v : Value} {T : World → Prop} (hi : ops[i]? = some oi) (hsel : ∀ (j : Nat) (o : Oper) cs b, ops[j]? = some o → o.op ≠ .select cs b)
    (hQ : ∀ c a w, Q (.panic c) (a.put oi.dst v) w → Q (.panic c) a w) (hw : waits md ops W i = true) (hT : ∀ l w, l.getD W true = false → S l w → T w) (hS : ∀ l w, S (l.setIfInBounds i true) w ↔ S l w) :
    ∀ (f : Nat) (l : Array Bool) (a : Act) (w : World),
      (∀ j oj, ops[j]? = some oj → j ≠ i → l.getD j true = false → (∀ e ∈ oj.after, Region.binds md e = true → e.on ≠ i) → oi.apart ops oj = true) →
      i ∈ Region.ready md ops l → l.getD W true = false → YieldsIf P ops T oi v a → S l w →
      HL P md ops Q S f (l.setIfInBounds i true) (a.put oi.dst v) w → HL P md ops Q S (f + 1) l a w := by
  intro f
  induction f with
  | zero =>
    intro l a w _ hr hW hy hs H
    refine ⟨fun h => (by rw [h] at hr; cases hr), fun j hj => ?_⟩
    by_cases hji : j = i
    · subst hji; exact hy.wpOp hi (hT l w hW hs) ⟨(hS l w).2 hs, H⟩
    · have := ready_mono hj hji
      rw [H.1] at this
      cases this
  | succ f ih =>
    intro l a w hfree hr hW hy hs H
    refine ⟨fun h => (by rw [h] at hr; cases hr), fun j hj => ?_⟩
    by_cases hji : j = i
    · subst hji; exact hy.wpOp hi (hT l w hW hs) ⟨(hS l w).2 hs, H⟩
    · obtain ⟨hjun, oj, hoj, hall⟩ := mem_ready.1 hj
      have hjW := not_waiter hw hr hj
      have h2 := wpOp_putIf hoj (hfree j oj hoj hji hjun (not_before hr hall)) (fun cs b => hsel i oi cs b hi) (fun cs b => hsel j oj cs b hoj) hQ hy (H.2 j (ready_mono hj hji))
      have hfree' : ∀ k ok, ops[k]? = some ok → k ≠ i → (l.setIfInBounds j true).getD k true = false → (∀ e ∈ ok.after, Region.binds md e = true → e.on ≠ i) → oi.apart ops ok = true := by
        intro k ok hk hki hun hno
        refine hfree k ok hk hki ?_ hno
        by_cases hjk : j = k
        · subst hjk; exact hjun
        · rw [getD_set_ne true hjk] at hun; exact hun
      refine wpOp_mono (fun a' w' h3 => ?_) h2
      rw [Array.setIfInBounds_comm _ _ (Ne.symm hji)] at h3
      have hs' : S (l.setIfInBounds j true) w' := (hS _ _).1 h3.2.1
      exact ⟨hs', ih (l.setIfInBounds j true) a' w' hfree' (ready_mono hr (Ne.symm hji)) (by rw [getD_set_ne true hjW]; exact hW) h3.1 hs' h3.2.2⟩

theorem HL.take {i W : Nat} {oi : Oper} {v : Value} {T : World → Prop} {f : Nat} {l : Array Bool} {a : Act} {w : World} (hi : ops[i]? = some oi) (hs : Region.noSelect ops = true) (hf : Region.free md ops l i = true)
    (hr : (Region.ready md ops l).contains i = true) (hw : waits md ops W i = true) (hW : l.getD W true = false) (hT : ∀ l w, l.getD W true = false → S l w → T w) (hS : ∀ l w, S (l.setIfInBounds i true) w ↔ S l w)
    (hQ : ∀ c a w, Q (.panic c) (a.put oi.dst v) w → Q (.panic c) a w) (hy : YieldsIf P ops T oi v a) (hSw : S l w)
    (h : S (l.setIfInBounds i true) w → HL P md ops Q S f (l.setIfInBounds i true) (a.put oi.dst v) w) : HL P md ops Q S (f + 1) l a w :=
  HL.first hi (Region.noSelect_spec hs) hQ hw hT hS f l a w (Region.free_spec hi hf) (by simpa using hr) hW hy hSw (h ((hS l w).2 hSw))
/-- One alone may come up. -/
theorem HL.only {i f : Nat} {oi : Oper} {l : Array Bool} {a : Act} {w : World} (hr : Region.ready md ops l = [i]) (hi : ops[i]? = some oi) (hw : Region.wanted oi (yielded ops a.tmps) = true)
    (h : ∀ K : Act → World → Prop, Hid (∀ a' w', S (l.setIfInBounds i true) w' → (S (l.setIfInBounds i true) w' → HL P md ops Q S f (l.setIfInBounds i true) a' w') → K a' w') → Oper.wp P oi a w K Q) : HL P md ops Q S (f + 1) l a w := by
  refine ⟨fun h0 => (by rw [h0] at hr; cases hr), fun j hj => ?_⟩
  rw [hr] at hj
  obtain rfl : j = i := by simpa using hj
  unfold wpOp
  simp only [hi, hw, if_true]
  exact .inl (h _ (Lib.hid fun a' w' h1 h2 => ⟨h1, h2 h1⟩))
theorem HL.done {f : Nat} {l : Array Bool} {a : Act} {w : World} (hr : Region.ready md ops l = []) (h : Q .normal a w) : HL P md ops Q S f l a w := by
  cases f with
  | zero => exact ⟨hr, h⟩
  | succ f => exact ⟨fun _ => h, by rw [hr]; simp⟩
theorem HL.start {id : Nat} {a : Act} {w : World} (hm : P.follows .mixedOrders = true) (h : HL P .any ops Q S ops.size (Array.replicate ops.size false) a w.drew) : (Code.region id ops true).wp P Q a w :=
  wp_region_any hm (HL.any _ _ _ _ h)
end
end Go.Proofs.YtmnihigackilkaaDoor.Hl
