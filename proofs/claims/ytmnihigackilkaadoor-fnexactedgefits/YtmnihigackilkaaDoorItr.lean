/-
  Ranges over functions that range over functions in their turn: an own law. What an iterator keeps is a set of blocks, K; what its rounds own is the rest.
-/
import Derived.RangeFuncNested
import Derived.WalkKit
namespace Go.Proofs.YtmnihigackilkaaDoor.Itr
open Go.RowKit
set_option linter.unusedVariables false

/-- Outside the blocks K the world B is as A was. -/
structure St (K : Nat → Prop) (A B : World) : Prop where
  os : B.os = A.os
  tape : B.tape = A.tape
  output : B.output = A.output
  size : A.heap.size ≤ B.heap.size
  block : ∀ k, k < A.heap.size → ¬ K k → B.heap[k]? = A.heap[k]?

theorem St.refl (K : Nat → Prop) (A : World) : St K A A := ⟨rfl, rfl, rfl, Nat.le_refl _, fun _ _ _ => rfl⟩
theorem St.trans {K : Nat → Prop} {A B C : World} (h : St K A B) (k : St K B C) : St K A C :=
  ⟨k.os.trans h.os, k.tape.trans h.tape, k.output.trans h.output, Nat.le_trans h.size k.size, fun i hi hn => (k.block i (Nat.lt_of_lt_of_le hi h.size) hn).trans (h.block i hi hn)⟩
theorem St.mono {K K' : Nat → Prop} {A B : World} (h : St K A B) (hk : ∀ k, k < A.heap.size → K k → K' k) : St K' A B :=
  ⟨h.os, h.tape, h.output, h.size, fun i hi hn => h.block i hi (fun e => hn (hk i hi e))⟩
theorem St.of_below {n : Nat} {A B : World} (h : Below n A B) {K : Nat → Prop} (hk : ∀ k, k < A.heap.size → ¬ K k → k < n) : St K A B :=
  ⟨h.os, h.tape, h.output, h.size, fun i hi hn => h.block i (hk i hi hn)⟩
theorem St.all {A B : World} (h : Below A.heap.size A B) (K : Nat → Prop) : St K A B := .of_below h (fun _ hk _ => hk)
theorem St.alloc (K : Nat → Prop) (A : World) (o : Obj) : St K A (A.alloc o) := .all ((Below.refl _ A).alloc (Nat.le_refl _) o) K
theorem St.putObj {K : Nat → Prop} (A : World) {r : Nat} (o : Obj) (h : K r) : St K A (A.putObj r o) :=
  ⟨rfl, rfl, rfl, by simp, fun k hk hn => World.putObj_heap_other (fun e => hn (e ▸ h))⟩
theorem St.setCell {K : Nat → Prop} (A : World) {p : Addr} (v : Value) (h : K p.block) : St K A (A.setCell p v) :=
  ⟨rfl, rfl, rfl, by simp [World.setCell], fun k hk hn => Below.heap_setCell _ _ _ _ (fun e => hn (e ▸ h))⟩
theorem St.grown {K : Nat → Prop} {A B : World} {row : Option Nat} (h : A.grownBy B row) (hr : ∀ k, row = some k → k < A.heap.size → K k) : St K A B :=
  ⟨h.os, h.tape, h.output, h.size, fun k hk hn => h.block k hk (fun e => hn (hr k e.symm hk))⟩
theorem St.at {K : Nat → Prop} {A B : World} (h : St K A B) {k : Nat} {o : Obj} (ho : A.heap[k]? = some o) (hn : ¬ K k) : B.heap[k]? = some o :=
  (h.block k (Array.getElem?_eq_some_iff.1 ho).1 hn).trans ho
/-- What lay at the first and is nowhere in K lies below n. -/
theorem St.below {K : Nat → Prop} {A B : World} (h : St K A B) {n : Nat} (hn : n ≤ A.heap.size) (hk : ∀ k, K k → n ≤ k) : Below n A B :=
  ⟨h.os, h.tape, h.output, h.size, fun k hlt => h.block k (by omega) (fun e => by have := hk k e; omega)⟩

/-- What the rounds own does not mind what an iterator does with its own blocks and with new ones. -/
def Abide {α : Type} (J : List α → (Nat → Prop) → World → Prop) : Prop :=
  ∀ (ys : List α) (K K' : Nat → Prop) (A B : World), J ys K A → St K A B → (∀ k, K k → K' k) → (∀ k, K' k → K k ∨ A.heap.size ≤ k) → (∀ k, K' k → k < B.heap.size) → J ys K' B

/-- The iterator gives xs, one after another. K0: the blocks that it reads; Pre: what they hold. -/
def Giv {α : Type} (P : Program) (g : Nat) (lb : Array Value) (K0 : Nat → Prop) (Pre : World → Prop) (encs : α → Array Value) (xs : List α) : Prop :=
  ∀ (l : Nat) (J : List α → (Nat → Prop) → World → Prop) (K : Nat → Prop) (W : World), Abide J → (∀ k, K0 k → K k) → (∀ k, K k → k < W.heap.size) → Pre W → J [] K W →
    (∀ (pre : List α) (x : α) (rest : List α) (K1 : Nat → Prop) (W1 : World), pre ++ x :: rest = xs → (∀ k, K k → K1 k) → (∀ k, K1 k → k < W1.heap.size) → J pre K1 W1 →
      YieldAt Fence.wide 0 P l (encs x) W1 fun e W' => e = .returned (.bool true) ∧ J (pre ++ [x]) K1 W' ∧ St (fun k => ¬ K1 k) W1 W') →
    CallsIn Fence.wide 0 P g (#[.func (.yield l) #[] #[]] ++ lb) W fun e W' => (∃ v, e = .returned v) ∧ ∃ K', (∀ k, K k → K' k) ∧ (∀ k, K' k → k < W'.heap.size) ∧ J xs K' W'

/-- How a round's body is left. -/
def post {α : Type} (I : List α → (Nat → Prop) → World → Prop) (K : Nat → Prop) (ys : List α) (W : World) : Exit → Act → World → Prop
  | .normal, _, W' => I ys K W' ∧ St (fun k => ¬ K k) W W'
  | _, _, _ => False

theorem post_normal {α : Type} {I : List α → (Nat → Prop) → World → Prop} {K : Nat → Prop} {ys : List α} {W W' : World} {a : Act} (h : I ys K W') (hs : St (fun k => ¬ K k) W W') : post I K ys W .normal a W' := ⟨h, hs⟩
variable {P : Program}

/-- The statement 'for x := range g { body }', where the body never leaves the loop. -/
theorem range_law {α : Type} {g : Operand} {ps : Array Tmp} {assign body : Code} {Q : Exit → Act → World → Prop} {a : Act} {w : World}
    {gf : Nat} {lb : Array Value} (hg : a.eval g = .func (.func gf) #[] lb) (eg : ∀ args w, (callFunc gf args).run P w = .ok (.enter gf args) w)
    {encs : α → Array Value} {xs : List α} {K0 : Nat → Prop} {Pre : World → Prop} (hseq : Giv P gf lb K0 Pre encs xs) (hps : ∀ x, (encs x).size = ps.size)
    (K : Nat → Prop) (hK0 : ∀ k, K0 k → K k) (hKs : ∀ k, K k → k < w.heap.size) (hPre : ∀ W, (∀ k, k < w.heap.size → W.heap[k]? = w.heap[k]?) → Pre W)
    (I : List α → (Nat → Prop) → World → Prop) (hI : Abide I) (h0 : I [] K w)
    (hround : ∀ (l : Nat) (pre : List α) (x : α) (rest : List α) (K1 : Nat → Prop) (W : World), pre ++ x :: rest = xs → (∀ k, K k → K1 k) → (∀ k, K1 k → k < W.heap.size) → I pre K1 W →
      assign.wpIn (Fence.wide.inRound l) 0 P (Exit.then (fun a' W' => St (fun k => ¬ K1 k) W W' ∧ ∀ W2, St K1 W' W2 → body.wpIn (Fence.wide.inRound l) 0 P (post I K1 (pre ++ [x]) W2) a' W2) (fun _ _ _ => False))
        { tmps := (ps.zip (encs x)).foldl (fun t (p, v) => t.setIfInBounds p v) a.tmps, defers := [] } W)
    (hdone : ∀ (D : Nat) (K1 : Nat → Prop) (W : World), w.heap.size ≤ D → K1 D → (∀ k, K k → K1 k) → (∀ k, K1 k → k < W.heap.size) → I xs K1 W → W.heap[D]? = some (.deferred (some [])) →
      Q .normal { a with defers := { target := .collected D, args := #[] } :: a.defers } W) :
    (Code.rangeFunc g ps assign body).wpIn Fence.wide 0 P Q a w := by
  refine wpIn_rangeFunc ?_
  intro fn _
  obtain ⟨rec, hrec⟩ : ∃ rec : LoopState → Loop, rec = fun st => { state := st, pending := none, fn, tmps := a.tmps, params := ps, assign, body, defers := w.heap.size } := ⟨_, rfl⟩
  obtain ⟨D, hD⟩ : ∃ D, D = w.heap.size := ⟨_, rfl⟩
  obtain ⟨W1, hW1⟩ : ∃ W1, (w.alloc (.deferred (some []))).alloc (.loop (rec .ready)) = W1 := ⟨_, rfl⟩
  have hb1 : Below w.heap.size w W1 := by
    rw [← hW1]; exact (((Below.refl _ w).alloc (Nat.le_refl _) _).alloc (by simp) _)
  have hL1 : W1.heap[D + 1]? = some (.loop (rec .ready)) := by
    rw [← hW1, hD]; have := World.alloc_heap_new (w.alloc (.deferred (some []))) (.loop (rec .ready)); rwa [World.size_alloc] at this
  have hK1 : W1.heap[D]? = some (.deferred (some [])) := by
    rw [← hW1, hD]; exact (Below.heap_alloc _ _ _ (by simp)).trans (World.alloc_heap_new w _)
  have hs1 : W1.heap.size = D + 2 := by rw [← hW1, hD]; simp
  let U : (Nat → Prop) → Nat → Prop := fun K k => K k ∨ k = D ∨ k = D + 1
  let J : List α → (Nat → Prop) → World → Prop := fun ys K W => I ys (U K) W ∧ W.heap[D + 1]? = some (.loop (rec .ready)) ∧ W.heap[D]? = some (.deferred (some [])) ∧ ¬ K D ∧ ¬ K (D + 1)
  have hJ : Abide J := by
    rintro ys Ka Kb A B ⟨hi, hl, hk, n1, n2⟩ hst hsub hnew hin
    have lD : D < A.heap.size := (Array.getElem?_eq_some_iff.1 hk).1
    have lL : D + 1 < A.heap.size := (Array.getElem?_eq_some_iff.1 hl).1
    refine ⟨hI ys (U Ka) (U Kb) A B hi (hst.mono fun k _ h => .inl h) (fun k h => h.imp_left (hsub k)) ?_ ?_, hst.at hl n2, hst.at hk n1, ?_, ?_⟩
    · rintro k (h | h)
      · exact (hnew k h).imp_left .inl
      · exact .inl (.inr h)
    · rintro k (h | h | h)
      · exact hin k h
      · have := hst.size; omega
      · have := hst.size; omega
    · intro h; rcases hnew D h with h | h
      · exact n1 h
      · omega
    · intro h; rcases hnew (D + 1) h with h | h
      · exact n2 h
      · omega
  have nD : ¬ K D := fun h => by have := hKs D h; omega
  have nL : ¬ K (D + 1) := fun h => by have := hKs (D + 1) h; omega
  refine ⟨D + 1, [{ target := .collected D, args := #[] }], W1, { target := .fn (.func gf) lb, args := #[.func (.yield (D + 1)) #[] #[]] }, W1, gf,
    #[.func (.yield (D + 1)) #[] #[]] ++ lb, W1, ?_, ?_, fun _ _ => trivial, ?_, (fun h => (by cases h)), ?_⟩
  · rw [← hW1, hrec, hD]; exact run_enterLoop_outer _ _ _ _ _
  · simp only [resolve, hg]
    simp [go_sem]
  · simp [invoke, go_sem, eg]
  · refine (hseq (D + 1) J K W1 hJ hK0 (fun k h => by have := hKs k h; omega) (hPre W1 fun k hk => hb1.block k hk) ⟨?_, hL1, hK1, nD, nL⟩ ?_).mono ?_
    · refine hI [] K (U K) w W1 h0 (.all hb1 K) (fun k h => .inl h) ?_ ?_
      · rintro k (h | h | h)
        · exact .inl h
        · exact .inr (by omega)
        · exact .inr (by omega)
      · rintro k (h | h | h)
        · have := hKs k h; omega
        · omega
        · omega
    · -- one round
      rintro pre x rest Ka W hx hsub hin ⟨hi, hl, hk, n1, n2⟩
      have lD : D < W.heap.size := (Array.getElem?_eq_some_iff.1 hk).1
      have lL : D + 1 < W.heap.size := (Array.getElem?_eq_some_iff.1 hl).1
      have hy := run_yield (P := P) (args := encs x) hl (by rw [hrec]; exact hps x)
      rw [hrec] at hy
      have uin0 : ∀ k, U Ka k → k < W.heap.size := by
        rintro k (h | h | h)
        · exact hin k h
        · omega
        · omega
      refine ⟨fn, _, assign, body, hy, roundIn_of_wpIn trivial (wpIn_mono (hround _ pre x rest (U Ka) W hx (fun k h => .inl (hsub k h)) uin0 hi) ?_)⟩
      intro e0 a0 Wa hp0
      cases e0 with
      | ret => exact hp0.elim
      | exit id => exact hp0.elim
      | goto t => exact hp0.elim
      | panic ch => exact hp0.elim
      | outgrown => exact hp0.elim
      | normal =>
      obtain ⟨hsa, hbd⟩ := hp0
      have hla := hsa.at hl (fun h => h (.inr (.inr rfl)))
      have hka := hsa.at hk (fun h => h (.inr (.inl rfl)))
      have lLa : D + 1 < Wa.heap.size := (Array.getElem?_eq_some_iff.1 hla).1
      refine ⟨_, run_beginRound hla (by rw [hrec]), ?_⟩
      have e2 : ({ rec .ready with state := .busy } : Loop) = rec .busy := by rw [hrec]
      rw [e2]
      have uin : ∀ k, U Ka k → k < (Wa.putObj (D + 1) (.loop (rec .busy))).heap.size := by
        intro k h; have := uin0 k h; have := hsa.size; simp; omega
      have hl2 : (Wa.putObj (D + 1) (.loop (rec .busy))).heap[D + 1]? = some (.loop (rec .busy)) := World.putObj_heap_same lLa
      have hk2 : (Wa.putObj (D + 1) (.loop (rec .busy))).heap[D]? = some (.deferred (some [])) := (World.putObj_heap_other (by omega)).trans hka
      refine wpIn_mono (hbd _ (.putObj Wa _ (.inr (.inr rfl)))) ?_
      rintro e a3 W3 hp
      cases e with
      | normal =>
        obtain ⟨hi3, hs3⟩ := hp
        have hl3 := hs3.at hl2 (fun h => h (.inr (.inr rfl)))
        have hk3 := hs3.at hk2 (fun h => h (.inr (.inl rfl)))
        have lL3 : D + 1 < W3.heap.size := (Array.getElem?_eq_some_iff.1 hl3).1
        have hend := run_endRound (P := P) none hl3
        have e3 : (W3.putObj (D + 1) (.loop { rec .busy with state := if (none : Option Code).isNone then .ready else .done, pending := none })) = W3.putObj (D + 1) (.loop (rec .ready)) := by rw [hrec]; rfl
        refine ⟨_, _, hend, rfl, ⟨?_, ?_, ?_, n1, n2⟩, ?_⟩
        · refine hI _ (U Ka) (U Ka) W3 _ hi3 (.putObj W3 _ (.inr (.inr rfl))) (fun _ h => h) (fun _ h => .inl h) ?_
          intro k h; have := uin k h; have := hs3.size; simp at *; omega
        · rw [World.putObj_heap_same lL3]; rw [hrec]; rfl
        · exact (World.putObj_heap_other (by omega)).trans hk3
        · refine St.trans (B := Wa) (hsa.mono ?_) (St.trans (B := Wa.putObj (D + 1) (.loop (rec .busy))) (.putObj Wa _ n2) (St.trans (B := W3) (hs3.mono ?_) (.putObj W3 _ n2)))
          · intro k _ h h'; exact h (.inl h')
          · intro k _ h h'; exact h (.inl h')
      | ret => exact hp.elim
      | exit id => exact hp.elim
      | goto t => exact hp.elim
      | panic ch => exact hp.elim
      | outgrown => exact hp.elim
    · rintro e W2 ⟨⟨v, rfl⟩, Kb, hsub, hin, hi, hl, hk, n1, n2⟩
      have lD : D < W2.heap.size := (Array.getElem?_eq_some_iff.1 hk).1
      have lL : D + 1 < W2.heap.size := (Array.getElem?_eq_some_iff.1 hl).1
      have hend := run_endLoop (P := P) hl (by rw [hrec]; simp)
      have uin : ∀ k, U Kb k → k < W2.heap.size := by
        rintro k (h | h | h)
        · exact hin k h
        · omega
        · omega
      have hpend : (rec .ready).pending = none := by rw [hrec]
      rw [hpend] at hend
      refine ⟨none, _, hend, hdone D (U Kb) _ (by omega) (.inr (.inl rfl)) (fun k h => .inl (hsub k h)) (fun k h => by simpa using uin k h) ?_ ((World.putObj_heap_other (by omega)).trans hk)⟩
      exact hI _ (U Kb) (U Kb) W2 _ hi (.putObj W2 _ (.inr (.inr rfl))) (fun _ h => h) (fun _ h => .inl h) (fun k h => by simpa using uin k h)
end Go.Proofs.YtmnihigackilkaaDoor.Itr
