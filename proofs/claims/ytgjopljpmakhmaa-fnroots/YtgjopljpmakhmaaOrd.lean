/-
  Orders and generators modulo a prime: contracts, and the walks of the laws on OrderMod and FirstGenerator.
-/
import Derived.Test.YtgjopljpmakhmaaKind
import Derived.Deep.LoopGhost
namespace Go.Proofs.Ytgjopljpmakhmaa.Ord
open Go.ChangeShapes Go.WideShapes Go.ChangeAt Go.RowKit
open Go.Proofs.Ytgjopljpmakhmaa.Mem Go.Proofs.Ytgjopljpmakhmaa.Num Go.Proofs.Ytgjopljpmakhmaa.Mod Go.Proofs.Ytgjopljpmakhmaa.Pow Go.Proofs.Ytgjopljpmakhmaa.Kind
set_option linter.unusedVariables false
set_option maxRecDepth 100000

theorem pow_one_mod (a p : Nat) (h : a < p) : a ^ 1 % p = a := by rw [Nat.pow_one]; exact Nat.mod_eq_of_lt h
set_option maxHeartbeats 1000000 in
theorem l4Order (a p o : Nat) (w : World) (hp : Pr p) (ha : a < p) (ho : Num.Ord a p o) (hop : o ≤ p - 1) :
    Calls Try.prog 45 #[.int .i64 a, .int .i64 p] w fun e w' => e = .returned (.int .i64 o) ∧ w = w' := by
  have h3 := hp.ge; have h4 := hp.le; have h5 := ho.pos
  have HO := Lib.hid ho
  clear ho
  go_enter Try.func45, Try.ntmps45
  go_wp2
  go_loopw [5, 6] (fun vk vn wr => ∃ k n : Nat, 1 ≤ k ∧ k ≤ o ∧ n < p ∧ vk = .int .i64 k ∧ vn = .int .i64 n ∧ Hid (n = a ^ k % p) ∧ w = wr) (fun vk _ _ => o - (intOf vk).toNat)
  case atStart => exact ⟨1, a, by omega, by omega, ha, rfl, rfl, Lib.hid (pow_one_mod a p ha).symm, rfl⟩
  case round =>
    obtain ⟨k, n, h1, h2, hn, rfl, rfl, E, rfl⟩ := hrel
    have b0 := mul_bd n a p hn ha h4
    have md := mul_md n a p
    by_cases he : k = o
    · have t : (n : Int) = 1 := by have := E.out; rw [he, HO.out.one] at this; omega
      have H := Lib.hid he
      clear md he
      go_wp2
      go_ret
      exact ⟨by rw [← H.out]; rfl, rfl⟩
    · have t : ¬ (n : Int) = 1 := by have h6 := HO.out.least k (by omega) (by omega); rw [← E.out] at h6; omega
      have H := Lib.hid md
      clear md
      go_wp2
      go_roundw
      case rel => exact ⟨k + 1, n * a % p, by omega, by omega, Nat.mod_lt _ (by omega), by go_num, by rw [H.out], Lib.hid (by rw [E.out, Nat.pow_succ, Nat.mul_mod (a ^ k % p), Nat.mod_mod, ← Nat.mul_mod]), by first | rfl | trivial⟩
      case measure => simp [intOf]; omega

theorem div_facts (n d p : Nat) (h2 : 2 ≤ d) (hd : d ≤ n) (hp : n ≤ p) : 0 < n / d ∧ n / d < n ∧ n / d ≤ p := by
  have h1 := Nat.div_pos hd (show 0 < d by omega)
  have h3 := Nat.div_lt_self (show 0 < n by omega) (show 1 < d by omega)
  exact ⟨h1, h3, by omega⟩
set_option maxHeartbeats 2000000 in
theorem orderOf (a p o : Nat) (w : World) (hp : Pr p) (h0 : 0 < a) (ha : a < p) (ho : Num.Ord a p o) :
    Calls Try.prog 46 #[.int .i64 a, .int .i64 p] w fun e w' => e = .returned (.int .i64 o) ∧ w = w' := by
  have h3 := hp.ge; have h4 := hp.le
  have HO := Lib.hid ho
  have HF := Lib.hid (fermat hp a h0 ha)
  clear ho
  have e2 : (p : Int) - 1 = ((p - 1 : Nat) : Int) := by omega
  go_enter Try.func46, Try.ntmps46
  go_wp2
  go_step3
  go_wp2
  go_step3
  go_wp2
  go_loopg [5] (p - 1) (fun g s5 wx => ∃ n : Nat, n ≤ g ∧ 0 < n ∧ n ≤ p - 1 ∧ s5 = .int .i64 n ∧ Hid (a ^ n % p = 1) ∧ w = wx)
  case atStart => exact ⟨p - 1, by omega, by omega, by omega, by first | rfl | rw [e2], HF, rfl⟩
  case round =>
    obtain ⟨n, hng, hn0, hnp, rfl, E, rfl⟩ := hrel
    cases gk with
    | zero => exact absurd hng (by omega)
    | succ g =>
      clear e2
      go_wp2
      go_loopg [5, 6] n (fun g2 s5 s6 wy => ∃ d : Nat, d + g2 = n + 2 ∧ 2 ≤ d ∧ s5 = .int .i64 n ∧ s6 = .int .i64 d ∧ Hid (∀ j, 2 ≤ j → j < d → n % j = 0 → a ^ (n / j) % p ≠ 1) ∧ w = wy)
      case atStart => exact ⟨2, by omega, by omega, rfl, rfl, Lib.hid (fun j h1 h2 => by omega), rfl⟩
      case round =>
        obtain ⟨d, hdg, h2, rfl, rfl, A, rfl⟩ := hrel
        by_cases hdn : d ≤ n
        · have F := div_facts n d (p - 1) h2 hdn hnp
          cases gk with
          | zero => exact absurd hdg (by omega)
          | succ gi =>
            by_cases hm : n % d = 0
            · have t1 : (n : Int) % (d : Int) = 0 := by omega
              have e3 : Hid ((n : Int) / (d : Int) = ((n / d : Nat) : Int)) := Lib.hid (by omega)
              have q0 : 0 ≤ (n : Int) / (d : Int) := by rw [e3.out]; omega
              have q1 : (n : Int) / (d : Int) ≤ 10007 := by rw [e3.out]; omega
              have F2 := Lib.hid F
              clear F
              go_wp2_with fail
              rw [e3.out]
              have hnd : n / d ≤ 1000000000 := by have := F2.out; omega
              with_reducible refine (powerOf a (n / d) p _ h3 h4 ha hnd).mono ?_
              rintro e w' ⟨rfl, rfl⟩
              by_cases h1 : a ^ (n / d) % p = 1
              · rw [h1]
                go_wp2
                go_roundg (n / d)
                case measure => have := F2.out; omega
                case rel => exact ⟨n / d, by omega, F2.out.1, F2.out.2.2, by first | rfl | rw [e3.out], Lib.hid h1, by first | rfl | trivial⟩
              · have H1 := Lib.hid h1
                have t2 : ¬ ((a ^ (n / d) % p : Nat) : Int) = 1 := by omega
                obtain ⟨y, hy⟩ : ∃ y, a ^ (n / d) % p = y := ⟨_, rfl⟩
                rw [hy] at t2 ⊢
                clear h1 hy
                go_wp2
                go_roundg gi
                case measure => omega
                case rel => exact ⟨d + 1, by omega, by omega, rfl, by go_num, Lib.hid (fun j j1 j2 j3 => by rcases Nat.lt_or_ge j d with q | q; exact A.out j j1 q j3; rw [show j = d by omega]; exact H1.out), by first | rfl | trivial⟩
            · have t1 : ¬ (n : Int) % (d : Int) = 0 := by omega
              go_wp2
              go_roundg gi
              case measure => omega
              case rel => exact ⟨d + 1, by omega, by omega, rfl, by go_num, Lib.hid (fun j j1 j2 j3 => by rcases Nat.lt_or_ge j d with q | q; exact A.out j j1 q j3; exact absurd j3 (by rw [show j = d by omega]; exact hm)), by first | rfl | trivial⟩
        · have t1 : ¬ (d : Int) ≤ (n : Int) := by omega
          have H : Hid (n = o) := Lib.hid ((ord_of_parts (by omega) a n hn0 E.out (fun j j1 j2 j3 => A.out j j1 (by omega) j3)).uniq HO.out)
          go_wp2
          try rw [Exit.noGoto_ret]
          go_ret
          exact ⟨by rw [← H.out]; rfl, rfl⟩

theorem implOrder (a p o : Nat) (w : World) (hp : Pr p) (h0 : 0 < a) (ha : a < p) (ho : Num.Ord a p o) :
    Calls Try.prog 24 #[.int .i64 a, .int .i64 p] w fun e w' => e = .returned (.tuple #[.int .i64 o, .bool true]) ∧ w = w' := by
  have E := Lib.hid (okR_of hp ha)
  go_enter Try.func24, Try.ntmps24
  go_wp2_with fail
  refine (isResidue _ _ _).mono ?_
  rintro e w' ⟨rfl, rfl⟩
  rw [E.out]
  go_wp2_with fail
  refine (orderOf a p o _ hp h0 ha ho).mono ?_
  rintro e w' ⟨rfl, rfl⟩
  go_wp2
  go_ret2
  exact ⟨rfl, rfl⟩
theorem implOrderNo (a p : Int) (w : World) (h : okR a p = false ∨ a = 0) :
    Calls Try.prog 24 #[.int .i64 a, .int .i64 p] w fun e w' => e = .returned (.tuple #[.int .i64 0, .bool false]) ∧ w = w' := by
  go_enter Try.func24, Try.ntmps24
  go_wp2_with fail
  refine (isResidue _ _ _).mono ?_
  rintro e w' ⟨rfl, rfl⟩
  generalize okR a p = b at *
  cases b
  · go_wp2
    go_ret2
    exact ⟨rfl, rfl⟩
  · have h' : a = 0 := by simpa using h
    go_wp2
    go_ret2
    exact ⟨rfl, rfl⟩
theorem specOrder (a p o : Nat) (w : World) (hp : Pr p) (h0 : 0 < a) (ha : a < p) (ho : Num.Ord a p o) (hop : o ≤ p - 1) :
    Calls Try.prog 23 #[.int .i64 a, .int .i64 p] w fun e w' => e = .returned (.tuple #[.int .i64 o, .bool true]) ∧ w = w' := by
  have E := Lib.hid (okR_of hp ha)
  go_enter Try.func23, Try.ntmps23
  go_wp2_with fail
  refine (l4Of _ _ _).mono ?_
  rintro e w' ⟨rfl, rfl⟩
  rw [E.out]
  go_wp2_with fail
  refine (l4Order a p o _ hp ha ho hop).mono ?_
  rintro e w' ⟨rfl, rfl⟩
  go_wp2
  go_ret2
  exact ⟨rfl, rfl⟩
theorem specOrderNo (a p : Int) (w : World) (h : okR a p = false ∨ a = 0) :
    Calls Try.prog 23 #[.int .i64 a, .int .i64 p] w fun e w' => e = .returned (.tuple #[.int .i64 0, .bool false]) ∧ w = w' := by
  go_enter Try.func23, Try.ntmps23
  go_wp2_with fail
  refine (l4Of _ _ _).mono ?_
  rintro e w' ⟨rfl, rfl⟩
  generalize okR a p = b at *
  cases b
  · go_wp2
    go_ret2
    exact ⟨rfl, rfl⟩
  · have h' : a = 0 := by simpa using h
    go_wp2
    go_ret2
    exact ⟨rfl, rfl⟩
namespace O
theorem walk (a0 a1 : Int) (w0 : (Lit.int .i64 a0).wf = true) (w1 : (Lit.int .i64 a1).wf = true) (w : World) :
    Calls Try.prog 8 #[.int .i64 a0, .int .i64 a1] w fun e w' => e = .returned (.bool true) ∧ Below w.heap.size w w' := by
  by_cases h : okR a0 a1 = false ∨ a0 = 0
  · go_enter Try.func8, Try.ntmps8
    go_wp2_with fail
    refine (specOrderNo _ _ _ h).mono ?_
    rintro e w' ⟨rfl, rfl⟩
    go_wp2_with fail
    refine (implOrderNo _ _ _ h).mono ?_
    rintro e w' ⟨rfl, rfl⟩
    go_wp2
    go_ret
    exact ⟨rfl, Below.refl _ _⟩
  · have hR : okR a0 a1 = true := by cases e : okR a0 a1 <;> simp_all
    obtain ⟨a, p, rfl, rfl, ha, hp⟩ := okR_yes hR
    have h0 : 0 < a := by omega
    clear h hR
    obtain ⟨o, ho, hop, _⟩ := ord_ex hp a h0 ha
    go_enter Try.func8, Try.ntmps8
    go_wp2_with fail
    refine (specOrder a p o _ hp h0 ha ho hop).mono ?_
    rintro e w' ⟨rfl, rfl⟩
    go_wp2_with fail
    refine (implOrder a p o _ hp h0 ha ho).mono ?_
    rintro e w' ⟨rfl, rfl⟩
    clear ho
    go_wp2
    go_ret
    exact ⟨rfl, Below.refl _ _⟩
end O

/-- g is the first generator of p. -/
structure First (p g : Nat) : Prop where
  one : 1 ≤ g
  lt : g < p
  ord : Num.Ord g p (p - 1)
  low : ∀ j, 1 ≤ j → j < g → ¬ Num.Ord j p (p - 1)
theorem firstEx {p : Nat} (hp : Pr p) : ∃ g, First p g := by
  obtain ⟨g, h1, h2, h3, h4⟩ := first_ex hp
  exact ⟨g, h1, h2, h3, h4⟩
theorem okR_zero (p : Int) : okR 0 p = okP p := by
  rw [okR]
  cases h : okP p
  · rfl
  · obtain ⟨n, rfl, hn⟩ := okP_pr h
    have := hn.ge
    simp; omega
set_option maxHeartbeats 1000000 in
theorem implFirst (p g : Nat) (w : World) (hp : Pr p) (hg : First p g) :
    Calls Try.prog 26 #[.int .i64 p] w fun e w' => e = .returned (.tuple #[.int .i64 g, .bool true]) ∧ w = w' := by
  have h3 := hp.ge; have h4 := hp.le
  have g1 := hg.one; have g2 := hg.lt
  have HG := Lib.hid hg
  clear hg
  have E := Lib.hid (okP_of hp)
  go_enter Try.func26, Try.ntmps26
  go_wp2_with fail
  refine (isModulus _ _).mono ?_
  rintro e w' ⟨rfl, rfl⟩
  rw [E.out]
  go_wp2
  go_loopw [4] (fun i wr => ∃ j : Nat, 1 ≤ j ∧ j ≤ g ∧ i = .int .i64 j ∧ w = wr) (fun i _ => g - (intOf i).toNat)
  case atStart => exact ⟨1, by omega, by omega, rfl, rfl⟩
  case round =>
    obtain ⟨j, j1, j2, rfl, rfl⟩ := hrel
    obtain ⟨o, ho, hop, _⟩ := ord_ex hp j (by omega) (by omega)
    by_cases he : j = g
    · have ho2 : o = p - 1 := by rw [he] at ho; exact ho.uniq HG.out.ord
      have t : (o : Int) = (p : Int) - 1 := by omega
      have H := Lib.hid he
      clear he ho2
      go_wp2_with fail
      refine (orderOf j p o _ hp (by omega) (by omega) ho).mono ?_
      rintro e w' ⟨rfl, rfl⟩
      rw [t]
      clear ho t
      go_wp2
      go_ret2
      exact ⟨by rw [← H.out]; rfl, rfl⟩
    · have ho2 : ¬ o = p - 1 := fun h => HG.out.low j j1 (by omega) (by rw [← h]; exact ho)
      have t : ¬ (o : Int) = (p : Int) - 1 := by omega
      go_wp2_with fail
      refine (orderOf j p o _ hp (by omega) (by omega) ho).mono ?_
      rintro e w' ⟨rfl, rfl⟩
      clear ho ho2
      go_wp2
      go_roundw
      case rel => exact ⟨j + 1, by omega, by omega, by go_num, by first | rfl | trivial⟩
      case measure => simp [intOf]; omega
theorem implFirstNo (p : Int) (w : World) (h : okP p = false) :
    Calls Try.prog 26 #[.int .i64 p] w fun e w' => e = .returned (.tuple #[.int .i64 0, .bool false]) ∧ w = w' := by
  go_enter Try.func26, Try.ntmps26
  go_wp2_with fail
  refine (isModulus _ _).mono ?_
  rintro e w' ⟨rfl, rfl⟩
  rw [h]
  go_wp2
  go_ret2
  exact ⟨rfl, rfl⟩
set_option maxHeartbeats 1000000 in
theorem specFirst (p g : Nat) (w : World) (hp : Pr p) (hg : First p g) :
    Calls Try.prog 25 #[.int .i64 p] w fun e w' => e = .returned (.tuple #[.int .i64 g, .bool true]) ∧ w = w' := by
  have h3 := hp.ge; have h4 := hp.le
  have g1 := hg.one; have g2 := hg.lt
  have HG := Lib.hid hg
  clear hg
  have E : Hid (okR 0 p = true) := Lib.hid (by rw [okR_zero]; exact okP_of hp)
  go_enter Try.func25, Try.ntmps25
  go_wp2_with fail
  refine (l4Of _ _ _).mono ?_
  rintro e w' ⟨rfl, rfl⟩
  rw [E.out]
  go_wp2
  go_loopw [4] (fun i wr => ∃ j : Nat, 1 ≤ j ∧ j ≤ g ∧ i = .int .i64 j ∧ w = wr) (fun i _ => g - (intOf i).toNat)
  case atStart => exact ⟨1, by omega, by omega, rfl, rfl⟩
  case round =>
    obtain ⟨j, j1, j2, rfl, rfl⟩ := hrel
    obtain ⟨o, ho, hop, _⟩ := ord_ex hp j (by omega) (by omega)
    by_cases he : j = g
    · have ho2 : o = p - 1 := by rw [he] at ho; exact ho.uniq HG.out.ord
      have t : (o : Int) = (p : Int) - 1 := by omega
      have H := Lib.hid he
      clear he ho2
      go_wp2_with fail
      refine (l4Order j p o _ hp (by omega) ho hop).mono ?_
      rintro e w' ⟨rfl, rfl⟩
      rw [t]
      clear ho t
      go_wp2
      go_ret2
      exact ⟨by rw [← H.out]; rfl, rfl⟩
    · have ho2 : ¬ o = p - 1 := fun h => HG.out.low j j1 (by omega) (by rw [← h]; exact ho)
      have t : (o : Int) < (p : Int) - 1 := by omega
      go_wp2_with fail
      refine (l4Order j p o _ hp (by omega) ho hop).mono ?_
      rintro e w' ⟨rfl, rfl⟩
      clear ho ho2
      go_wp2
      go_roundw
      case rel => exact ⟨j + 1, by omega, by omega, by go_num, by first | rfl | trivial⟩
      case measure => simp [intOf]; omega
theorem specFirstNo (p : Int) (w : World) (h : okP p = false) :
    Calls Try.prog 25 #[.int .i64 p] w fun e w' => e = .returned (.tuple #[.int .i64 0, .bool false]) ∧ w = w' := by
  have E : Hid (okR 0 p = false) := Lib.hid (by rw [okR_zero]; exact h)
  go_enter Try.func25, Try.ntmps25
  go_wp2_with fail
  refine (l4Of _ _ _).mono ?_
  rintro e w' ⟨rfl, rfl⟩
  rw [E.out]
  go_wp2
  go_ret2
  exact ⟨rfl, rfl⟩
namespace F
theorem walk (a0 : Int) (w0 : (Lit.int .i64 a0).wf = true) (w : World) :
    Calls Try.prog 9 #[.int .i64 a0] w fun e w' => e = .returned (.bool true) ∧ Below w.heap.size w w' := by
  cases h : okP a0
  · go_enter Try.func9, Try.ntmps9
    go_wp2_with fail
    refine (specFirstNo _ _ h).mono ?_
    rintro e w' ⟨rfl, rfl⟩
    go_wp2_with fail
    refine (implFirstNo _ _ h).mono ?_
    rintro e w' ⟨rfl, rfl⟩
    go_wp2
    go_ret
    exact ⟨rfl, Below.refl _ _⟩
  · obtain ⟨p, rfl, hp⟩ := okP_pr h
    clear h
    obtain ⟨g, hg⟩ := firstEx hp
    go_enter Try.func9, Try.ntmps9
    go_wp2_with fail
    refine (specFirst p g _ hp hg).mono ?_
    rintro e w' ⟨rfl, rfl⟩
    go_wp2_with fail
    refine (implFirst p g _ hp hg).mono ?_
    rintro e w' ⟨rfl, rfl⟩
    clear hg
    go_wp2
    go_ret
    exact ⟨rfl, Below.refl _ _⟩
end F
end Go.Proofs.Ytgjopljpmakhmaa.Ord
