/-
  The secret told by two signatures: both sides give one answer; the walk of the law on SecretFrom.
-/
import Derived.Test.YtbljmgmpmmajeaaDoorSei
namespace Go.Proofs.YtbljmgmpmmajeaaDoor.Sel
open Go.ChangeShapes Go.WideShapes Go.ChangeAt Go.RowKit
open Go.Proofs.YtbljmgmpmmajeaaDoor.Mem Go.Proofs.YtbljmgmpmmajeaaDoor.Num Go.Proofs.YtbljmgmpmmajeaaDoor.Mod Go.Proofs.YtbljmgmpmmajeaaDoor.Pow Go.Proofs.YtbljmgmpmmajeaaDoor.Sch Go.Proofs.YtbljmgmpmmajeaaDoor.Key Go.Proofs.YtbljmgmpmmajeaaDoor.Txt Go.Proofs.YtbljmgmpmmajeaaDoor.Cha Go.Proofs.YtbljmgmpmmajeaaDoor.Chb Go.Proofs.YtbljmgmpmmajeaaDoor.Rec Go.Proofs.YtbljmgmpmmajeaaDoor.Chc Go.Proofs.YtbljmgmpmmajeaaDoor.Chd Go.Proofs.YtbljmgmpmmajeaaDoor.Chk Go.Proofs.YtbljmgmpmmajeaaDoor.Chl Go.Proofs.YtbljmgmpmmajeaaDoor.Sec Go.Proofs.YtbljmgmpmmajeaaDoor.Sei
set_option linter.unusedVariables false
set_option maxRecDepth 100000

/-- Both give one answer. -/
theorem secBoth (k : Int) (a : ByteArray) (R S : Int) (b : ByteArray) (Q U : Int) (hl1 : a.size ≤ maxLen) (hl2 : b.size ≤ maxLen) : ∃ (V : Int) (ok : Bool),
    (∀ W, Tb W → Calls Tryd.prog 25 #[.int .i64 k, .string a, pv R S, .string b, pv Q U] W fun e w' => e = .returned (.tuple #[.int .i64 V, .bool ok]) ∧ Below W.heap.size W w') ∧
    (∀ W, Calls Tryd.prog 24 #[.int .i64 k, .string a, pv R S, .string b, pv Q U] W fun e w' => e = .returned (.tuple #[.int .i64 V, .bool ok]) ∧ Below W.heap.size W w') ∧
    ok = (((okK k && okT a) && okX R S) && (((okK k && okT b) && okX Q U) && fin (hold k.toNat a R.toNat S.toNat) (hold k.toNat b Q.toNat U.toNat) R.toNat Q.toNat k.toNat (chal R.toNat k.toNat a) (chal Q.toNat k.toNat b) S.toNat U.toNat)) ∧
    V = if ok then ((sx (chal R.toNat k.toNat a) (chal Q.toNat k.toNat b) S.toNat U.toNat : Nat) : Int) else 0 := by
  obtain ⟨x1, b1, -, S1, e1, f1⟩ := checkBoth k a R S hl1
  obtain ⟨x2, b2, -, S2, e2, f2⟩ := checkBoth k b Q U hl2
  by_cases h : ((okK k && okT a) && okX R S) = false ∨ ((okK k && okT b) && okX Q U) = false
  · refine ⟨0, false, fun W _ => implSecNo k a R S b Q U W hl1 hl2 h, fun W => specSecNo k a R S b Q U W b1 b2 x1 x2 (Lib.hid S1) (Lib.hid S2) ?_, ?_, rfl⟩
    · rintro ⟨h1, h2, -⟩
      rw [e1] at h1; rw [e2] at h2
      rcases h with h | h
      · rw [h] at h1; cases h1
      · rw [h] at h2; cases h2
    · rcases h with h | h <;> rw [h] <;> simp
  · have g1 : ((okK k && okT a) && okX R S) = true := by cases e : ((okK k && okT a) && okX R S) <;> simp_all
    have g2 : ((okK k && okT b) && okX Q U) = true := by cases e : ((okK k && okT b) && okX Q U) <;> simp_all
    rw [g1] at e1 ⊢
    rw [g2] at e2 ⊢
    simp only [Bool.and_eq_true] at g1 g2
    obtain ⟨⟨hk, hta⟩, hx1⟩ := g1
    obtain ⟨⟨-, htb⟩, hx2⟩ := g2
    obtain ⟨n, rfl, hn1, hn2⟩ := okK_yes hk
    obtain ⟨r, s, rfl, rfl, hr1, hr2, hs⟩ := okX_yes hx1
    obtain ⟨q, u, rfl, rfl, hq1, hq2, hu⟩ := okX_yes hx2
    subst e1 e2
    simp only [Int.toNat_natCast, Bool.true_and] at *
    subst f1 f2
    refine ⟨_, _, fun W hT => implSec n a r s b q u W _ _ hk hn2 hx1 hr2 hs hx2 hq2 hu (okT_yes hta) (okT_yes htb) hT (Lib.hid rfl) (Lib.hid rfl), fun W => ?_, rfl, rfl⟩
    by_cases hg : hold n a r s = true ∧ hold n b q u = true ∧ r = q
    · obtain ⟨h1, h2, rfl⟩ := hg
      rw [h1] at S1; rw [h2] at S2
      have hF : fin (hold n a r s) (hold n b r u) r r n (chal r n a) (chal r n b) s u = okF n (chal r n a) (chal r n b) s u := by rw [h1, h2]; simp [fin]
      rw [hF]
      exact specSec n a r s b u W hn2 hr2 (by omega) (by omega) (okT_yes hta) (okT_yes htb) (Lib.hid S1) (Lib.hid S2)
    · have hF : fin (hold n a r s) (hold n b q u) r q n (chal r n a) (chal q n b) s u = false := by
        unfold fin
        cases h1 : hold n a r s
        · rfl
        · cases h2 : hold n b q u
          · rfl
          · have : ¬ r = q := fun e => hg ⟨h1, h2, e⟩
            simp [this]
      rw [hF]
      exact specSecNo n a r s b q u W true true _ _ (Lib.hid S1) (Lib.hid S2) (fun h => hg ⟨h.2.2.1, h.2.2.2.1, by omega⟩)
namespace F
set_option maxHeartbeats 4000000 in
theorem walk (a0 : Int) (a1 : ByteArray) (R S : Int) (a3 : ByteArray) (Q U0 : Int) (w0 : (Lit.int .i64 a0).wf = true) (w1 : a1.size ≤ maxLen) (w2 : (Lit.int .i64 R).wf = true) (w3 : (Lit.int .i64 S).wf = true) (w4 : a3.size ≤ maxLen) (w5 : (Lit.int .i64 Q).wf = true) (w6 : (Lit.int .i64 U0).wf = true) (w : World) (hT : Tb w) :
    Calls Tryd.prog 8 #[.int .i64 a0, .string a1, pv R S, .string a3, pv Q U0] w fun e w' => e = .returned (.bool true) ∧ Below w.heap.size w w' := by
  obtain ⟨V, ok, I0, S0, -, -⟩ := secBoth a0 a1 R S a3 Q U0 w1 w4
  have C2 := Lib.hid I0
  have C1 := Lib.hid S0
  have T := Lib.hid (fun W => toSg R S W)
  have U := Lib.hid (fun W => toSg Q U0 W)
  have HT := Lib.hid (fun W (h : Below w.heap.size w W) => hT.below h)
  clear I0 S0 hT w0 w2 w3 w5 w6
  unfold maxLen at w1 w4
  unfold pv at *
  by_cases h : 1048576 < a1.size
  · go_enter Tryd.func8, Tryd.ntmps8
    go_wp2
    go_ret
    exact ⟨rfl, al2 _ _ _⟩
  by_cases h2 : 1048576 < a3.size
  · go_enter Tryd.func8, Tryd.ntmps8
    go_wp2
    go_ret
    exact ⟨rfl, al2 _ _ _⟩
  obtain ⟨k0, k1⟩ := nw2 w (.cells #[.int .i64 R, .int .i64 S] 33) (.cells #[.int .i64 Q, .int .i64 U0] 33)
  have B0 := Lib.hid (al2 w (.cells #[.int .i64 R, .int .i64 S] 33) (.cells #[.int .i64 Q, .int .i64 U0] 33))
  go_enter Tryd.func8, Tryd.ntmps8
  go_wp2_with fail
  generalize World.alloc (World.alloc w _) _ = W0 at *
  have H0 := Lib.hid k0
  have H1 := Lib.hid k1
  have HTb := Lib.hid True.intro
  clear k0 k1
  go_cut [11, 12] from 21 (fun s11 s12 wc => s11 = .int .i64 V ∧ s12 = .bool ok ∧ Below W0.heap.size W0 wc)
  case first =>
    have RT := Lib.hid (rel2 W0 T.out)
    have RU := Lib.hid (rel2 W0 U.out)
    have RS := Lib.hid (rel2 W0 C1.out)
    obtain ⟨c0, c1⟩ := row2 H0.out
    obtain ⟨c2, c3⟩ := row2 H1.out
    have BW := Below.refl W0.heap.size W0
    have BD : Below W0.heap.size W0 W0.drew := BW.drew
    clear T U C1 C2 HTb HT
    go_region_held3 (fun w' => w'.cell? ⟨w.heap.size, 0, none⟩ = some (.int .i64 R) ∧ w'.cell? ⟨w.heap.size, 1, none⟩ = some (.int .i64 S) ∧ w'.cell? ⟨w.heap.size + 1, 0, none⟩ = some (.int .i64 Q) ∧ w'.cell? ⟨w.heap.size + 1, 1, none⟩ = some (.int .i64 U0))
      (first | (refine ⟨?_, ?_, ?_, ?_⟩ <;> with_reducible assumption) | (go_keep; done))
      (first
        | (go_at_call 22; (with_reducible refine (RT.out _ ?hb).mono ?_); (case hb => with_reducible assumption); rintro e vt ⟨rfl, dt, bt⟩; obtain ⟨pt0, pt1⟩ := row2 (bx H0.out bt); obtain ⟨pt2, pt3⟩ := row2 (bx H1.out bt))
        | (go_at_call 22; (with_reducible refine (RU.out _ ?hb).mono ?_); (case hb => with_reducible assumption); rintro e vu ⟨rfl, du, bu⟩; obtain ⟨pu0, pu1⟩ := row2 (bx H0.out bu); obtain ⟨pu2, pu3⟩ := row2 (bx H1.out bu))
        | (go_at_call 24; (with_reducible refine (RS.out _ ?hb).mono ?_); (case hb => with_reducible assumption); rintro e vs ⟨rfl, ds, bs⟩; obtain ⟨ps0, ps1⟩ := row2 (bx H0.out bs); obtain ⟨ps2, ps3⟩ := row2 (bx H1.out bs)))
    all_goals
      go_wp2
      go_meet
      case rel => exact ⟨rfl, rfl, by with_reducible assumption⟩
  case rest =>
    obtain ⟨rfl, rfl, BW⟩ := hcut
    have B1 := Lib.hid (then_ (n := 0) B0.out BW)
    have J0 := Lib.hid (bx H0.out BW)
    have J1 := Lib.hid (bx H1.out BW)
    clear BW C1 B0 H0 H1 HTb
    have H0 := J0
    have H1 := J1
    clear J0 J1
    generalize wc = V1 at *
    have HTb := Lib.hid (fun W (h : Below V1.heap.size V1 W) => HT.out W (then_ (n := 0) B1.out h))
    clear HT
    go_wp2_with fail
    go_cut [13, 14] from 32 (fun s13 s14 wc => s13 = .int .i64 V ∧ s14 = .bool ok ∧ Below V1.heap.size V1 wc)
    case first =>
      have RT := Lib.hid (rel2 V1 T.out)
      have RU := Lib.hid (rel2 V1 U.out)
      have RS := Lib.hid (fun W (h : Below V1.heap.size V1 W) => (C2.out W (HTb.out W h)).mono (fun e w' (z : e = .returned (.tuple #[.int .i64 V, .bool ok]) ∧ Below W.heap.size W w') => (show e = .returned (.tuple #[.int .i64 V, .bool ok]) ∧ Below W.heap.size W w' ∧ Below V1.heap.size V1 w' from ⟨z.1, z.2, then_ (n := 0) h z.2⟩)))
      obtain ⟨c0, c1⟩ := row2 H0.out
      obtain ⟨c2, c3⟩ := row2 H1.out
      have BW := Below.refl V1.heap.size V1
      have BD : Below V1.heap.size V1 V1.drew := BW.drew
      clear T U C2 HTb
      go_region_held3 (fun w' => w'.cell? ⟨w.heap.size, 0, none⟩ = some (.int .i64 R) ∧ w'.cell? ⟨w.heap.size, 1, none⟩ = some (.int .i64 S) ∧ w'.cell? ⟨w.heap.size + 1, 0, none⟩ = some (.int .i64 Q) ∧ w'.cell? ⟨w.heap.size + 1, 1, none⟩ = some (.int .i64 U0))
        (first | (refine ⟨?_, ?_, ?_, ?_⟩ <;> with_reducible assumption) | (go_keep; done))
        (first
          | (go_at_call 22; (with_reducible refine (RT.out _ ?hb).mono ?_); (case hb => with_reducible assumption); rintro e vt ⟨rfl, dt, bt⟩; obtain ⟨pt0, pt1⟩ := row2 (bx H0.out bt); obtain ⟨pt2, pt3⟩ := row2 (bx H1.out bt))
          | (go_at_call 22; (with_reducible refine (RU.out _ ?hb).mono ?_); (case hb => with_reducible assumption); rintro e vu ⟨rfl, du, bu⟩; obtain ⟨pu0, pu1⟩ := row2 (bx H0.out bu); obtain ⟨pu2, pu3⟩ := row2 (bx H1.out bu))
          | (go_at_call 25; (with_reducible refine (RS.out _ ?hb).mono ?_); (case hb => with_reducible assumption); rintro e vs ⟨rfl, ds, bs⟩; obtain ⟨ps0, ps1⟩ := row2 (bx H0.out bs); obtain ⟨ps2, ps3⟩ := row2 (bx H1.out bs)))
      all_goals
        go_wp2
        go_meet
        case rel => exact ⟨rfl, rfl, by with_reducible assumption⟩
    case rest =>
      obtain ⟨rfl, rfl, BW⟩ := hcut
      have B := then_ (n := 0) B1.out BW
      clear BW C2 T U HTb H0 H1
      cases ok
      all_goals
        go_wp2
        go_ret
        exact ⟨rfl, B⟩
end F
end Go.Proofs.YtbljmgmpmmajeaaDoor.Sel
