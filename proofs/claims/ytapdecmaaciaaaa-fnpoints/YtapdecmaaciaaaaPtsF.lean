/-
  The facts of the law FnPoints: what the program's functions answer at a point of a valid curve.
-/
import Derived.Test.YtapdecmaaciaaaaGrpF
import Derived.Test.YtapdecmaaciaaaaLag
import Derived.Test.YtapdecmaaciaaaaHas
import Derived.Test.YtapdecmaaciaaaaShrt2
namespace Go.Proofs.Ytapdecmaaciaaaa.PtsF
open Go.ChangeShapes Go.WideShapes Go.ChangeAt Go.RowKit
open Go.Proofs.Ytapdecmaaciaaaa.Mem Go.Proofs.Ytapdecmaaciaaaa.Num Go.Proofs.Ytapdecmaaciaaaa.Mod Go.Proofs.Ytapdecmaaciaaaa.Kind Go.Proofs.Ytapdecmaaciaaaa.Ed Go.Proofs.Ytapdecmaaciaaaa.Grp Go.Proofs.Ytapdecmaaciaaaa.Crv Go.Proofs.Ytapdecmaaciaaaa.Crv2 Go.Proofs.Ytapdecmaaciaaaa.Crv3 Go.Proofs.Ytapdecmaaciaaaa.Add Go.Proofs.Ytapdecmaaciaaaa.Add2 Go.Proofs.Ytapdecmaaciaaaa.Add3 Go.Proofs.Ytapdecmaaciaaaa.Times Go.Proofs.Ytapdecmaaciaaaa.Times2 Go.Proofs.Ytapdecmaaciaaaa.OrdP Go.Proofs.Ytapdecmaaciaaaa.Times3 Go.Proofs.Ytapdecmaaciaaaa.Cnt Go.Proofs.Ytapdecmaaciaaaa.Shrt Go.Proofs.Ytapdecmaaciaaaa.Shrt2 Go.Proofs.Ytapdecmaaciaaaa.GrpF Go.Proofs.Ytapdecmaaciaaaa.Lag Go.Proofs.Ytapdecmaaciaaaa.Has
set_option linter.unusedVariables false
set_option maxRecDepth 100000
/-- Both sides count alike; the count keeps to Hasse. -/
theorem counts (P D : Int) : ∃ (n : Int) (b : Bool), Gives 35 #[pv P D] (.tuple #[.int .i64 n, .bool b]) ∧ Gives 34 #[pv P D] (.tuple #[.int .i64 n, .bool b]) ∧ b = okC P D ∧ (b = true → 5 ≤ P ∧ P ≤ 199 ∧ 0 ≤ n ∧ n ≤ 1000 ∧ n % 4 = 0 ∧ (n - P - 1) * (n - P - 1) ≤ 4 * P) := by
  cases h : okC P D
  · exact ⟨0, false, fun W => implCntNo P D W h, fun W => specCntNo P D W h, rfl, fun e => by cases e⟩
  · have h' := h
    obtain ⟨p, i, d, rfl, rfl, hc, h5, h9, _, hk⟩ := okC_yes h
    obtain ⟨n, e, m4, hs, hn⟩ := hasse hc.pr h5 h9 hk
    refine ⟨cntI d p, true, fun W => implCnt hc.pr h' h5 h9 W, fun W => by rw [← cnt_same hc h9]; exact specCnt hc.pr h' h5 h9 W, rfl, fun _ => ?_⟩
    have e' : cntI d p = n := e
    rw [e']
    exact ⟨by omega, by omega, by omega, by omega, by omega, hs⟩
/-- What the law looks at, at a point. -/
structure Facts (P D X Y n o s : Int) : Prop where
  bd : 1 ≤ o ∧ o ≤ 100000 ∧ 0 ≤ n ∧ n ≤ 1000
  dvd : n % o = 0
  z : Gives 25 #[pv P D] (.tuple #[pv 0 1, .bool true])
  na : Gives 31 #[pv P D, .int .i64 n, pv X Y] (.tuple #[pv 0 1, .bool true])
  oa : Gives 31 #[pv P D, .int .i64 o, pv X Y] (.tuple #[pv 0 1, .bool true])
  sh : Gives 37 #[pv P D, .int .i64 s] (.tuple #[pv X Y, .bool true])
theorem ofShort {p : Nat} [NeZero p] {d : Fin p} (hc : Cv p d) (hC : okC p (vl d) = true) (h5 : 5 ≤ p) (h9 : p ≤ 199) {a : Fin p × Fin p} (ha : onP d a) :
    Gives 37 #[pv p (vl d), .int .i64 (2 * vl a.2 + vl a.1 % 2)] (.tuple #[pv (vl a.1) (vl a.2), .bool true]) := by
  have hx := a.1.isLt
  have hy := a.2.isLt
  have en : 2 * vl a.2 + vl a.1 % 2 = ((2 * a.2.val + a.1.val % 2 : Nat) : Int) := by simp only [vl]; omega
  rw [en]
  generalize hm : 2 * a.2.val + a.1.val % 2 = m at *
  have hm2 : m / 2 = a.2.val := by omega
  have hmp : m < 2 * p := by omega
  have hmi : (m : Int) / 2 = vl a.2 := by simp only [vl]; omega
  have hX : isX d m a.1.val := by
    refine ⟨?_, by omega⟩
    rw [hm2]
    have e1 : rs p ((a.2.val : Nat) : Int) = a.2 := rs_vl a.2
    rw [e1]
    have := (on_sq hc a.1 a.2).1 ha
    rw [← this, Fin.val_mul]
  have hodd := odd hc.pr
  obtain ⟨r, h1, h2, h3⟩ := root_low hc.pr (sqX d (rs p (m / 2 : Nat))).val ⟨a.1.val, hx, hX.1⟩
  have L : Least (sqX d (rs p (m / 2 : Nat))).val p r := ⟨h1, h2, h3⟩
  have hrp : r < p := by omega
  have hvx : vl a.1 = (a.1.val : Int) := rfl
  rcases roots_only hc.pr hx hrp (hX.1.trans h2.symm) with e | e
  · intro W
    have hs : 2 * ((m : Int) / 2) + (r : Int) % 2 = m := by have := hX.2; omega
    have := implShA hc hC h5 h9 m hmp r L hs W
    rw [hmi, ← e] at this
    exact this
  · intro W
    by_cases h0 : 0 < r
    · have hpar := hX.2
      have hs : ¬ 2 * ((m : Int) / 2) + (r : Int) % 2 = m := by omega
      have en2 := neg_par hodd hrp h0
      have hs2 : 2 * ((m : Int) / 2) + (-(r : Int) % p) % 2 = m := by rw [en2]; omega
      have := implShB hc hC h5 h9 m hmp r L hs hs2 W
      rw [hmi, en2, show ((p - r : Nat) : Int) = vl a.1 by rw [hvx]; omega] at this
      exact this
    · omega
theorem facts {P D X Y n : Int} (h : okA P D X Y = true) (hn : Gives 35 #[pv P D] (.tuple #[.int .i64 n, .bool true])) (hn2 : ∀ (p : Nat) (i : NeZero p) (d : Fin p), P = p → D = vl d → n = cntI d p) (hb : 0 ≤ n ∧ n ≤ 1000) :
    ∃ o : Int, Facts P D X Y n o (2 * Y + X % 2) ∧ Gives 33 #[pv P D, pv X Y] (.tuple #[.int .i64 o, .bool true]) ∧ Gives 32 #[pv P D, pv X Y] (.tuple #[.int .i64 o, .bool true]) := by
  obtain ⟨p, i, d, a, rfl, rfl, rfl, rfl, hc, h5, h9, ha, hC⟩ := okA_D h
  obtain ⟨o, ho, hob⟩ := ordP_ex hc ha
  have hpp : p * p ≤ 199 * 199 := Nat.mul_le_mul h9 h9
  have hc2 := hn2 p i d rfl rfl
  have hl : ((pts d).length : Int) = n := by rw [pts_len, count_eq hc h9, hc2]; rfl
  have hL := lagrange hc ha
  have z1 : vl (ze : Fin p × Fin p).1 = 0 := vl_zero
  have z2 : vl (ze : Fin p × Fin p).2 = 1 := vl_one (by omega)
  refine ⟨o, ⟨⟨by have := ho.pos; omega, by omega, hb.1, hb.2⟩, ?_, ?_, ?_, ?_, ofShort hc hC h5 h9 ha⟩, fun W => implOrd hc hC h5 h9 ha o ho (by omega) W, fun W => specOrd hc hC h5 h9 ha o ho (by omega) W⟩
  · have := ordP_dvd hc ha ho hL
    rw [← hl]; omega
  · intro W
    have := implZero p (vl d) W
    rw [hC] at this; exact this
  · intro W
    have := implTimesYes hc hC h5 h9 ha (pts d).length (by omega) W
    rw [hL, z1, z2, hl] at this; exact this
  · intro W
    have := implTimesYes hc hC h5 h9 ha o (by omega) W
    rw [ho.eq, z1, z2] at this; exact this
end Go.Proofs.Ytapdecmaaciaaaa.PtsF
