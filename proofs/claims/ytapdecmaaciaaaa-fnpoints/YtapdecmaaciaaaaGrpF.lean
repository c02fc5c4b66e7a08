/-
  The facts of the law FnGroup: what the program's functions answer at two points of one valid curve.
-/
import Derived.Test.YtapdecmaaciaaaaTimes3
namespace Go.Proofs.Ytapdecmaaciaaaa.GrpF
open Go.ChangeShapes Go.WideShapes Go.ChangeAt Go.RowKit
open Go.Proofs.Ytapdecmaaciaaaa.Mem Go.Proofs.Ytapdecmaaciaaaa.Num Go.Proofs.Ytapdecmaaciaaaa.Mod Go.Proofs.Ytapdecmaaciaaaa.Ed Go.Proofs.Ytapdecmaaciaaaa.Grp Go.Proofs.Ytapdecmaaciaaaa.Crv Go.Proofs.Ytapdecmaaciaaaa.Crv2 Go.Proofs.Ytapdecmaaciaaaa.Crv3 Go.Proofs.Ytapdecmaaciaaaa.Add Go.Proofs.Ytapdecmaaciaaaa.Add2 Go.Proofs.Ytapdecmaaciaaaa.Add3 Go.Proofs.Ytapdecmaaciaaaa.Times Go.Proofs.Ytapdecmaaciaaaa.Times2 Go.Proofs.Ytapdecmaaciaaaa.OrdP Go.Proofs.Ytapdecmaaciaaaa.Times3
set_option linter.unusedVariables false
set_option maxRecDepth 100000
/-- A function answers a value and leaves what was in memory. -/
def Gives (f : Nat) (args : Array Value) (v : Value) : Prop := ∀ W, Calls Try.prog f args W fun e w' => e = .returned v ∧ Below W.heap.size W w'
/-- Sums that the law looks at. -/
structure Facts (P D X Y S T U V N : Int) : Prop where
  ab : Gives 29 #[pv P D, pv X Y, pv S T] (.tuple #[pv U V, .bool true])
  ab' : Gives 28 #[pv P D, pv X Y, pv S T] (.tuple #[pv U V, .bool true])
  on : Gives 20 #[pv P D, pv U V] (.tuple #[.bool true, .bool true])
  ba : Gives 29 #[pv P D, pv S T, pv X Y] (.tuple #[pv U V, .bool true])
  z : Gives 25 #[pv P D] (.tuple #[pv 0 1, .bool true])
  az : Gives 29 #[pv P D, pv X Y, pv 0 1] (.tuple #[pv X Y, .bool true])
  ng : Gives 22 #[pv P D, pv X Y] (.tuple #[pv N Y, .bool true])
  an : Gives 29 #[pv P D, pv X Y, pv N Y] (.tuple #[pv 0 1, .bool true])
  asc : ∀ k : Nat, k ≤ 100000 → ∃ M1 M2 Q1 Q2 R1 R2 : Int, Gives 31 #[pv P D, .int .i64 k, pv S T] (.tuple #[pv M1 M2, .bool true]) ∧
    Gives 29 #[pv P D, pv U V, pv M1 M2] (.tuple #[pv R1 R2, .bool true]) ∧ Gives 29 #[pv P D, pv S T, pv M1 M2] (.tuple #[pv Q1 Q2, .bool true]) ∧
    Gives 29 #[pv P D, pv X Y, pv Q1 Q2] (.tuple #[pv R1 R2, .bool true])
theorem facts {P D X Y S T : Int} (h : (okA P D X Y && okA P D S T) = true) : ∃ U V N, Facts P D X Y S T U V N := by
  obtain ⟨p, i, d, a, b, rfl, rfl, rfl, rfl, rfl, rfl, hc, h5, h9, ha, hb, hC⟩ := okAA h
  have hp := hc.pr
  have hs := ad_on hc ha hb
  have z1 : vl (ze : Fin p × Fin p).1 = 0 := vl_zero
  have z2 : vl (ze : Fin p × Fin p).2 = 1 := vl_one (by omega)
  have en : -vl a.1 % (p : Int) = vl (ng a).1 := by
    show _ = vl (-a.1)
    rw [← vl_rs, rs_neg, rs_vl]
  have hA := okA_of hC (show 2 ≤ p by omega) ha
  have hS := okA_of hC (show 2 ≤ p by omega) hs
  refine ⟨vl (ad d a b).1, vl (ad d a b).2, vl (ng a).1, ⟨?_, ?_, ?_, ?_, ?_, ?_, ?_, ?_, ?_⟩⟩
  · exact fun W => implAddYes hC hp h5 h9 ha hb W
  · exact fun W => specAddYes hC hp h5 h9 ha hb W
  · intro W
    have := implOn p (vl d) (vl (ad d a b).1) (vl (ad d a b).2) W
    have e : (okC p (vl d) && inF p (vl (ad d a b).1) (vl (ad d a b).2)) = true := by
      simp only [okA, Bool.and_eq_true] at hS ⊢; exact hS.1
    rw [hS, e] at this; exact this
  · intro W; rw [ad_comm d a b]; exact implAddYes hC hp h5 h9 hb ha W
  · intro W
    have := implZero p (vl d) W
    rw [hC] at this; exact this
  · intro W
    have := implAddYes hC hp h5 h9 ha (ze_on d) W
    rw [ad_ze hp, z1, z2] at this; exact this
  · intro W
    have := implNeg p (vl d) (vl a.1) (vl a.2) W
    rw [hA, en] at this; exact this
  · intro W
    have := implAddYes hC hp h5 h9 ha (ng_on ha) W
    rw [ad_ng hc ha, z1, z2] at this; exact this
  · intro k hk
    have hm := mu_on hc hb k
    refine ⟨vl (mu d b k).1, vl (mu d b k).2, vl (ad d b (mu d b k)).1, vl (ad d b (mu d b k)).2, vl (ad d a (ad d b (mu d b k))).1, vl (ad d a (ad d b (mu d b k))).2, ?_, ?_, ?_, ?_⟩
    · exact fun W => implTimesYes hc hC h5 h9 hb k hk W
    · intro W; rw [← ad_assoc hc ha hb hm]; exact implAddYes hC hp h5 h9 hs hm W
    · exact fun W => implAddYes hC hp h5 h9 hb hm W
    · exact fun W => implAddYes hC hp h5 h9 ha (ad_on hc hb hm) W
end Go.Proofs.Ytapdecmaaciaaaa.GrpF
