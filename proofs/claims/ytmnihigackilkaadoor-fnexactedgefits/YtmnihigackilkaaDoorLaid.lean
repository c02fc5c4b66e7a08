/-
  What a listed variable gives: an array of words, read off the datum.
-/
import Derived.Test.YtmnihigackilkaaDoorWords
import Derived.Test.YtmnihigackilkaaDoorTie
import Derived.Test.YtmnihigackilkaaDoorCards
import Derived.ProofKit
import Derived.LaidMore
import Derived.OpenShut
import Derived.OpenVars
import Derived.Stop.Joined
import Derived.MakeChecks
namespace Go.Proofs.YtmnihigackilkaaDoor.Laid
open Go.ChangeShapes Go.WideShapes Go.ChangeAt Go.RowKit
open Go.Proofs.YtmnihigackilkaaDoor.Mem Go.Proofs.YtmnihigackilkaaDoor.Ints Go.Proofs.YtmnihigackilkaaDoor.Words
set_option linter.unusedVariables false
theorem arr_laid {P : Program} {W : World} {n : String} {g t e m fuel : Nat} {cs : Array Value} {l : List Int} {p : List MemPlace} (hg : P.globalNamed n = some g) (hu : P.underlying t = some (.array m e)) (he : P.underlying e = some (.int .u32)) (hc : P.cellsOf e = 1)
    (hv : W.var? P n = some cs) (hd : DataW.trod (fun _ => ()) P W 0 (fun _ => true) false fuel t cs.toList = some (.agg (l.map fun z => DataW.lit (Lit.int .u32 z)), p)) (hm : l.length = m) :
    W.rangeAt g 0 (u32s l) := by
  intro j v hj
  obtain ⟨xs, m1, rfl, hx, hlen, hn, hel⟩ := DataW.trod_array hu hd
  have hjl : j < l.length := by have := (List.getElem?_eq_some_iff.1 hj).1; simpa [u32s] using this
  have h1 := hel j (by omega)
  have hjx : j < xs.length := by omega
  rw [List.getElem?_eq_getElem hjx, hc] at h1
  obtain ⟨k, e1, e2, _⟩ := DataW.trod_int he h1
  obtain ⟨ha, _⟩ := Prod.mk.inj hx
  have ha' : (l.map fun z => (DataW.lit (Lit.int .u32 z) : DataW Unit)) = xs.map (·.1) := by simpa using ha
  have hk : (DataW.lit (Lit.int .u32 l[j]) : DataW Unit) = xs[j].1 := by
    have := congrArg (fun y => y[j]?) ha'
    simpa [hjl, hjx] using this
  rw [e2] at hk
  have hkk : l[j] = k := by simpa using hk
  have hvj : v = .int .u32 l[j] := by
    simp [u32s, hjl] at hj
    exact hj.symm
  rw [Nat.zero_add, World.var?_cell hg hv j, hvj, hkk]
  have hcj : cs.toList[j]? = some (.int .u32 k) := by
    have h3 := congrArg (fun y => y[0]?) e1
    simpa using h3
  simpa using hcj
end Go.Proofs.YtmnihigackilkaaDoor.Laid
