/-
  The secret told by two signatures: both sides give one answer; the walk of the law on SecretFrom.
-/
import Derived.Test.YtfoclgijhkibeabDoorSec
namespace Go.Proofs.YtfoclgijhkibeabDoor.Sei
open Go.ChangeShapes Go.WideShapes Go.ChangeAt Go.RowKit
open Go.Proofs.YtfoclgijhkibeabDoor.Mem Go.Proofs.YtfoclgijhkibeabDoor.Num Go.Proofs.YtfoclgijhkibeabDoor.Mod Go.Proofs.YtfoclgijhkibeabDoor.Pow Go.Proofs.YtfoclgijhkibeabDoor.Sch Go.Proofs.YtfoclgijhkibeabDoor.Key Go.Proofs.YtfoclgijhkibeabDoor.Txt Go.Proofs.YtfoclgijhkibeabDoor.Cha Go.Proofs.YtfoclgijhkibeabDoor.Chb Go.Proofs.YtfoclgijhkibeabDoor.Rec Go.Proofs.YtfoclgijhkibeabDoor.Chc Go.Proofs.YtfoclgijhkibeabDoor.Chd Go.Proofs.YtfoclgijhkibeabDoor.Chk Go.Proofs.YtfoclgijhkibeabDoor.Chl Go.Proofs.YtfoclgijhkibeabDoor.Sec
set_option linter.unusedVariables false
set_option maxRecDepth 100000

theorem smallDiff (e f : Nat) (w : World) (he : e < 1013) (hf : f < 1013) : Calls Tryd.prog 56 #[.int .i64 e, .int .i64 f] w fun e' w' => e' = .returned (.int .i64 (dd e f : Nat)) ∧ w = w' := by
  have H := Lib.hid (dd_int e f he hf)
  go_enter Tryd.func56, Tryd.ntmps56
  go_wp2
  go_ret
  exact ⟨by rw [← H.out]; rfl, rfl⟩
theorem row_new {Y : World} {o : Obj} {a : Nat} (h : a = Y.heap.size) : (Y.alloc o).heap[a]? = some o := by subst h; exact nw1 Y o
theorem row_al {Y : World} {o o' : Obj} {a : Nat} (h : Y.heap[a]? = some o) : (Y.alloc o').heap[a]? = some o := bx h (al1 Y o')
theorem set_ok {w v : World} {a i : Nat} {x : Value} (h : Below w.heap.size w v) (ha : w.heap.size ≤ a) : Below w.heap.size w (v.setCell ⟨a, i, none⟩ x) := h.setCell (p := ⟨a, i, none⟩) ha x
set_option maxHeartbeats 40000000 in
theorem implSecNo (k : Int) (a : ByteArray) (R S : Int) (b : ByteArray) (Q U : Int) (w : World) (hl1 : a.size ≤ maxLen) (hl2 : b.size ≤ maxLen) (h : ((okK k && okT a) && okX R S) = false ∨ ((okK k && okT b) && okX Q U) = false) :
    Calls Tryd.prog 11 #[.int .i64 k, .string a, pv R S, .string b, pv Q U] w fun e w' => e = .returned (.tuple #[.int .i64 0, .bool false]) ∧ Below w.heap.size w w' := by
  have C1 := Lib.hid (fun W => claimOf k a R S W)
  have C2 := Lib.hid (fun W => claimOf k b Q U W)
  have V1 := Lib.hid (fun W => clValid k a R S W hl1)
  have V2 := Lib.hid (fun W => clValid k b Q U W hl2)
  generalize ((okK k && okT a) && okX R S) = b1 at *
  generalize ((okK k && okT b) && okX Q U) = b2 at *
  unfold pv at *
  obtain ⟨k0, k1⟩ := nw2 w (.cells #[.int .i64 R, .int .i64 S] 28) (.cells #[.int .i64 Q, .int .i64 U] 28)
  have B0 := Lib.hid (al2 w (.cells #[.int .i64 R, .int .i64 S] 28) (.cells #[.int .i64 Q, .int .i64 U] 28))
  go_enter Tryd.func11, Tryd.ntmps11
  go_wp2_with fail
  generalize World.alloc (World.alloc w _) _ = W0 at *
  have z0 : w.heap.size + 1 < W0.heap.size := bx_lt k1
  have H0 := Lib.hid k0
  have H1 := Lib.hid k1
  have R1 := Lib.hid (rel2 W0 C1.out)
  have R2 := Lib.hid (rel2 W0 C2.out)
  clear k0 k1 C1 C2
  go_cut [12, 13] from 20 (fun s12 s13 wc => ∃ a1 a2, s12 = .pointer (some ⟨a1, 0, none⟩) ∧ s13 = .pointer (some ⟨a2, 0, none⟩) ∧ Below W0.heap.size W0 wc ∧ wc.heap[a1]? = some (.cells #[.int .i64 k, .string a, .int .i64 R, .int .i64 S] 86) ∧ wc.heap[a2]? = some (.cells #[.int .i64 k, .string b, .int .i64 Q, .int .i64 U] 86))
  case first =>
    obtain ⟨c0, c1⟩ := row2 H0.out
    obtain ⟨c2, c3⟩ := row2 H1.out
    have BW := Below.refl W0.heap.size W0
    have BD : Below W0.heap.size W0 W0.drew := BW.drew
    go_region_held3 (fun w' => w'.cell? ⟨w.heap.size, 0, none⟩ = some (.int .i64 R) ∧ w'.cell? ⟨w.heap.size, 1, none⟩ = some (.int .i64 S) ∧ w'.cell? ⟨w.heap.size + 1, 0, none⟩ = some (.int .i64 Q) ∧ w'.cell? ⟨w.heap.size + 1, 1, none⟩ = some (.int .i64 U))
      (first | (refine ⟨?_, ?_, ?_, ?_⟩ <;> with_reducible assumption) | (refine ⟨?_, ?_, ?_, ?_⟩ <;> (repeat (first | with_reducible assumption | with_reducible refine cell_al ?_ | with_reducible refine cell_dr ?_ | ((with_reducible refine cell_set4 ?_ ?hne); (case hne => omega)))); done))
      (first
        | (go_at_call 53; (with_reducible refine (R1.out _ ?hb).mono ?_); (case hb => (repeat (first | with_reducible assumption | with_reducible refine Below.drew ?_ | with_reducible refine al_ok ?_)); done); rintro e vt ⟨rfl, dt, bt⟩; obtain ⟨pt0, pt1⟩ := row2 (bx H0.out bt); obtain ⟨pt2, pt3⟩ := row2 (bx H1.out bt); have zt := Nat.lt_of_lt_of_le z0 bt.size; (first | (have xq := xb_of (by with_reducible exact dt); obtain ⟨xt1, xt2⟩ := xq) | (have xq := xb_drew (by with_reducible exact dt); obtain ⟨xt1, xt2⟩ := xq) | (have xt1 := xa_of (by with_reducible exact dt)) | (have xt1 := xa_drew (by with_reducible exact dt)) | skip); (first | (have yt1 := ca0 xu1 (by with_reducible exact dt)) | (have yt1 := ca1 xu1 (by with_reducible exact dt)) | (have yt1 := ca2 xu1 (by with_reducible exact dt)) | skip); (first | (have yt2 := ca0 xu2 (by with_reducible exact dt)) | (have yt2 := ca1 xu2 (by with_reducible exact dt)) | (have yt2 := ca2 xu2 (by with_reducible exact dt)) | skip); (first | (obtain ⟨ct0, ct1, ct2, ct3⟩ := row4 xt1; obtain ⟨ctf0, ctf1, ctf2, ctf3⟩ := frz4 xt1; have ctz := bx_lt xt1) | skip); (first | (obtain ⟨cv0, cv1, cv2, cv3⟩ := row4 xt2; obtain ⟨cvf0, cvf1, cvf2, cvf3⟩ := frz4 xt2; have cvz := bx_lt xt2) | skip); (first | (obtain ⟨cw0, cw1, cw2, cw3⟩ := row4 yt1; obtain ⟨cwf0, cwf1, cwf2, cwf3⟩ := frz4 yt1; have cwz := bx_lt yt1) | skip); (first | (obtain ⟨cx0, cx1, cx2, cx3⟩ := row4 yt2; obtain ⟨cxf0, cxf1, cxf2, cxf3⟩ := frz4 yt2; have cxz := bx_lt yt2) | skip))
        | (go_at_call 53; (with_reducible refine (R2.out _ ?hb).mono ?_); (case hb => (repeat (first | with_reducible assumption | with_reducible refine Below.drew ?_ | with_reducible refine al_ok ?_)); done); rintro e vu ⟨rfl, du, bu⟩; obtain ⟨pu0, pu1⟩ := row2 (bx H0.out bu); obtain ⟨pu2, pu3⟩ := row2 (bx H1.out bu); have zu := Nat.lt_of_lt_of_le z0 bu.size; (first | (have xq := xb_of (by with_reducible exact du); obtain ⟨xu1, xu2⟩ := xq) | (have xq := xb_drew (by with_reducible exact du); obtain ⟨xu1, xu2⟩ := xq) | (have xu1 := xa_of (by with_reducible exact du)) | (have xu1 := xa_drew (by with_reducible exact du)) | skip); (first | (have yu1 := ca0 xt1 (by with_reducible exact du)) | (have yu1 := ca1 xt1 (by with_reducible exact du)) | (have yu1 := ca2 xt1 (by with_reducible exact du)) | skip); (first | (have yu2 := ca0 xt2 (by with_reducible exact du)) | (have yu2 := ca1 xt2 (by with_reducible exact du)) | (have yu2 := ca2 xt2 (by with_reducible exact du)) | skip); (first | (obtain ⟨ct0, ct1, ct2, ct3⟩ := row4 xu1; obtain ⟨ctf0, ctf1, ctf2, ctf3⟩ := frz4 xu1; have ctz := bx_lt xu1) | skip); (first | (obtain ⟨cv0, cv1, cv2, cv3⟩ := row4 xu2; obtain ⟨cvf0, cvf1, cvf2, cvf3⟩ := frz4 xu2; have cvz := bx_lt xu2) | skip); (first | (obtain ⟨cw0, cw1, cw2, cw3⟩ := row4 yu1; obtain ⟨cwf0, cwf1, cwf2, cwf3⟩ := frz4 yu1; have cwz := bx_lt yu1) | skip); (first | (obtain ⟨cx0, cx1, cx2, cx3⟩ := row4 yu2; obtain ⟨cxf0, cxf1, cxf2, cxf3⟩ := frz4 yu2; have cxz := bx_lt yu2) | skip)))
    all_goals
      go_wp2
      go_meet
      case rel =>
        have sb := bt.size
        have su := bu.size
        have sd := dt.size
        have se := du.size
        refine ⟨_, _, rfl, rfl, ?_, ?_, ?_⟩
        all_goals ((repeat (first | with_reducible assumption | with_reducible refine al_ok ?_ | with_reducible refine Below.drew ?_ | ((with_reducible refine set_ok ?_ ?_); rotate_left; omega) | ((with_reducible refine row_new ?_); simp; done) | with_reducible refine row_al ?_ | with_reducible refine heap_set4 (x' := .int .i64 0) (y' := .string ⟨#[]⟩) (z' := .int .i64 0) (u' := .int .i64 0) ?_ | ((with_reducible refine heap_set4o ?_ ?_); rotate_left; omega))); done)
  case rest =>
    obtain ⟨a1, a2, rfl, rfl, BW, K1, K2⟩ := hcut
    generalize wc = v0 at *
    have B1 := Lib.hid (then_ (n := 0) B0.out BW)
    obtain ⟨p0, p1, p2, p3⟩ := row4 K1
    have J2 := Lib.hid K2
    clear BW B0 K1 K2 R1 R2 H0 H1 z0
    cases b1
    · clear h
      go_wp2_with fail
      refine (V1.out _).mono ?_
      rintro e w1 ⟨rfl, bb⟩
      have B2 := then_ (n := 0) B1.out bb
      clear bb B1 V1 V2 p0 p1 p2 p3 J2
      go_wp2
      go_ret2
      exact ⟨rfl, B2⟩
    · obtain rfl : b2 = false := by simpa using h
      clear h
      go_wp2_with fail
      refine (V1.out _).mono ?_
      rintro e w1 ⟨rfl, bb⟩
      have B2 := Lib.hid (then_ (n := 0) B1.out bb)
      obtain ⟨s0, s1, s2, s3⟩ := row4 (bx J2.out bb)
      clear bb B1 V1 p0 p1 p2 p3 J2
      go_wp2_with fail
      refine (V2.out _).mono ?_
      rintro e w2 ⟨rfl, bb⟩
      have B3 := then_ (n := 0) B2.out bb
      clear bb B2 V2 s0 s1 s2 s3
      go_wp2
      go_ret2
      exact ⟨rfl, B3⟩
theorem implInverse0 (d : Nat) (w : World) (h : d = 0) : Calls Tryd.prog 58 #[.int .i64 d, .int .i64 1013] w fun e w' => e = .returned (.tuple #[.int .i64 0, .bool false]) ∧ w = w' := implInverseNo (d : Int) 1013 w (Or.inr (by omega))
theorem implInverse1 (d : Nat) (w : World) (h : d ≠ 0) (hd : d < 1013) : Calls Tryd.prog 58 #[.int .i64 d, .int .i64 1013] w fun e w' => e = .returned (.tuple #[.int .i64 (inv d : Nat), .bool true]) ∧ w = w' := implInv d 1013 w pr_small hd (by omega)
def fin (h1 h2 : Bool) (r q k e f s u : Nat) : Bool := h1 && (h2 && (decide (r = q) && okF k e f s u))
set_option maxHeartbeats 40000000 in
theorem implSec (n : Nat) (a : ByteArray) (r s : Nat) (b : ByteArray) (q u : Nat) (w : World) (V : Int) (ok : Bool) (hk : okK n = true) (hn : n ≤ 2026) (hx1 : okX r s = true) (hr : r ≤ 2026) (hs : s ≤ 1012) (hx2 : okX q u = true) (hq : q ≤ 2026) (hu : u ≤ 1012) (ha : a.size ≤ 200) (hb : b.size ≤ 200) (hT : Tb w)
    (EO : Hid (ok = fin (hold n a r s) (hold n b q u) r q n (chal r n a) (chal q n b) s u)) (EV : Hid (V = if ok then ((sx (chal r n a) (chal q n b) s u : Nat) : Int) else 0)) :
    Calls Tryd.prog 11 #[.int .i64 n, .string a, pv r s, .string b, pv q u] w fun e w' => e = .returned (.tuple #[.int .i64 V, .bool ok]) ∧ Below w.heap.size w w' := by
  have C1 := Lib.hid (fun W => claimOf n a r s W)
  have C2 := Lib.hid (fun W => claimOf n b q u W)
  have V1 := Lib.hid (fun W => clValid n a r s W (by unfold maxLen; omega))
  have V2 := Lib.hid (fun W => clValid n b q u W (by unfold maxLen; omega))
  rw [hk, okT_of ha, hx1] at V1
  rw [hk, okT_of hb, hx2] at V2
  have HT := Lib.hid (fun W (h : Below w.heap.size w W) => hT.below h)
  have L1 := Lib.hid (fun W (h : Tb W) => clHolds n a r s W hn hr hs ha h)
  have L2 := Lib.hid (fun W (h : Tb W) => clHolds n b q u W hn hq hu hb h)
  have O1 := Lib.hid (fun W (h : Tb W) => clOwn n a r s W hn hr ha h)
  have O2 := Lib.hid (fun W (h : Tb W) => clOwn n b q u W hn hq hb h)
  have he := chal_lt r n a
  have hf := chal_lt q n b
  generalize hold n a r s = h1 at *
  generalize hold n b q u = h2 at *
  generalize chal r n a = e at *
  generalize chal q n b = f at *
  clear hk hx1 hx2 hT
  unfold pv at *
  obtain ⟨k0, k1⟩ := nw2 w (.cells #[.int .i64 r, .int .i64 s] 28) (.cells #[.int .i64 q, .int .i64 u] 28)
  have B0 := Lib.hid (al2 w (.cells #[.int .i64 r, .int .i64 s] 28) (.cells #[.int .i64 q, .int .i64 u] 28))
  go_enter Tryd.func11, Tryd.ntmps11
  go_wp2_with fail
  generalize World.alloc (World.alloc w _) _ = W0 at *
  have z0 : w.heap.size + 1 < W0.heap.size := bx_lt k1
  have H0 := Lib.hid k0
  have H1 := Lib.hid k1
  have R1 := Lib.hid (rel2 W0 C1.out)
  have R2 := Lib.hid (rel2 W0 C2.out)
  clear k0 k1 C1 C2
  go_cut [12, 13] from 20 (fun s12 s13 wc => ∃ a1 a2, s12 = .pointer (some ⟨a1, 0, none⟩) ∧ s13 = .pointer (some ⟨a2, 0, none⟩) ∧ Below W0.heap.size W0 wc ∧ wc.heap[a1]? = some (.cells #[.int .i64 n, .string a, .int .i64 r, .int .i64 s] 86) ∧ wc.heap[a2]? = some (.cells #[.int .i64 n, .string b, .int .i64 q, .int .i64 u] 86))
  case first =>
    obtain ⟨c0, c1⟩ := row2 H0.out
    obtain ⟨c2, c3⟩ := row2 H1.out
    have BW := Below.refl W0.heap.size W0
    have BD : Below W0.heap.size W0 W0.drew := BW.drew
    go_region_held3 (fun w' => w'.cell? ⟨w.heap.size, 0, none⟩ = some (.int .i64 r) ∧ w'.cell? ⟨w.heap.size, 1, none⟩ = some (.int .i64 s) ∧ w'.cell? ⟨w.heap.size + 1, 0, none⟩ = some (.int .i64 q) ∧ w'.cell? ⟨w.heap.size + 1, 1, none⟩ = some (.int .i64 u))
      (first | (refine ⟨?_, ?_, ?_, ?_⟩ <;> with_reducible assumption) | (refine ⟨?_, ?_, ?_, ?_⟩ <;> (repeat (first | with_reducible assumption | with_reducible refine cell_al ?_ | with_reducible refine cell_dr ?_ | ((with_reducible refine cell_set4 ?_ ?hne); (case hne => omega)))); done))
      (first
        | (go_at_call 53; (with_reducible refine (R1.out _ ?hb).mono ?_); (case hb => (repeat (first | with_reducible assumption | with_reducible refine Below.drew ?_ | with_reducible refine al_ok ?_)); done); rintro e vt ⟨rfl, dt, bt⟩; obtain ⟨pt0, pt1⟩ := row2 (bx H0.out bt); obtain ⟨pt2, pt3⟩ := row2 (bx H1.out bt); have zt := Nat.lt_of_lt_of_le z0 bt.size; (first | (have xq := xb_of (by with_reducible exact dt); obtain ⟨xt1, xt2⟩ := xq) | (have xq := xb_drew (by with_reducible exact dt); obtain ⟨xt1, xt2⟩ := xq) | (have xt1 := xa_of (by with_reducible exact dt)) | (have xt1 := xa_drew (by with_reducible exact dt)) | skip); (first | (have yt1 := ca0 xu1 (by with_reducible exact dt)) | (have yt1 := ca1 xu1 (by with_reducible exact dt)) | (have yt1 := ca2 xu1 (by with_reducible exact dt)) | skip); (first | (have yt2 := ca0 xu2 (by with_reducible exact dt)) | (have yt2 := ca1 xu2 (by with_reducible exact dt)) | (have yt2 := ca2 xu2 (by with_reducible exact dt)) | skip); (first | (obtain ⟨ct0, ct1, ct2, ct3⟩ := row4 xt1; obtain ⟨ctf0, ctf1, ctf2, ctf3⟩ := frz4 xt1; have ctz := bx_lt xt1) | skip); (first | (obtain ⟨cv0, cv1, cv2, cv3⟩ := row4 xt2; obtain ⟨cvf0, cvf1, cvf2, cvf3⟩ := frz4 xt2; have cvz := bx_lt xt2) | skip); (first | (obtain ⟨cw0, cw1, cw2, cw3⟩ := row4 yt1; obtain ⟨cwf0, cwf1, cwf2, cwf3⟩ := frz4 yt1; have cwz := bx_lt yt1) | skip); (first | (obtain ⟨cx0, cx1, cx2, cx3⟩ := row4 yt2; obtain ⟨cxf0, cxf1, cxf2, cxf3⟩ := frz4 yt2; have cxz := bx_lt yt2) | skip))
        | (go_at_call 53; (with_reducible refine (R2.out _ ?hb).mono ?_); (case hb => (repeat (first | with_reducible assumption | with_reducible refine Below.drew ?_ | with_reducible refine al_ok ?_)); done); rintro e vu ⟨rfl, du, bu⟩; obtain ⟨pu0, pu1⟩ := row2 (bx H0.out bu); obtain ⟨pu2, pu3⟩ := row2 (bx H1.out bu); have zu := Nat.lt_of_lt_of_le z0 bu.size; (first | (have xq := xb_of (by with_reducible exact du); obtain ⟨xu1, xu2⟩ := xq) | (have xq := xb_drew (by with_reducible exact du); obtain ⟨xu1, xu2⟩ := xq) | (have xu1 := xa_of (by with_reducible exact du)) | (have xu1 := xa_drew (by with_reducible exact du)) | skip); (first | (have yu1 := ca0 xt1 (by with_reducible exact du)) | (have yu1 := ca1 xt1 (by with_reducible exact du)) | (have yu1 := ca2 xt1 (by with_reducible exact du)) | skip); (first | (have yu2 := ca0 xt2 (by with_reducible exact du)) | (have yu2 := ca1 xt2 (by with_reducible exact du)) | (have yu2 := ca2 xt2 (by with_reducible exact du)) | skip); (first | (obtain ⟨ct0, ct1, ct2, ct3⟩ := row4 xu1; obtain ⟨ctf0, ctf1, ctf2, ctf3⟩ := frz4 xu1; have ctz := bx_lt xu1) | skip); (first | (obtain ⟨cv0, cv1, cv2, cv3⟩ := row4 xu2; obtain ⟨cvf0, cvf1, cvf2, cvf3⟩ := frz4 xu2; have cvz := bx_lt xu2) | skip); (first | (obtain ⟨cw0, cw1, cw2, cw3⟩ := row4 yu1; obtain ⟨cwf0, cwf1, cwf2, cwf3⟩ := frz4 yu1; have cwz := bx_lt yu1) | skip); (first | (obtain ⟨cx0, cx1, cx2, cx3⟩ := row4 yu2; obtain ⟨cxf0, cxf1, cxf2, cxf3⟩ := frz4 yu2; have cxz := bx_lt yu2) | skip)))
    all_goals
      go_wp2
      go_meet
      case rel =>
        have sb := bt.size
        have su := bu.size
        have sd := dt.size
        have se := du.size
        refine ⟨_, _, rfl, rfl, ?_, ?_, ?_⟩
        all_goals ((repeat (first | with_reducible assumption | with_reducible refine al_ok ?_ | with_reducible refine Below.drew ?_ | ((with_reducible refine set_ok ?_ ?_); rotate_left; omega) | ((with_reducible refine row_new ?_); simp; done) | with_reducible refine row_al ?_ | with_reducible refine heap_set4 (x' := .int .i64 0) (y' := .string ⟨#[]⟩) (z' := .int .i64 0) (u' := .int .i64 0) ?_ | ((with_reducible refine heap_set4o ?_ ?_); rotate_left; omega))); done)
  case rest =>
    obtain ⟨a1, a2, rfl, rfl, BW, K1, K2⟩ := hcut
    generalize wc = v0 at *
    have B1 := Lib.hid (then_ (n := 0) B0.out BW)
    obtain ⟨p0, p1, p2, p3⟩ := row4 K1
    have J1 := Lib.hid K1
    have J2 := Lib.hid K2
    clear BW B0 K1 K2 R1 R2 H0 H1 z0
    go_wp2_with fail
    refine (V1.out _).mono ?_
    rintro e' v1 ⟨rfl, bb⟩
    have B2 := Lib.hid (then_ (n := 0) B1.out bb)
    have G1 := Lib.hid (bx J1.out bb)
    have G2 := Lib.hid (bx J2.out bb)
    obtain ⟨s0, s1, s2, s3⟩ := row4 G2.out
    clear bb B1 V1 p0 p1 p2 p3 J1 J2
    go_wp2_with fail
    refine (V2.out _).mono ?_
    rintro e' v2 ⟨rfl, bb⟩
    have B3 := Lib.hid (then_ (n := 0) B2.out bb)
    have J1 := Lib.hid (bx G1.out bb)
    have J2 := Lib.hid (bx G2.out bb)
    obtain ⟨p0, p1, p2, p3⟩ := row4 J1.out
    have T1 := Lib.hid (HT.out _ B3.out)
    clear bb B2 V2 s0 s1 s2 s3 G1 G2
    go_wp2_with fail
    refine (L1.out _ T1.out).mono ?_
    rintro e' v3 ⟨rfl, bb⟩
    have B4 := Lib.hid (then_ (n := 0) B3.out bb)
    have G1 := Lib.hid (bx J1.out bb)
    have G2 := Lib.hid (bx J2.out bb)
    have T2 := Lib.hid (HT.out _ B4.out)
    clear bb B3 L1 p0 p1 p2 p3 J1 J2 T1
    cases h1
    · obtain rfl : ok = false := by rw [EO.out]; rfl
      obtain rfl : V = 0 := by rw [EV.out]; rfl
      clear EO EV
      go_wp2
      go_ret2
      exact ⟨rfl, B4.out⟩
    obtain ⟨s0, s1, s2, s3⟩ := row4 G2.out
    go_wp2_with fail
    refine (L2.out _ T2.out).mono ?_
    rintro e' v4 ⟨rfl, bb⟩
    have B5 := Lib.hid (then_ (n := 0) B4.out bb)
    have J1 := Lib.hid (bx G1.out bb)
    have J2 := Lib.hid (bx G2.out bb)
    have T3 := Lib.hid (fun W (h : Below v4.heap.size v4 W) => HT.out W (then_ (n := 0) B5.out h))
    clear bb B4 L2 s0 s1 s2 s3 G1 G2 T2 HT
    obtain ⟨p0, p1, p2, p3⟩ := row4 J1.out
    obtain ⟨s0, s1, s2, s3⟩ := row4 J2.out
    cases h2
    · obtain rfl : ok = false := by rw [EO.out]; rfl
      obtain rfl : V = 0 := by rw [EV.out]; rfl
      clear EO EV
      go_wp2
      go_ret2
      exact ⟨rfl, B5.out⟩
    by_cases hrq : r = q
    case neg =>
      obtain rfl : ok = false := by rw [EO.out]; unfold fin; simp [hrq]
      obtain rfl : V = 0 := by rw [EV.out]; rfl
      have hne : ((r : Int) != (q : Int)) = true := by rw [bne_iff_ne]; omega
      clear EO EV hrq
      go_wp2
      go_ret2
      exact ⟨rfl, B5.out⟩
    have hne : ((r : Int) != (q : Int)) = false := by rw [bne_eq_false_iff_eq]; omega
    have EF : Hid (ok = okF n e f s u) := Lib.hid (by rw [EO.out]; unfold fin; simp [hrq])
    have hd := dd_lt e f
    have hd2 := dd_lt s u
    have hi := inv_lt (dd e f)
    have hx := sx_lt e f s u
    have HX := Lib.hid (sx_int e f s u _ _ rfl rfl)
    have EG := Lib.hid (okF_eq n e f s u _ _ _ rfl rfl rfl)
    have D1 := Lib.hid (fun W => smallDiff e f W he hf)
    have D2 := Lib.hid (fun W => smallDiff s u W (by omega) (by omega))
    have I0 := Lib.hid (fun W (h : dd e f = 0) => implInverse0 (dd e f) W h)
    have I1 := Lib.hid (fun W (h : dd e f ≠ 0) => implInverse1 (dd e f) W h hd)
    have K1 := Lib.hid (fun W (h : sx e f s u ≠ 0) => implFor (sx e f s u) W (by omega) (by omega))
    have K0 := Lib.hid (fun W (h : sx e f s u = 0) => implForNo ((sx e f s u : Nat) : Int) W (by rw [h]; rfl))
    have EE : Hid (ok = (decide (dd e f ≠ 0) && (decide (sx e f s u ≠ 0) && decide (pw 4 (sx e f s u) = n)))) := Lib.hid (by rw [EF.out, EG.out])
    have EW : Hid (V = if ok then ((sx e f s u : Nat) : Int) else 0) := Lib.hid (by rw [EV.out])
    clear EO hrq EF EG EV
    generalize pw 4 (sx e f s u) = y at *
    generalize sx e f s u = x at *
    generalize inv (dd e f) = i at *
    generalize dd e f = d at *
    generalize dd s u = d2 at *
    go_wp2_with fail
    go_cut [14] from 55 (fun s14 wc => s14 = .int .i64 d ∧ Below v4.heap.size v4 wc)
    case first =>
      have BW := Below.refl v4.heap.size v4
      have BD : Below v4.heap.size v4 v4.drew := BW.drew
      have R1 := Lib.hid (fun W (h : Below v4.heap.size v4 W) => (O1.out W (T3.out W h)).mono (fun e' w' (z : e' = .returned (.int .i64 (e : Nat)) ∧ Below W.heap.size W w') => (show e' = .returned (.int .i64 (e : Nat)) ∧ Below v4.heap.size v4 w' from ⟨z.1, then_ (n := 0) h z.2⟩)))
      have R2 := Lib.hid (fun W (h : Below v4.heap.size v4 W) => (O2.out W (T3.out W h)).mono (fun e' w' (z : e' = .returned (.int .i64 (f : Nat)) ∧ Below W.heap.size W w') => (show e' = .returned (.int .i64 (f : Nat)) ∧ Below v4.heap.size v4 w' from ⟨z.1, then_ (n := 0) h z.2⟩)))
      clear O1 O2 T3 D2 I0 I1 K0 K1 HX
      go_region_held3 (fun w' => w'.cell? ⟨a1, 0, none⟩ = some (.int .i64 n) ∧ w'.cell? ⟨a1, 1, none⟩ = some (.string a) ∧ w'.cell? ⟨a1, 2, none⟩ = some (.int .i64 r) ∧ w'.cell? ⟨a1, 3, none⟩ = some (.int .i64 s) ∧ w'.cell? ⟨a2, 0, none⟩ = some (.int .i64 n) ∧ w'.cell? ⟨a2, 1, none⟩ = some (.string b) ∧ w'.cell? ⟨a2, 2, none⟩ = some (.int .i64 q) ∧ w'.cell? ⟨a2, 3, none⟩ = some (.int .i64 u))
        (first | (refine ⟨?_, ?_, ?_, ?_, ?_, ?_, ?_, ?_⟩ <;> with_reducible assumption) | (go_keep; done))
        (first
          | (go_at_call 56; (with_reducible refine (D1.out _).mono ?_); rintro e' w' ⟨rfl, rfl⟩)
          | (go_at_call 57; (with_reducible refine (R1.out _ ?hb).mono ?_); (case hb => with_reducible assumption); rintro e' vt ⟨rfl, bt⟩; obtain ⟨t0, t1, t2, t3⟩ := row4 (bx J1.out bt); obtain ⟨t4, t5, t6, t7⟩ := row4 (bx J2.out bt))
          | (go_at_call 57; (with_reducible refine (R2.out _ ?hb).mono ?_); (case hb => with_reducible assumption); rintro e' vu ⟨rfl, bu⟩; obtain ⟨r0, r1, r2, r3⟩ := row4 (bx J1.out bu); obtain ⟨r4, r5, r6, r7⟩ := row4 (bx J2.out bu)))
      all_goals
        go_wp2
        go_meet
        case rel => exact ⟨rfl, by with_reducible assumption⟩
    case rest =>
      obtain ⟨rfl, bc⟩ := hcut
      generalize wc = v5 at *
      have B6 := Lib.hid (then_ (n := 0) B5.out bc)
      obtain ⟨t0, t1, t2, t3⟩ := row4 (bx J1.out bc)
      obtain ⟨t4, t5, t6, t7⟩ := row4 (bx J2.out bc)
      clear bc B5 J1 J2 T3 O1 O2 p0 p1 p2 p3 s0 s1 s2 s3 D1
      by_cases hd0 : d = 0
      · obtain rfl : ok = false := by rw [EE.out]; simp [hd0]
        obtain rfl : V = 0 := by rw [EW.out]; rfl
        have I := Lib.hid (fun W => I0.out W hd0)
        clear EE EW hd0 I0 I1 K0 K1 HX D2
        go_wp2_with fail
        refine (I.out _).mono ?_
        rintro e' w' ⟨rfl, rfl⟩
        go_wp2
        go_ret2
        exact ⟨rfl, B6.out⟩
      · have I := Lib.hid (fun W => I1.out W hd0)
        have mb := mul_bd2 d2 i hd2 hi
        rw [HX.out] at K0 K1
        clear I0 I1
        go_wp2_with fail
        refine (I.out _).mono ?_
        rintro e' w' ⟨rfl, rfl⟩
        go_wp2_with fail
        refine (D2.out _).mono ?_
        rintro e' w' ⟨rfl, rfl⟩
        by_cases hx0 : x = 0
        · obtain rfl : ok = false := by rw [EE.out]; simp [hx0]
          obtain rfl : V = 0 := by rw [EW.out]; rfl
          have K := Lib.hid (fun W => K0.out W hx0)
          clear EE EW hd0 hx0 K0 K1 HX
          go_wp2_with fail
          refine (K.out _).mono ?_
          rintro e' w' ⟨rfl, rfl⟩
          go_wp2
          go_ret2
          exact ⟨rfl, B6.out⟩
        · have K := Lib.hid (fun W => K1.out W hx0)
          by_cases hy : y = n
          · obtain rfl : ok = true := by rw [EE.out]; simp [hd0, hx0, hy]
            obtain rfl : V = (d2 : Int) * (i : Int) % 1013 := by rw [EW.out, ← HX.out]; rfl
            have hyn : ((y : Int) != (n : Int)) = false := by rw [bne_eq_false_iff_eq]; omega
            clear EE EW hd0 hx0 K0 K1 HX hy
            go_wp2_with fail
            refine (K.out _).mono ?_
            rintro e' w' ⟨rfl, rfl⟩
            go_wp2
            go_ret2
            exact ⟨rfl, B6.out⟩
          · obtain rfl : ok = false := by rw [EE.out]; simp [hy]
            obtain rfl : V = 0 := by rw [EW.out]; rfl
            have hyn : ((y : Int) != (n : Int)) = true := by rw [bne_iff_ne]; omega
            clear EE EW hd0 hx0 K0 K1 HX hy
            go_wp2_with fail
            refine (K.out _).mono ?_
            rintro e' w' ⟨rfl, rfl⟩
            go_wp2
            go_ret2
            exact ⟨rfl, B6.out⟩
end Go.Proofs.YtfoclgijhkibeabDoor.Sei

namespace Go.Proofs.YtfoclgijhkibeabDoor.Sel
open Go.ChangeShapes Go.WideShapes Go.ChangeAt Go.RowKit
open Go.Proofs.YtfoclgijhkibeabDoor.Mem Go.Proofs.YtfoclgijhkibeabDoor.Num Go.Proofs.YtfoclgijhkibeabDoor.Mod Go.Proofs.YtfoclgijhkibeabDoor.Pow Go.Proofs.YtfoclgijhkibeabDoor.Sch Go.Proofs.YtfoclgijhkibeabDoor.Key Go.Proofs.YtfoclgijhkibeabDoor.Txt Go.Proofs.YtfoclgijhkibeabDoor.Cha Go.Proofs.YtfoclgijhkibeabDoor.Chb Go.Proofs.YtfoclgijhkibeabDoor.Rec Go.Proofs.YtfoclgijhkibeabDoor.Chc Go.Proofs.YtfoclgijhkibeabDoor.Chd Go.Proofs.YtfoclgijhkibeabDoor.Chk Go.Proofs.YtfoclgijhkibeabDoor.Chl Go.Proofs.YtfoclgijhkibeabDoor.Sec Go.Proofs.YtfoclgijhkibeabDoor.Sei
set_option linter.unusedVariables false
set_option maxRecDepth 100000

/-- Both give one answer. -/
theorem secBoth (k : Int) (a : ByteArray) (R S : Int) (b : ByteArray) (Q U : Int) (hl1 : a.size ≤ maxLen) (hl2 : b.size ≤ maxLen) : ∃ (V : Int) (ok : Bool),
    (∀ W, Tb W → Calls Tryd.prog 11 #[.int .i64 k, .string a, pv R S, .string b, pv Q U] W fun e w' => e = .returned (.tuple #[.int .i64 V, .bool ok]) ∧ Below W.heap.size W w') ∧
    (∀ W, Calls Tryd.prog 13 #[.int .i64 k, .string a, pv R S, .string b, pv Q U] W fun e w' => e = .returned (.tuple #[.int .i64 V, .bool ok]) ∧ Below W.heap.size W w') ∧
    ok = (((okK k && okT a) && okX R S) && (((okK k && okT b) && okX Q U) && fin (hold k.toNat a R.toNat S.toNat) (hold k.toNat b Q.toNat U.toNat) R.toNat Q.toNat k.toNat (chal R.toNat k.toNat a) (chal Q.toNat k.toNat b) S.toNat U.toNat)) ∧
    V = if ok then ((sx (chal R.toNat k.toNat a) (chal Q.toNat k.toNat b) S.toNat U.toNat : Nat) : Int) else 0 := by
  obtain ⟨x1, b1, -, S1, e1, f1⟩ := checkBoth k a R S hl1
  obtain ⟨x2, b2, -, S2, e2, f2⟩ := checkBoth k b Q U hl2
  by_cases h : ((okK k && okT a) && okX R S) = false ∨ ((okK k && okT b) && okX Q U) = false
  · refine ⟨0, false, fun W _ => implSecNo k a R S b Q U W hl1 hl2 h, fun W => specSecNo k a R S b Q U W b1 b2 x1 x2 (Lib.hid S1) (Lib.hid S2) ?_, ?_, rfl⟩
    · rintro ⟨h1, h2, -⟩
      rw [e1] at h1; rw [e2] at h2
      rcases h with h | h
      · rw [h] at h1; cases h1
      · rw [h] at h2; cases h2
    · rcases h with h | h <;> rw [h] <;> simp
  · have g1 : ((okK k && okT a) && okX R S) = true := by cases e : ((okK k && okT a) && okX R S) <;> simp_all
    have g2 : ((okK k && okT b) && okX Q U) = true := by cases e : ((okK k && okT b) && okX Q U) <;> simp_all
    rw [g1] at e1 ⊢
    rw [g2] at e2 ⊢
    simp only [Bool.and_eq_true] at g1 g2
    obtain ⟨⟨hk, hta⟩, hx1⟩ := g1
    obtain ⟨⟨-, htb⟩, hx2⟩ := g2
    obtain ⟨n, rfl, hn1, hn2⟩ := okK_yes hk
    obtain ⟨r, s, rfl, rfl, hr1, hr2, hs⟩ := okX_yes hx1
    obtain ⟨q, u, rfl, rfl, hq1, hq2, hu⟩ := okX_yes hx2
    subst e1 e2
    simp only [Int.toNat_natCast, Bool.true_and] at *
    subst f1 f2
    refine ⟨_, _, fun W hT => implSec n a r s b q u W _ _ hk hn2 hx1 hr2 hs hx2 hq2 hu (okT_yes hta) (okT_yes htb) hT (Lib.hid rfl) (Lib.hid rfl), fun W => ?_, rfl, rfl⟩
    by_cases hg : hold n a r s = true ∧ hold n b q u = true ∧ r = q
    · obtain ⟨h1, h2, rfl⟩ := hg
      rw [h1] at S1; rw [h2] at S2
      have hF : fin (hold n a r s) (hold n b r u) r r n (chal r n a) (chal r n b) s u = okF n (chal r n a) (chal r n b) s u := by rw [h1, h2]; simp [fin]
      rw [hF]
      exact specSec n a r s b u W hn2 hr2 (by omega) (by omega) (okT_yes hta) (okT_yes htb) (Lib.hid S1) (Lib.hid S2)
    · have hF : fin (hold n a r s) (hold n b q u) r q n (chal r n a) (chal q n b) s u = false := by
        unfold fin
        cases h1 : hold n a r s
        · rfl
        · cases h2 : hold n b q u
          · rfl
          · have : ¬ r = q := fun e => hg ⟨h1, h2, e⟩
            simp [this]
      rw [hF]
      exact specSecNo n a r s b q u W true true _ _ (Lib.hid S1) (Lib.hid S2) (fun h => hg ⟨h.2.2.1, h.2.2.2.1, by omega⟩)
end Go.Proofs.YtfoclgijhkibeabDoor.Sel
