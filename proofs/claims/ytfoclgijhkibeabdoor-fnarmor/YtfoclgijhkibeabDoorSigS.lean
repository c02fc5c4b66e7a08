/-
  The reference's base64 encoding: its contract.
-/
import Derived.Test.YtfoclgijhkibeabDoorRows
import Derived.Test.YtfoclgijhkibeabDoorSigM
import Derived.Test.YtfoclgijhkibeabDoorLen
import Derived.OpenShut
import Derived.ShutString
namespace Go.Proofs.YtfoclgijhkibeabDoor.SigS
open Go.ChangeShapes Go.WideShapes Go.ChangeAt Go.RowKit
open Go.Proofs.YtfoclgijhkibeabDoor.Mem Go.Proofs.YtfoclgijhkibeabDoor.SigM
set_option linter.unusedVariables false
set_option maxRecDepth 100000

theorem infoB : (Tryd.prog.info? 5).map (fun i => (i.zero, i.size, i.bytes)) = some (some (.int .u8 0), 1, 1) := by kernel_rfl
theorem least (a b : Int) (w : World) : Calls Tryd.prog 132 #[.int .i64 a, .int .i64 b] w fun e w' => e = .returned (.int .i64 (min a b)) ∧ w = w' := by
  by_cases h : a < b
  · go_enter Tryd.func132, Tryd.ntmps132
    go_wp2
    go_ret
    exact ⟨ret_int (by omega), rfl⟩
  · go_enter Tryd.func132, Tryd.ntmps132
    go_wp2
    go_ret
    exact ⟨ret_int (by omega), rfl⟩

/-- What the first loop has read of a group behind i rounds. -/
def acc (x : List UInt8) (i : Nat) : Nat := trip x / 256 ^ (3 - i)
theorem acc_step (x : List UInt8) (i : Nat) (h : i < 3) : acc x (i + 1) = acc x i * 256 + (x.getD i 0).toNat := by
  have h0 := (x.getD 0 0).toNat_lt
  have h1 := (x.getD 1 0).toNat_lt
  have h2 := (x.getD 2 0).toNat_lt
  unfold acc trip
  match i, h with
  | 0, _ => simp only [Nat.sub_zero, Nat.reduceAdd, Nat.reduceSub, Nat.reducePow]; omega
  | 1, _ => simp only [Nat.reduceAdd, Nat.reduceSub, Nat.reducePow]; omega
  | 2, _ => simp only [Nat.reduceAdd, Nat.reduceSub, Nat.reducePow]; omega
  | n + 3, h => omega
theorem acc_zero (x : List UInt8) : acc x 0 = 0 := by unfold acc; exact Nat.div_eq_of_lt (trip_lt x)
theorem acc_all (x : List UInt8) : acc x 3 = trip x := by simp [acc]
theorem acc_le (x : List UInt8) (i : Nat) : acc x i ≤ 16777215 := by
  have := trip_lt x
  exact Nat.le_trans (Nat.div_le_self _ _) (by omega)
theorem or8 (x : Nat) (c : UInt8) (hx : x ≤ 16777215) : bits .or .i64 ((x : Int) * 256) (c.toNat : Int) = ((x * 256 + c.toNat : Nat) : Int) := by
  have hc := c.toNat_lt
  have h := bits_join .i64 63 (by decide) (fun n h0 h1 => by rw [IntKind.wrap_i64]; omega) 8 ((x : Int) * 256) (c.toNat : Int) (by omega) (by omega) (by omega) (by omega) (by omega) (by omega)
  rw [h]; omega
theorem and6 (x : Int) (h0 : 0 ≤ x) (h1 : x ≤ 16777215) : bits .and .i64 x 63 = x % 64 := by
  have h := bits_mask .i64 63 (by decide) (fun n h0 h1 => by rw [IntKind.wrap_i64]; omega) 6 (by decide) x (by omega) (by omega)
  have e : ((2 : Int) ^ 6 - 1) = 63 := by decide
  rw [e] at h
  simpa using h
theorem al_at (s : ByteArray) (hs : s.data.toList = alpha) (n : Nat) (h : n < s.size) : s[n] = al n := by
  have : s.data.toList[n]? = some s[n] := by
    rw [List.getElem?_eq_getElem (by simpa using h)]; rfl
  rw [hs] at this
  unfold al
  rw [List.getD_eq_getElem?_getD, this]; rfl
/-- One byte of a group, where there is one. -/
theorem at_grp (s : ByteArray) (m i : Nat) (hi : i < 3) (h : m + i < s.size) : ((s.data.toList.drop m).take 3).getD i 0 = s[m + i] := by
  rw [List.getD_eq_getElem?_getD, List.getElem?_take_of_lt hi, List.getElem?_drop, List.getElem?_eq_getElem (by simpa using h)]; rfl
theorem at_none (s : ByteArray) (m i : Nat) (h : s.size ≤ m + i) : ((s.data.toList.drop m).take 3).getD i 0 = 0 := by
  rw [List.getD_eq_getElem?_getD, List.getElem?_eq_none]
  · rfl
  · simp; omega
theorem grp_size (s : ByteArray) (m : Nat) : ((s.data.toList.drop m).take 3).length = min 3 (s.size - m) := by simp

def sgs (x : List UInt8) (j : Nat) : List UInt8 := (List.range j).map (sgn x.length (trip x))
theorem sgs_snoc (x : List UInt8) (j : Nat) : sgs x (j + 1) = sgs x j ++ [sgn x.length (trip x) j] := by simp [sgs, List.range_succ]
theorem sgs_all (x : List UInt8) : sgs x 4 = grp x := rfl

theorem least' (a b c : Int) (w : World) (h : min a b = c) : Calls Tryd.prog 132 #[.int .i64 a, .int .i64 b] w fun e w' => e = .returned (.int .i64 c) ∧ w = w' := by subst h; exact least a b w
theorem sg_yes (many n j : Nat) (h : j ≤ many) : sgn many n j = al (n / 2 ^ (18 - 6 * j) % 64) := if_pos h
theorem sg_no (many n j : Nat) (h : ¬ j ≤ many) : sgn many n j = 61 := if_neg h

theorem and_sh (n j : Nat) (h : n < 16777216) : bits .and .i64 ((n : Int) / 2 ^ (18 - 6 * j)) 63 = ((n / 2 ^ (18 - 6 * j) % 64 : Nat) : Int) := by
  have e : (n : Int) / 2 ^ (18 - 6 * j) = ((n / 2 ^ (18 - 6 * j) : Nat) : Int) := by norm_cast
  have hd : n / 2 ^ (18 - 6 * j) ≤ n := Nat.div_le_self _ _
  rw [e]
  generalize n / 2 ^ (18 - 6 * j) = z at *
  rw [and6 _ (by omega) (by omega)]
  omega
/-- One sign more, behind the append. -/
theorem one_more {w wr w1 : World} {v v' : Value} {q j : Nat} {l x : List UInt8} {o : Obj} {ys : List Value} {c : UInt8} (hb : Below w.heap.size w wr)
    (hown : wr.ownsRow w.heap.size 5 1 v (q + j) ((l ++ sgs x j).map byteV))
    (h1 : w1.ownsRow w.heap.size 5 1 v' (q + j + 1) ((l ++ sgs x j).map byteV ++ ys)) (hg : (wr.alloc o).grownBy w1 v.ownBlock) (hc : sgn x.length (trip x) j = c) (hy : ys = [byteV c]) :
    w1.ownsRow w.heap.size 5 1 v' (q + (j + 1)) ((l ++ sgs x (j + 1)).map byteV) ∧ Below w.heap.size w w1 := by
  subst hc
  have R := app_step (new := [sgn x.length (trip x) j]) (hb.alloc hb.size o) hown h1 hy hg
  refine ⟨own_congr R.1 (by omega) ?_, R.2⟩
  rw [sgs_snoc, List.append_assoc]

set_option maxHeartbeats 2000000 in
theorem l3Signs (s : ByteArray) (w : World) (hs : s.size ≤ 100000) :
    Calls Tryd.prog 122 #[.string s] w fun e w' => e = .returned (.string ⟨(encB s.data.toList).toArray⟩) ∧ Below w.heap.size w w' := by
  obtain ⟨i0, hi, hz0, hz1, hz2⟩ := info_parts infoB
  go_enter Tryd.func122, Tryd.ntmps122
  go_wp2
  go_loopw [3, 4] (fun v a wr => ∃ m q : Nat, m ≤ s.size + 2 ∧ Hid (m % 3 = 0) ∧ q ≤ 2 * m ∧ a = .int .i64 m ∧ wr.ownsRow w.heap.size 5 1 v q ((encB (s.data.toList.take m)).map byteV) ∧ Below w.heap.size w wr)
    (fun _ a _ => s.size + 3 - (intOf a).toNat)
  case atStart => exact ⟨0, 0, by omega, Lib.hid rfl, by omega, rfl, World.ownsRow_nil _ _ _ _, Below.refl _ _⟩
  case round =>
    obtain ⟨m, q, hm, H3, hq, rfl, hown, hb⟩ := hrel
    by_cases hlt : m < s.size
    · have HO := Lib.hid hown
      clear hown
      have HN := Lib.hid (enc_step s.data.toList m H3.out (by simpa using hlt))
      have HL := Lib.hid (grp_size s m)
      have HY := Lib.hid (fun i hi h => at_grp s m i hi h)
      have HZ := Lib.hid (fun i h => at_none s m i h)
      generalize (s.data.toList.drop m).take 3 = x at *
      obtain ⟨mn, hmn⟩ : ∃ mn : Nat, mn = min 3 (s.size - m) := ⟨_, rfl⟩
      have hm1 : 1 ≤ mn := by omega
      have hm3 : mn ≤ 3 := by omega
      have hms : m + mn ≤ s.size := by omega
      have HM : Hid (mn < 3 → m + mn = s.size) := Lib.hid (by omega)
      have HLN : Hid (x.length = mn) := Lib.hid (by rw [hmn]; exact HL.out)
      have hmi : min 3 ((s.size : Int) - (m : Int)) = (mn : Int) := by omega
      have HMI := Lib.hid hmi
      clear hmn hmi HL
      go_wp2_with (go_at_call 132; with_reducible refine (least' _ _ (mn : Int) _ HMI.out).mono ?_; rintro e w' ⟨rfl, rfl⟩)
      go_loop [5, 7] (fun n i => ∃ j : Nat, j ≤ 3 ∧ i = .int .i64 j ∧ n = .int .i64 (acc x j)) (fun _ i => 3 - (intOf i).toNat)
      case atStart => exact ⟨0, by omega, rfl, by rw [acc_zero]; rfl⟩
      case round =>
        obtain ⟨j, hj, rfl, rfl⟩ := hrel
        have ha := acc_le x j
        by_cases hj3 : j < 3
        · have HA := Lib.hid (acc_step x j hj3)
          by_cases hjm : j < mn
          · have hY := HY.out j hj3 (by omega)
            have hor := or8 (acc x j) (s[m + j]'(by omega)) ha
            have hc := (s[m + j]'(by omega)).toNat_lt
            have HA' : Hid (acc x (j + 1) = acc x j * 256 + (s[m + j]'(by omega)).toNat) := Lib.hid (by rw [HA.out, hY])
            clear HA hY
            go_wp2
            go_round
            case rel => exact ⟨j + 1, by omega, by go_num, by rw [HA'.out, Int.natCast_add, Int.natCast_mul]; rfl⟩
            case measure => simp [intOf]; omega
          · have hm2 : mn < 3 := by omega
            have hm4 := HM.out hm2
            have hZ := HZ.out j (by omega)
            have HA' : Hid (acc x (j + 1) = acc x j * 256) := Lib.hid (by rw [HA.out, hZ]; simp)
            clear HA hZ hm4
            go_wp2
            go_round
            case rel => exact ⟨j + 1, by omega, by go_num, by rw [HA'.out, Int.natCast_mul]; rfl⟩
            case measure => simp [intOf]; omega
        · obtain rfl : j = 3 := by omega
          have ht := trip_lt x
          have HT := Lib.hid (acc_all x)
          rw [HT.out]
          clear hj3 hj ha HY HZ HT
          go_wp2
          go_loopw [3, 8] (fun v i wr => ∃ j : Nat, j ≤ 4 ∧ i = .int .i64 j ∧ wr.ownsRow w.heap.size 5 1 v (q + j) ((encB (s.data.toList.take m) ++ sgs x j).map byteV) ∧ Below w.heap.size w wr)
            (fun _ i _ => 4 - (intOf i).toNat)
          case atStart => exact ⟨0, by omega, rfl, by simpa [sgs] using HO.out, hb⟩
          case round =>
            obtain ⟨j, hj, rfl, hown, hb⟩ := hrel
            clear HO
            have HO := Lib.hid hown
            clear hown
            by_cases hj4 : j < 4
            · by_cases hjm : j ≤ mn
              · have hsh : (18 - 6 * (j : Int)).toNat = 18 - 6 * j := by omega
                have hand := and_sh (trip x) j ht
                have hn64 : trip x / 2 ^ (18 - 6 * j) % 64 < 64 := Nat.mod_lt _ (by omega)
                have HS : Hid (sgn x.length (trip x) j = al (trip x / 2 ^ (18 - 6 * j) % 64)) := Lib.hid (by rw [HLN.out]; exact sg_yes mn (trip x) j hjm)
                generalize trip x / 2 ^ (18 - 6 * j) % 64 = d at *
                go_wp2_with (at_builtin; refine wpList_append_lies _ rfl _ _ _ rfl w.heap.size 5 i0 _ 1 1 Tryd.underlying22 hi hz0 hz1 hz2 rfl (by omega) _ (q + j) _ rfl (HO.out.alloc _) ⟨wr.heap.size, 0, none⟩ 1 1 _ rfl rfl (World.news_of_block (heap_alloc_new wr _)) (by simp [Value.oneCell']) (by omega) (by unfold maxLen; omega) (by omega) (by have := hb.size; simp; omega) (wr.heap.size + 1) (by simp) ?_; intro g cap w1 hown1 hgrow hat hlt1)
                have R := one_more hb HO.out hown1 hgrow HS.out (by rw [al_at _ rfl]; rfl)
                go_roundw
                case rel => exact ⟨j + 1, by omega, by go_num, R.1, R.2⟩
                case measure => simp [intOf]; omega
              · have HS : Hid (sgn x.length (trip x) j = 61) := Lib.hid (by rw [HLN.out]; exact sg_no mn (trip x) j hjm)
                go_wp2_with (at_builtin; refine wpList_append_lies _ rfl _ _ _ rfl w.heap.size 5 i0 _ 1 1 Tryd.underlying22 hi hz0 hz1 hz2 rfl (by omega) _ (q + j) _ rfl (HO.out.alloc _) ⟨wr.heap.size, 0, none⟩ 1 1 _ rfl rfl (World.news_of_block (heap_alloc_new wr _)) (by simp [Value.oneCell']) (by omega) (by unfold maxLen; omega) (by omega) (by have := hb.size; simp; omega) (wr.heap.size + 1) (by simp) ?_; intro g cap w1 hown1 hgrow hat hlt1)
                have R := one_more hb HO.out hown1 hgrow HS.out rfl
                go_roundw
                case rel => exact ⟨j + 1, by omega, by go_num, R.1, R.2⟩
                case measure => simp [intOf]; omega
            · obtain rfl : j = 4 := by omega
              have HO4 : Hid (wr.ownsRow w.heap.size 5 1 u3 (q + 4) ((encB (s.data.toList.take (m + 3))).map byteV)) := Lib.hid (by rw [HN.out]; exact HO.out)
              clear HO
              go_wp2
              go_roundw
              case rel => exact ⟨m + 3, q + 4, by omega, Lib.hid (by have := H3.out; omega), by omega, by go_num, HO4.out, hb⟩
              case measure => simp [intOf]; omega
    · have hk' : s.size ≤ m := by omega
      have hconv := run_own_string (P := Tryd.prog) wr 22 9 5 _ _ _ _ Tryd.underlying22 Tryd.underlying5 Tryd.underlying9 hown
      rw [take_all s m hk'] at hconv
      clear hown
      go_wp2
      go_ret
      exact ⟨rfl, hb⟩
end Go.Proofs.YtfoclgijhkibeabDoor.SigS
