/-
  Base64 taken back by the program and by the reference: their contracts, and the walk of the law on OfSigns.
-/
import Derived.Test.YtfoclgijhkibeabDoorDec
namespace Go.Proofs.YtfoclgijhkibeabDoor.OfSig
open Go.ChangeShapes Go.WideShapes Go.ChangeAt Go.RowKit
open Go.Proofs.YtfoclgijhkibeabDoor.Mem Go.Proofs.YtfoclgijhkibeabDoor.SigM Go.Proofs.YtfoclgijhkibeabDoor.SigS Go.Proofs.YtfoclgijhkibeabDoor.SigI Go.Proofs.YtfoclgijhkibeabDoor.Dec
set_option linter.unusedVariables false
set_option maxRecDepth 100000

theorem group_at (t : ByteArray) (m j : Nat) (hj : j < 4) (h : m + 4 ≤ t.size) : ((t.data.toList.drop m).take 4).getD j 0 = t[m + j] := by
  rw [List.getD_eq_getElem?_getD, List.getElem?_take_of_lt hj, List.getElem?_drop, List.getElem?_eq_getElem (by simp; omega)]; rfl
theorem group_len (t : ByteArray) (m : Nat) (h : m + 4 ≤ t.size) : ((t.data.toList.drop m).take 4).length = 4 := by simp; omega
theorem cut_le (x : List UInt8) : 1 ≤ cut x ∧ cut x ≤ 3 := by unfold cut; split <;> (try split) <;> omega
theorem news_prt {w : World} (n k : Nat) (hk : k ≤ 3) : ∀ j u, ((prt n k).map byteV)[j]? = some u → (w.alloc (.cells #[byteV (byt n 0), byteV (byt n 1), byteV (byt n 2)] 5)).cell? ((⟨w.heap.size, 0, none⟩ : Addr).add j) = some u := by
  intro j u hu
  refine World.news_of_block (heap_alloc_new w _) j u ?_
  have e : (#[byteV (byt n 0), byteV (byt n 1), byteV (byt n 2)] : Array Value).toList = ([byt n 0, byt n 1, byt n 2]).map byteV := rfl
  rw [e]
  rw [List.getElem?_map] at hu ⊢
  unfold prt at hu
  rw [List.getElem?_take] at hu
  split at hu
  · exact hu
  · simp at hu
theorem decI_len (n : Nat) : ∀ l : List UInt8, l.length ≤ 4 * n → (decI l).length ≤ 3 * n := by
  induction n with
  | zero => intro l h; have : l = [] := List.eq_nil_of_length_eq_zero (by omega); subst this; simp [decI]
  | succ n ih =>
    intro l h
    match l, h with
    | a :: b :: c :: d :: r, h =>
      simp only [List.length_cons] at h
      simp only [decI, List.length_append]
      have h1 := ih r (by omega)
      have h2 : (grpI a b c d).length ≤ 3 := by unfold grpI prt; simp; omega
      omega
    | [], _ | [_], _ | [_, _], _ | [_, _, _], _ => simp [decI]

theorem bytes_of (w : World) (s : ByteArray) (hs : s.size ≤ 100000) :
    ∃ cap W, (convert 9 22 (.string s)).run Tryd.prog w = .ok (.slice (some ⟨w.heap.size, 0, none⟩) s.size cap) W ∧ (∀ j (h : j < s.size), W.cell? ⟨w.heap.size, j, none⟩ = some (.int .u8 ((s[j]'h).toNat : Int))) ∧ Below w.heap.size w W ∧ W.heap.size = w.heap.size + 1 ∧ s.size ≤ cap := by
  refine ⟨_, _, run_bytes_of_string w 9 22 5 s Tryd.underlying9 Tryd.underlying22 Tryd.underlying5, fun j hj => ?_, (Below.refl _ _).drew.alloc (by simp) _, by simp, ?_⟩
  · rw [cell_of_row _ w.heap.size j _ _ _ (heap_alloc_new w.drew _), bytesRow_at s _ j hj]
    rfl
  · exact grownCap_ge _ _ _ _
theorem slice3c (b p n c : Nat) (h : p + 4 ≤ c) (W : World) : (Instr.slice 22 (.slice (some ⟨b, 0, none⟩) n c) (some (.int .i64 (p : Int))) (some (.int .i64 ((p : Int) + 4))) (some (.int .i64 ((p : Int) + 4)))).run Tryd.prog W = .ok (.slice (some ⟨b, p, none⟩) 4 4) W := by
  rw [run_slice_lhm W 22 _ n c Tryd.underlying22 .i64 .i64 .i64 (p : Int) ((p : Int) + 4) ((p : Int) + 4) (by omega) (by omega) (by omega) (by omega)]
  have e1 : ((p : Int) + 4).toNat = p + 4 := by omega
  rw [show Tryd.prog.elem 22 = 5 from rfl, size1 _ infoB]
  simp [Result.andThen, sliced, e1, Addr.add]
  exact fun h => h.symm

set_option maxHeartbeats 2000000 in
theorem implOf (t : ByteArray) (w : World) (r : Value) (hs : t.size ≤ 800) (h4 : t.size % 4 = 0) (HY : Hid (encB (decI t.data.toList) = t.data.toList → r = .tuple #[.string ⟨(decI t.data.toList).toArray⟩, .bool true])) (HNo : Hid (encB (decI t.data.toList) ≠ t.data.toList → r = .tuple #[.string ⟨#[]⟩, .bool false])) :
    Calls Tryd.prog 75 #[.string t] w fun e w' => e = .returned r ∧ Below w.heap.size w w' := by
  obtain ⟨i0, hi, hz0, hz1, hz2⟩ := info_parts infoB
  obtain ⟨cap, W, hcv, hcl, hbW, hWz, hcap⟩ := bytes_of w t (by omega)
  have HCL := Lib.hid hcl
  have HWZ := Lib.hid hWz
  have hWlt : w.heap.size < W.heap.size := by omega
  have H4 := Lib.hid h4
  have hmod : ((t.size : Int) % 4 != 0) = false := by simp; omega
  clear hcl hWz h4
  go_enter Tryd.func75, Tryd.ntmps75
  go_wp2_with (at_make; refine wpList_make_own _ rfl _ _ 22 rfl W.heap.size 5 i0 _ 1 Tryd.underlying22 hi hz0 hz1 .i64 .i64 _ t.size rfl rfl (by omega) (by rw [hz2]; omega) (by unfold maxLen; omega) (by simp) ?_; intro w2 hown2 hgrow2)
  have hb2 : Below W.heap.size W w2 := (Below.refl _ _).grown hgrow2 (by simp) (fun k hk => by cases hk)
  have HO2 := Lib.hid hown2
  clear hgrow2 hown2 hcv hmod
  go_loopw [5, 6] (fun v a wr => ∃ m q : Nat, m ≤ t.size ∧ Hid (m % 4 = 0) ∧ q ≤ m ∧ a = .int .i64 m ∧ wr.ownsRow W.heap.size 5 1 v q ((decI (t.data.toList.take m)).map byteV) ∧ Below W.heap.size W wr)
    (fun _ a _ => t.size - (intOf a).toNat)
  case atStart => exact ⟨0, 0, by omega, Lib.hid rfl, by omega, rfl, HO2.out, hb2⟩
  case round =>
    clear HO2 hb2
    obtain ⟨m, q, hm, HM, hq, rfl, hown, hb⟩ := hrel
    have HO := Lib.hid hown
    clear hown
    by_cases hlt : m < t.size
    · have hm4 : m + 4 ≤ t.size := by have := HM.out; have := H4.out; omega
      have SL := slice3c w.heap.size m t.size cap (by omega)
      have HN := Lib.hid (decI_step t.data.toList m HM.out (by simp; omega))
      have HX := Lib.hid (group_len t m hm4)
      have HC : Hid (∀ j, j < 4 → wr.cell? ⟨w.heap.size, m + j, none⟩ = some (.int .u8 ((((t.data.toList.drop m).take 4).getD j 0).toNat : Int))) := Lib.hid (by
        intro j hj
        rw [hb.cell (p := ⟨w.heap.size, m + j, none⟩) hWlt, HCL.out (m + j) (by omega), group_at t m j hj hm4])
      have HF : Hid (decI ((t.data.toList.drop m).take 4) = prt (numL ((t.data.toList.drop m).take 4) 4) (cut ((t.data.toList.drop m).take 4))) := Lib.hid (decI_four _ HX.out)
      generalize (t.data.toList.drop m).take 4 = x at *
      have hk := cut_le x
      have hk1 : 1 ≤ cut x := hk.1
      have hk3 : cut x ≤ 3 := hk.2
      have hbz := hb.size
      have hgw : w.heap.size < wr.heap.size := by omega
      clear hk
      go_wp2_with (first | (go_at_call 126; refine (loose w.heap.size m x _ hgw HX.out HC.out).mono ?_; rintro e w' ⟨rfl, rfl⟩) | (at_builtin; refine wpList_append_lies _ rfl _ _ _ rfl W.heap.size 5 i0 _ 1 1 Tryd.underlying22 hi hz0 hz1 hz2 rfl (by omega) _ q _ rfl (HO.out.alloc _) ⟨wr.heap.size, 0, none⟩ (cut x) 3 ((prt (numL x 4) (cut x)).map byteV) rfl (by simp [part_len _ _ hk3]) (news_prt _ _ hk3) (byteV_one _) (by omega) (by unfold maxLen; omega) (by omega) (by simp; omega) (wr.heap.size + 1) (by simp) ?_; intro g cap' w1 hown1 hgrow hat hlt1))
      have R := app_step (new := prt (numL x 4) (cut x)) (hb.alloc hbz _) HO.out hown1 rfl hgrow
      have HR : Hid (w1.ownsRow W.heap.size 5 1 (.slice (some ⟨g, 0, none⟩) (q + cut x) cap') (q + cut x) ((decI (t.data.toList.take (m + 4))).map byteV)) := Lib.hid (by rw [HN.out, HF.out]; exact R.1)
      go_roundw
      case rel => exact ⟨m + 4, q + cut x, hm4, Lib.hid (by have := HM.out; omega), by omega, by go_num, HR.out, R.2⟩
      case measure => simp [intOf]; omega
    · have hconv := run_own_string (P := Tryd.prog) wr 22 9 5 _ _ _ _ Tryd.underlying22 Tryd.underlying5 Tryd.underlying9 HO.out
      rw [take_all t m (by omega)] at hconv
      have hB : Below w.heap.size w wr := hbW.trans (hb.mono (by omega))
      have hl := decI_len 200 t.data.toList (by simp; omega)
      have hsz : (ByteArray.mk (decI t.data.toList).toArray).size ≤ 600 := by rw [mk_size]; exact hl
      have C := implSigns (ByteArray.mk (decI t.data.toList).toArray) wr hsz
      have e1 : (ByteArray.mk (decI t.data.toList).toArray).data.toList = decI t.data.toList := by simp
      rw [e1] at C
      by_cases hy : encB (decI t.data.toList) = t.data.toList
      · have hr := HY.out hy
        subst hr
        have e2 : (ByteArray.mk (encB (decI t.data.toList)).toArray) = t := by apply ByteArray.ext; apply Array.toList_inj.1; simpa using hy
        rw [e2] at C
        have HC := Lib.hid C
        clear C e1 e2 hy hl HNo HY
        generalize hu : (ByteArray.mk (decI t.data.toList).toArray) = u at *
        have HU := Lib.hid hu
        clear hu
        go_wp2_with (go_at_call 79; with_reducible refine HC.out.mono ?_; rintro e w' ⟨rfl, hb1⟩)
        go_ret2
        exact ⟨by rw [HU.out]; rfl, hB.trans (hb1.mono (by have := hB.size; omega))⟩
      · have hr := HNo.out hy
        subst hr
        have e2 : (ByteArray.mk (encB (decI t.data.toList)).toArray) ≠ t := by intro e; apply hy; have := congrArg (fun z : ByteArray => z.data.toList) e; simpa using this
        have HC := Lib.hid C
        clear C e1 hy hl HNo HY
        generalize (ByteArray.mk (decI t.data.toList).toArray) = u at *
        generalize (ByteArray.mk (encB (decI t.data.toList)).toArray) = u' at *
        have hne := str_ne e2
        go_wp2_with (go_at_call 79; with_reducible refine HC.out.mono ?_; rintro e w' ⟨rfl, hb1⟩)
        go_ret2
        exact ⟨rfl, hB.trans (hb1.mono (by have := hB.size; omega))⟩
theorem implOfLong (t : ByteArray) (w : World) (hs : 800 < t.size) (hm : t.size ≤ maxLen) :
    Calls Tryd.prog 75 #[.string t] w fun e w' => e = .returned (.tuple #[.string ⟨#[]⟩, .bool false]) ∧ w = w' := by
  unfold maxLen at hm
  go_enter Tryd.func75, Tryd.ntmps75
  go_wp2
  go_ret2
  exact ⟨rfl, rfl⟩
theorem implOfOdd (t : ByteArray) (w : World) (hs : t.size ≤ 800) (h4 : t.size % 4 ≠ 0) :
    Calls Tryd.prog 75 #[.string t] w fun e w' => e = .returned (.tuple #[.string ⟨#[]⟩, .bool false]) ∧ w = w' := by
  have hmod : ((t.size : Int) % 4 != 0) = true := by simp; omega
  have hmod2 : ((t.size : Int) % 4 == 0) = false := by simp; omega
  go_enter Tryd.func75, Tryd.ntmps75
  go_wp2
  go_ret2
  exact ⟨rfl, rfl⟩

theorem or6 (x y : Int) (h0 : 0 ≤ x) (h1 : x ≤ 16777215) (h2 : 0 ≤ y) (h3 : y < 64) : bits .or .i64 (x * 64) y = x * 64 + y :=
  bits_join .i64 62 (by decide) (fun n h0 h1 => by rw [IntKind.wrap_i64]; omega) 6 (x * 64) y (by omega) (by omega) (by omega) h2 (by omega) (by omega)
theorem decS_len (n : Nat) : ∀ l : List UInt8, l.length ≤ 4 * n → (decS l).length ≤ 3 * n := by
  induction n with
  | zero => intro l h; have : l = [] := List.eq_nil_of_length_eq_zero (by omega); subst this; simp [decS]
  | succ n ih =>
    intro l h
    match l, h with
    | a :: b :: c :: d :: r, h =>
      simp only [List.length_cons] at h
      simp only [decS, List.length_append]
      have h1 := ih r (by omega)
      have h2 : (grpS a b c d).length ≤ 3 := by unfold grpS prt; simp; omega
      omega
    | [], _ | [_], _ | [_, _], _ | [_, _, _], _ => simp [decS]
theorem prt_zero (n : Nat) : prt n 0 = [] := rfl
theorem sh_div (n j : Nat) : (n : Int) / 2 ^ (16 - 8 * j) = ((n / 2 ^ (16 - 8 * j) : Nat) : Int) := by norm_cast

set_option maxHeartbeats 4000000 in
theorem l3Of (t : ByteArray) (w : World) (b : Bool) (hs : t.size ≤ 100000) (h4 : t.size % 4 = 0) (HY : Hid (encB (decS t.data.toList) = t.data.toList → b = true)) (HNo : Hid (encB (decS t.data.toList) ≠ t.data.toList → b = false)) :
    Calls Tryd.prog 71 #[.string t] w fun e w' => e = .returned (.tuple #[.string ⟨(decS t.data.toList).toArray⟩, .bool b]) ∧ Below w.heap.size w w' := by
  obtain ⟨i0, hi, hz0, hz1, hz2⟩ := info_parts infoB
  have H4 := Lib.hid h4
  have hmod : ((t.size : Int) % 4 != 0) = false := by simp; omega
  clear h4
  go_enter Tryd.func71, Tryd.ntmps71
  go_wp2
  clear hmod
  go_loopw [4, 5] (fun v a wr => ∃ m q : Nat, m ≤ t.size ∧ Hid (m % 4 = 0) ∧ q ≤ m ∧ a = .int .i64 m ∧ wr.ownsRow w.heap.size 5 1 v q ((decS (t.data.toList.take m)).map byteV) ∧ Below w.heap.size w wr)
    (fun _ a _ => t.size - (intOf a).toNat)
  case atStart => exact ⟨0, 0, by omega, Lib.hid rfl, by omega, rfl, World.ownsRow_nil _ _ _ _, Below.refl _ _⟩
  case round =>
    obtain ⟨m, q, hm, HM, hq, rfl, hown, hb⟩ := hrel
    have HO := Lib.hid hown
    clear hown
    by_cases hlt : m < t.size
    · have hm4 : m + 4 ≤ t.size := by have := HM.out; have := H4.out; omega
      have HN := Lib.hid (decS_step t.data.toList m HM.out (by simp; omega))
      have HX := Lib.hid (group_len t m hm4)
      have HC : Hid (∀ j (hj : j < 4), ((t.data.toList.drop m).take 4).getD j 0 = t[m + j]) := Lib.hid (fun j hj => group_at t m j hj hm4)
      generalize (t.data.toList.drop m).take 4 = x at *
      have hbz := hb.size
      go_wp2
      go_loop [6, 7, 8] (fun n c i => ∃ j : Nat, j ≤ 4 ∧ i = .int .i64 j ∧ n = .int .i64 (numL x j) ∧ c = .int .i64 (cntL x j)) (fun _ _ i => 4 - (intOf i).toNat)
      case atStart => exact ⟨0, by omega, rfl, rfl, rfl⟩
      case round =>
        obtain ⟨j, hj, rfl, rfl, rfl⟩ := hrel
        have hcj := cntL_le x j
        by_cases hj4 : j < 4
        · have HS := Lib.hid (numL_step x j (by rw [HX.out]; exact hj4))
          have HT := Lib.hid (cntL_step x j (by rw [HX.out]; exact hj4))
          have hnj : numL x j ≤ 16777215 := by
            have h1 := numL_lt x j
            have h2 : 64 ^ j ≤ 64 ^ 4 := Nat.pow_le_pow_right (by omega) hj
            omega
          rw [HC.out j hj4] at HS HT
          have hge := sInt_ge (t[m + j]'(by omega))
          have hge1 := hge.1
          have hge2 := hge.2
          have hvl := val_lt (t[m + j]'(by omega))
          by_cases hp : 0 ≤ sInt (t[m + j]'(by omega))
          · have hv := sInt_yes _ hp
            rw [hv.1, if_pos rfl] at HT
            have hor := or6 (numL x j : Int) (sInt (t[m + j]'(by omega))) (by omega) (by omega) hp (by omega)
            have HV := Lib.hid hv.2
            clear hv hge
            go_wp2_with (go_at_call 121; with_reducible refine (l3Sign _ _).mono ?_; rintro e w' ⟨rfl, rfl⟩)
            go_round
            case rel => exact ⟨j + 1, by omega, by go_num, by rw [HS.out, HV.out, Int.natCast_add, Int.natCast_mul]; rfl, by rw [HT.out, Int.natCast_add]; rfl⟩
            case measure => simp [intOf]; omega
          · have hv := sInt_no _ hp
            rw [hv.1] at HT
            rw [hv.2] at HS
            clear hv hge
            go_wp2_with (go_at_call 121; with_reducible refine (l3Sign _ _).mono ?_; rintro e w' ⟨rfl, rfl⟩)
            go_round
            case rel => exact ⟨j + 1, by omega, by go_num, by rw [HS.out, Int.natCast_add, Int.natCast_mul]; simp, by rw [HT.out]; simp⟩
            case measure => simp [intOf]; omega
        · obtain rfl : j = 4 := by omega
          have hn : numL x 4 < 16777216 := numL_lt x 4
          have HF : Hid (decS x = prt (numL x 4) (cntL x 4 - 1)) := Lib.hid (decS_four _ HX.out)
          generalize cntL x 4 = c at *
          generalize numL x 4 = d at *
          clear hj hj4 HC
          go_wp2
          go_loopw [4, 10] (fun v i wr => ∃ j : Nat, j ≤ c - 1 ∧ i = .int .i64 j ∧ wr.ownsRow w.heap.size 5 1 v (q + j) ((decS (t.data.toList.take m) ++ prt d j).map byteV) ∧ Below w.heap.size w wr)
            (fun _ i _ => 4 - (intOf i).toNat)
          case atStart => exact ⟨0, by omega, rfl, by simpa [prt_zero] using HO.out, hb⟩
          case round =>
            clear HO hb hbz
            obtain ⟨j, hj, rfl, hown, hb⟩ := hrel
            have HO := Lib.hid hown
            clear hown
            have hbz := hb.size
            by_cases hjc : j < c - 1
            · have hsh : (16 - 8 * (j : Int)).toNat = 16 - 8 * j := by omega
              have hdv := sh_div d j
              have hd2 : d / 2 ^ (16 - 8 * j) ≤ 16777215 := Nat.le_trans (Nat.div_le_self _ _) (by omega)
              have HB := Lib.hid (byt_val d j)
              have HP := Lib.hid (part_snoc d j (by omega))
              generalize d / 2 ^ (16 - 8 * j) = z at *
              go_wp2_with (at_builtin; refine wpList_append_lies _ rfl _ _ _ rfl w.heap.size 5 i0 _ 1 1 Tryd.underlying22 hi hz0 hz1 hz2 rfl (by omega) _ (q + j) _ rfl (HO.out.alloc _) ⟨wr.heap.size, 0, none⟩ 1 1 _ rfl rfl (World.news_of_block (heap_alloc_new wr _)) (by simp [Value.oneCell']) (by omega) (by unfold maxLen; omega) (by omega) (by simp; omega) (wr.heap.size + 1) (by simp) ?_; intro g cap w1 hown1 hgrow hat hlt1)
              have R := app_step (new := [byt d j]) (hb.alloc hbz _) HO.out hown1 (by rw [HB.out]; rfl) hgrow
              have HR : Hid (w1.ownsRow w.heap.size 5 1 (.slice (some ⟨g, 0, none⟩) (q + j + 1) cap) (q + (j + 1)) ((decS (t.data.toList.take m) ++ prt d (j + 1)).map byteV)) := Lib.hid (by rw [HP.out, ← List.append_assoc]; exact own_congr R.1 (by omega) rfl)
              go_roundw
              case rel => exact ⟨j + 1, by omega, by go_num, HR.out, R.2⟩
              case measure => simp [intOf]; omega
            · have hj1 : j = c - 1 := by omega
              have HO4 : Hid (wr.ownsRow w.heap.size 5 1 u4 (q + j) ((decS (t.data.toList.take (m + 4))).map byteV)) := Lib.hid (by rw [HN.out, HF.out, ← hj1]; exact HO.out)
              clear HO hj1
              have hd : ¬ ((j : Int) < (c : Int) - 1) := by omega
              go_wp2
              go_roundw
              case rel => exact ⟨m + 4, q + j, hm4, Lib.hid (by have := HM.out; omega), by omega, by go_num, HO4.out, hb⟩
              case measure => simp [intOf]; omega
    · have hconv := run_own_string (P := Tryd.prog) wr 22 9 5 _ _ _ _ Tryd.underlying22 Tryd.underlying5 Tryd.underlying9 HO.out
      rw [take_all t m (by omega)] at hconv
      have hl := decS_len 25000 t.data.toList (by simp; omega)
      have hsz : (ByteArray.mk (decS t.data.toList).toArray).size ≤ 100000 := by rw [mk_size]; omega
      have C := l3Signs (ByteArray.mk (decS t.data.toList).toArray) wr hsz
      have e1 : (ByteArray.mk (decS t.data.toList).toArray).data.toList = decS t.data.toList := by simp
      rw [e1] at C
      by_cases hy : encB (decS t.data.toList) = t.data.toList
      · have hr := HY.out hy
        subst hr
        have e2 : (ByteArray.mk (encB (decS t.data.toList)).toArray) = t := by apply ByteArray.ext; apply Array.toList_inj.1; simpa using hy
        rw [e2] at C
        have HC := Lib.hid C
        clear C e1 e2 hy hl HNo HY
        generalize hu : (ByteArray.mk (decS t.data.toList).toArray) = u at *
        have HU := Lib.hid hu
        clear hu
        go_wp2_with (go_at_call 122; with_reducible refine HC.out.mono ?_; rintro e w' ⟨rfl, hb1⟩)
        go_ret2
        exact ⟨by rw [HU.out]; rfl, hb.trans (hb1.mono (by have := hb.size; omega))⟩
      · have hr := HNo.out hy
        subst hr
        have e2 : (ByteArray.mk (encB (decS t.data.toList)).toArray) ≠ t := by intro e; apply hy; have := congrArg (fun z : ByteArray => z.data.toList) e; simpa using this
        have HC := Lib.hid C
        clear C e1 hy hl HNo HY
        generalize hu : (ByteArray.mk (decS t.data.toList).toArray) = u at *
        have HU := Lib.hid hu
        clear hu
        generalize (ByteArray.mk (encB (decS t.data.toList)).toArray) = u' at *
        have hne := str_ne e2
        go_wp2_with (go_at_call 122; with_reducible refine HC.out.mono ?_; rintro e w' ⟨rfl, hb1⟩)
        go_ret2
        exact ⟨by rw [HU.out]; rfl, hb.trans (hb1.mono (by have := hb.size; omega))⟩
theorem l3OfOdd (t : ByteArray) (w : World) (hs : t.size ≤ 100000) (h4 : t.size % 4 ≠ 0) :
    Calls Tryd.prog 71 #[.string t] w fun e w' => e = .returned (.tuple #[.string ⟨#[]⟩, .bool false]) ∧ w = w' := by
  have hmod : ((t.size : Int) % 4 != 0) = true := by simp; omega
  have hmod2 : ((t.size : Int) % 4 == 0) = false := by simp; omega
  go_enter Tryd.func71, Tryd.ntmps71
  go_wp2
  go_ret2
  exact ⟨rfl, rfl⟩

/-- What OfSigns answers: its value, at a text of at most 800 signs. -/
def okS (t : ByteArray) : Prop := t.size % 4 = 0 ∧ encB (decS t.data.toList) = t.data.toList
theorem implYes (t : ByteArray) (w : World) (hs : t.size ≤ 800) (h : okS t) : Calls Tryd.prog 75 #[.string t] w fun e w' => e = .returned (.tuple #[.string ⟨(decS t.data.toList).toArray⟩, .bool true]) ∧ Below w.heap.size w w' := by
  have hd := dec_same t.data.toList
  have hI := hd.1.2 h.2
  exact implOf t w _ hs h.1 (Lib.hid fun hy => by rw [hd.2 hI]) (Lib.hid fun hn => absurd hI hn)
theorem implNo (t : ByteArray) (w : World) (hs : t.size ≤ 800) (h : ¬ okS t) : Calls Tryd.prog 75 #[.string t] w fun e w' => e = .returned (.tuple #[.string ⟨#[]⟩, .bool false]) ∧ Below w.heap.size w w' := by
  by_cases h4 : t.size % 4 = 0
  · have hd := dec_same t.data.toList
    have hn : ¬ encB (decI t.data.toList) = t.data.toList := fun hI => h ⟨h4, hd.1.1 hI⟩
    exact implOf t w _ hs h4 (Lib.hid fun hy => absurd hy hn) (Lib.hid fun _ => rfl)
  · refine (implOfOdd t w hs h4).mono ?_
    rintro e w' ⟨rfl, rfl⟩
    exact ⟨rfl, Below.refl _ _⟩
end Go.Proofs.YtfoclgijhkibeabDoor.OfSig
