/-
  A string out of its hexadecimal form: contracts of the program and of the reference, and the walk of the law on OfHex.
-/
import Derived.Test.YtehmlkcnhccjmaaSigI
import Derived.Test.YtehmlkcnhccjmaaShelf
namespace Go.Proofs.Ytehmlkcnhccjmaa.Unhex
open Go.ChangeShapes Go.WideShapes Go.ChangeAt Go.RowKit
open Go.Proofs.Ytehmlkcnhccjmaa.Mem Go.Proofs.Ytehmlkcnhccjmaa.SigS Go.Proofs.Ytehmlkcnhccjmaa.SigI
set_option linter.unusedVariables false

def hx (c : UInt8) : Int := if 48 ≤ c.toNat ∧ c.toNat ≤ 57 then (c.toNat : Int) - 48 else if 97 ≤ c.toNat ∧ c.toNat ≤ 102 then (c.toNat : Int) - 97 + 10 else -1
def digs : List UInt8 := [48, 49, 50, 51, 52, 53, 54, 55, 56, 57, 97, 98, 99, 100, 101, 102]
theorem index_all : ∀ n : Fin 256, Lib.indexByte digs (UInt8.ofNat n.1) = hx (UInt8.ofNat n.1) := by decide +kernel
theorem index_hex (c : UInt8) : Lib.indexByte digs c = hx c := by
  have := index_all ⟨c.toNat, c.toNat_lt⟩
  simpa using this
theorem hx_ge (c : UInt8) : -1 ≤ hx c ∧ hx c ≤ 15 := by unfold hx; split <;> (try split) <;> omega
theorem hx_dig (c : UInt8) (h0 : 48 ≤ c.toNat) (h1 : c.toNat ≤ 57) : hx c = (c.toNat : Int) - 48 := if_pos ⟨h0, h1⟩
theorem hx_let (c : UInt8) (h0 : 97 ≤ c.toNat) (h1 : c.toNat ≤ 102) : hx c = (c.toNat : Int) - 97 + 10 := by unfold hx; rw [if_neg (by omega), if_pos ⟨h0, h1⟩]
theorem hx_none (c : UInt8) (h0 : ¬ (48 ≤ c.toNat ∧ c.toNat ≤ 57)) (h1 : ¬ (97 ≤ c.toNat ∧ c.toNat ≤ 102)) : hx c = -1 := by unfold hx; rw [if_neg h0, if_neg h1]
theorem indexOf (s : ByteArray) (hs : s.data.toList = digs) (c : UInt8) (w : World) : Calls Try.prog 35 #[.string s, .int .u8 (c.toNat : Int)] w fun e w' => e = .returned (.int .i64 (hx c)) ∧ w = w' := by
  refine (Try.strings_IndexByte s (c.toNat : Int) w).mono ?_
  rintro e w' ⟨rfl, rfl⟩
  refine ⟨?_, rfl⟩
  rw [hs, show ((c.toNat : Int)).toNat.toUInt8 = c by simp, index_hex]
def two (a b : UInt8) : UInt8 := UInt8.ofNat (hx a * 16 + hx b).toNat
def unh : List UInt8 → List UInt8
  | a :: b :: r => two a b :: unh r
  | _ => []
theorem two_val (a b : UInt8) (h0 : 0 ≤ hx a) (h1 : 0 ≤ hx b) : Value.int .u8 (hx a * 16 + hx b) = byteV (two a b) := by
  have ha := hx_ge a; have hb := hx_ge b
  unfold byteV two
  rw [UInt8.toNat_ofNat']
  congr 1
  omega
theorem unh_append (k : Nat) : ∀ (a b : List UInt8), a.length = 2 * k → unh (a ++ b) = unh a ++ unh b := by
  induction k with
  | zero => intro a b h; have : a = [] := List.eq_nil_of_length_eq_zero (by omega); subst this; rfl
  | succ k ih =>
    intro a b h
    match a, h with
    | x :: y :: r, h =>
      simp only [List.length_cons] at h
      simp only [List.cons_append, unh, ih r b (by omega)]
    | [], h => simp at h
    | [_], h => simp at h; omega
theorem take2 (t : ByteArray) (m : Nat) (h : m + 2 ≤ t.size) : t.data.toList.take (m + 2) = t.data.toList.take m ++ [t[m], t[m + 1]] := by
  rw [show m + 2 = m + 1 + 1 from rfl, take_snoc t (m + 1) (by omega), take_snoc t m (by omega)]; simp
theorem unh_step (t : ByteArray) (m : Nat) (h2 : m % 2 = 0) (h : m + 2 ≤ t.size) : unh (t.data.toList.take (m + 2)) = unh (t.data.toList.take m) ++ [two t[m] t[m + 1]] := by
  rw [take2 t m h, unh_append (m / 2) _ _ (by rw [List.length_take]; simp; omega)]; rfl
def okH (l : List UInt8) : Prop := ∀ c ∈ l, 0 ≤ hx c
theorem okH_step (t : ByteArray) (m : Nat) (h : m + 2 ≤ t.size) (ho : okH (t.data.toList.take m)) (ha : 0 ≤ hx t[m]) (hb : 0 ≤ hx t[m + 1]) : okH (t.data.toList.take (m + 2)) := by
  rw [take2 t m h]
  intro c hc
  rcases List.mem_append.1 hc with h1 | h1
  · exact ho c h1
  · simp at h1
    rcases h1 with rfl | rfl
    · exact ha
    · exact hb
theorem okH_not (t : ByteArray) (m : Nat) (h : m < t.size) (hn : hx t[m] < 0) : ¬ okH t.data.toList := by
  intro ho
  have := ho t[m] (by have h' : m < t.data.toList.length := by simpa using h
                      exact List.getElem_mem h')
  omega
theorem or4 (x y : Int) (h0 : 0 ≤ x) (h1 : x ≤ 15) (h2 : 0 ≤ y) (h3 : y ≤ 15) : bits .or .i64 (x * 16) y = x * 16 + y :=
  bits_join .i64 62 (by decide) (fun n h0 h1 => by rw [IntKind.wrap_i64]; omega) 4 (x * 16) y (by omega) (by omega) (by omega) h2 (by omega) (by omega)

theorem bytes_of' (w : World) (s : ByteArray) (hs : s.size ≤ 100000) :
    ∃ cap W, (convert 9 37 (.string s)).run Try.prog w = .ok (.slice (some ⟨w.heap.size, 0, none⟩) s.size cap) W ∧ (∀ j (h : j < s.size), W.cell? ⟨w.heap.size, j, none⟩ = some (.int .u8 ((s[j]'h).toNat : Int))) ∧ Below w.heap.size w W ∧ W.heap.size = w.heap.size + 1 ∧ s.size ≤ cap := by
  refine ⟨_, _, run_bytes_of_string w 9 37 5 s Try.underlying9 Try.underlying37 Try.underlying5, fun j hj => ?_, (Below.refl _ _).drew.alloc (by simp) _, by simp, ?_⟩
  · rw [cell_of_row _ w.heap.size j _ _ _ (heap_alloc_new w.drew _), bytesRow_at s _ j hj]
    rfl
  · exact grownCap_ge _ _ _ _

set_option maxHeartbeats 2000000 in
theorem implOf (t : ByteArray) (w : World) (r : Value) (hs : t.size ≤ 1200) (h2 : t.size % 2 = 0) (HY : Hid (okH t.data.toList → r = .tuple #[.string ⟨(unh t.data.toList).toArray⟩, .bool true])) (HNo : Hid (¬ okH t.data.toList → r = .tuple #[.string ⟨#[]⟩, .bool false])) :
    Calls Try.prog 16 #[.string t] w fun e w' => e = .returned r ∧ Below w.heap.size w w' := by
  obtain ⟨i0, hi, hz0, hz1, hz2⟩ := info_parts infoB
  have H2 := Lib.hid h2
  have hmod : ((t.size : Int) % 2 != 0) = false := by simp; omega
  clear h2
  go_enter Try.func16, Try.ntmps16
  go_wp2_with (at_make; refine wpList_make_own _ rfl _ _ 37 rfl w.heap.size 5 i0 _ 1 Try.underlying37 hi hz0 hz1 .i64 .i64 _ (t.size / 2) rfl (by rfl) (by omega) (by rw [hz2]; omega) (by unfold maxLen; omega) (by simp) ?_; intro w2 hown2 hgrow2)
  have hb2 : Below w.heap.size w w2 := (Below.refl _ _).grown hgrow2 (by simp) (fun k hk => by cases hk)
  have HO2 := Lib.hid hown2
  clear hgrow2 hown2 hmod
  go_loopw [4, 5] (fun v a wr => ∃ m q : Nat, m ≤ t.size ∧ Hid (m % 2 = 0 ∧ okH (t.data.toList.take m)) ∧ q ≤ m ∧ a = .int .i64 m ∧ wr.ownsRow w.heap.size 5 1 v q ((unh (t.data.toList.take m)).map byteV) ∧ Below w.heap.size w wr)
    (fun _ a _ => t.size - (intOf a).toNat)
  case atStart => exact ⟨0, 0, by omega, Lib.hid ⟨rfl, fun c hc => by simp at hc⟩, by omega, rfl, HO2.out, hb2⟩
  case round =>
    clear HO2 hb2
    obtain ⟨m, q, hm, HM, hq, rfl, hown, hb⟩ := hrel
    have HO := Lib.hid hown
    clear hown
    have hbz := hb.size
    by_cases hlt : m < t.size
    · have hm2 : m + 2 ≤ t.size := by have := HM.out.1; have := H2.out; omega
      have hm1 : m + 1 < t.size := by omega
      have HN := Lib.hid (unh_step t m HM.out.1 hm2)
      have ga := hx_ge t[m]
      have gb := hx_ge t[m + 1]
      have ga1 := ga.1
      have ga2 := ga.2
      have gb1 := gb.1
      have gb2 := gb.2
      clear ga gb
      by_cases ha : hx t[m] < 0
      · have hr := HNo.out (okH_not t m hlt ha)
        subst hr
        go_wp2_with (go_at_call 35; refine (indexOf _ (by rfl) _ _).mono ?_; rintro e w' ⟨rfl, rfl⟩)
        go_ret2
        exact ⟨rfl, hb⟩
      by_cases hbb : hx t[m + 1] < 0
      · have hr := HNo.out (okH_not t (m + 1) hm1 hbb)
        subst hr
        go_wp2_with (go_at_call 35; refine (indexOf _ (by rfl) _ _).mono ?_; rintro e w' ⟨rfl, rfl⟩)
        go_ret2
        exact ⟨rfl, hb⟩
      have ha0 : 0 ≤ hx t[m] := by omega
      have hb0 : 0 ≤ hx t[m + 1] := by omega
      have hor := or4 (hx t[m]) (hx t[m + 1]) ha0 ga2 hb0 gb2
      have HK := Lib.hid (okH_step t m hm2 HM.out.2 ha0 hb0)
      have HT := Lib.hid (two_val t[m] t[m + 1] ha0 hb0)
      go_wp2_with (first | (go_at_call 35; refine (indexOf _ (by rfl) _ _).mono ?_; rintro e w' ⟨rfl, rfl⟩) | (at_builtin; refine wpList_append_lies _ rfl _ _ _ rfl w.heap.size 5 i0 _ 1 1 Try.underlying37 hi hz0 hz1 hz2 rfl (by omega) _ q _ rfl (HO.out.alloc _) ⟨wr.heap.size, 0, none⟩ 1 1 _ rfl rfl (World.news_of_block (heap_alloc_new wr _)) (by simp [Value.oneCell']) (by omega) (by unfold maxLen; omega) (by omega) (by simp; omega) (wr.heap.size + 1) (by simp) ?_; intro g cap w1 hown1 hgrow hat hlt1))
      have R := app_step (new := [two t[m] t[m + 1]]) (hb.alloc hbz _) HO.out hown1 (by rw [HT.out]; rfl) hgrow
      have HR : Hid (w1.ownsRow w.heap.size 5 1 (.slice (some ⟨g, 0, none⟩) (q + 1) cap) (q + 1) ((unh (t.data.toList.take (m + 2))).map byteV)) := Lib.hid (by rw [HN.out]; exact R.1)
      go_roundw
      case rel => exact ⟨m + 2, q + 1, hm2, Lib.hid ⟨by have := HM.out.1; omega, HK.out⟩, by omega, by go_num, HR.out, R.2⟩
      case measure => simp [intOf]; omega
    · have hconv := run_own_string (P := Try.prog) wr 37 9 5 _ _ _ _ Try.underlying37 Try.underlying5 Try.underlying9 HO.out
      have ho := HM.out.2
      rw [take_all t m (by omega)] at hconv ho
      have hr := HY.out ho
      subst hr
      clear ho HY HNo
      go_wp2
      go_ret2
      exact ⟨rfl, hb⟩

def hn (a b : UInt8) : Nat → Int
  | 0 => 0
  | 1 => hx a
  | _ => hx a * 16 + hx b
theorem hn_step (a b : UInt8) (j : Nat) (h : j < 2) : hn a b (j + 1) = hn a b j * 16 + hx ([a, b].getD j 0) := by
  match j, h with
  | 0, _ => simp [hn]
  | 1, _ => simp [hn]
  | n + 2, h => omega
def okTo (a b : UInt8) (j : Nat) : Prop := ∀ i, i < j → 0 ≤ hx ([a, b].getD i 0)
theorem hn_bd (a b : UInt8) (j : Nat) (h : okTo a b j) (hj : j ≤ 2) : 0 ≤ hn a b j ∧ hn a b j ≤ 255 := by
  have ha := hx_ge a; have hb := hx_ge b
  match j, hj with
  | 0, _ => simp [hn]
  | 1, _ => have := h 0 (by omega); simp at this; simp only [hn]; omega
  | 2, _ => have h0 := h 0 (by omega); have h1 := h 1 (by omega); simp at h0 h1; simp only [hn]; omega
  | n + 3, h => omega
theorem okTo_step (a b : UInt8) (j : Nat) (h : okTo a b j) (h1 : 0 ≤ hx ([a, b].getD j 0)) : okTo a b (j + 1) := by
  intro i hi
  by_cases e : i = j
  · subst e; exact h1
  · exact h i (by omega)
theorem pair_at (t : ByteArray) (m : Nat) (h : m + 2 ≤ t.size) (j : Nat) (hj : j < 2) : [t[m], t[m + 1]].getD j 0 = t[m + j] := by
  match j, hj with
  | 0, _ => rfl
  | 1, _ => rfl
  | n + 2, h => omega
theorem slice2 (s : ByteArray) (k : Nat) (W : World) (h : k + 2 ≤ s.size) :
    (Instr.slice 9 (.string s) (some (.int .i64 (k : Int))) (some (.int .i64 ((k : Int) + 2))) none).run Try.prog W = .ok (.string (s.extract k (k + 2))) W := by
  have := run_slice_string (P := Try.prog) W 9 s .i64 .i64 (k : Int) ((k : Int) + 2) Try.underlying9 (by omega) (by omega) (by omega)
  rw [this]
  congr 3
theorem ext2 (s : ByteArray) (k : Nat) (h : k + 2 ≤ s.size) : (s.extract k (k + 2)).size = 2 ∧ ∀ j (hj : j < 2) (hj' : j < (s.extract k (k + 2)).size), (s.extract k (k + 2))[j] = s[k + j] := by
  have h2 : (s.extract k (k + 2)).size = 2 := by simp; omega
  refine ⟨h2, fun j hj hj' => ?_⟩
  exact ByteArray.getElem_extract hj'

set_option maxHeartbeats 4000000 in
theorem specOf (t : ByteArray) (w : World) (r : Value) (hs : t.size ≤ 1200) (h2 : t.size % 2 = 0) (HY : Hid (okH t.data.toList → r = .tuple #[.string ⟨(unh t.data.toList).toArray⟩, .bool true])) (HNo : Hid (¬ okH t.data.toList → r = .tuple #[.string ⟨#[]⟩, .bool false])) :
    Calls Try.prog 15 #[.string t] w fun e w' => e = .returned r ∧ Below w.heap.size w w' := by
  obtain ⟨i0, hi, hz0, hz1, hz2⟩ := info_parts infoB
  have H2 := Lib.hid h2
  have hmod : ((t.size : Int) % 2 == 1) = false := by simp; omega
  clear h2
  go_enter Try.func15, Try.ntmps15
  go_wp2
  clear hmod
  go_loopw [4, 5] (fun v a wr => ∃ m q : Nat, m ≤ t.size ∧ Hid (m % 2 = 0 ∧ okH (t.data.toList.take m)) ∧ q ≤ m ∧ a = .int .i64 m ∧ wr.ownsRow w.heap.size 5 1 v q ((unh (t.data.toList.take m)).map byteV) ∧ Below w.heap.size w wr)
    (fun _ a _ => t.size - (intOf a).toNat)
  case atStart => exact ⟨0, 0, by omega, Lib.hid ⟨rfl, fun c hc => by simp at hc⟩, by omega, rfl, World.ownsRow_nil _ _ _ _, Below.refl _ _⟩
  case round =>
    obtain ⟨m, q, hm, HM, hq, rfl, hown, hb⟩ := hrel
    have HO := Lib.hid hown
    clear hown
    have hbz := hb.size
    by_cases hlt : m < t.size
    · have hm2 : m + 2 ≤ t.size := by have := HM.out.1; have := H2.out; omega
      have hm1 : m + 1 < t.size := by omega
      have HN := Lib.hid (unh_step t m HM.out.1 hm2)
      have HP : Hid (∀ j (hj : j < 2), [t[m], t[m + 1]].getD j 0 = t[m + j]) := Lib.hid (pair_at t m hm2)
      have SL := fun W => slice2 t m W hm2
      obtain ⟨hx2, hxj⟩ := ext2 t m hm2
      have HXJ := Lib.hid hxj
      clear hxj
      generalize t.extract m (m + 2) = u at *
      obtain ⟨cap, W, hcv, hcl, hbW, hWz, hcap⟩ := bytes_of' wr u (by omega)
      rw [hx2] at hcv
      have HCL : Hid (∀ j (hj : j < 2), W.cell? ⟨wr.heap.size, j, none⟩ = some (.int .u8 ((t[m + j]'(by omega)).toNat : Int))) := Lib.hid (fun j hj => by
        rw [hcl j (by omega), HXJ.out j hj (by omega)])
      have HU := Lib.hid hx2
      clear hx2 hcl hWz hcap HXJ
      have hB : Below w.heap.size w W := hb.trans (hbW.mono hbz)
      have HOW : Hid (W.ownsRow w.heap.size 5 1 u4 q ((unh (t.data.toList.take m)).map byteV)) := Lib.hid (own_below HO.out hbW (Nat.le_refl _))
      go_wp2
      clear hcv SL
      go_loop [6, 31] (fun n i => ∃ j : Nat, j ≤ 2 ∧ i = .int .i64 j ∧ n = .int .i64 (hn t[m] t[m + 1] j) ∧ Hid (okTo t[m] t[m + 1] j)) (fun _ i => 2 - (intOf i).toNat)
      case atStart => exact ⟨0, by omega, rfl, rfl, Lib.hid (fun i hi => by omega)⟩
      case round =>
        obtain ⟨j, hj, rfl, rfl, HK⟩ := hrel
        have hbd := hn_bd t[m] t[m + 1] j HK.out hj
        have hbd1 := hbd.1
        have hbd2 := hbd.2
        clear hbd
        by_cases hj2 : j < 2
        · have hcj := HCL.out j hj2
          have HS := Lib.hid (hn_step t[m] t[m + 1] j hj2)
          have HST : Hid (0 ≤ hx ([t[m], t[m + 1]].getD j 0) → okTo t[m] t[m + 1] (j + 1)) := Lib.hid (okTo_step t[m] t[m + 1] j HK.out)
          rw [HP.out j hj2] at HS HST
          have HNN : Hid (hx (t[m + j]'(by omega)) < 0 → ¬ okH t.data.toList) := Lib.hid (okH_not t (m + j) (by omega))
          have h255 : (t[m + j]'(by omega)).toNat < 256 := (t[m + j]'(by omega)).toNat_lt
          have D := Lib.hid (hx_dig (t[m + j]'(by omega)))
          have L := Lib.hid (hx_let (t[m + j]'(by omega)))
          have Z := Lib.hid (hx_none (t[m + j]'(by omega)))
          generalize (t[m + j]'(by omega)) = c at *
          generalize hn t[m] t[m + 1] j = d at *
          by_cases hd : 48 ≤ c.toNat ∧ c.toNat ≤ 57
          · have e := D.out hd.1 hd.2
            have e0 := hd.1
            have e1 := hd.2
            rw [e] at HS HST
            have HST' := Lib.hid (HST.out (by omega))
            clear e hd HST
            go_wp2
            go_round
            case rel => exact ⟨j + 1, by omega, by go_num, by rw [HS.out], Lib.hid HST'.out⟩
            case measure => simp [intOf]; omega
          · by_cases hl : 97 ≤ c.toNat ∧ c.toNat ≤ 102
            · have e := L.out hl.1 hl.2
              have e0 := hl.1
              have e1 := hl.2
              rw [e] at HS HST
              have HST' := Lib.hid (HST.out (by omega))
              clear e hl hd HST
              go_wp2
              go_round
              case rel => exact ⟨j + 1, by omega, by go_num, by rw [HS.out], Lib.hid HST'.out⟩
              case measure => simp [intOf]; omega
            · have e := Z.out hd hl
              have hr := HNo.out (HNN.out (by omega))
              subst hr
              clear e HNN HS HST HY HNo
              have h3 : c.toNat < 48 ∨ (57 < c.toNat ∧ c.toNat < 97) ∨ 102 < c.toNat := by omega
              clear hd hl
              rcases h3 with h3 | ⟨h3, h3'⟩ | h3
              · go_wp2
                go_ret2
                exact ⟨rfl, hB⟩
              · have h4 : 48 ≤ c.toNat := by omega
                go_wp2
                go_ret2
                exact ⟨rfl, hB⟩
              · have h4 : 48 ≤ c.toNat := by omega
                have h5 : 97 ≤ c.toNat := by omega
                have h6 : 57 < c.toNat := by omega
                go_wp2
                go_ret2
                exact ⟨rfl, hB⟩
        · obtain rfl : j = 2 := by omega
          have k0 := HK.out 0 (by omega)
          have k1 := HK.out 1 (by omega)
          simp only [List.getD_cons_zero, List.getD_cons_succ] at k0 k1
          have HKK := Lib.hid (okH_step t m hm2 HM.out.2 k0 k1)
          have HT : Hid (Value.int .u8 (hn t[m] t[m + 1] 2) = byteV (two t[m] t[m + 1])) := Lib.hid (two_val t[m] t[m + 1] k0 k1)
          clear k0 k1
          generalize hn t[m] t[m + 1] 2 = d at *
          have hWz := hB.size
          go_wp2_with (at_builtin; refine wpList_append_lies _ rfl _ _ _ rfl w.heap.size 5 i0 _ 1 1 Try.underlying37 hi hz0 hz1 hz2 rfl (by omega) _ q _ rfl (HOW.out.alloc _) ⟨W.heap.size, 0, none⟩ 1 1 _ rfl rfl (World.news_of_block (heap_alloc_new W _)) (by simp [Value.oneCell']) (by omega) (by unfold maxLen; omega) (by omega) (by simp; omega) (W.heap.size + 1) (by simp) ?_; intro g cap w1 hown1 hgrow hat hlt1)
          have R := app_step (new := [two t[m] t[m + 1]]) (hB.alloc hWz _) HOW.out hown1 (by rw [HT.out]; rfl) hgrow
          have HR : Hid (w1.ownsRow w.heap.size 5 1 (.slice (some ⟨g, 0, none⟩) (q + 1) cap) (q + 1) ((unh (t.data.toList.take (m + 2))).map byteV)) := Lib.hid (by rw [HN.out]; exact R.1)
          go_roundw
          case rel => exact ⟨m + 2, q + 1, hm2, Lib.hid ⟨by have := HM.out.1; omega, HKK.out⟩, by omega, by go_num, HR.out, R.2⟩
          case measure => simp [intOf]; omega
    · have hconv := run_own_string (P := Try.prog) wr 37 9 5 _ _ _ _ Try.underlying37 Try.underlying5 Try.underlying9 HO.out
      have ho := HM.out.2
      rw [take_all t m (by omega)] at hconv ho
      have hr := HY.out ho
      subst hr
      clear ho HY HNo
      go_wp2
      go_ret2
      exact ⟨rfl, hb⟩

def okT (t : ByteArray) : Prop := t.size % 2 = 0 ∧ okH t.data.toList
theorem implOdd (t : ByteArray) (w : World) (hm : t.size ≤ maxLen) (h : 1200 < t.size ∨ t.size % 2 ≠ 0) :
    Calls Try.prog 16 #[.string t] w fun e w' => e = .returned (.tuple #[.string ⟨#[]⟩, .bool false]) ∧ w = w' := by
  unfold maxLen at hm
  by_cases h1 : 1200 < t.size
  · go_enter Try.func16, Try.ntmps16
    go_wp2
    go_ret2
    exact ⟨rfl, rfl⟩
  · have h2 : ((t.size : Int) % 2 != 0) = true := by simp; omega
    have h3 : ((t.size : Int) % 2 == 0) = false := by simp; omega
    have h4 : t.size ≤ 1200 := by omega
    clear h
    go_enter Try.func16, Try.ntmps16
    go_wp2
    go_ret2
    exact ⟨rfl, rfl⟩
theorem specOdd (t : ByteArray) (w : World) (hm : t.size ≤ maxLen) (h : 1200 < t.size ∨ t.size % 2 ≠ 0) :
    Calls Try.prog 15 #[.string t] w fun e w' => e = .returned (.tuple #[.string ⟨#[]⟩, .bool false]) ∧ w = w' := by
  unfold maxLen at hm
  by_cases h1 : 1200 < t.size
  · go_enter Try.func15, Try.ntmps15
    go_wp2
    go_ret2
    exact ⟨rfl, rfl⟩
  · have h2 : ((t.size : Int) % 2 == 1) = true := by simp; omega
    have h4 : t.size ≤ 1200 := by omega
    clear h
    go_enter Try.func15, Try.ntmps15
    go_wp2
    go_ret2
    exact ⟨rfl, rfl⟩
theorem implYes (t : ByteArray) (w : World) (hs : t.size ≤ 1200) (h : okT t) : Calls Try.prog 16 #[.string t] w fun e w' => e = .returned (.tuple #[.string ⟨(unh t.data.toList).toArray⟩, .bool true]) ∧ Below w.heap.size w w' :=
  implOf t w _ hs h.1 (Lib.hid fun _ => rfl) (Lib.hid fun hn => absurd h.2 hn)
theorem specYes (t : ByteArray) (w : World) (hs : t.size ≤ 1200) (h : okT t) : Calls Try.prog 15 #[.string t] w fun e w' => e = .returned (.tuple #[.string ⟨(unh t.data.toList).toArray⟩, .bool true]) ∧ Below w.heap.size w w' :=
  specOf t w _ hs h.1 (Lib.hid fun _ => rfl) (Lib.hid fun hn => absurd h.2 hn)
theorem implNo (t : ByteArray) (w : World) (hm : t.size ≤ maxLen) (h : 1200 < t.size ∨ ¬ okT t) : Calls Try.prog 16 #[.string t] w fun e w' => e = .returned (.tuple #[.string ⟨#[]⟩, .bool false]) ∧ Below w.heap.size w w' := by
  by_cases h1 : 1200 < t.size ∨ t.size % 2 ≠ 0
  · refine (implOdd t w hm h1).mono ?_
    rintro e w' ⟨rfl, rfl⟩
    exact ⟨rfl, Below.refl _ _⟩
  · have hn : ¬ okH t.data.toList := fun ho => by rcases h with h | h; (· omega); exact h ⟨by omega, ho⟩
    exact implOf t w _ (by omega) (by omega) (Lib.hid fun ho => absurd ho hn) (Lib.hid fun _ => rfl)
theorem specNo (t : ByteArray) (w : World) (hm : t.size ≤ maxLen) (h : 1200 < t.size ∨ ¬ okT t) : Calls Try.prog 15 #[.string t] w fun e w' => e = .returned (.tuple #[.string ⟨#[]⟩, .bool false]) ∧ Below w.heap.size w w' := by
  by_cases h1 : 1200 < t.size ∨ t.size % 2 ≠ 0
  · refine (specOdd t w hm h1).mono ?_
    rintro e w' ⟨rfl, rfl⟩
    exact ⟨rfl, Below.refl _ _⟩
  · have hn : ¬ okH t.data.toList := fun ho => by rcases h with h | h; (· omega); exact h ⟨by omega, ho⟩
    exact specOf t w _ (by omega) (by omega) (Lib.hid fun ho => absurd ho hn) (Lib.hid fun _ => rfl)
theorem walk (a0 : ByteArray) (w0 : a0.size ≤ maxLen) (w : World) :
    Calls Try.prog 5 #[.string a0] w fun e w' => e = .returned (.bool true) ∧ Below w.heap.size w w' := by
  have hm := w0
  unfold maxLen at hm
  by_cases h : 1048576 < a0.size
  · go_enter Try.func5, Try.ntmps5
    go_wp2
    go_ret
    exact ⟨rfl, Below.refl _ _⟩
  by_cases hok : 1200 < a0.size ∨ ¬ okT a0
  · have S := Lib.hid (specNo a0 w w0 hok)
    have I := fun W => implNo a0 W w0 hok
    have HI := Lib.hid I
    clear I hok
    go_enter Try.func5, Try.ntmps5
    go_wp2_with fail
    refine S.out.mono ?_
    rintro e w1 ⟨rfl, hb1⟩
    go_wp2_with fail
    refine (HI.out _).mono ?_
    rintro e w2 ⟨rfl, hb2⟩
    have hb : Below w.heap.size w w2 := hb1.trans (hb2.mono hb1.size)
    clear hb1 hb2
    go_wp2
    go_ret
    exact ⟨rfl, hb⟩
  · have h1 : a0.size ≤ 1200 := by omega
    have h2 : okT a0 := by
      apply Classical.byContradiction
      intro hn; exact hok (.inr hn)
    have S := Lib.hid (specYes a0 w h1 h2)
    have I := fun W => implYes a0 W h1 h2
    have HI := Lib.hid I
    clear I hok h2
    generalize (ByteArray.mk (unh a0.data.toList).toArray) = u at *
    go_enter Try.func5, Try.ntmps5
    go_wp2_with fail
    refine S.out.mono ?_
    rintro e w1 ⟨rfl, hb1⟩
    go_wp2_with fail
    refine (HI.out _).mono ?_
    rintro e w2 ⟨rfl, hb2⟩
    have hb : Below w.heap.size w w2 := hb1.trans (hb2.mono hb1.size)
    clear hb1 hb2
    go_wp2
    go_ret
    exact ⟨rfl, hb⟩
end Go.Proofs.Ytehmlkcnhccjmaa.Unhex
