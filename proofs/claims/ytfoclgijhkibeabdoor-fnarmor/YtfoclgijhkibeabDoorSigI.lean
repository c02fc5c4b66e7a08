/-
  The program's base64 encoding: the contract of one group's filling, of the encoding, and the walk of the law on SignsOf.
-/
import Derived.Test.YtfoclgijhkibeabDoorSigS
import Derived.Lib.SlBuf
import Derived.Deep.Cut
namespace Go.Proofs.YtfoclgijhkibeabDoor.SigI
open Go.ChangeShapes Go.WideShapes Go.ChangeAt Go.RowKit
open Go.Proofs.YtfoclgijhkibeabDoor.Mem Go.Proofs.YtfoclgijhkibeabDoor.SigM Go.Proofs.YtfoclgijhkibeabDoor.SigS
set_option linter.unusedVariables false
set_option maxRecDepth 100000

/-- 'copy(dst, s)', s a string no longer than dst. -/
theorem run_copy_short {P : Program} (w : World) (dT sT ty elem : TypeId) (b o dLen dCap : Nat) (t : ByteArray)
    (hu : P.underlying dT = some (.slice elem)) (hz : ∀ w, (Go.sizeOf elem).run P w = .ok 1 w) (hle : t.size ≤ dLen)
    (hc : ∀ j, j < dLen → (w.cell? ⟨b, o + j, none⟩).isSome = true) (hf : ∀ j, j < dLen → w.frozen? ⟨b, o + j, none⟩ = false) :
    (Builtin.copy_ #[dT, sT] ty #[.slice (some ⟨b, o, none⟩) dLen dCap, .string t]).run P w = .ok (goInt t.size) (w.setCells b o (t.data.toList.map byteV)) := by
  have hmin : Nat.min t.size dLen = t.size := Nat.min_eq_left hle
  have hl : (t.data.toList.map byteV).length = t.size := by simp
  have hst := run_storeCells_cells (P := P) b o (t.data.toList.map byteV) 0 w (by rw [hl]; intro j hj; simpa using hc j (by omega)) (by rw [hl]; intro j hj; simpa using hf j (by omega)) (byteV_one _)
  simp [Builtin.copy_, run_underlying hu, Builtin.lenOf, Builtin.firstCells, hz, hmin]
  have he : (t.data.toList.map fun x => Value.int .u8 (x.toNat : Int)) = t.data.toList.map byteV := rfl
  have ht : (t.data.toList.map byteV).take t.size = t.data.toList.map byteV := List.take_of_length_le (by simp)
  rw [he, ht, hst]
  rfl

def st (n : Nat) (l : List UInt8) (m : Nat) : Nat → List UInt8
  | 0 => l
  | j + 1 => (st n l m j).set (m + (3 - j)) (al (n / 64 ^ j % 64))
theorem st_len (n : Nat) (l : List UInt8) (m j : Nat) : (st n l m j).length = l.length := by
  induction j with
  | zero => rfl
  | succ j ih => simp [st, ih]
def fin (l : List UInt8) (m : Nat) (x : List UInt8) : List UInt8 := l.take m ++ grp x ++ l.drop (m + 4)
theorem parted (l : List UInt8) (m : Nat) (h : m + 4 ≤ l.length) : ∃ a y0 y1 y2 y3 b, l = a ++ y0 :: y1 :: y2 :: y3 :: b ∧ a.length = m := by
  refine ⟨l.take m, l[m], l[m + 1], l[m + 2], l[m + 3], l.drop (m + 4), ?_, by simp; omega⟩
  rw [← List.drop_eq_getElem_cons (by omega), ← List.drop_eq_getElem_cons (by omega), ← List.drop_eq_getElem_cons (by omega), ← List.drop_eq_getElem_cons (by omega), List.take_append_drop]
theorem set_at (a b : List UInt8) (y c : UInt8) : ∀ k, (a ++ y :: b).set (a.length + k) c = a ++ (y :: b).set k c := by
  intro k; rw [List.set_append, if_neg (by omega)]; congr 2; omega
theorem st4 (n : Nat) (a b : List UInt8) (y0 y1 y2 y3 : UInt8) : st n (a ++ y0 :: y1 :: y2 :: y3 :: b) a.length 4 = a ++ al (n / 262144 % 64) :: al (n / 4096 % 64) :: al (n / 64 % 64) :: al (n % 64) :: b := by
  simp only [st, set_at, Nat.reduceSub, Nat.reducePow, List.set_cons_succ, List.set_cons_zero, Nat.div_one]
theorem fin_at (a b x : List UInt8) (y0 y1 y2 y3 : UInt8) : fin (a ++ y0 :: y1 :: y2 :: y3 :: b) a.length x = a ++ grp x ++ b := by simp [fin]
theorem fin3 (l : List UInt8) (m : Nat) (x : List UInt8) (h : m + 4 ≤ l.length) (hx : x.length = 3) : st (trip x) l m 4 = fin l m x := by
  obtain ⟨a, y0, y1, y2, y3, b, rfl, rfl⟩ := parted l m h
  rw [st4, fin_at]
  simp [grp, sgn, hx]
theorem fin2 (l : List UInt8) (m : Nat) (x : List UInt8) (h : m + 4 ≤ l.length) (hx : x.length = 2) : (st (trip x) l m 4).set (m + 3) 61 = fin l m x := by
  obtain ⟨a, y0, y1, y2, y3, b, rfl, rfl⟩ := parted l m h
  rw [st4, fin_at, set_at]
  simp [grp, sgn, hx]
theorem fin1 (l : List UInt8) (m : Nat) (x : List UInt8) (h : m + 4 ≤ l.length) (hx : x.length = 1) : ((st (trip x) l m 4).set (m + 2) 61).set (m + 3) 61 = fin l m x := by
  obtain ⟨a, y0, y1, y2, y3, b, rfl, rfl⟩ := parted l m h
  rw [st4, fin_at, set_at]
  simp only [List.set_cons_succ, List.set_cons_zero, set_at]
  simp [grp, sgn, hx]

/-- The array of three, the text's bytes copied into it. -/
theorem copied (w : World) (T : Nat) (l : List UInt8) (h : l.length ≤ 3) :
    ∃ W, (w.alloc (.cells #[.int .u8 0, .int .u8 0, .int .u8 0] T)).setCells w.heap.size 0 (l.map byteV) = W ∧ Below w.heap.size w W ∧
      W.cell? ⟨w.heap.size, 0, none⟩ = some (.int .u8 ((l.getD 0 0).toNat : Int)) ∧ W.cell? ⟨w.heap.size, 1, none⟩ = some (.int .u8 ((l.getD 1 0).toNat : Int)) ∧ W.cell? ⟨w.heap.size, 2, none⟩ = some (.int .u8 ((l.getD 2 0).toNat : Int)) := by
  refine ⟨_, rfl, Lib.below_setCells w.heap.size (Nat.le_refl _) _ _ ((Below.refl _ w).alloc (Nat.le_refl _) _), ?_⟩
  have hc : ∀ i, i < 3 → (w.alloc (.cells #[.int .u8 0, .int .u8 0, .int .u8 0] T)).cell? ⟨w.heap.size, i, none⟩ = some (.int .u8 0) := by
    intro i hi
    rw [cell_of_row _ w.heap.size i _ _ _ (heap_alloc_new w _)]
    match i, hi with
    | 0, _ | 1, _ | 2, _ => rfl
    | n + 3, h => omega
  have key : ∀ i, i < 3 → ((w.alloc (.cells #[.int .u8 0, .int .u8 0, .int .u8 0] T)).setCells w.heap.size 0 (l.map byteV)).cell? ⟨w.heap.size, i, none⟩ = some (.int .u8 ((l.getD i 0).toNat : Int)) := by
    intro i hi
    by_cases hl : i < l.length
    · have := World.cell?_setCells_in w.heap.size (l.map byteV) 0 (w.alloc (.cells #[.int .u8 0, .int .u8 0, .int .u8 0] T)) (by intro j hj; rw [Nat.zero_add, hc j (by simp at hj; omega)]; rfl) i (by simpa using hl)
      rw [Nat.zero_add] at this
      rw [this]
      simp [byteV, List.getD_eq_getElem?_getD, hl]
    · rw [World.cell?_setCells_out w.heap.size _ 0 _ _ (by intro _ _; right; simp; omega), hc i hi]
      rw [List.getD_eq_getElem?_getD, List.getElem?_eq_none (by omega)]
      rfl
  exact ⟨key 0 (by omega), key 1 (by omega), key 2 (by omega)⟩
theorem own_keep {w w' : World} {base e size n : Nat} {v : Value} {xs : List Value} (h : w.ownsRow base e size v n xs) (hk : ∀ b, b < w.heap.size → base ≤ b → w'.heap[b]? = w.heap[b]?) : w'.ownsRow base e size v n xs := by
  refine ⟨h.1, ?_⟩
  rcases h.2 with h0 | ⟨g, cap, cur, h1, h2, h3, h4⟩
  · exact .inl h0
  · exact .inr ⟨g, cap, cur, h1, h2, (hk g (Array.getElem?_eq_some_iff.1 h3).1 h2).trans h3, h4⟩
theorem own_below {w w' : World} {base e size n B : Nat} {v : Value} {xs : List Value} (h : w.ownsRow base e size v n xs) (hb : Below B w w') (hB : w.heap.size ≤ B) : w'.ownsRow base e size v n xs :=
  own_keep h fun b hlt _ => hb.block b (by omega)
theorem own_lt {w : World} {base e g n cap : Nat} {xs : List Value} (h : w.ownsRow base e 1 (.slice (some ⟨g, 0, none⟩) n cap) n xs) : base ≤ g ∧ g < w.heap.size := h.lt g rfl
theorem own_at {w : World} {base e g n cap k : Nat} {l : List UInt8} (h : w.ownsRow base e 1 (.slice (some ⟨g, 0, none⟩) n cap) n (l.map byteV)) (hk : k < n) : w.cell? ⟨g, k, none⟩ = some (byteV (l.getD k 0)) ∧ w.frozen? ⟨g, k, none⟩ = false := by
  have hl : l.length = n := by have := h.1; simpa using this
  refine ⟨?_, h.frozenAt k⟩
  rw [h.cellAt k (by omega), List.getElem?_map, List.getD_eq_getElem?_getD, List.getElem?_eq_getElem (by omega)]
  rfl
theorem own_set {w : World} {base g n cap : Nat} {l : List UInt8} (h : w.ownsRow base 5 1 (.slice (some ⟨g, 0, none⟩) n cap) n (l.map byteV)) (k : Nat) (c : UInt8) :
    (w.setCell ⟨g, k, none⟩ (.int .u8 (c.toNat : Int))).ownsRow base 5 1 (.slice (some ⟨g, 0, none⟩) n cap) n ((l.set k c).map byteV) := by
  rw [List.map_set]
  exact (h.stored k (byteV c)).1
theorem and6u (x : Int) (h0 : 0 ≤ x) (h1 : x ≤ 16777215) : bits .and .u32 x 63 = x % 64 := by
  have h := bits_mask .u32 32 (by decide) (fun n h0 h1 => by rw [IntKind.wrap_u32]; omega) 6 (by decide) x (by omega) (by omega)
  have e : ((2 : Int) ^ 6 - 1) = 63 := by decide
  rw [e] at h
  simpa using h
theorem or3 (a b c : UInt8) : bits .or .u32 (bits .or .u32 ((a.toNat : Int) * 65536) ((b.toNat : Int) * 256)) (c.toNat : Int) = ((a.toNat * 65536 + b.toNat * 256 + c.toNat : Nat) : Int) := by
  have ha := a.toNat_lt; have hb := b.toNat_lt; have hc := c.toNat_lt
  have h1 := bits_join .u32 32 (by decide) (fun n h0 h1 => by rw [IntKind.wrap_u32]; omega) 16 ((a.toNat : Int) * 65536) ((b.toNat : Int) * 256) (by omega) (by omega) (by omega) (by omega) (by omega) (by omega)
  rw [h1]
  have h2 := bits_join .u32 32 (by decide) (fun n h0 h1 => by rw [IntKind.wrap_u32]; omega) 8 ((a.toNat : Int) * 65536 + (b.toNat : Int) * 256) (c.toNat : Int) (by omega) (by omega) (by omega) (by omega) (by omega) (by omega)
  rw [h2]; omega

theorem size1 (P : Program) {e : Nat} {z : Value} {b : Nat} (hi : (P.info? e).map (fun i => (i.zero, i.size, i.bytes)) = some (some z, 1, b)) : ∀ w, (Go.sizeOf e).run P w = .ok 1 w := by
  intro w
  obtain ⟨i0, hi, hz0, hz1, hz2⟩ := info_parts hi
  simp [Go.sizeOf, typeInfo, hi, hz1, go_sem]
set_option maxHeartbeats 2000000 in
theorem fill (g m n cap base : Nat) (l : List UInt8) (t : ByteArray) (w : World) (hown : w.ownsRow base 5 1 (.slice (some ⟨g, 0, none⟩) n cap) n (l.map byteV)) (hm : m + 4 ≤ n) (hbase : base ≤ w.heap.size) (h0 : 1 ≤ t.size) (h3 : t.size ≤ 3) :
    Calls Tryd.prog 129 #[.slice (some ⟨g, m, none⟩) 4 4, .string t] w fun e w' => e = .returned (.tuple #[]) ∧ w'.ownsRow base 5 1 (.slice (some ⟨g, 0, none⟩) n cap) n ((fin l m t.data.toList).map byteV) ∧ Below base w w' := by
  have hg := own_lt hown
  have hll : l.length = n := by have := hown.1; simpa using this
  have HO := Lib.hid hown
  clear hown
  have hlen : t.data.toList.length = t.size := by simp
  obtain ⟨W, hW, hbW, c0, c1, c2⟩ := copied w 146 t.data.toList (by omega)
  have hcp : (Builtin.copy_ #[22, 9] 3 #[.slice (some ⟨w.heap.size, 0, none⟩) 3 3, .string t]).run Tryd.prog (w.alloc (.cells #[.int .u8 0, .int .u8 0, .int .u8 0] 146)) = .ok (goInt t.size) W := by
    rw [run_copy_short _ _ _ _ 5 w.heap.size 0 3 3 t Tryd.underlying22 (size1 _ infoB) h3 ?_ ?_, hW]
    · intro j hj
      rw [cell_of_row _ w.heap.size (0 + j) _ _ _ (heap_alloc_new w _)]
      match j, hj with
      | 0, _ | 1, _ | 2, _ => rfl
      | n + 3, h => omega
    · intro j hj
      exact frozen_of_row _ w.heap.size (0 + j) _ _ (heap_alloc_new w _)
  have HLL := Lib.hid hll
  have HLen := Lib.hid hlen
  clear hW hll hlen
  have HN : Hid ((t.data.toList.getD 0 0).toNat * 65536 + (t.data.toList.getD 1 0).toNat * 256 + (t.data.toList.getD 2 0).toNat = trip t.data.toList) := Lib.hid rfl
  have ht := trip_lt t.data.toList
  have HE : ∀ x, Hid (st x l m 0 = l) := fun x => Lib.hid rfl
  generalize hx : t.data.toList = x at *
  generalize x.getD 0 0 = a at *
  generalize x.getD 1 0 = b at *
  generalize x.getD 2 0 = c at *
  have hor := or3 a b c
  rw [HN.out] at hor
  clear hx
  have b0 : a.toNat < 256 := a.toNat_lt
  have b1 : b.toNat < 256 := b.toNat_lt
  have b2 : c.toNat < 256 := c.toNat_lt
  go_enter Tryd.func129, Tryd.ntmps129
  go_wp2
  go_loopw [5, 6] (fun v i wr => ∃ j : Nat, j ≤ 4 ∧ i = .int .i64 (3 - (j : Int)) ∧ v = .int .u32 ((trip x / 64 ^ j : Nat) : Int) ∧ wr.ownsRow base 5 1 (.slice (some ⟨g, 0, none⟩) n cap) n ((st (trip x) l m j).map byteV) ∧ Below base w wr)
    (fun _ i _ => (1 + intOf i).toNat)
  case atStart => exact ⟨0, by omega, rfl, by simp, own_below HO.out hbW (Nat.le_refl _), hbW.mono hbase⟩
  case round =>
    obtain ⟨j, hj, rfl, rfl, hown, hb⟩ := hrel
    have HO' := Lib.hid hown
    clear hown HO
    by_cases hj4 : j < 4
    · have hsh : (3 - (j : Int)).toNat = 3 - j := by omega
      obtain ⟨hc, hf⟩ := own_at HO'.out (k := m + (3 - j)) (by omega)
      have hd1 : trip x / 64 ^ j ≤ trip x := Nat.div_le_self _ _
      have HD : Hid (trip x / 64 ^ j / 64 = trip x / 64 ^ (j + 1)) := Lib.hid (by rw [Nat.div_div_eq_div_mul, Nat.pow_succ])
      have HS := Lib.hid (own_set HO'.out (m + (3 - j)) (al (trip x / 64 ^ j % 64)))
      have hst : st (trip x) l m (j + 1) = (st (trip x) l m j).set (m + (3 - j)) (al (trip x / 64 ^ j % 64)) := rfl
      have HST := Lib.hid hst
      clear hst
      generalize trip x / 64 ^ j = d at *
      have hand := and6u (d : Int) (by omega) (by omega)
      have hB := hb.setCell (p := ⟨g, m + (3 - j), none⟩) hg.1 (.int .u8 ((al (d % 64)).toNat : Int))
      go_wp2
      rw [al_at _ rfl]
      go_roundw
      case rel => exact ⟨j + 1, by omega, by go_num, by rw [← HD.out]; rfl, by rw [HST.out]; exact HS.out, hB⟩
      case measure => simp [intOf]; omega
    · obtain rfl : j = 4 := by omega
      obtain ⟨x2, y2⟩ := own_at HO'.out (k := m + 2) (by omega)
      obtain ⟨x3, y3⟩ := own_at HO'.out (k := m + 3) (by omega)
      have hb2 := hb.setCell (p := ⟨g, m + 2, none⟩) hg.1 (.int .u8 61)
      have hb3 := hb.setCell (p := ⟨g, m + 3, none⟩) hg.1 (.int .u8 61)
      have hb23 := hb2.setCell (p := ⟨g, m + 3, none⟩) hg.1 (.int .u8 61)
      by_cases h1 : t.size = 1
      · have hx1 := fin1 l m x (by rw [HLL.out]; exact hm) (by rw [HLen.out]; exact h1)
        have HF : Hid (((wr.setCell ⟨g, m + 2, none⟩ (.int .u8 61)).setCell ⟨g, m + 3, none⟩ (.int .u8 61)).ownsRow base 5 1 (.slice (some ⟨g, 0, none⟩) n cap) n ((fin l m x).map byteV)) := Lib.hid (by rw [← hx1]; exact own_set (own_set HO'.out (m + 2) 61) (m + 3) 61)
        clear hx1
        go_wp2
        refine bodyPost_end (results_none rfl _ _ _) rfl ?_
        exact ⟨rfl, HF.out, hb23⟩
      · by_cases h2 : t.size = 2
        · have hx1 := fin2 l m x (by rw [HLL.out]; exact hm) (by rw [HLen.out]; exact h2)
          have HF : Hid ((wr.setCell ⟨g, m + 3, none⟩ (.int .u8 61)).ownsRow base 5 1 (.slice (some ⟨g, 0, none⟩) n cap) n ((fin l m x).map byteV)) := Lib.hid (by rw [← hx1]; exact own_set HO'.out (m + 3) 61)
          clear hx1
          go_wp2
          refine bodyPost_end (results_none rfl _ _ _) rfl ?_
          exact ⟨rfl, HF.out, hb3⟩
        · have hx1 := fin3 l m x (by rw [HLL.out]; exact hm) (by rw [HLen.out]; omega)
          have HF : Hid (wr.ownsRow base 5 1 (.slice (some ⟨g, 0, none⟩) n cap) n ((fin l m x).map byteV)) := Lib.hid (by rw [← hx1]; exact HO'.out)
          clear hx1
          go_wp2
          refine bodyPost_end (results_none rfl _ _ _) rfl ?_
          exact ⟨rfl, HF.out, hb⟩
theorem fin_row (s : ByteArray) (m p L : Nat) (h3 : m % 3 = 0) (hm : m < s.size) (hp : (encB (s.data.toList.take m)).length = p) (hL : p + 4 ≤ L) :
    fin (encB (s.data.toList.take m) ++ List.replicate (L - p) 0) p ((s.data.toList.drop m).take 3) = encB (s.data.toList.take (m + 3)) ++ List.replicate (L - (p + 4)) 0 := by
  rw [enc_step s.data.toList m h3 (by simpa using hm), show L - p = (L - (p + 4)) + 1 + 1 + 1 + 1 from by omega]
  simp only [List.replicate_succ]
  subst hp
  rw [fin_at]
theorem enc_at (s : ByteArray) (m : Nat) (hm : m ≤ s.size) (h3 : m % 3 = 0) : (encB (s.data.toList.take m)).length = m / 3 * 4 := by
  rw [enc_len, List.length_take]
  have : s.data.toList.length = s.size := by simp
  omega
theorem slice3 (b p L : Nat) (h : p + 4 ≤ L) (W : World) : (Instr.slice 22 (.slice (some ⟨b, 0, none⟩) L L) (some (.int .i64 (p : Int))) (some (.int .i64 ((p : Int) + 4))) (some (.int .i64 ((p : Int) + 4)))).run Tryd.prog W = .ok (.slice (some ⟨b, p, none⟩) 4 4) W := by
  rw [run_slice_lhm W 22 _ L L Tryd.underlying22 .i64 .i64 .i64 (p : Int) ((p : Int) + 4) ((p : Int) + 4) (by omega) (by omega) (by omega) (by omega)]
  have e1 : ((p : Int) + 4).toNat = p + 4 := by omega
  rw [show Tryd.prog.elem 22 = 5 from rfl, size1 _ infoB]
  simp [Result.andThen, sliced, e1, Addr.add]
  exact fun h => h.symm
theorem slice_to (s : ByteArray) (q : Nat) (h : q ≤ s.size) (W : World) : (Instr.slice 9 (.string s) none (some (.int .i64 (q : Int))) none).run Tryd.prog W = .ok (.string (s.extract 0 q)) W := by
  have := run_slice_string_h (P := Tryd.prog) W 9 s Tryd.underlying9 .i64 (q : Int) (by omega) (by omega)
  simpa using this
theorem slice_from (s : ByteArray) (q : Nat) (h : q ≤ s.size) (W : World) : (Instr.slice 9 (.string s) (some (.int .i64 (q : Int))) none none).run Tryd.prog W = .ok (.string (s.extract q s.size)) W := by
  have := run_slice_string_l (P := Tryd.prog) W 9 s Tryd.underlying9 .i64 (q : Int) (by omega) (by omega)
  simpa using this
theorem bytes_to (s : ByteArray) (q : Nat) : (s.extract 0 q).data.toList = s.data.toList.take q := by
  rw [ByteArray.data_extract, Array.toList_extract]; simp
theorem bytes_from (s : ByteArray) (q : Nat) : (s.extract q s.size).data.toList = s.data.toList.drop q := by
  rw [ByteArray.data_extract, Array.toList_extract]; simp only [List.extract_eq_take_drop]; exact List.take_of_length_le (by simp)
theorem lengthAs (n : Nat) (w : World) (h1 : n ≤ 600) : Calls Tryd.prog 128 #[.int .i64 n] w fun e w' => e = .returned (.tuple #[.int .i64 (((n + 2) / 3 * 4 : Nat) : Int), .bool true]) ∧ w = w' :=
  (Len.L.implYes n w (by omega) (by omega)).mono fun e w' h => ⟨h.1, h.2⟩

set_option maxHeartbeats 2000000 in
theorem implSigns (s : ByteArray) (w : World) (hs : s.size ≤ 600) :
    Calls Tryd.prog 79 #[.string s] w fun e w' => e = .returned (.tuple #[.string ⟨(encB s.data.toList).toArray⟩, .bool true]) ∧ Below w.heap.size w w' := by
  obtain ⟨i0, hi, hz0, hz1, hz2⟩ := info_parts infoB
  obtain ⟨L, hL⟩ : ∃ L, (s.size + 2) / 3 * 4 = L := ⟨_, rfl⟩
  have hL8 : L ≤ 804 := by omega
  have HL := Lib.hid hL
  have C := lengthAs s.size w hs
  rw [hL] at C
  have HC := Lib.hid C
  clear C hL
  go_enter Tryd.func79, Tryd.ntmps79
  go_wp2_with fail
  refine HC.out.mono ?_
  rintro e w' ⟨rfl, rfl⟩
  go_wp2_with (at_make; refine wpList_make_full _ rfl _ _ 22 rfl w.heap.size 5 i0 _ 1 Tryd.underlying22 hi hz0 hz1 .i64 .i64 _ _ L rfl rfl (by omega) (by omega) (by rw [hz2]; omega) (by unfold maxLen; omega) (by simp) ?_; intro w2 hown2 hgrow2)
  have hb2 : Below w.heap.size w w2 := (Below.refl _ _).grown hgrow2 (by simp) (fun k hk => by cases hk)
  have HO2 : Hid (w2.ownsRow w.heap.size 5 1 (.slice (some ⟨w.heap.size, 0, none⟩) L L) L ((List.replicate L 0).map byteV)) := Lib.hid (own_congr hown2 rfl (by rw [show (Value.int .u8 0).cells = #[.int .u8 0] from rfl, toList_madeCells_one]; simp [byteV]))
  clear hown2 hgrow2 HC
  go_loopw [0, 7] (fun v a wr => ∃ (m p : Nat) (s' : ByteArray), v = .string s' ∧ a = .int .i64 p ∧ p ≤ L ∧ Hid (m % 3 = 0 ∧ m / 3 * 4 = p ∧ s'.data.toList = s.data.toList.drop m) ∧ wr.ownsRow w.heap.size 5 1 (.slice (some ⟨w.heap.size, 0, none⟩) L L) L ((encB (s.data.toList.take m) ++ List.replicate (L - p) 0).map byteV) ∧ Below w.heap.size w wr)
    (fun _ a _ => L - (intOf a).toNat)
  case atStart => exact ⟨0, 0, s, rfl, rfl, by omega, Lib.hid ⟨rfl, rfl, rfl⟩, HO2.out, hb2⟩
  case round =>
    clear HO2 hb2
    obtain ⟨m, p, s', rfl, rfl, hp, HM, hown, hb⟩ := hrel
    have HO := Lib.hid hown
    clear hown
    by_cases hlt : p < L
    · have hms : m < s.size := by have := HL.out; have := HM.out.1; have := HM.out.2.1; omega
      have hp4 : p + 4 ≤ L := by have := HL.out; have := HM.out.1; have := HM.out.2.1; omega
      have hsz : s'.size = s.size - m := by
        have := congrArg List.length HM.out.2.2
        simpa using this
      have h1 : 1 ≤ s'.size := by omega
      have h600 : s'.size ≤ 600 := by omega
      have HSZ := Lib.hid hsz
      clear hsz
      obtain ⟨q, hq⟩ : ∃ q, min 3 s'.size = q := ⟨_, rfl⟩
      have hq1 : 1 ≤ q := by omega
      have hq3 : q ≤ 3 := by omega
      have hqs : q ≤ s'.size := by omega
      have hqi : min 3 (s'.size : Int) = (q : Int) := by omega
      have HQ := Lib.hid hq
      clear hq
      have SL1 := slice3 w.heap.size p L hp4
      have SL2 := slice_to s' q hqs
      have SL3 := slice_from s' q hqs
      have hl' : s'.data.toList.length = s'.size := by simp
      have HX : Hid ((s'.extract 0 q).data.toList = (s.data.toList.drop m).take 3) := Lib.hid (by
        rw [← HM.out.2.2, bytes_to, ← HQ.out]
        by_cases h : 3 ≤ s'.size
        · rw [Nat.min_eq_left h]
        · rw [Nat.min_eq_right (by omega), List.take_of_length_le (by omega), List.take_of_length_le (by omega)])
      have HY : Hid ((s'.extract q s'.size).data.toList = s.data.toList.drop (m + 3)) := Lib.hid (by
        rw [← List.drop_drop, ← HM.out.2.2, bytes_from, ← HQ.out]
        by_cases h : 3 ≤ s'.size
        · rw [Nat.min_eq_left h]
        · rw [Nat.min_eq_right (by omega), List.drop_eq_nil_of_le (by omega), List.drop_eq_nil_of_le (by omega)])
      have HXS : Hid ((s'.extract 0 q).size = q) := Lib.hid (by simp; omega)
      clear hl'
      generalize s'.extract 0 q = t at *
      generalize s'.extract q s'.size = t' at *
      have HF : Hid (fin (encB (s.data.toList.take m) ++ List.replicate (L - p) 0) p t.data.toList = encB (s.data.toList.take (m + 3)) ++ List.replicate (L - (p + 4)) 0) := Lib.hid (by
        rw [HX.out]; exact fin_row s m p L HM.out.1 hms (by rw [enc_at s m (by omega) HM.out.1]; exact HM.out.2.1) hp4)
      go_wp2
      go_region_held3 (fun _ => True) (trivial) ((go_at_call 129; refine (fill w.heap.size p L L w.heap.size _ t _ (by first | exact HO.out | exact HO.out.drew) hp4 (by have := hb.size; simp; omega) (by rw [HXS.out]; exact hq1) (by rw [HXS.out]; exact hq3)).mono ?_; rintro e w1 ⟨rfl, hown1, hb1⟩))
      rw [HF.out] at hown1
      have HO1 := Lib.hid hown1
      have hB : Below w.heap.size w w1 := hb.drew.trans hb1
      clear hown1 hb1 HO HF
      go_wp2
      go_roundw
      case rel => exact ⟨m + 3, p + 4, t', rfl, by go_num, hp4, Lib.hid ⟨by have := HM.out.1; omega, by have := HM.out.1; have := HM.out.2.1; omega, HY.out⟩, HO1.out, hB⟩
      case measure => simp [intOf]; omega
    · have hms : s.size ≤ m := by have := HL.out; have := HM.out.1; have := HM.out.2.1; omega
      obtain rfl : p = L := by omega
      have hconv := run_own_string (P := Tryd.prog) wr 22 9 5 _ _ _ _ Tryd.underlying22 Tryd.underlying5 Tryd.underlying9 HO.out
      rw [take_all s m hms, Nat.sub_self] at hconv
      simp only [List.replicate_zero, List.append_nil] at hconv
      go_wp2
      go_ret2
      exact ⟨rfl, hb⟩
theorem implLong (s : ByteArray) (w : World) (hs : 600 < s.size) (hm : s.size ≤ maxLen) :
    Calls Tryd.prog 79 #[.string s] w fun e w' => e = .returned (.tuple #[.string ⟨#[]⟩, .bool false]) ∧ w = w' := by
  unfold maxLen at hm
  go_enter Tryd.func79, Tryd.ntmps79
  go_wp2_with fail
  refine (Len.L.implNo _ _ (by omega)).mono ?_
  rintro e w' ⟨rfl, rfl⟩
  go_wp2
  go_ret2
  exact ⟨rfl, rfl⟩
end Go.Proofs.YtfoclgijhkibeabDoor.SigI
