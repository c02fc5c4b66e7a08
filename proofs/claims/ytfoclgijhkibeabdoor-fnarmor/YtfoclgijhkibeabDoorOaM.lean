/-
  Armored text taken apart: plain facts on texts cut at newlines.
-/
import Derived.Test.YtfoclgijhkibeabDoorArmor
import Derived.Test.YtfoclgijhkibeabDoorOfSig
import Derived.Lib.Replace
import Derived.Lib.IndexBytes
namespace Go.Proofs.YtfoclgijhkibeabDoor.OaM
open Go.Proofs.YtfoclgijhkibeabDoor.Mem Go.Proofs.YtfoclgijhkibeabDoor.Strs Go.Proofs.YtfoclgijhkibeabDoor.Lines Go.Proofs.YtfoclgijhkibeabDoor.SigM Go.Proofs.YtfoclgijhkibeabDoor.SigI Go.Proofs.YtfoclgijhkibeabDoor.Name Go.Proofs.YtfoclgijhkibeabDoor.Armor
set_option linter.unusedVariables false
set_option maxRecDepth 100000

def glue (p : List UInt8) : List (List UInt8) → List (List UInt8)
  | [] => [p]
  | h :: t => (p ++ h) :: t
/-- A text cut at each newline. -/
def spl : List UInt8 → List (List UInt8)
  | [] => [[]]
  | c :: r => if c = 10 then [] :: spl r else glue [c] (spl r)
theorem glue_glue (p q : List UInt8) (X : List (List UInt8)) : glue p (glue q X) = glue (p ++ q) X := by cases X <;> simp [glue]
theorem glue_ne (p : List UInt8) (X : List (List UInt8)) : glue p X ≠ [] := by cases X <;> simp [glue]
theorem spl_ne (l : List UInt8) : spl l ≠ [] := by
  cases l with
  | nil => simp [spl]
  | cons c r =>
    unfold spl
    split
    · simp
    · exact glue_ne _ _
theorem glue_nil (X : List (List UInt8)) (h : X ≠ []) : glue [] X = X := by cases X <;> simp_all [glue]
theorem spl_line (x r : List UInt8) (h : ∀ c ∈ x, c ≠ 10) : spl (x ++ 10 :: r) = x :: spl r := by
  induction x with
  | nil => simp [spl]
  | cons c x ih =>
    rw [List.cons_append, spl, if_neg (h c (by simp)), ih (fun d hd => h d (by simp [hd]))]
    rfl
theorem spl_flat (ls : List ByteArray) (h : ∀ x ∈ ls, ∀ c ∈ x.data.toList, c ≠ 10) : spl (flat ls) = ls.map (fun x => x.data.toList) ++ [[]] := by
  induction ls with
  | nil => rfl
  | cons x r ih =>
    have e : flat (x :: r) = x.data.toList ++ 10 :: flat r := by simp [flat]
    rw [e, spl_line _ _ (h x (by simp)), ih (fun y hy => h y (by simp [hy]))]
    rfl
def mk (l : List UInt8) : ByteArray := ⟨l.toArray⟩
theorem mk_data (l : List UInt8) : (mk l).data.toList = l := rfl
theorem mk_eq (x : ByteArray) : mk x.data.toList = x := by apply ByteArray.ext; apply Array.toList_inj.1; rfl
theorem mk_inj {x y : ByteArray} (h : x.data.toList = y.data.toList) : x = y := by apply ByteArray.ext; exact Array.toList_inj.1 h
/-- The pieces of a text, as strings. -/
def pcs (t : ByteArray) : List ByteArray := (spl t.data.toList).map mk
theorem pcs_ne (t : ByteArray) : 1 ≤ (pcs t).length := by
  unfold pcs
  rw [List.length_map]
  have := spl_ne t.data.toList
  cases h : spl t.data.toList
  · exact absurd h this
  · simp
theorem glue_len (p : List UInt8) (X : List (List UInt8)) : (glue p X).flatten.length = p.length + X.flatten.length := by
  cases X
  · simp [glue]
  · simp only [glue, List.flatten_cons, List.length_append]; omega
theorem spl_len (l : List UInt8) : (spl l).flatten.length ≤ l.length := by
  induction l with
  | nil => simp [spl]
  | cons c r ih =>
    unfold spl
    split
    · simp at ih ⊢; omega
    · rw [glue_len]; simp at ih ⊢; omega
theorem glue_cnt (p : List UInt8) (X : List (List UInt8)) (h : X ≠ []) : (glue p X).length = X.length := by cases X <;> simp_all [glue]
theorem spl_cnt (l : List UInt8) : (spl l).length ≤ l.length + 1 := by
  induction l with
  | nil => simp [spl]
  | cons c r ih =>
    unfold spl
    split
    · simp; omega
    · rw [glue_cnt _ _ (spl_ne r)]; simp; omega
theorem pcs_cnt (t : ByteArray) : (pcs t).length ≤ t.size + 1 := by
  unfold pcs
  rw [List.length_map]
  have := spl_cnt t.data.toList
  simpa using this
/-- Strings one behind the other. -/
def cat (ls : List ByteArray) : List UInt8 := ls.flatMap fun x => x.data.toList
theorem cat_take (ls : List ByteArray) (j : Nat) (h : j < ls.length) : cat (ls.take (j + 1)) = cat (ls.take j) ++ ls[j].data.toList := by
  rw [List.take_succ_eq_append_getElem h]; unfold cat; rw [List.flatMap_append]; simp
theorem cat_pcs (t : ByteArray) : cat (pcs t) = (spl t.data.toList).flatten := by
  unfold cat pcs
  rw [List.flatMap_map, List.flatten_eq_flatMap]
  rfl
theorem cat_append (a b : List ByteArray) : cat (a ++ b) = cat a ++ cat b := by simp [cat]
theorem cat_sub_le (ls : List ByteArray) (a b : Nat) : (cat ((ls.drop a).take b)).length ≤ (cat ls).length := by
  have e : ls = ls.take a ++ ((ls.drop a).take b ++ (ls.drop a).drop b) := by rw [List.take_append_drop, List.take_append_drop]
  have h := congrArg (fun l => (cat l).length) e
  simp only [cat_append, List.length_append] at h
  omega
theorem cat_le (t : ByteArray) (a b : Nat) : (cat (((pcs t).drop a).take b)).length ≤ t.size := by
  have h1 := cat_sub_le (pcs t) a b
  rw [cat_pcs] at h1
  have h2 := spl_len t.data.toList
  simp only [Array.length_toList] at h2
  exact Nat.le_trans h1 h2
theorem cat_one (ls : List ByteArray) (x : ByteArray) (h : x ∈ ls) : x.size ≤ (cat ls).length := by
  induction ls with
  | nil => simp at h
  | cons y r ih =>
    have e : (cat (y :: r)).length = y.size + (cat r).length := by simp [cat]
    rcases List.mem_cons.1 h with rfl | h
    · omega
    · have := ih h; omega
theorem pcs_size (t : ByteArray) (x : ByteArray) (h : x ∈ pcs t) : x.size ≤ t.size := by
  have h1 := cat_one (pcs t) x h
  rw [cat_pcs] at h1
  have h2 := spl_len t.data.toList
  simp only [Array.length_toList] at h2
  exact Nat.le_trans h1 h2

theorem al_ne (n : Nat) : al n ≠ 10 := by
  unfold al
  by_cases h : n < 64
  · have : ∀ k : Fin 64, alpha.getD k.1 0 ≠ 10 := by decide +kernel
    exact this ⟨n, h⟩
  · have hl : alpha.length = 64 := rfl
    have : alpha.getD n 0 = 0 := by rw [List.getD_eq_getElem?_getD, List.getElem?_eq_none (by omega)]; rfl
    rw [this]; decide
theorem sgn_ne (m n i : Nat) : sgn m n i ≠ 10 := by
  unfold sgn
  split
  · exact al_ne _
  · decide
theorem grp_ne (l : List UInt8) : ∀ c ∈ grp l, c ≠ 10 := by
  intro c hc
  unfold grp at hc
  simp only [List.mem_cons, List.not_mem_nil, or_false] at hc
  rcases hc with rfl | rfl | rfl | rfl <;> exact sgn_ne _ _ _
theorem enc_ne (n : Nat) : ∀ l : List UInt8, l.length ≤ n → ∀ c ∈ encB l, c ≠ 10 := by
  induction n with
  | zero => intro l h; have : l = [] := List.eq_nil_of_length_eq_zero (by omega); subst this; intro c hc; simp [encB] at hc
  | succ n ih =>
    intro l h
    match l, h with
    | [], _ => intro c hc; simp [encB] at hc
    | [a], _ => exact grp_ne _
    | [a, b], _ => exact grp_ne _
    | a :: b :: c :: r, h =>
      simp only [List.length_cons] at h
      intro d hd
      simp only [encB, List.mem_append] at hd
      rcases hd with hd | hd
      · exact grp_ne _ d hd
      · exact ih r (by omega) d hd
theorem line_data (t : ByteArray) (wd i : Nat) : (lineAt t wd i).data.toList = (t.data.toList.drop (i * wd)).take wd := by
  unfold lineAt
  rw [Go.Lib.extract_data]
  have h : t.data.toList.length = t.size := by simp
  by_cases hh : i * wd + wd ≤ t.size
  · rw [Nat.min_eq_right hh]; congr 1; omega
  · rw [Nat.min_eq_left (by omega)]
    rw [List.take_of_length_le (by rw [List.length_drop, h]; omega), List.take_of_length_le (by rw [List.length_drop, h]; omega)]
theorem cat_lns (t : ByteArray) (wd i : Nat) : cat (lns t wd i) = t.data.toList.take (i * wd) := by
  induction i with
  | zero => simp [lns, cat]
  | succ i ih =>
    rw [lns_snoc, cat_append, ih, Nat.succ_mul, List.take_add]
    congr 1
    simp [cat, line_data]
theorem cat_all (t : ByteArray) (wd : Nat) (h : 1 ≤ wd) : cat (lns t wd (cnt t wd)) = t.data.toList := by
  rw [cat_lns]
  apply List.take_of_length_le
  have := lt_cnt t wd (cnt t wd) h
  simp only [Array.length_toList]
  show t.size ≤ _
  omega
theorem enc_data (s : ByteArray) : (encS s).data.toList = encB s.data.toList := rfl

def dash : List UInt8 := [45, 45, 45, 45, 45]
def headB (n : ByteArray) : ByteArray := mk (begO ++ n.data.toList ++ dash)
def tailB (n : ByteArray) : ByteArray := mk (endO ++ n.data.toList ++ dash)
def mids (s : ByteArray) : List ByteArray := lns (encS s) 64 (cnt (encS s) 64)
def armB (n s : ByteArray) : ByteArray := ⟨(armL n s).toArray⟩
theorem arm_flat (n s : ByteArray) : armL n s = flat (headB n :: (mids s ++ [tailB n])) := by
  unfold armL
  have e1 : opn begO n = flat [headB n] := by simp [opn, flat, headB, mk, dash]
  have e2 : opn endO n = flat [tailB n] := by simp [opn, flat, tailB, mk, dash]
  rw [e1, e2, show headB n :: (mids s ++ [tailB n]) = [headB n] ++ mids s ++ [tailB n] from rfl]
  simp only [flat, List.flatMap_append, mids]
theorem name_ne (n : ByteArray) (h : nameOK n) : ∀ c ∈ n.data.toList, c ≠ 10 := by
  intro c hc e
  have := h.1 c hc
  rw [e] at this
  unfold capB at this
  have : (10 : UInt8).toNat = 10 := rfl
  omega
theorem head_ne (n : ByteArray) (h : nameOK n) : ∀ c ∈ (headB n).data.toList, c ≠ 10 := by
  intro c hc
  rw [headB, mk_data] at hc
  simp only [List.mem_append] at hc
  rcases hc with (hc | hc) | hc
  · revert hc; revert c; decide
  · exact name_ne n h c hc
  · revert hc; revert c; decide
theorem tail_ne (n : ByteArray) (h : nameOK n) : ∀ c ∈ (tailB n).data.toList, c ≠ 10 := by
  intro c hc
  rw [tailB, mk_data] at hc
  simp only [List.mem_append] at hc
  rcases hc with (hc | hc) | hc
  · revert hc; revert c; decide
  · exact name_ne n h c hc
  · revert hc; revert c; decide
theorem mids_ne (s : ByteArray) : ∀ x ∈ mids s, ∀ c ∈ x.data.toList, c ≠ 10 := by
  intro x hx c hc
  have h1 : c ∈ cat (mids s) := by simp only [cat, List.mem_flatMap]; exact ⟨x, hx, hc⟩
  unfold mids at h1
  rw [cat_all _ 64 (by omega), enc_data] at h1
  exact enc_ne _ _ (Nat.le_refl _) c h1
theorem pcs_arm (n s : ByteArray) (h : nameOK n) : pcs (armB n s) = headB n :: (mids s ++ [tailB n]) ++ [mk []] := by
  unfold pcs armB
  have e : (ByteArray.mk (armL n s).toArray).data.toList = armL n s := rfl
  rw [e, arm_flat, spl_flat]
  · rw [List.map_append, List.map_map]
    congr 1
    rw [show (mk ∘ fun x : ByteArray => x.data.toList) = id from funext mk_eq, List.map_id]
  · intro x hx
    simp only [List.mem_cons, List.mem_append, List.not_mem_nil, or_false] at hx
    rcases hx with rfl | hx | rfl
    · exact head_ne n h
    · exact mids_ne s x hx
    · exact tail_ne n h
/-- What the pieces of an armored text are. -/
theorem facts (t n s : ByteArray) (h : nameOK n) (e : t = armB n s) :
    3 ≤ (pcs t).length ∧ (∀ h0 : 0 < (pcs t).length, 17 ≤ ((pcs t)[0]).size ∧ ((pcs t)[0]).extract 11 (((pcs t)[0]).size - 5) = n) ∧ cat (((pcs t).drop 1).take ((pcs t).length - 3)) = encB s.data.toList := by
  subst e
  rw [pcs_arm n s h]
  have hz : (headB n).size = 16 + n.size := by
    unfold headB mk
    rw [mk_size]
    simp [begO, dash]
    omega
  refine ⟨by simp, fun h0 => ⟨?_, ?_⟩, ?_⟩
  · show 17 ≤ (headB n).size
    have := h.2.1
    omega
  · show (headB n).extract 11 ((headB n).size - 5) = n
    apply mk_inj
    rw [Go.Lib.extract_data, hz, headB, mk_data]
    have e1 : (begO ++ n.data.toList ++ dash).drop 11 = n.data.toList ++ dash := by
      rw [List.append_assoc, List.drop_left' (by rfl)]
    rw [e1, show 16 + n.size - 5 - 11 = n.data.toList.length by simp; omega]
    simp
  · have e2 : ((headB n :: (mids s ++ [tailB n]) ++ [mk []]).drop 1).take ((headB n :: (mids s ++ [tailB n]) ++ [mk []]).length - 3) = mids s := by
      have : (headB n :: (mids s ++ [tailB n]) ++ [mk []]).length - 3 = (mids s).length := by simp
      rw [this]
      simp
    rw [e2]
    unfold mids
    rw [cat_all _ 64 (by omega), enc_data]

/-- The library's replacement of each newline by nothing. -/
theorem repK_ne (b : UInt8) (l : List UInt8) (k : Nat) (h : b ≠ 10) : Go.Lib.replaceK [10] [] k (b :: l) = b :: Go.Lib.replaceK [10] [] k l := by
  cases k with
  | zero => rfl
  | succ k =>
    have hp : ([10] : List UInt8).isPrefixOf (b :: l) = false := by
      simp [List.isPrefixOf, Ne.symm h]
    have hge := Go.Lib.index_ge l [10]
    have e : Go.Lib.index (b :: l) [10] = if Go.Lib.index l [10] == -1 then -1 else Go.Lib.index l [10] + 1 := by
      rw [Go.Lib.index, hp]; rfl
    by_cases hm : Go.Lib.index l [10] = -1
    · rw [Go.Lib.replaceK, Go.Lib.replaceK, e, hm]; rfl
    · obtain ⟨i, hi⟩ : ∃ i : Nat, Go.Lib.index l [10] = i := ⟨(Go.Lib.index l [10]).toNat, by omega⟩
      have e2 : Go.Lib.index (b :: l) [10] = ((i + 1 : Nat) : Int) := by
        rw [e, hi]
        have : (((i : Nat) : Int) == -1) = false := by rw [beq_eq_false_iff_ne]; omega
        simp [this]
      rw [Go.Lib.replaceK_hit _ _ _ _ _ e2, Go.Lib.replaceK_hit _ _ _ _ _ hi]
      simp
theorem rep_filter (l : List UInt8) : Go.Lib.replaceK [10] [] (Go.Lib.count l [10]) l = l.filter (· != 10) := by
  induction l with
  | nil => rfl
  | cons b l ih =>
    by_cases h : b = 10
    · subst h
      have e : Go.Lib.index (10 :: l) [10] = ((0 : Nat) : Int) := by rw [Go.Lib.index]; simp [List.isPrefixOf]
      rw [Go.Lib.count_cons_eq, Nat.add_comm, Go.Lib.replaceK_hit _ _ _ _ _ e]
      simp [ih]
    · rw [Go.Lib.count_cons_ne b 10 l h, repK_ne b l _ h, ih]
      simp [h]
theorem rep_all (l : List UInt8) : Go.Lib.replaceAll l [10] [] = l.filter (· != 10) := by
  unfold Go.Lib.replaceAll Go.Lib.replace
  rw [if_neg (by decide)]
  have : Go.Lib.replaceNum l [10] (-1) = Go.Lib.count l [10] := by unfold Go.Lib.replaceNum; rw [if_pos (Or.inl (by decide))]
  rw [this, rep_filter]
theorem fil_self (x : List UInt8) (h : ∀ c ∈ x, c ≠ 10) : x.filter (· != 10) = x := by
  rw [List.filter_eq_self]
  intro c hc
  simpa using h c hc
theorem fil_flat (ls : List ByteArray) (h : ∀ x ∈ ls, ∀ c ∈ x.data.toList, c ≠ 10) : (flat ls).filter (· != 10) = cat ls := by
  induction ls with
  | nil => rfl
  | cons x r ih =>
    have e : flat (x :: r) = x.data.toList ++ 10 :: flat r := by simp [flat]
    rw [e, List.filter_append, fil_self _ (h x (by simp)), List.filter_cons_of_neg (by decide), ih (fun y hy => h y (by simp [hy]))]
    simp [cat]
theorem cut_line (x r : List UInt8) (h : ∀ c ∈ x, c ≠ 10) : Go.Lib.cut (x ++ 10 :: r) [10] = (x, r, true) := by
  have hi : Go.Lib.index (x ++ 10 :: r) [10] = ((x.length : Nat) : Int) := by
    induction x with
    | nil => rw [List.nil_append, Go.Lib.index]; simp [List.isPrefixOf]
    | cons b l ih =>
      have hb : b ≠ 10 := h b (by simp)
      have hp : ([10] : List UInt8).isPrefixOf (b :: (l ++ 10 :: r)) = false := by simp [List.isPrefixOf, Ne.symm hb]
      have ih' := ih (fun c hc => h c (by simp [hc]))
      rw [List.cons_append, Go.Lib.index, hp, ih']
      have : (((l.length : Nat) : Int) == -1) = false := by rw [beq_eq_false_iff_ne]; omega
      simp [this]
  unfold Go.Lib.cut
  rw [if_pos (by omega), hi]
  simp
theorem arm_cut (n s : ByteArray) (h : nameOK n) : Go.Lib.cut (armL n s) [10] = ((headB n).data.toList, flat (mids s) ++ opn endO n, true) := by
  have e : armL n s = (headB n).data.toList ++ 10 :: (flat (mids s) ++ opn endO n) := by
    rw [arm_flat]
    have e2 : opn endO n = flat [tailB n] := by simp [opn, flat, tailB, mk, dash]
    rw [e2]
    simp [flat]
  rw [e, cut_line _ _ (head_ne n h)]
theorem trim_pre (a b : List UInt8) : Go.Lib.trimPrefix (a ++ b) a = b := by
  unfold Go.Lib.trimPrefix Go.Lib.hasPrefix
  rw [if_pos (by rw [List.isPrefixOf_iff_prefix]; exact ⟨b, rfl⟩)]
  simp
theorem trim_suf (a b : List UInt8) : Go.Lib.trimSuffix (a ++ b) b = a := by
  unfold Go.Lib.trimSuffix Go.Lib.hasSuffix
  rw [if_pos (by rw [List.isSuffixOf_iff_suffix]; exact ⟨a, rfl⟩)]
  simp
/-- What the program takes for the name and for the body. -/
def loN (t : List UInt8) : List UInt8 := Go.Lib.trimSuffix (Go.Lib.trimPrefix (Go.Lib.cut t [10]).1 begO) dash
def loB (t : List UInt8) : List UInt8 := Go.Lib.trimSuffix (Go.Lib.cut t [10]).2.1 (opn endO (mk (loN t)))
def loS (t : List UInt8) : List UInt8 := (loB t).filter (· != 10)
theorem lo_arm (t n s : ByteArray) (h : nameOK n) (e : t = armB n s) : mk (loN t.data.toList) = n ∧ loS t.data.toList = encB s.data.toList := by
  subst e
  have e : (armB n s).data.toList = armL n s := rfl
  have en : loN (armL n s) = n.data.toList := by
    unfold loN
    rw [arm_cut n s h]
    show Go.Lib.trimSuffix (Go.Lib.trimPrefix (headB n).data.toList begO) dash = _
    rw [headB, mk_data, List.append_assoc, trim_pre, trim_suf]
  refine ⟨by rw [e, en, mk_eq], ?_⟩
  rw [e]
  unfold loS loB
  rw [en, mk_eq, arm_cut n s h]
  show (Go.Lib.trimSuffix (flat (mids s) ++ opn endO n) (opn endO n)).filter _ = _
  rw [trim_suf, fil_flat _ (mids_ne s)]
  unfold mids
  rw [cat_all _ 64 (by omega), enc_data]
theorem cut_le (t : List UInt8) : (Go.Lib.cut t [10]).1.length ≤ t.length ∧ (Go.Lib.cut t [10]).2.1.length ≤ t.length := by
  unfold Go.Lib.cut
  split <;> simp
  omega
theorem pre_le (a b : List UInt8) : (Go.Lib.trimPrefix a b).length ≤ a.length := by unfold Go.Lib.trimPrefix; split <;> simp
theorem suf_le (a b : List UInt8) : (Go.Lib.trimSuffix a b).length ≤ a.length := by unfold Go.Lib.trimSuffix; split <;> simp
theorem loN_le (t : List UInt8) : (loN t).length ≤ t.length := Nat.le_trans (suf_le _ _) (Nat.le_trans (pre_le _ _) (cut_le t).1)
theorem loB_le (t : List UInt8) : (loB t).length ≤ t.length := Nat.le_trans (suf_le _ _) (cut_le t).2
theorem loS_le (t : List UInt8) : (loS t).length ≤ t.length := Nat.le_trans (List.length_filter_le _ _) (loB_le t)
/-- The encoding of a text is decoded to it. -/
theorem enc_ok (s : ByteArray) (g : ByteArray) (h : g.data.toList = encB s.data.toList) : OfSig.okS g ∧ mk (decS g.data.toList) = s := by
  refine ⟨⟨?_, ?_⟩, ?_⟩
  · have : g.size = (encB s.data.toList).length := by rw [← h]; simp
    rw [this, enc_len]; omega
  · rw [h, decS_enc]
  · rw [h, decS_enc, mk_eq]
end Go.Proofs.YtfoclgijhkibeabDoor.OaM
