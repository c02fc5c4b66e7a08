/-
  Armored text: contracts of the reference and of the program, and the walk of the law on ArmorOf.
-/
import Derived.Test.YtfoclgijhkibeabDoorLines
import Derived.Test.YtfoclgijhkibeabDoorName
import Derived.Test.YtfoclgijhkibeabDoorBld
namespace Go.Proofs.YtfoclgijhkibeabDoor.Armor
open Go.ChangeShapes Go.WideShapes Go.ChangeAt Go.RowKit
open Go.Proofs.YtfoclgijhkibeabDoor.Mem Go.Proofs.YtfoclgijhkibeabDoor.Ints Go.Proofs.YtfoclgijhkibeabDoor.Strs Go.Proofs.YtfoclgijhkibeabDoor.Lines Go.Proofs.YtfoclgijhkibeabDoor.SigM Go.Proofs.YtfoclgijhkibeabDoor.SigS Go.Proofs.YtfoclgijhkibeabDoor.SigI Go.Proofs.YtfoclgijhkibeabDoor.Name
set_option linter.unusedVariables false
set_option maxRecDepth 100000

def flat (ls : List ByteArray) : List UInt8 := ls.flatMap fun x => x.data.toList ++ [10]
theorem flat_snoc (ls : List ByteArray) (x : ByteArray) : flat (ls ++ [x]) = flat ls ++ (x.data.toList ++ [10]) := by simp [flat]
theorem flat_take (ls : List ByteArray) (j : Nat) (h : j < ls.length) : flat (ls.take (j + 1)) = flat (ls.take j) ++ (ls[j].data.toList ++ [10]) := by
  rw [List.take_succ_eq_append_getElem h, flat_snoc]
def opn (o : List UInt8) (n : ByteArray) : List UInt8 := o ++ n.data.toList ++ [45, 45, 45, 45, 45, 10]
def begO : List UInt8 := [45, 45, 45, 45, 45, 66, 69, 71, 73, 78, 32]
def endO : List UInt8 := [45, 45, 45, 45, 45, 69, 78, 68, 32]
def encS (s : ByteArray) : ByteArray := ⟨(encB s.data.toList).toArray⟩
def armL (n s : ByteArray) : List UInt8 := opn begO n ++ flat (lns (encS s) 64 (cnt (encS s) 64)) ++ opn endO n
theorem encS_size (s : ByteArray) : (encS s).size = (s.size + 2) / 3 * 4 := by
  unfold encS; rw [mk_size, enc_len]; simp
theorem line_le (t : ByteArray) (wd i : Nat) : (lineAt t wd i).size ≤ wd := by unfold lineAt; rw [ByteArray.size_extract]; omega
theorem lns_get (t : ByteArray) (wd i j : Nat) (h : j < (lns t wd i).length) : (lns t wd i)[j] = lineAt t wd j := by simp [lns]
theorem lns_len (t : ByteArray) (wd i : Nat) : (lns t wd i).length = i := by simp [lns]
theorem app_list (a b : ByteArray) : (a ++ b).data.toList = a.data.toList ++ b.data.toList := by
  rw [ByteArray.data_append, Array.toList_append]

theorem armorLine (o n : ByteArray) (w : World) (h0 : o.size ≤ 100) (h1 : n.size ≤ 1000) :
    Calls Tryd.prog 82 #[.string o, .string n] w fun e w' => e = .returned (.string ⟨(opn o.data.toList n).toArray⟩) ∧ w = w' := by
  have e1 : o ++ n ++ (⟨#[45, 45, 45, 45, 45]⟩ : ByteArray) ++ (⟨#[10]⟩ : ByteArray) = ⟨(opn o.data.toList n).toArray⟩ := by
    apply ByteArray.ext
    apply Array.toList_inj.1
    rw [app_list, app_list, app_list]
    simp [opn]
  have HE := Lib.hid e1
  have s1 : (o ++ n).size = o.size + n.size := ByteArray.size_append
  have a1 : ∀ W, (Op.stringOp .add o n).run Tryd.prog W = .ok (.string (o ++ n)) W := fun W => run_string_add_sum W o n (by omega)
  have a2 : ∀ W, (Op.stringOp .add (o ++ n) ⟨#[45, 45, 45, 45, 45]⟩).run Tryd.prog W = .ok (.string (o ++ n ++ ⟨#[45, 45, 45, 45, 45]⟩)) W := fun W => run_string_add_sum W _ _ (by rw [s1]; show _ + 5 ≤ _; omega)
  have s2 : (o ++ n ++ (⟨#[45, 45, 45, 45, 45]⟩ : ByteArray)).size = o.size + n.size + 5 := by rw [ByteArray.size_append, s1]; rfl
  have a3 : ∀ W, (Op.stringOp .add (o ++ n ++ ⟨#[45, 45, 45, 45, 45]⟩) ⟨#[10]⟩).run Tryd.prog W = .ok (.string (o ++ n ++ ⟨#[45, 45, 45, 45, 45]⟩ ++ ⟨#[10]⟩)) W := fun W => run_string_add_sum W _ _ (by rw [s2]; show _ + 1 ≤ _; omega)
  clear e1 s1 s2
  go_enter Tryd.func82, Tryd.ntmps82
  go_wp2
  go_ret
  exact ⟨by rw [← HE.out]; rfl, rfl⟩

theorem add3 (a b c : ByteArray) (l : List UInt8) (h : a.data.toList ++ b.data.toList ++ c.data.toList = l) : a ++ b ++ c = ⟨l.toArray⟩ := by
  apply ByteArray.ext; apply Array.toList_inj.1; rw [app_list, app_list]; simpa using h
theorem addS (a b : ByteArray) (W : World) (h : a.size + b.size ≤ 1000000) : (Op.stringOp .add a b).run Tryd.prog W = .ok (.string (a ++ b)) W := run_string_add_sum W a b (by omega)
theorem size_l (a : ByteArray) : a.data.toList.length = a.size := by simp
def nl : ByteArray := ⟨#[10]⟩

set_option maxHeartbeats 4000000 in
theorem specArmor (n s : ByteArray) (w : World) (hn : n.size ≤ 16) (hs : s.size ≤ 600) :
    Calls Tryd.prog 73 #[.string n, .string s] w fun e w' => e = .returned (.string ⟨(armL n s).toArray⟩) ∧ Below w.heap.size w w' := by
  have hes : (encS s).size ≤ 800 := by rw [encS_size]; omega
  have C1 := Lib.hid (fun W => l3Signs s W (by omega))
  have C2 := Lib.hid (fun W => l3Lines (encS s) 64 W (by omega) (by omega) (by omega))
  have hcn := cnt_le (encS s) 64 (by omega)
  have HLL := Lib.hid (lns_len (encS s) 64 (cnt (encS s) 64))
  have HLG := Lib.hid (fun j h => lns_get (encS s) 64 (cnt (encS s) 64) j h)
  have HA : Hid (armL n s = opn begO n ++ flat (lns (encS s) 64 (cnt (encS s) 64)) ++ opn endO n) := Lib.hid rfl
  have HLE := Lib.hid (fun j => line_le (encS s) 64 j)
  unfold Made at C2
  change Hid (∀ W, Calls _ _ #[_] W fun e w' => e = .returned (.string (encS s)) ∧ _) at C1
  generalize encS s = t at *
  generalize cnt t 64 = k at *
  generalize lns t 64 k = ls at *
  have hk : k ≤ 800 := by omega
  have hcn' := hcn
  clear hcn
  have b1 : ∀ W, (Op.stringOp .add ⟨#[45, 45, 45, 45, 45, 66, 69, 71, 73, 78, 32]⟩ n).run Tryd.prog W = .ok (.string (⟨#[45, 45, 45, 45, 45, 66, 69, 71, 73, 78, 32]⟩ ++ n)) W := fun W => addS _ _ W (by show 11 + _ ≤ _; omega)
  have z1 : ((⟨#[45, 45, 45, 45, 45, 66, 69, 71, 73, 78, 32]⟩ : ByteArray) ++ n).size = 11 + n.size := by rw [ByteArray.size_append]; rfl
  have b2 : ∀ W, (Op.stringOp .add (⟨#[45, 45, 45, 45, 45, 66, 69, 71, 73, 78, 32]⟩ ++ n) ⟨#[45, 45, 45, 45, 45, 10]⟩).run Tryd.prog W = .ok (.string (⟨#[45, 45, 45, 45, 45, 66, 69, 71, 73, 78, 32]⟩ ++ n ++ ⟨#[45, 45, 45, 45, 45, 10]⟩)) W := fun W => addS _ _ W (by rw [z1]; show _ + 6 ≤ _; omega)
  have z2 : ((⟨#[45, 45, 45, 45, 45, 66, 69, 71, 73, 78, 32]⟩ : ByteArray) ++ n ++ ⟨#[45, 45, 45, 45, 45, 10]⟩).size = 17 + n.size := by rw [ByteArray.size_append, z1]; show 11 + n.size + 6 = _; omega
  have HO1 : Hid (((⟨#[45, 45, 45, 45, 45, 66, 69, 71, 73, 78, 32]⟩ : ByteArray) ++ n ++ ⟨#[45, 45, 45, 45, 45, 10]⟩).data.toList = opn begO n ++ flat (ls.take 0)) := Lib.hid (by rw [app_list, app_list]; simp [opn, begO, flat])
  have hz2 : ((⟨#[45, 45, 45, 45, 45, 66, 69, 71, 73, 78, 32]⟩ : ByteArray) ++ n ++ ⟨#[45, 45, 45, 45, 45, 10]⟩).size ≤ 33 := by omega
  clear z1 z2
  generalize ((⟨#[45, 45, 45, 45, 45, 66, 69, 71, 73, 78, 32]⟩ : ByteArray) ++ n ++ ⟨#[45, 45, 45, 45, 45, 10]⟩) = o1 at *
  go_enter Tryd.func73, Tryd.ntmps73
  go_wp2_with fail
  refine (C1.out _).mono ?_
  rintro e w1 ⟨rfl, hb1⟩
  go_wp2_with fail
  refine (C2.out _).mono ?_
  rintro e w2 ⟨v, rfl, ho, hb2⟩
  dsimp only [id]
  obtain ⟨A, c, rfl⟩ := own_shapeS ho
  have hz := hb1.size
  have hB : Below w.heap.size w w2 := hb1.trans (hb2.mono hz)
  have HRd := Lib.hid (Rd.own ho)
  clear ho hb1 hb2 C1 C2 b1 b2
  go_wp2
  go_loop [5, 15] (fun v i => ∃ (j : Nat) (o : ByteArray), j ≤ k ∧ i = .int .i64 j ∧ v = .string o ∧ o.size ≤ 33 + 65 * j ∧ Hid (o.data.toList = opn begO n ++ flat (ls.take j))) (fun _ i => k - (intOf i).toNat)
  case atStart => exact ⟨0, o1, by omega, rfl, rfl, by omega, HO1⟩
  case round =>
    obtain ⟨j, o, hj, rfl, rfl, hoz, HOO⟩ := hrel
    by_cases hlt : j < k
    · obtain ⟨b, off, hl, rfl, _, hc⟩ := rd_str HRd.out hlt
      have hx64 : (ls[j]).size ≤ 64 := by rw [HLG.out j hl]; exact HLE.out j
      have HF := Lib.hid (flat_take ls j hl)
      generalize ls[j] = x at *
      have i0 : (0 : Int) ≤ (j : Int) := by omega
      have i1 : (j : Int) < (k : Int) := by omega
      have q1 : ∀ W, (Op.stringOp .add x ⟨#[10]⟩).run Tryd.prog W = .ok (.string (x ++ ⟨#[10]⟩)) W := fun W => addS _ _ W (by show _ + 1 ≤ _; omega)
      have y1 : (x ++ (⟨#[10]⟩ : ByteArray)).size = x.size + 1 := by rw [ByteArray.size_append]; rfl
      have q2 : ∀ W, (Op.stringOp .add o (x ++ ⟨#[10]⟩)).run Tryd.prog W = .ok (.string (o ++ (x ++ ⟨#[10]⟩))) W := fun W => addS _ _ W (by rw [y1]; omega)
      have Y2 : Hid ((o ++ (x ++ (⟨#[10]⟩ : ByteArray))).size ≤ 33 + 65 * (j + 1)) := Lib.hid (by rw [ByteArray.size_append, y1]; omega)
      have HN : Hid ((o ++ (x ++ (⟨#[10]⟩ : ByteArray))).data.toList = opn begO n ++ flat (ls.take (j + 1))) := Lib.hid (by rw [HF.out, app_list, app_list, HOO.out, List.append_assoc])
      clear y1
      go_wp2
      go_round
      case rel => exact ⟨j + 1, _, by omega, by go_num, rfl, Y2.out, HN⟩
      case measure => simp [intOf]; omega
    · obtain rfl : j = k := by omega
      have q1 : ∀ W, (Op.stringOp .add o ⟨#[45, 45, 45, 45, 45, 69, 78, 68, 32]⟩).run Tryd.prog W = .ok (.string (o ++ ⟨#[45, 45, 45, 45, 45, 69, 78, 68, 32]⟩)) W := fun W => addS _ _ W (by show _ + 9 ≤ _; omega)
      have y1 : (o ++ (⟨#[45, 45, 45, 45, 45, 69, 78, 68, 32]⟩ : ByteArray)).size = o.size + 9 := by rw [ByteArray.size_append]; rfl
      have q2 : ∀ W, (Op.stringOp .add (o ++ ⟨#[45, 45, 45, 45, 45, 69, 78, 68, 32]⟩) n).run Tryd.prog W = .ok (.string (o ++ ⟨#[45, 45, 45, 45, 45, 69, 78, 68, 32]⟩ ++ n)) W := fun W => addS _ _ W (by rw [y1]; omega)
      have y2 : (o ++ (⟨#[45, 45, 45, 45, 45, 69, 78, 68, 32]⟩ : ByteArray) ++ n).size = o.size + 9 + n.size := by rw [ByteArray.size_append, y1]
      have q3 : ∀ W, (Op.stringOp .add (o ++ ⟨#[45, 45, 45, 45, 45, 69, 78, 68, 32]⟩ ++ n) ⟨#[45, 45, 45, 45, 45, 10]⟩).run Tryd.prog W = .ok (.string (o ++ ⟨#[45, 45, 45, 45, 45, 69, 78, 68, 32]⟩ ++ n ++ ⟨#[45, 45, 45, 45, 45, 10]⟩)) W := fun W => addS _ _ W (by rw [y2]; show _ + 6 ≤ _; omega)
      have HE : Hid (o ++ ⟨#[45, 45, 45, 45, 45, 69, 78, 68, 32]⟩ ++ n ++ ⟨#[45, 45, 45, 45, 45, 10]⟩ = ⟨(armL n s).toArray⟩) := Lib.hid (by
        apply ByteArray.ext; apply Array.toList_inj.1
        rw [app_list, app_list, app_list, HOO.out, HA.out, List.take_of_length_le (by rw [HLL.out]; exact Nat.le_refl _)]
        simp [opn, endO])
      clear y1 y2
      go_wp2
      go_ret
      exact ⟨by rw [← HE.out]; rfl, hB⟩

theorem cells_app (l : List UInt8) (s : ByteArray) : Lib.byteCells l ++ Lib.strCells s = Lib.byteCells (l ++ s.data.toList) := by
  simp [Lib.byteCells, Lib.strCells]
theorem cells_len (l : List UInt8) : (Lib.byteCells l).length = l.length := by simp [Lib.byteCells]
/-- A string written behind the bytes that the builder holds. -/
theorem writeL (B b : Nat) (l l' : List UInt8) (s : ByteArray) (w : World) (h : Lib.IsBuilder 97 5 B b (Lib.byteCells l) w) (hlen : l.length + s.size ≤ 1000000) (hBw : B ≤ w.heap.size) (hl : l ++ s.data.toList = l') :
    Calls Tryd.prog 81 #[.pointer (some ⟨b, 0, none⟩), .string s] w fun e w' => e = .returned (.tuple #[.int .i64 s.size, .nilIface]) ∧ Lib.IsBuilder 97 5 B b (Lib.byteCells l') w' ∧ Below B w w' := by
  refine (Bld.write B b (Lib.byteCells l) s w h (by rw [cells_len]; omega) hBw).mono ?_
  rintro e w' ⟨rfl, h1, h2⟩
  rw [cells_app, hl] at h1
  exact ⟨rfl, h1, h2⟩
theorem flat_le (ls : List ByteArray) (h : ∀ x ∈ ls, x.size ≤ 64) : (flat ls).length ≤ 65 * ls.length := by
  induction ls with
  | nil => simp [flat]
  | cons x r ih =>
    have h1 := h x (by simp)
    have h2 := ih (fun y hy => h y (by simp [hy]))
    simp only [flat, List.flatMap_cons, List.length_append, List.length_cons, List.length_nil, size_l] at h2 ⊢
    omega
theorem flat_take_le (ls : List ByteArray) (j : Nat) (h : ∀ i (hi : i < ls.length), ls[i].size ≤ 64) (hj : j ≤ ls.length) : (flat (ls.take j)).length ≤ 65 * j := by
  have := flat_le (ls.take j) (fun x hx => by
    obtain ⟨i, hi, rfl⟩ := List.getElem_of_mem (List.mem_of_mem_take hx)
    exact h i hi)
  rw [List.length_take, Nat.min_eq_left hj] at this
  exact this
theorem opn_len (o : List UInt8) (n : ByteArray) : (opn o n).length = o.length + n.size + 6 := by simp [opn]; omega

set_option maxHeartbeats 4000000 in
theorem implArmor (n s : ByteArray) (w : World) (hn : n.size ≤ 16) (hs : s.size ≤ 600) (hok : nameOK n) :
    Calls Tryd.prog 21 #[.string n, .string s] w fun e w' => e = .returned (.tuple #[.string ⟨(armL n s).toArray⟩, .bool true]) ∧ Below w.heap.size w w' := by
  have hes : (encS s).size ≤ 800 := by rw [encS_size]; omega
  have C1 := Lib.hid (fun W => implSigns s W (by omega))
  have C2 := Lib.hid (fun W => implLines (encS s) 64 W (by omega) (by omega) (by omega))
  have C3 := Lib.hid (fun W => implName n true W (by unfold maxLen; omega) (Lib.hid fun _ => rfl) (Lib.hid fun h => absurd hok h))
  have C4 := Lib.hid (fun W => armorLine ⟨#[45, 45, 45, 45, 45, 66, 69, 71, 73, 78, 32]⟩ n W (by decide) (by omega))
  have C5 := Lib.hid (fun W => armorLine ⟨#[45, 45, 45, 45, 45, 69, 78, 68, 32]⟩ n W (by decide) (by omega))
  have hcn := cnt_le (encS s) 64 (by omega)
  have HLL := Lib.hid (lns_len (encS s) 64 (cnt (encS s) 64))
  have HLG := Lib.hid (fun j h => lns_get (encS s) 64 (cnt (encS s) 64) j h)
  have HA : Hid (armL n s = opn begO n ++ flat (lns (encS s) 64 (cnt (encS s) 64)) ++ opn endO n) := Lib.hid rfl
  have HLE := Lib.hid (fun j => line_le (encS s) 64 j)
  unfold Made at C2
  change Hid (∀ W, Calls _ _ #[_] W fun e w' => e = .returned (.tuple #[.string (encS s), .bool true]) ∧ _) at C1
  change Hid (∀ W, Calls _ _ #[_, _] W fun e w' => e = .returned (.string ⟨(opn begO n).toArray⟩) ∧ _) at C4
  change Hid (∀ W, Calls _ _ #[_, _] W fun e w' => e = .returned (.string ⟨(opn endO n).toArray⟩) ∧ _) at C5
  generalize encS s = t at *
  generalize cnt t 64 = k at *
  generalize lns t 64 k = ls at *
  have hk : k ≤ 800 := by omega
  clear hcn hok
  have lb := opn_len begO n
  have le := opn_len endO n
  have lb' : (opn begO n).length ≤ 33 := by rw [lb]; show 11 + _ + 6 ≤ _; omega
  have le' : (opn endO n).length ≤ 33 := by rw [le]; show 9 + _ + 6 ≤ _; omega
  have HLB := Lib.hid lb'
  have HLE' := Lib.hid le'
  clear lb le lb' le'
  generalize ho1 : opn begO n = o1 at *
  generalize ho2 : opn endO n = o2 at *
  clear ho1 ho2
  go_enter Tryd.func21, Tryd.ntmps21
  go_wp2_with fail
  refine (C1.out _).mono ?_
  rintro e w1 ⟨rfl, hb1⟩
  go_wp2_with fail
  refine (C3.out _).mono ?_
  rintro e w' ⟨rfl, rfl⟩
  go_wp2_with fail
  refine (C2.out _).mono ?_
  rintro e w2 ⟨v, rfl, ho, hb2⟩
  dsimp only
  obtain ⟨A, c, rfl⟩ := own_shapeS ho
  have hz := hb1.size
  have hB : Below w.heap.size w w2 := hb1.trans (hb2.mono hz)
  have hzB := hB.size
  have HRd := Lib.hid (Rd.own ho)
  have HBd := Lib.hid (Lib.fresh_isBuilder 97 5 w2)
  clear ho hb1 hb2 C1 C2 C3
  go_wp2_with fail
  refine (C4.out _).mono ?_
  rintro e w' ⟨rfl, rfl⟩
  have hal : Below w2.heap.size w2 (w2.alloc (.cells #[.pointer none, .slice none 0 0] 97)) := (Below.refl _ _).alloc (Nat.le_refl _) _
  generalize w2.alloc (.cells #[.pointer none, .slice none 0 0] 97) = w3 at *
  have hz3 := hal.size
  go_wp2_with fail
  refine (writeL w2.heap.size w2.heap.size [] o1 ⟨o1.toArray⟩ w3 HBd.out (by rw [mk_size]; have := HLB.out; simp; omega) hz3 (by simp)).mono ?_
  rintro e w4 ⟨rfl, hbd, hb4⟩
  have H4 := Lib.hid hbd
  have hB4 : Below w2.heap.size w2 w4 := hal.trans hb4
  clear hbd hb4 HBd C4
  go_wp2
  go_loopw [36] (fun i wr => ∃ j : Nat, j ≤ k ∧ i = .int .i64 j ∧ Lib.IsBuilder 97 5 w2.heap.size w2.heap.size (Lib.byteCells (o1 ++ flat (ls.take j))) wr ∧ Below w2.heap.size w2 wr) (fun i _ => k - (intOf i).toNat)
  case atStart => exact ⟨0, by omega, rfl, by simpa [flat] using H4.out, hB4⟩
  case round =>
    clear H4 hB4
    obtain ⟨j, hj, rfl, hbd, hb⟩ := hrel
    have HBd := Lib.hid hbd
    clear hbd
    have hbz := hb.size
    have hfl : (flat (ls.take j)).length ≤ 65 * j := flat_take_le ls j (fun i hi => by rw [HLG.out i hi]; exact HLE.out i) (by rw [HLL.out]; exact hj)
    have HFL : Hid ((o1 ++ flat (ls.take j)).length ≤ 33 + 65 * j) := Lib.hid (by rw [List.length_append]; have := HLB.out; omega)
    by_cases hlt : j < k
    · obtain ⟨b, off, hl, rfl, _, hc⟩ := rd_str (HRd.out.below hb (Nat.le_refl _)) hlt
      have hx64 : (ls[j]).size ≤ 64 := by rw [HLG.out j hl]; exact HLE.out j
      have HF : Hid (o1 ++ flat (ls.take (j + 1)) = (o1 ++ flat (ls.take j)) ++ (ls[j].data.toList ++ [10])) := Lib.hid (by rw [flat_take ls j hl, List.append_assoc])
      generalize ls[j] = x at *
      have i0 : (0 : Int) ≤ (j : Int) := by omega
      have i1 : (j : Int) < (k : Int) := by omega
      have q1 : ∀ W, (Op.stringOp .add x ⟨#[10]⟩).run Tryd.prog W = .ok (.string (x ++ ⟨#[10]⟩)) W := fun W => addS _ _ W (by show _ + 1 ≤ _; omega)
      have C := Lib.hid (writeL w2.heap.size w2.heap.size (o1 ++ flat (ls.take j)) (o1 ++ flat (ls.take (j + 1))) (x ++ ⟨#[10]⟩) wr HBd.out (by rw [ByteArray.size_append]; have := HFL.out; show _ + (_ + 1) ≤ _; omega) hbz (by rw [HF.out, app_list]))
      generalize (x ++ (⟨#[10]⟩ : ByteArray)) = y at *
      clear hfl
      go_wp2_with (go_at_call 81; with_reducible refine C.out.mono ?_; rintro e w5 ⟨rfl, hbd, hb5⟩; have H5 := Lib.hid hbd; have hB5 : Below w2.heap.size w2 w5 := hb.trans hb5; clear hbd hb5)
      go_roundw
      case rel => exact ⟨j + 1, by omega, by go_num, H5.out, hB5⟩
      case measure => simp [intOf]; omega
    · obtain rfl : j = k := by omega
      have C := Lib.hid (writeL w2.heap.size w2.heap.size (o1 ++ flat (ls.take j)) (armL n s) ⟨o2.toArray⟩ wr HBd.out (by rw [mk_size]; have := HFL.out; have := HLE'.out; omega) hbz (by rw [HA.out, List.take_of_length_le (by rw [HLL.out]; exact Nat.le_refl _)]))
      have hal2 : (armL n s).length ≤ 100000 := by
        have h1 := HFL.out
        have h2 := HLE'.out
        rw [List.take_of_length_le (by rw [HLL.out]; exact Nat.le_refl _)] at h1
        rw [HA.out, List.length_append]; omega
      clear hfl HFL HA
      generalize hal3 : armL n s = al at *
      have HAL := Lib.hid hal3
      clear hal3
      go_wp2_with fail
      refine (C5.out _).mono ?_
      rintro e w' ⟨rfl, rfl⟩
      go_wp2_with fail
      refine C.out.mono ?_
      rintro e w5 ⟨rfl, hbd, hb5⟩
      have H5 := Lib.hid hbd
      have hB5 : Below w2.heap.size w2 w5 := hb.trans hb5
      have hz5 := hB5.size
      clear hbd hb5 C C5
      go_wp2_with fail
      refine (Tryd.Builder_String_any w2.heap.size w2.heap.size al w5 H5.out hz5).mono ?_
      rintro e w6 ⟨rfl, hb6⟩
      have hB6 : Below w.heap.size w w6 := hB.trans ((hB5.trans hb6).mono hzB)
      clear hb6 H5
      go_wp2
      go_ret2
      exact ⟨by rw [HAL.out]; rfl, hB6⟩
theorem implNoName (n s : ByteArray) (w : World) (hm : n.size ≤ maxLen) (hs : s.size ≤ 600) (hno : ¬ nameOK n) :
    Calls Tryd.prog 21 #[.string n, .string s] w fun e w' => e = .returned (.tuple #[.string ⟨#[]⟩, .bool false]) ∧ Below w.heap.size w w' := by
  have C1 := Lib.hid (fun W => implSigns s W hs)
  have C3 := Lib.hid (fun W => implName n false W hm (Lib.hid fun h => absurd h hno) (Lib.hid fun _ => rfl))
  clear hno
  go_enter Tryd.func21, Tryd.ntmps21
  go_wp2_with fail
  refine (C1.out _).mono ?_
  rintro e w1 ⟨rfl, hb1⟩
  go_wp2_with fail
  refine (C3.out _).mono ?_
  rintro e w' ⟨rfl, rfl⟩
  go_wp2
  go_ret2
  exact ⟨rfl, hb1⟩
theorem implLongS (n s : ByteArray) (w : World) (hm : s.size ≤ maxLen) (hs : 600 < s.size) :
    Calls Tryd.prog 21 #[.string n, .string s] w fun e w' => e = .returned (.tuple #[.string ⟨#[]⟩, .bool false]) ∧ Below w.heap.size w w' := by
  have C1 := Lib.hid (fun W => implLong s W hs hm)
  go_enter Tryd.func21, Tryd.ntmps21
  go_wp2_with fail
  refine (C1.out _).mono ?_
  rintro e w' ⟨rfl, rfl⟩
  go_wp2
  go_ret2
  exact ⟨rfl, Below.refl _ _⟩
theorem specYesA (n s : ByteArray) (w : World) (hs : s.size ≤ 600) (hok : nameOK n) :
    Calls Tryd.prog 22 #[.string n, .string s] w fun e w' => e = .returned (.tuple #[.string ⟨(armL n s).toArray⟩, .bool true]) ∧ Below w.heap.size w w' := by
  have C3 := Lib.hid (fun W => specName n true W (by have := hok.2.2; unfold maxLen; omega) (Lib.hid fun _ => rfl) (Lib.hid fun h => absurd hok h))
  have C := Lib.hid (fun W => specArmor n s W hok.2.2 hs)
  clear hok
  generalize (ByteArray.mk (armL n s).toArray) = u at *
  go_enter Tryd.func22, Tryd.ntmps22
  go_wp2_with fail
  refine (C3.out _).mono ?_
  rintro e w' ⟨rfl, rfl⟩
  go_wp2_with fail
  refine (C.out _).mono ?_
  rintro e w1 ⟨rfl, hb1⟩
  go_wp2
  go_ret2
  exact ⟨rfl, hb1⟩
theorem specNoA (n s : ByteArray) (w : World) (hm : n.size ≤ maxLen) (hm2 : s.size ≤ maxLen) (h : ¬ (nameOK n ∧ s.size ≤ 600)) :
    Calls Tryd.prog 22 #[.string n, .string s] w fun e w' => e = .returned (.tuple #[.string ⟨#[]⟩, .bool false]) ∧ w = w' := by
  by_cases hok : nameOK n
  · have hs : 600 < s.size := by
      apply Classical.byContradiction
      intro hh; exact h ⟨hok, by omega⟩
    have C3 := Lib.hid (fun W => specName n true W hm (Lib.hid fun _ => rfl) (Lib.hid fun h => absurd hok h))
    clear hok h hm
    unfold maxLen at hm2
    go_enter Tryd.func22, Tryd.ntmps22
    go_wp2_with fail
    refine (C3.out _).mono ?_
    rintro e w' ⟨rfl, rfl⟩
    go_wp2
    go_ret2
    exact ⟨rfl, rfl⟩
  · have C3 := Lib.hid (fun W => specName n false W hm (Lib.hid fun h => absurd h hok) (Lib.hid fun _ => rfl))
    clear hok h hm hm2
    go_enter Tryd.func22, Tryd.ntmps22
    go_wp2_with fail
    refine (C3.out _).mono ?_
    rintro e w' ⟨rfl, rfl⟩
    go_wp2
    go_ret2
    exact ⟨rfl, rfl⟩
theorem implNoA (n s : ByteArray) (w : World) (hm : n.size ≤ maxLen) (hm2 : s.size ≤ maxLen) (h : ¬ (nameOK n ∧ s.size ≤ 600)) :
    Calls Tryd.prog 21 #[.string n, .string s] w fun e w' => e = .returned (.tuple #[.string ⟨#[]⟩, .bool false]) ∧ Below w.heap.size w w' := by
  by_cases hs : s.size ≤ 600
  · exact implNoName n s w hm hs (fun hok => h ⟨hok, hs⟩)
  · exact implLongS n s w hm2 (by omega)
end Go.Proofs.YtfoclgijhkibeabDoor.Armor
