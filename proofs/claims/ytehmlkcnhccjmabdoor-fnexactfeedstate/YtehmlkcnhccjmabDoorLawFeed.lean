/-
  The walk of the law on FeedState: for every state and text both answer alike, the argument is left as it was, and the answer's memory is its own. The program's table of round constants is as its text lays it.
-/
import Derived.Test.YtehmlkcnhccjmabDoorSpecFeed
namespace Go.Proofs.YtehmlkcnhccjmabDoor.LawFeed
open Go.ChangeShapes Go.WideShapes Go.ChangeAt Go.RowKit
open Go.Proofs.YtehmlkcnhccjmabDoor.Mem Go.Proofs.YtehmlkcnhccjmabDoor.Ints Go.Proofs.YtehmlkcnhccjmabDoor.State Go.Proofs.YtehmlkcnhccjmabDoor.ShaComp Go.Proofs.YtehmlkcnhccjmabDoor.Absorb Go.Proofs.YtehmlkcnhccjmabDoor.End Go.Proofs.YtehmlkcnhccjmabDoor.GoodState Go.Proofs.YtehmlkcnhccjmabDoor.Mark
set_option linter.unusedVariables false
set_option maxRecDepth 100000

/-- Both sides' answer, whatever the state and the text. -/
theorem both (n : Nat) (s t : ByteArray) (L : Int) (zs : List Int) (hn : n ≤ 1048576) (hs : s.size ≤ maxLen) (ht : t.size ≤ maxLen) (hl : zs.length = n) : ∃ (m : Nat) (l : List Int) (rs : ByteArray) (Lr : Int) (ok : Bool), m ≤ 8 ∧ rs.size ≤ maxLen ∧
    (∀ A c W, Rd W W.heap.size 1 A n (ints zs) → Calls Tryd.prog 13 #[stV A n c s L, .string t] W fun e w' => ∃ A' c', e = .returned (.tuple #[stV A' m c' rs Lr, .bool ok]) ∧ w'.ownsRow W.heap.size 3 1 (.slice A' m c') m (ints l) ∧ Below W.heap.size W w') ∧
    (∀ A c W, Rd W W.heap.size 1 A n (ints zs) → W.rangeAt 3 0 (u32s consts) → Calls Tryd.prog 14 #[stV A n c s L, .string t] W fun e w' => ∃ A' c', e = .returned (.tuple #[stV A' m c' rs Lr, .bool ok]) ∧ w'.ownsRow W.heap.size 3 1 (.slice A' m c') m (ints l) ∧ Below W.heap.size W w') := by
  by_cases h : goodS zs s L = false ∨ 600 < t.size ∨ 1000000 < L + t.size
  · refine ⟨0, [], ⟨#[]⟩, 0, false, by omega, by simp [ByteArray.size], fun A c W hx => (FeedNo.specFeedNo A n c s t L zs W hn hs ht h hx).mono ?_, fun A c W hx _ => (FeedNo.implFeedNo A n c s t L zs W hn hs ht h hx).mono ?_⟩
    · rintro e w' ⟨rfl, hb⟩
      exact ⟨none, 0, rfl, World.ownsRow_nil _ _ _ _, hb⟩
    · rintro e w' ⟨rfl, hb⟩
      exact ⟨none, 0, rfl, World.ownsRow_nil _ _ _ _, hb⟩
  · have hg : goodS zs s L = true := by
      cases hg : goodS zs s L with
      | true => rfl
      | false => exact absurd (.inl hg) h
    obtain ⟨v, rfl, hv, h0, h1, h2⟩ := good_v8 hg
    obtain ⟨K, rfl⟩ := Int.eq_ofNat_of_zero_le h0
    have e8 : n = 8 := by rw [← hl]; rfl
    subst e8
    refine ⟨8, (blk v (s.data.toList ++ t.data.toList) ((s.size + t.size) / 64)).list, (s ++ t).extract (64 * ((s.size + t.size) / 64)) (s.size + t.size), ((K + t.size : Nat) : Int), true, by omega, by rw [ByteArray.size_extract]; unfold maxLen at *; omega, fun A c W hx => (SpecFeed.specFeed A c s t K v W hv (by omega) (by omega) (by omega) hg hx).mono ?_, fun A c W hx hk => (ImplFeed.implFeed A c s t K v W hv (by omega) (by omega) (by omega) hg hx hk).mono ?_⟩
    · rintro e w' ⟨g, c', rfl, ho, hb⟩
      exact ⟨_, c', rfl, ho, hb⟩
    · rintro e w' ⟨g, c', rfl, ho, hb⟩
      exact ⟨_, c', rfl, ho, hb⟩
theorem bx {W W' : World} {b : Nat} {o : Obj} (K : W.heap[b]? = some o) (hb : Below W.heap.size W W') : W'.heap[b]? = some o := (hb.block b (Array.getElem?_eq_some_iff.1 K).1).trans K
theorem bx_lt {W : World} {b : Nat} {o : Obj} (K : W.heap[b]? = some o) : b < W.heap.size := (Array.getElem?_eq_some_iff.1 K).1
/-- A state whose words are a row of the call's own, nil let in, is marked: only that row changes. -/
theorem markAny (A : Option Addr) (n c : Nat) (s : ByteArray) (L : Int) (zs : List Int) (k : Int) (base : Nat) (w : World) (hk : 0 ≤ k ∧ k ≤ 1099511627776) (hn : n ≤ 1048576) (hB : base ≤ w.heap.size) (ho : w.ownsRow base 3 1 (.slice A n c) n (ints zs)) :
    Calls Tryd.prog 15 #[stV A n c s L, .int .i64 k] w fun e w' => e = .returned (.int .i64 (k + n)) ∧ w'.ownsRow base 3 1 (.slice A n c) n (ints (marks k n)) ∧ (∀ b, (∀ g, A = some ⟨g, 0, none⟩ → b ≠ g) → b < w.heap.size → w'.heap[b]? = w.heap[b]?) ∧ Below base w w' := by
  rcases ho.2 with ⟨h0, h1⟩ | ⟨g, cap, cur, h1, h2, h3, h4⟩
  · obtain ⟨rfl, rfl, rfl⟩ : A = none ∧ n = 0 ∧ c = 0 := by simpa using h0
    have hal : Below w.heap.size w (w.alloc (.cells #[.slice none 0 0, .string s, .int .i64 L] 28)) := (Below.refl _ w).alloc (Nat.le_refl _) _
    have C := Lib.hid (fun W => markNil k W hk)
    unfold stV
    clear ho h0 h1
    go_enter Tryd.func15, Tryd.ntmps15
    go_wp2_with fail
    refine (C.out _).mono ?_
    rintro e w' ⟨rfl, rfl⟩
    go_wp2
    go_ret
    exact ⟨by simp, World.ownsRow_nil _ _ _ _, fun b _ hb => hal.block b hb, hal.mono hB⟩
  · obtain ⟨rfl, rfl⟩ : A = some ⟨g, 0, none⟩ ∧ c = cap := by simpa using h1
    refine (markState g n c s L zs k base w hk hn ho).mono ?_
    rintro e w' ⟨rfl, h5, h6, h7⟩
    exact ⟨rfl, h5, fun b hb hlt => h6 b (hb g rfl) hlt, h7.mono h2⟩
theorem own_at {w w' : World} {base e size n c : Nat} {A : Option Addr} {xs : List Value} (h : w.ownsRow base e size (.slice A n c) n xs) (hk : ∀ g, A = some ⟨g, 0, none⟩ → w'.heap[g]? = w.heap[g]?) : w'.ownsRow base e size (.slice A n c) n xs := by
  refine ⟨h.1, ?_⟩
  rcases h.2 with h0 | ⟨g, cap, cur, h1, h2, h3, h4⟩
  · exact .inl h0
  · have hA : A = some ⟨g, 0, none⟩ := by injection h1
    exact .inr ⟨g, cap, cur, h1, h2, (hk g hA).trans h3, h4⟩
set_option maxHeartbeats 8000000 in
theorem walk (A : Option Addr) (n c : Nat) (s : ByteArray) (L : Int) (zs : List Int) (t : ByteArray) (hn : n ≤ maxLen) (hs : s.size ≤ maxLen) (ht : t.size ≤ maxLen) (w : World) (hk : w.rangeAt 3 0 (u32s consts)) (hx : Rd w w.heap.size 1 A n (ints zs)) :
    Calls Tryd.prog 4 #[stV A n c s L, .string t] w fun e w' => e = .returned (.bool true) ∧ Below w.heap.size w w' := by
  have htm := ht
  unfold maxLen at htm
  by_cases htb : 1048576 < t.size
  · unfold stV
    clear hk hx
    go_enter Tryd.func4, Tryd.ntmps4
    go_wp2
    go_ret
    exact ⟨rfl, (Below.refl _ w).alloc (Nat.le_refl _) _⟩
  by_cases hbig : 1048576 < n + s.size
  · have C := Lib.hid (fun W => szState_big A n c s L W hn hs hbig)
    unfold stV at *
    clear hx hk
    go_enter Tryd.func4, Tryd.ntmps4
    go_wp2_with fail
    obtain ⟨x0, y0, z0⟩ := boxed w #[.slice A n c, .string s, .int .i64 L] 24
    generalize World.alloc w _ = W0 at *
    refine (C.out _).mono ?_
    rintro e w1 ⟨rfl, hb1⟩
    have hb : Below w.heap.size w w1 := y0.trans (hb1.mono (by omega))
    clear hb1
    go_wp2
    go_ret
    exact ⟨rfl, hb⟩
  have C := Lib.hid (fun W => szState_ok A n c s L W (by omega))
  have hn' : n ≤ 1048576 := by omega
  have hltK : 3 < w.heap.size := World.block_lt_of_cell? w ⟨3, 0, none⟩ (hk 0 (.int .u32 0x428a2f98) rfl)
  have HK := Lib.hid (fun W (h : Below w.heap.size w W) => rangeAt_heap (h.block 3 hltK) hk)
  have T := Lib.hid (fun W (h : Below w.heap.size w W) => toState A n c s L zs W hn' ((hx.below h (Nat.le_refl _)).mono h.size))
  obtain ⟨m, l, rs, Lr, ok, hm8, hrs, S0, I0⟩ := both n s t L zs hn' hs ht hx.len
  have SP := Lib.hid S0
  have IM := Lib.hid I0
  have Q := Lib.hid (fun (A' D' : Option Addr) (c' d' B B' : Nat) W (h : Rd W B 1 A' m (ints l)) (h' : Rd W B' 1 D' m (ints l)) (hB : B ≤ W.heap.size) (hB' : B' ≤ W.heap.size) => eqState A' D' m m c' d' rs rs Lr Lr l l B B' W (by omega) (by unfold maxLen; omega) h h' hB hB' true (by simp))
  have QX := Lib.hid (fun g g' W B B' (h : Rd W B 1 (some ⟨g, 0, none⟩) n (ints zs)) (h' : Rd W B' 1 (some ⟨g', 0, none⟩) n (ints zs)) (hB : B ≤ W.heap.size) (hB' : B' ≤ W.heap.size) => eqState (some ⟨g, 0, none⟩) (some ⟨g', 0, none⟩) n n n n s s L L zs zs B B' W hn' hn h h' hB hB' true (by simp))
  have MX := Lib.hid (fun g base W (hB : base ≤ W.heap.size) (ho : W.ownsRow base 3 1 (.slice (some ⟨g, 0, none⟩) n n) n (ints zs)) => markAny (some ⟨g, 0, none⟩) n n s L zs 1 base W (by omega) hn' hB ho)
  have MG := Lib.hid (fun (A' : Option Addr) c' base W (hB : base ≤ W.heap.size) (ho : W.ownsRow base 3 1 (.slice A' m c') m (ints l)) => markAny A' m c' rs Lr l 1 base W (by omega) (by omega) hB ho)
  have HG := Lib.hid (fun (A' : Option Addr) c' W (h : Rd W W.heap.size 1 A' m (ints (marks 1 m))) => heldState A' m c' rs Lr 1 0 W (by omega) (by omega) h)
  have hbb : (ok != ok) = false := by simp
  have hm0 : (0 : Int) ≤ (m : Int) := by omega
  have hm1 : (m : Int) ≤ 8 := by omega
  have hn0 : (0 : Int) ≤ (n : Int) := by omega
  have hn1 : (n : Int) ≤ 1048576 := by omega
  have ht1 : t.size ≤ 1048576 := by omega
  have hsm : n + s.size ≤ 1048576 := by omega
  clear hx hk S0 I0 hltK hbig htb hn hs ht hrs hm8
  unfold stV at *
  go_enter Tryd.func4, Tryd.ntmps4
  go_wp2_with fail
  obtain ⟨k2, y0, z0⟩ := boxed w #[.slice A n c, .string s, .int .i64 L] 24
  generalize World.alloc w _ = W0 at *
  have K2 := Lib.hid k2
  clear k2
  refine (C.out W0).mono ?_
  rintro e w1 ⟨rfl, hb⟩
  have BW : Below w.heap.size w w1 := y0.trans (hb.mono (by omega))
  have K2 := Lib.hid (bx K2.out hb)
  clear hb y0 z0 C
  obtain ⟨p20, p21, p22⟩ := row3 K2.out
  have l2 := bx_lt K2.out
  go_wp2_with fail
  clear p20 p21 p22 l2
  refine (T.out w1 BW).mono ?_
  rintro e w2 ⟨g2, rfl, o2, hb⟩
  have BW := BW.trans (hb.mono BW.size)
  have K2 := Lib.hid (bx K2.out hb)
  clear hb
  go_wp2_with fail
  refine (SP.out (some ⟨g2, 0, none⟩) n w2 (Rd.own o2)).mono ?_
  rintro e w3 ⟨A6, c6, rfl, o6, hb⟩
  have BW := BW.trans (hb.mono BW.size)
  have K2 := Lib.hid (bx K2.out hb)
  have O6 := Lib.hid o6
  have r6 : Hid (∀ g, A6 = some ⟨g, 0, none⟩ → w2.heap.size ≤ g ∧ g < w3.heap.size) := Lib.hid (fun g hg => by subst hg; exact o6.lt g rfl)
  clear hb o2 o6 SP
  obtain ⟨p20, p21, p22⟩ := row3 K2.out
  have l2 := bx_lt K2.out
  go_wp2_with fail
  clear p20 p21 p22 l2
  obtain ⟨k6, hb, z6⟩ := boxed w3 #[.slice A6 m c6, .string rs, .int .i64 Lr] 28
  have K2 := Lib.hid (bx K2.out hb)
  have O6 := Lib.hid (own_below O6.out hb (Nat.le_refl _))
  have BW := BW.trans (hb.mono BW.size)
  have K6 := Lib.hid k6
  clear k6 hb
  generalize hW : World.alloc w3 _ = W3 at *
  clear hW
  have e6 : W3.heap.size = w3.heap.size + 1 := z6
  have l2W : w.heap.size < W3.heap.size := bx_lt K2.out
  generalize hb6 : w3.heap.size = b6 at *
  clear hb6 z6
  refine (T.out W3 BW).mono ?_
  rintro e w4 ⟨g8, rfl, o8, hb⟩
  have BW := BW.trans (hb.mono BW.size)
  have s4 := hb.size
  have K2 := Lib.hid (bx K2.out hb)
  have K6 := Lib.hid (bx K6.out hb)
  have O6 := Lib.hid (own_below O6.out hb (Nat.le_refl _))
  have O8 := Lib.hid o8
  have r8 := o8.lt g8 rfl
  clear hb o8
  go_wp2_with fail
  obtain ⟨k8, hb, z8⟩ := boxed w4 #[.slice (some ⟨g8, 0, none⟩) n n, .string s, .int .i64 L] 28
  have K2 := Lib.hid (bx K2.out hb)
  have K6 := Lib.hid (bx K6.out hb)
  have O6 := Lib.hid (own_below O6.out hb (Nat.le_refl _))
  have O8 := Lib.hid (own_below O8.out hb (Nat.le_refl _))
  have BW := BW.trans (hb.mono BW.size)
  have K8 := Lib.hid k8
  clear k8 hb
  generalize hW : World.alloc w4 _ = W4 at *
  clear hW
  have e8 : W4.heap.size = w4.heap.size + 1 := z8
  generalize hb8 : w4.heap.size = b8 at *
  clear hb8 z8
  refine (IM.out (some ⟨g8, 0, none⟩) n W4 (Rd.own O8.out) (HK.out W4 BW)).mono ?_
  rintro e w5 ⟨A9, c9, rfl, o9, hb⟩
  have BW := BW.trans (hb.mono BW.size)
  have s5 := hb.size
  have K2 := Lib.hid (bx K2.out hb)
  have K6 := Lib.hid (bx K6.out hb)
  have K8 := Lib.hid (bx K8.out hb)
  have O6 := Lib.hid (own_below O6.out hb (Nat.le_refl _))
  have O8 := Lib.hid (own_below O8.out hb (Nat.le_refl _))
  have O9 := Lib.hid o9
  have r9 : Hid (∀ g, A9 = some ⟨g, 0, none⟩ → W4.heap.size ≤ g ∧ g < w5.heap.size) := Lib.hid (fun g hg => by subst hg; exact o9.lt g rfl)
  clear hb o9
  obtain ⟨p60, p61, p62⟩ := row3 K6.out
  have l6 := bx_lt K6.out
  go_wp2_with fail
  clear p60 p61 p62 l6
  obtain ⟨k9, hb, z9⟩ := boxed w5 #[.slice A9 m c9, .string rs, .int .i64 Lr] 28
  have K2 := Lib.hid (bx K2.out hb)
  have K6 := Lib.hid (bx K6.out hb)
  have K8 := Lib.hid (bx K8.out hb)
  have O6 := Lib.hid (own_below O6.out hb (Nat.le_refl _))
  have O8 := Lib.hid (own_below O8.out hb (Nat.le_refl _))
  have O9 := Lib.hid (own_below O9.out hb (Nat.le_refl _))
  have BW := BW.trans (hb.mono BW.size)
  have K9 := Lib.hid k9
  clear k9 hb
  generalize hW : World.alloc w5 _ = W5 at *
  clear hW
  have e9 : W5.heap.size = w5.heap.size + 1 := z9
  generalize hb9 : w5.heap.size = b9 at *
  clear hb9 z9
  refine (Q.out A9 A6 c9 c6 _ _ W5 (Rd.own O9.out) (Rd.own O6.out) (Nat.le_refl _) (Nat.le_refl _)).mono ?_
  rintro e w6 ⟨rfl, hb⟩
  have BW := Lib.hid (BW.trans (hb.mono BW.size))
  have s6 := hb.size
  have K2 := Lib.hid (bx K2.out hb)
  have K6 := Lib.hid (bx K6.out hb)
  have K8 := Lib.hid (bx K8.out hb)
  have K9 := Lib.hid (bx K9.out hb)
  have O6 := Lib.hid (own_below O6.out hb (Nat.le_refl _))
  have O8 := Lib.hid (own_below O8.out hb (Nat.le_refl _))
  have O9 := Lib.hid (own_below O9.out hb (Nat.le_refl _))
  clear hb
  have l2 := bx_lt K2.out
  have l8 := bx_lt K8.out
  obtain ⟨p80, p81, p82⟩ := row3 K8.out
  obtain ⟨p20, p21, p22⟩ := row3 K2.out
  cases ok
  all_goals
    go_wp2_with fail
    go_region_held3 (fun w' => w'.cell? ⟨b8, 0, none⟩ = some (.slice (some ⟨g8, 0, none⟩) n n) ∧ w'.cell? ⟨b8, 1, none⟩ = some (.string s) ∧ w'.cell? ⟨b8, 2, none⟩ = some (.int .i64 L) ∧
          w'.cell? ⟨w.heap.size, 0, none⟩ = some (.slice A n c) ∧ w'.cell? ⟨w.heap.size, 1, none⟩ = some (.string s) ∧ w'.cell? ⟨w.heap.size, 2, none⟩ = some (.int .i64 L))
        (first | go_keep | (go_split_ands; refine ⟨?_, ?_, ?_, ?_, ?_, ?_⟩ <;> (rw [hb7.cell (by simp; omega)]; assumption)) | (go_split_ands; refine ⟨?_, ?_, ?_, ?_, ?_, ?_⟩ <;> (rw [hb8.cell (by simp; omega)]; assumption)))
        (first
          | (go_at_call 10; refine (T.out _ BW.out.drew).mono ?_; rintro e w7 ⟨g7, rfl, o7, hb7⟩; have hb7' : Below w6.heap.size w6 w7 := (Below.drew (Below.refl _ w6)).trans hb7; have z7 := hb7'.size)
          | (go_at_call 12; refine (QX.out g8 g7 _ w6.heap.size _ ((Rd.own O8.out).below hb7' (Nat.le_refl _)) (Rd.own o7) hb7'.size (Nat.le_refl _)).mono ?_; rintro e w8 ⟨rfl, hb8⟩))
    have hb : Below w6.heap.size w6 w8 := hb7'.trans (hb8.mono hb7'.size)
    have BW := BW.out.trans (hb.mono BW.out.size)
    have s8 := hb.size
    have K2 := Lib.hid (bx K2.out hb)
    have K6 := Lib.hid (bx K6.out hb)
    have K8 := Lib.hid (bx K8.out hb)
    have K9 := Lib.hid (bx K9.out hb)
    have O6 := Lib.hid (own_below O6.out hb (Nat.le_refl _))
    have O8 := Lib.hid (own_below O8.out hb (Nat.le_refl _))
    have O9 := Lib.hid (own_below O9.out hb (Nat.le_refl _))
    clear hb hb7 hb8 hb7' o7 QX p80 p81 p82 p20 p21 p22 l2 l8
    obtain ⟨p80, p81, p82⟩ := row3 K8.out
    have l8 := bx_lt K8.out
    go_wp2_with fail
    clear p80 p81 p82 l8
    have lw : w.heap.size < W3.heap.size := l2W
    refine (MX.out g8 W3.heap.size w8 (by omega) O8.out).mono ?_
    rintro e w9 ⟨rfl, o8, h9, hb⟩
    have BW := BW.trans (hb.mono (by omega))
    have s9 := hb.size
    have f9 : ∀ b, b ≠ g8 → b < w8.heap.size → w9.heap[b]? = w8.heap[b]? := fun b hb => h9 b (fun g hg => by injection hg with hg; injection hg with hg; omega)
    have K2 := Lib.hid ((f9 _ (by omega) (bx_lt K2.out)).trans K2.out)
    have K6 := Lib.hid ((f9 _ (by omega) (bx_lt K6.out)).trans K6.out)
    have K9 := Lib.hid ((f9 _ (by omega) (bx_lt K9.out)).trans K9.out)
    have O6 := Lib.hid (own_at O6.out (fun g hg => f9 g (by have := r6.out g hg; omega) (by have := r6.out g hg; omega)))
    have O9 := Lib.hid (own_at O9.out (fun g hg => f9 g (by have := r9.out g hg; omega) (by have := r9.out g hg; omega)))
    clear hb f9 h9 o8 MX O8 K8
    obtain ⟨p60, p61, p62⟩ := row3 K6.out
    have l6 := bx_lt K6.out
    obtain ⟨p90, p91, p92⟩ := row3 K9.out
    have l9 := bx_lt K9.out
    go_wp2_with fail
    clear p60 p61 p62 l6
    clear p90 p91 p92 l9
    refine (Q.out A9 A6 c9 c6 _ _ w9 (Rd.own O9.out) (Rd.own O6.out) (Nat.le_refl _) (Nat.le_refl _)).mono ?_
    rintro e w10 ⟨rfl, hb⟩
    have BW := BW.trans (hb.mono BW.size)
    have s10 := hb.size
    have K2 := Lib.hid (bx K2.out hb)
    have K6 := Lib.hid (bx K6.out hb)
    have K9 := Lib.hid (bx K9.out hb)
    have O6 := Lib.hid (own_below O6.out hb (Nat.le_refl _))
    have O9 := Lib.hid (own_below O9.out hb (Nat.le_refl _))
    clear hb
    obtain ⟨p90, p91, p92⟩ := row3 K9.out
    have l9 := bx_lt K9.out
    go_wp2_with fail
    clear p90 p91 p92 l9
    refine (MG.out A9 c9 W4.heap.size w10 (by omega) O9.out).mono ?_
    rintro e w11 ⟨rfl, o9, f9, hb⟩
    have BW := BW.trans (hb.mono (by omega))
    have s11 := hb.size
    have K2 := Lib.hid ((f9 _ (fun g hg => by have := r9.out g hg; omega) (bx_lt K2.out)).trans K2.out)
    have K6 := Lib.hid ((f9 _ (fun g hg => by have := r9.out g hg; omega) (bx_lt K6.out)).trans K6.out)
    have K9 := Lib.hid ((f9 _ (fun g hg => by have := r9.out g hg; omega) (bx_lt K9.out)).trans K9.out)
    have O6 := Lib.hid (own_at O6.out (fun g hg => f9 g (fun g' hg' => by have := r6.out g hg; have := r9.out g' hg'; omega) (by have := r6.out g hg; omega)))
    have O9 := Lib.hid o9
    clear hb f9 o9 MG
    obtain ⟨p90, p91, p92⟩ := row3 K9.out
    have l9 := bx_lt K9.out
    go_wp2_with fail
    clear p90 p91 p92 l9
    refine (HG.out A9 c9 w11 (Rd.own O9.out)).mono ?_
    rintro e w12 ⟨rfl, hb⟩
    have BW := BW.trans (hb.mono BW.size)
    have s12 := hb.size
    have K2 := Lib.hid (bx K2.out hb)
    have K6 := Lib.hid (bx K6.out hb)
    have K9 := Lib.hid (bx K9.out hb)
    have O6 := Lib.hid (own_below O6.out hb (Nat.le_refl _))
    have O9 := Lib.hid (own_below O9.out hb (Nat.le_refl _))
    clear hb
    obtain ⟨p20, p21, p22⟩ := row3 K2.out
    have l2 := bx_lt K2.out
    go_wp2_with fail
    clear p20 p21 p22 l2
    refine (T.out w12 BW).mono ?_
    rintro e w13 ⟨g13, rfl, o13, hb⟩
    have BW := BW.trans (hb.mono BW.size)
    have s13 := hb.size
    have K2 := Lib.hid (bx K2.out hb)
    have K6 := Lib.hid (bx K6.out hb)
    have K9 := Lib.hid (bx K9.out hb)
    have O6 := Lib.hid (own_below O6.out hb (Nat.le_refl _))
    have O9 := Lib.hid (own_below O9.out hb (Nat.le_refl _))
    clear hb
    go_wp2_with fail
    refine (IM.out (some ⟨g13, 0, none⟩) n w13 (Rd.own o13) (HK.out w13 BW)).mono ?_
    rintro e w14 ⟨A14, c14, rfl, o14, hb⟩
    have BW := BW.trans (hb.mono BW.size)
    have s14 := hb.size
    have K2 := Lib.hid (bx K2.out hb)
    have K6 := Lib.hid (bx K6.out hb)
    have K9 := Lib.hid (bx K9.out hb)
    have O6 := Lib.hid (own_below O6.out hb (Nat.le_refl _))
    have O9 := Lib.hid (own_below O9.out hb (Nat.le_refl _))
    have O14 := Lib.hid o14
    clear hb o13 o14
    obtain ⟨p60, p61, p62⟩ := row3 K6.out
    have l6 := bx_lt K6.out
    go_wp2_with fail
    clear p60 p61 p62 l6
    obtain ⟨k14, hb, z14⟩ := boxed w14 #[.slice A14 m c14, .string rs, .int .i64 Lr] 28
    have K2 := Lib.hid (bx K2.out hb)
    have K6 := Lib.hid (bx K6.out hb)
    have K9 := Lib.hid (bx K9.out hb)
    have O6 := Lib.hid (own_below O6.out hb (Nat.le_refl _))
    have O9 := Lib.hid (own_below O9.out hb (Nat.le_refl _))
    have O14 := Lib.hid (own_below O14.out hb (Nat.le_refl _))
    have BW := BW.trans (hb.mono BW.size)
    clear k14 hb
    generalize hW : World.alloc w14 _ = W14 at *
    clear hW
    refine (Q.out A14 A6 c14 c6 _ _ W14 (Rd.own O14.out) (Rd.own O6.out) (Nat.le_refl _) (Nat.le_refl _)).mono ?_
    rintro e w15 ⟨rfl, hb⟩
    have BW := BW.trans (hb.mono BW.size)
    have K2 := Lib.hid (bx K2.out hb)
    have K6 := Lib.hid (bx K6.out hb)
    have K9 := Lib.hid (bx K9.out hb)
    have O6 := Lib.hid (own_below O6.out hb (Nat.le_refl _))
    have O9 := Lib.hid (own_below O9.out hb (Nat.le_refl _))
    have O14 := Lib.hid (own_below O14.out hb (Nat.le_refl _))
    clear hb
    obtain ⟨p90, p91, p92⟩ := row3 K9.out
    have l9 := bx_lt K9.out
    go_wp2_with fail
    clear p90 p91 p92 l9
    refine (HG.out A9 c9 w15 (Rd.own O9.out)).mono ?_
    rintro e w16 ⟨rfl, hb⟩
    have BW := BW.trans (hb.mono BW.size)
    clear hb
    go_wp2
    go_ret
    exact ⟨rfl, BW⟩
end Go.Proofs.YtehmlkcnhccjmabDoor.LawFeed
