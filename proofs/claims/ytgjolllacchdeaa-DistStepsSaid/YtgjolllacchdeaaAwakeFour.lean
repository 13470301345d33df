/- The contracts of tuggerlaw04.awake and .light. -/
import Derived.Test.YtgjolllacchdeaaAwakeMath
import Derived.Test.YtgjolllacchdeaaRefFars
namespace Go.Proofs.Ytgjolllacchdeaa.Vm
open Go Go.RowKit

theorem rowZ_nil (k : IntKind) (w : World) (B : Nat) : RowZ k w B none 0 0 [] := ⟨rfl, Nat.le_refl _, by simp [maxLen], fun h => absurd h (by omega)⟩
theorem rowZ_lit (w : World) (zs : List Int) (t : TypeId) (hz : zs.length ≤ 1000) (cs : Array Value) (hc : cs = ⟨zs.map (Value.int .i64)⟩) : RowZ .i64 (w.alloc (.cells cs t)) (w.heap.size + 1) (some ⟨w.heap.size, 0, none⟩) zs.length zs.length zs := by
  subst hc
  refine ⟨rfl, Nat.le_refl _, by unfold maxLen; omega, fun _ => ⟨_, 0, rfl, Nat.lt_succ_self _, fun i hi => ?_⟩⟩
  rw [Nat.zero_add, cell_of_row (w.alloc (.cells ⟨zs.map (Value.int .i64)⟩ t)) w.heap.size i ⟨zs.map (Value.int .i64)⟩ t (0, 0) (heap_alloc_new w _)]
  simp [List.getD, hi]

theorem sizeA : mapA.size = 8 := rfl
theorem fieldA1_any (w : World) : Calls Try.prog 9 #[gridV 4 2 mapA, .int .i64 2, .slice none 0 0] w fun e w' => ∃ lb, e = .returned (.tuple #[.slice (some ⟨lb, 0, none⟩) 8 8, .int .i64 0]) ∧ NumsZ w' w.heap.size lb l1A ∧ Below w.heap.size w w' :=
  (field_yes 4 2 2 mapA [] none 0 0 0 w mapA_okay (floorA 2 (by omega) (by omega)) (rowZ_nil _ _ _) (Nat.zero_le _) (by simp) (by omega)).mono fun e w' ⟨lb, l, he, hl, hn, hb⟩ => by
    obtain rfl := hl.only fieldA1
    exact ⟨lb, he, hn, hb⟩
theorem fieldA2_any (w : World) (a : Option Addr) (B : Nat) (hr : RowZ .i64 w B a 1 1 [1]) (hB : B ≤ w.heap.size) : Calls Try.prog 9 #[gridV 4 2 mapA, .int .i64 2, .slice a 1 1] w fun e w' => ∃ lb, e = .returned (.tuple #[.slice (some ⟨lb, 0, none⟩) 8 8, .int .i64 0]) ∧ NumsZ w' w.heap.size lb l2A ∧ Below w.heap.size w w' :=
  (field_yes 4 2 2 mapA [1] a 1 1 B w mapA_okay (floorA 2 (by omega) (by omega)) hr hB (by intro z hz; simp at hz; subst hz; decide) (by omega)).mono fun e w' ⟨lb, l, he, hl, hn, hb⟩ => by
    obtain rfl := hl.only fieldA2
    exact ⟨lb, he, hn, hb⟩
theorem nearA_any (w : World) (a : Option Addr) (B : Nat) (hr : RowZ .i64 w B a 4 4 [7, 2, 3, 5]) (hB : B ≤ w.heap.size) : Calls Try.prog 11 #[gridV 4 2 mapA, .int .i64 0, .slice a 4 4, .slice none 0 0] w fun e w' => e = .returned (.tuple #[.int .i64 2, .int .i64 2]) ∧ Below w.heap.size w w' :=
  (nearest_yes 4 2 0 mapA [] [7, 2, 3, 5] none a 0 0 4 4 B w mapA_okay (floorA 0 (by omega) (by omega)) (rowZ_nil _ _ _) hr hB (by simp) (by intro z hz; simp at hz; rcases hz with rfl | rfl | rfl | rfl <;> decide) (by omega) (by omega)).mono fun e w' ⟨he, hb⟩ => by
    refine ⟨?_, hb⟩
    have hn : nearG 4 2 (bytesOf mapA) [] [7, 2, 3, 5] (0 : Nat) = (2, 2) := nearA
    rw [hn] at he
    exact he
theorem farA_any (w : World) : Calls Try.prog 14 #[gridV 4 2 mapA, .int .i64 4, .int .i64 7, .slice none 0 0] w fun e w' => e = .returned (.int .i64 3) ∧ Below w.heap.size w w' :=
  (far_yes 4 2 4 7 mapA [] none 0 0 0 w mapA_okay (floorA 4 (by omega) (by omega)) (floorA 7 (by omega) (by omega)) (rowZ_nil _ _ _) (Nat.zero_le _) (by simp) (by omega)).mono fun e w' ⟨he, hb⟩ => by
    refine ⟨?_, hb⟩
    have hn : farG 4 2 (bytesOf mapA) [] (4 : Nat) (7 : Nat) = 3 := farA47
    rw [hn] at he
    exact he

set_option maxRecDepth 100000 in
set_option maxHeartbeats 2000000 in
theorem awake4_any (w : World) : Calls Try.prog 6 #[] w fun e w' => e = .returned (.bool true) ∧ Below w.heap.size w w' := by
  have hB0 : Below w.heap.size w (w.alloc (gridO 4 2 mapA)) := (Below.refl _ _).alloc (Nat.le_refl _) _
  have hg0 := gridAt_new w 4 2 mapA
  go_enter Try.func6, Try.ntmps6
  go_wp2_with fail
  refine (fieldA1_any _).mono ?_
  rintro e w1 ⟨lb1, rfl, hn1, hb1⟩
  have hB1 := hB0.trans (hb1.mono hB0.size)
  have hg1 := hg0.below hb1 (by simp)
  have hz1 : w.heap.size < w1.heap.size := by have := hb1.size; simp at this; omega
  obtain ⟨g1, g2, g3⟩ := id hg1
  have hr1 := rowZ_lit w1 [1] 3 (by simp) #[.int .i64 1] rfl
  have hb1a : Below w1.heap.size w1 (w1.alloc (.cells #[.int .i64 1] 3)) := (Below.refl _ _).alloc (Nat.le_refl _) _
  have hn1a := hn1.alloc (.cells #[.int .i64 1] 3)
  have hz1a : (w1.alloc (.cells #[.int .i64 1] 3)).heap.size = w1.heap.size + 1 := by simp
  have H2 := Lib.hid (fieldA2_any (w1.alloc (.cells #[.int .i64 1] 3)) _ _ hr1 (by omega))
  have HN1 := Lib.hid hn1a
  have HG1 := Lib.hid hg1
  have HB1 := Lib.hid hB1
  clear hB0 hg0 hn1 hb1 hB1 hg1 hr1 hn1a
  go_wp2_with fail
  refine H2.out.mono ?_
  rintro e w2 ⟨lb2, rfl, hn2, hb2⟩
  have hb2' : Below w1.heap.size w1 w2 := hb1a.trans (hb2.mono (by omega))
  have hB2 := HB1.out.trans (hb2'.mono (by omega))
  have hn12 := HN1.out.calls hb2
  have hg2 := HG1.out.below hb2' hz1
  have hz2 : w.heap.size < w2.heap.size := by have := hb2'.size; omega
  obtain ⟨g1, g2, g3⟩ := id hg2
  have hr2 := rowZ_lit w2 [7, 2, 3, 5] 3 (by simp) #[.int .i64 7, .int .i64 2, .int .i64 3, .int .i64 5] rfl
  have hb2a : Below w2.heap.size w2 (w2.alloc (.cells #[.int .i64 7, .int .i64 2, .int .i64 3, .int .i64 5] 3)) := (Below.refl _ _).alloc (Nat.le_refl _) _
  have hz2a : (w2.alloc (.cells #[.int .i64 7, .int .i64 2, .int .i64 3, .int .i64 5] 3)).heap.size = w2.heap.size + 1 := by simp
  have H3 := Lib.hid (nearA_any (w2.alloc (.cells #[.int .i64 7, .int .i64 2, .int .i64 3, .int .i64 5] 3)) _ _ hr2 (by omega))
  have HN2 := Lib.hid (And.intro hn12 hn2)
  have HG2 := Lib.hid hg2
  have HB2 := Lib.hid hB2
  clear H2 HN1 HG1 HB1 hb1a hb2 hb2' hB2 hn12 hn2 hg2 hr2
  go_wp2_with fail
  refine H3.out.mono ?_
  rintro e w3 ⟨rfl, hb3⟩
  have hb3' : Below w2.heap.size w2 w3 := hb2a.trans (hb3.mono (by omega))
  have hB3 := HB2.out.trans (hb3'.mono (by omega))
  obtain ⟨g1, g2, g3⟩ := HG2.out.below hb3' hz2
  have hn13 := HN2.out.1.calls hb3'
  have hn23 := HN2.out.2.calls hb3'
  have a0 := hn13.cell (i := 0) (by decide)
  have a3 := hn13.cell (i := 3) (by decide)
  have a7 := hn13.cell (i := 7) (by decide)
  have b0 := hn23.cell (i := 0) (by decide)
  have b1 := hn23.cell (i := 1) (by decide)
  simp only [l1A, l2A, List.getD_cons_zero, List.getD_cons_succ] at a0 a3 a7 b0 b1
  have HB3 := Lib.hid hB3
  clear H3 HN2 HG2 HB2 hb2a hb3 hb3' hB3 hn13 hn23
  go_wp2_with fail
  refine (farA_any _).mono ?_
  rintro e w4 ⟨rfl, hb4⟩
  have hB4 := HB3.out.trans (hb4.mono HB3.out.size)
  go_wp2_with fail
  go_ret
  exact ⟨rfl, hB4⟩

/-- May these be gone through? -/
def lightS (n a b : Nat) : Bool := decide (n ≤ 100 ∧ a ≤ 20 ∧ b ≤ 20)
set_option maxRecDepth 100000 in
set_option maxHeartbeats 400000 in
theorem light4_any (W H : Int) (s : ByteArray) (a1 a2 : Option Addr) (n1 c1 n2 c2 : Nat) (w : World) (hs : s.size ≤ maxLen) (h1 : n1 ≤ maxLen) (h2 : n2 ≤ maxLen) :
    Calls Try.prog 7 #[gridV W H s, .slice a1 n1 c1, .slice a2 n2 c2] w fun e w' => e = .returned (.bool (lightS s.size n1 n2)) ∧ Below w.heap.size w w' := by
  have hB0 : Below w.heap.size w (w.alloc (gridO W H s)) := (Below.refl _ _).alloc (Nat.le_refl _) _
  unfold maxLen at hs h1 h2
  by_cases k1 : s.size ≤ 100
  · by_cases k2 : n1 ≤ 20
    · by_cases k3 : n2 ≤ 20
      · have HE : Hid (true = lightS s.size n1 n2) := Eq.symm (decide_eq_true (And.intro k1 (And.intro k2 k3)))
        have d3 : decide ((n2 : Int) ≤ 20) = true := decide_eq_true (by omega)
        go_enter Try.func7, Try.ntmps7
        go_wp2_with fail
        go_ret
        exact ⟨ret_bool HE.out, hB0⟩
      · have HE : Hid (false = lightS s.size n1 n2) := Eq.symm (decide_eq_false (fun h => k3 h.2.2))
        have d3 : decide ((n2 : Int) ≤ 20) = false := decide_eq_false (by omega)
        go_enter Try.func7, Try.ntmps7
        go_wp2_with fail
        go_ret
        exact ⟨ret_bool HE.out, hB0⟩
    · have HE : Hid (false = lightS s.size n1 n2) := Eq.symm (decide_eq_false (fun h => k2 h.2.1))
      go_enter Try.func7, Try.ntmps7
      go_wp2_with fail
      go_ret
      exact ⟨ret_bool HE.out, hB0⟩
  · have HE : Hid (false = lightS s.size n1 n2) := Eq.symm (decide_eq_false (fun h => k1 h.1))
    go_enter Try.func7, Try.ntmps7
    go_wp2_with fail
    go_ret
    exact ⟨ret_bool HE.out, hB0⟩
theorem lightS_in {n a b : Nat} (h : lightS n a b = true) : n ≤ 100 ∧ a ≤ 20 ∧ b ≤ 20 := of_decide_eq_true h
end Go.Proofs.Ytgjolllacchdeaa.Vm
