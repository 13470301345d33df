/- tuggerlaw03.awake returns true. -/
import Derived.Test.YteibhacpghobpaaPrints
import Derived.Test.YteibhacpghobpaaOfs
namespace Go.Proofs.Yteibhacpghobpaa.Vm
open Go.RowKit

/-- The map of two rows. -/
def awT : ByteArray := ⟨#[46, 62, 83, 10, 35, 46, 67, 10]⟩
def awS : ByteArray := ⟨#[46, 62, 83, 35, 46, 67]⟩
theorem aw_ok : Okay 3 2 awS := Okay.of (by decide +kernel)

theorem aw_parse (w : World) : Calls Try.prog 8 #[.string awT] w fun e w' => e = .returned (.tuple #[gridV 3 2 awS, .int .i64 0]) ∧ Below w.heap.size w w' := by
  have h := parse_any awT w (by decide)
  have e : parseS (bytesOf awT) = (3, 2, [46, 62, 83, 35, 46, 67], 0) := by decide +kernel
  rw [e] at h
  exact h
theorem aw_goes (w : World) (c way to : Int) (ok : Bool) (he : goesS 3 2 (bytesOf awS) c way = (to, ok)) : Calls Try.prog 15 #[gridV 3 2 awS, .int .i64 c, .int .i64 way] w fun e w' => e = .returned (.tuple #[.int .i64 to, .bool ok]) ∧ Below w.heap.size w w' := by
  have h := goes_any 3 2 c way awS w aw_ok
  rw [he] at h
  exact h
/-- Ints in new memory that are not none, with their cells. -/
theorem OwnI.form {w : World} {B : Nat} {v : Value} {l : List Nat} (h : OwnI w B v l) (hl : 0 < l.length) :
    ∃ g cap, v = .slice (some ⟨g, 0, none⟩) l.length cap ∧ B ≤ g ∧ g < w.heap.size ∧ ∀ i, i < l.length → w.cell? ⟨g, i, none⟩ = some (.int .i64 (l.getD i 0 : Nat)) := by
  have h0 := h
  rcases h.2 with ⟨_, hn⟩ | ⟨g, cap, cur, rfl, hb, hg, _⟩
  · omega
  · have hr : Row .i64 w w.heap.size (some ⟨g, 0, none⟩) l.length cap l := Row.of_own (e := 3) h0
    refine ⟨g, cap, rfl, hb, (Array.getElem?_eq_some_iff.1 hg).1, fun i hi => ?_⟩
    obtain ⟨b, off, e1, _, hc⟩ := hr.cells hl
    injection e1 with e1
    injection e1 with e1 e2
    subst e1
    have := hc i hi
    rw [← e2, Nat.zero_add] at this
    exact this
theorem aw_ways (w : World) : Calls Try.prog 18 #[gridV 3 2 awS, .int .i64 4] w fun e w' => ∃ g cap, e = .returned (.slice (some ⟨g, 0, none⟩) 3 cap) ∧ g < w'.heap.size ∧ w'.cell? ⟨g, 1, none⟩ = some (.int .i64 1) ∧ w'.cell? ⟨g, 2, none⟩ = some (.int .i64 2) ∧ Below w.heap.size w w' := by
  refine (ways_any 3 2 4 awS w aw_ok).mono ?_
  rintro e w1 ⟨v, rfl, hown, hb⟩
  rw [show waysS 3 2 (bytesOf awS) 4 = [0, 1, 2] by decide +kernel] at hown
  obtain ⟨g, cap, rfl, _, hg, hc⟩ := hown.form (by simp)
  exact ⟨g, cap, rfl, hg, hc 1 (by simp), hc 2 (by simp), hb⟩
theorem aw_of (w : World) : Calls Try.prog 20 #[gridV 3 2 awS, .int .u8 67] w fun e w' => ∃ g cap, e = .returned (.slice (some ⟨g, 0, none⟩) 1 cap) ∧ g < w'.heap.size ∧ w'.cell? ⟨g, 0, none⟩ = some (.int .i64 5) ∧ Below w.heap.size w w' := by
  refine (of_any 3 2 67 awS w aw_ok (by omega)).mono ?_
  rintro e w1 ⟨v, rfl, hown, hb⟩
  rw [show ofS (bytesOf awS) 67 = [5] by decide +kernel] at hown
  obtain ⟨g, cap, rfl, _, hg, hc⟩ := hown.form (by simp)
  exact ⟨g, cap, rfl, hg, hc 0 (by simp), hb⟩
theorem aw_print (w : World) : Calls Try.prog 12 #[gridV 3 2 awS] w fun e w' => e = .returned (.string awT) ∧ Below w.heap.size w w' := by
  have h := print_any 3 2 awS w (by decide)
  rw [show strOf (printS 3 2 (bytesOf awS)) = awT by decide +kernel] at h
  exact h
theorem aw_floor (w : World) (c : Int) (b : Bool) (hb : floorS (bytesOf awS) c = b) : Calls Try.prog 22 #[gridV 3 2 awS, .int .i64 c] w fun e w' => e = .returned (.bool b) ∧ Below w.heap.size w w' := by
  have h := floor_any 3 2 c awS w (by decide)
  rw [hb] at h
  exact h
theorem aw_right (w : World) : Calls Try.prog 10 #[gridV 3 2 awS] w fun e w' => e = .returned (.bool true) ∧ Below w.heap.size w w' := by
  have h := right_any 3 2 awS w (by decide)
  rw [show rightS 3 2 (bytesOf awS) = true by decide +kernel] at h
  exact h

set_option maxRecDepth 100000 in
set_option maxHeartbeats 800000 in
theorem awake3_any (w : World) : Calls Try.prog 7 #[] w fun e w' => e = .returned (.bool true) ∧ Below w.heap.size w w' := by
  have HPA := Lib.hid (aw_parse w)
  have HG1 := Lib.hid fun w => aw_goes w 1 2 2 true (by decide +kernel)
  have HG2 := Lib.hid fun w => aw_goes w 1 3 0 false (by decide +kernel)
  have HG3 := Lib.hid fun w => aw_goes w 0 3 0 false (by decide +kernel)
  have HF5 := Lib.hid fun w => aw_floor w 5 true (by decide +kernel)
  have HF3 := Lib.hid fun w => aw_floor w 3 false (by decide +kernel)
  have HW := Lib.hid aw_ways
  have HO := Lib.hid aw_of
  have HPR := Lib.hid aw_print
  have HR := Lib.hid aw_right
  have haT : (⟨#[46, 62, 83, 10, 35, 46, 67, 10]⟩ : ByteArray) = awT := rfl
  have HAT := Lib.hid haT
  clear haT
  generalize awS = gs at HPA HG1 HG2 HG3 HF5 HF3 HW HO HPR HR
  go_enter Try.func7, Try.ntmps7
  go_wp2_with fail
  refine HPA.out.mono ?_
  rintro e w1 ⟨rfl, hb1⟩
  have hB1 : Below w.heap.size w (w1.alloc (gridO 3 2 gs)) := hb1.alloc hb1.size _
  go_wp2_with fail
  refine (HG1.out _).mono ?_
  rintro e w2 ⟨rfl, hb2⟩
  have hz2 : w1.heap.size < w2.heap.size := by have := hb2.size; simp at this; omega
  have hB2 := hB1.trans (hb2.mono hB1.size)
  obtain ⟨g21, g22, g23⟩ := (gridAt_new w1 3 2 gs).below hb2 (by simp)
  clear hb2 hB1
  go_wp2_with fail
  refine (HG2.out _).mono ?_
  rintro e w3 ⟨rfl, hb3⟩
  have hz3 : w1.heap.size < w3.heap.size := Nat.lt_of_lt_of_le hz2 hb3.size
  have hB3 := hB2.trans (hb3.mono hB2.size)
  obtain ⟨g31, g32, g33⟩ := GridAt.below ⟨g21, g22, g23⟩ hb3 hz2
  clear hb3 hB2 g21 g22 g23 hz2
  go_wp2_with fail
  refine (HG3.out _).mono ?_
  rintro e w4 ⟨rfl, hb4⟩
  have hz4 : w1.heap.size < w4.heap.size := Nat.lt_of_lt_of_le hz3 hb4.size
  have hB4 := hB3.trans (hb4.mono hB3.size)
  obtain ⟨g41, g42, g43⟩ := GridAt.below ⟨g31, g32, g33⟩ hb4 hz3
  clear hb4 hB3 g31 g32 g33 hz3
  go_wp2_with fail
  refine (HW.out _).mono ?_
  rintro e w5 ⟨l1, cap1, rfl, hl1, hc11, hc12, hb5⟩
  have hz5 : w1.heap.size < w5.heap.size := Nat.lt_of_lt_of_le hz4 hb5.size
  have hB5 := hB4.trans (hb5.mono hB4.size)
  obtain ⟨g51, g52, g53⟩ := GridAt.below ⟨g41, g42, g43⟩ hb5 hz4
  clear hb5 hB4 g41 g42 g43 hz4
  go_wp2_with fail
  refine (HO.out _).mono ?_
  rintro e w6 ⟨l2, cap2, rfl, hl2, hc20, hb6⟩
  have hz6 : w1.heap.size < w6.heap.size := Nat.lt_of_lt_of_le hz5 hb6.size
  have hB6 := hB5.trans (hb6.mono hB5.size)
  obtain ⟨g61, g62, g63⟩ := GridAt.below ⟨g51, g52, g53⟩ hb6 hz5
  have hd1 : w6.cell? ⟨l1, 1, none⟩ = some (.int .i64 1) := (hb6.cell (p := ⟨l1, 1, none⟩) hl1).trans hc11
  have hd2 : w6.cell? ⟨l1, 2, none⟩ = some (.int .i64 2) := (hb6.cell (p := ⟨l1, 2, none⟩) hl1).trans hc12
  clear hb6 hB5 g51 g52 g53 hz5 hc11 hc12
  go_wp2_with fail
  refine (HPR.out _).mono ?_
  rintro e w7 ⟨rfl, hb7⟩
  have hz7 : w1.heap.size < w7.heap.size := Nat.lt_of_lt_of_le hz6 hb7.size
  have hB7 := hB6.trans (hb7.mono hB6.size)
  obtain ⟨g71, g72, g73⟩ := GridAt.below ⟨g61, g62, g63⟩ hb7 hz6
  clear hb7 hB6 g61 g62 g63 hz6 hd1 hd2 hc20
  unfold awT
  go_wp2_with fail
  refine (HF5.out _).mono ?_
  rintro e w8 ⟨rfl, hb8⟩
  have hz8 : w1.heap.size < w8.heap.size := Nat.lt_of_lt_of_le hz7 hb8.size
  have hB8 := hB7.trans (hb8.mono hB7.size)
  obtain ⟨g81, g82, g83⟩ := GridAt.below ⟨g71, g72, g73⟩ hb8 hz7
  clear hb8 hB7 g71 g72 g73 hz7
  go_wp2_with fail
  refine (HF3.out _).mono ?_
  rintro e w9 ⟨rfl, hb9⟩
  have hz9 : w1.heap.size < w9.heap.size := Nat.lt_of_lt_of_le hz8 hb9.size
  have hB9 := hB8.trans (hb9.mono hB8.size)
  obtain ⟨g91, g92, g93⟩ := GridAt.below ⟨g81, g82, g83⟩ hb9 hz8
  clear hb9 hB8 g81 g82 g83 hz8
  go_wp2_with fail
  refine (HR.out _).mono ?_
  rintro e w10 ⟨rfl, hb10⟩
  have hB10 := hB9.trans (hb10.mono hB9.size)
  go_wp2_with fail
  go_ret
  exact ⟨rfl, hB10⟩
end Go.Proofs.Yteibhacpghobpaa.Vm
