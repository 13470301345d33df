/- The contracts of input's effects and effectOf. -/
import Derived.Test.YtlfgdalpaacccaaInWords
import Derived.Laws.EntriesVeiled
import Derived.WalkLawsBesides
namespace Go.Proofs.Ytlfgdalpaacccaa.Vm
open Go Go.RowKit

abbrev fnV (k : Nat) : Value := .func (.func k) #[] #[]
set_option maxRecDepth 100000 in
set_option maxHeartbeats 400000 in
theorem effects_any (w : World) : Calls Try.prog 39 #[] w fun e w' => e = .returned (.agg #[.nilFunc, .nilFunc, fnV 40, fnV 41, fnV 42, fnV 43, fnV 44, fnV 45, fnV 46, fnV 47, fnV 48, fnV 49, fnV 50, fnV 51]) ∧ Below w.heap.size w w' := by
  go_enter Try.func39, Try.ntmps39
  go_wp2_with fail
  exact bodyPost_ret (v := .agg #[.nilFunc, .nilFunc, fnV 40, fnV 41, fnV 42, fnV 43, fnV 44, fnV 45, fnV 46, fnV 47, fnV 48, fnV 49, fnV 50, fnV 51]) (by simp [results, Try.results39, go_sem]) rfl ⟨rfl, (Below.refl _ _).alloc (Nat.le_refl _) _⟩

/-- The number of a kind's check, and of its change. -/
def chkN (k : Int) : Nat := if k = 1 then 40 else if k = 2 then 42 else if k = 3 then 44 else if k = 4 then 46 else if k = 5 then 48 else 50
def chgN (k : Int) : Nat := if k = 1 then 41 else if k = 2 then 43 else if k = 3 then 45 else if k = 4 then 47 else if k = 5 then 49 else 51
set_option maxRecDepth 100000 in
set_option maxHeartbeats 1000000 in
theorem effectOf_yes (k : Int) (h : 1 ≤ k ∧ k ≤ 6) (w : World) : Calls Try.prog 38 #[.int .i64 k] w fun e w' => e = .returned (.tuple #[.agg #[fnV (chkN k), fnV (chgN k)], .bool true]) ∧ Below w.heap.size w w' := by
  have hb1 : Below w.heap.size w (w.alloc (.cells #[.nilFunc, .nilFunc] 69)) := (Below.refl _ _).alloc (Nat.le_refl _) _
  obtain ⟨w1, hw1⟩ : ∃ w1, w1 = w.alloc (.cells #[.nilFunc, .nilFunc] 69) := ⟨_, rfl⟩
  have f0 : w1.cell? ⟨w.heap.size, 0, none⟩ = some .nilFunc := by rw [hw1]; simp
  have f1 : w1.cell? ⟨w.heap.size, 1, none⟩ = some .nilFunc := by rw [hw1]; simp
  have g0 : w1.frozen? ⟨w.heap.size, 0, none⟩ = false := by rw [hw1]; simp
  have g1 : w1.frozen? ⟨w.heap.size, 1, none⟩ = false := by rw [hw1]; simp
  have hlt : w.heap.size < w1.heap.size := by rw [hw1]; simp
  rw [← hw1] at hb1
  have HW := Lib.hid hw1
  have HB1 := Lib.hid hb1
  have HEF := Lib.hid (effects_any w1)
  clear hw1 hb1
  have hk : k = 1 ∨ k = 2 ∨ k = 3 ∨ k = 4 ∨ k = 5 ∨ k = 6 := by omega
  clear h
  rcases hk with rfl | rfl | rfl | rfl | rfl | rfl
  all_goals
    go_enter Try.func38, Try.ntmps38
    go_wp2_with fail
    rw [← HW.out]
    refine HEF.out.mono ?_
    rintro e w2 ⟨rfl, hb2⟩
    have e0 := (hb2.cell (p := ⟨w.heap.size, 0, none⟩) hlt).trans f0
    have e1 := (hb2.cell (p := ⟨w.heap.size, 1, none⟩) hlt).trans f1
    have d0 := (hb2.frozen (p := ⟨w.heap.size, 0, none⟩) hlt).trans g0
    have d1 := (hb2.frozen (p := ⟨w.heap.size, 1, none⟩) hlt).trans g1
    have hlt2 : w.heap.size < w2.heap.size := Nat.lt_of_lt_of_le hlt hb2.size
    have HB2 := Lib.hid (HB1.out.trans (hb2.mono HB1.out.size))
    clear hb2 f0 f1 g0 g1 hlt
    go_wp2_with fail
    refine bodyPost_ret (v := .tuple #[.agg #[fnV (chkN _), fnV (chgN _)], .bool true]) (by simp [results, Try.results38, go_sem, chkN, chgN, e0, e1, hlt2]) rfl ⟨rfl, ?_⟩
    exact ((HB2.out.setCell (p := ⟨w.heap.size, 0, none⟩) (Nat.le_refl _) _).setCell (p := ⟨w.heap.size, 1, none⟩) (Nat.le_refl _) _).alloc (by simp [World.setCell]; omega) _

set_option maxRecDepth 100000 in
set_option maxHeartbeats 1000000 in
theorem effectOf_no (k : Int) (h : ¬ (1 ≤ k ∧ k ≤ 6)) (w : World) : Calls Try.prog 38 #[.int .i64 k] w fun e w' => e = .returned (.tuple #[.agg #[.nilFunc, .nilFunc], .bool false]) ∧ Below w.heap.size w w' := by
  have hb1 : Below w.heap.size w (w.alloc (.cells #[.nilFunc, .nilFunc] 69)) := (Below.refl _ _).alloc (Nat.le_refl _) _
  obtain ⟨w1, hw1⟩ : ∃ w1, w1 = w.alloc (.cells #[.nilFunc, .nilFunc] 69) := ⟨_, rfl⟩
  have f0 : w1.cell? ⟨w.heap.size, 0, none⟩ = some .nilFunc := by rw [hw1]; simp
  have f1 : w1.cell? ⟨w.heap.size, 1, none⟩ = some .nilFunc := by rw [hw1]; simp
  have g0 : w1.frozen? ⟨w.heap.size, 0, none⟩ = false := by rw [hw1]; simp
  have g1 : w1.frozen? ⟨w.heap.size, 1, none⟩ = false := by rw [hw1]; simp
  have hlt : w.heap.size < w1.heap.size := by rw [hw1]; simp
  rw [← hw1] at hb1
  have HW := Lib.hid hw1
  have HB1 := Lib.hid hb1
  have HEF := Lib.hid (effects_any w1)
  clear hw1 hb1
  have hk : k < 1 ∨ 1 ≤ k ∧ 7 ≤ k := by omega
  clear h
  rcases hk with hk | ⟨hk1, hk⟩
  all_goals
    go_enter Try.func38, Try.ntmps38
    go_wp2_with fail
    rw [← HW.out]
    refine HEF.out.mono ?_
    rintro e w2 ⟨rfl, hb2⟩
    have e0 := (hb2.cell (p := ⟨w.heap.size, 0, none⟩) hlt).trans f0
    have e1 := (hb2.cell (p := ⟨w.heap.size, 1, none⟩) hlt).trans f1
    have d0 := (hb2.frozen (p := ⟨w.heap.size, 0, none⟩) hlt).trans g0
    have d1 := (hb2.frozen (p := ⟨w.heap.size, 1, none⟩) hlt).trans g1
    have hlt2 : w.heap.size < w2.heap.size := Nat.lt_of_lt_of_le hlt hb2.size
    have HB2 := Lib.hid (HB1.out.trans (hb2.mono HB1.out.size))
    clear hb2 f0 f1 g0 g1 hlt
    go_wp2_with fail
    refine bodyPost_ret (v := .tuple #[.agg #[.nilFunc, .nilFunc], .bool false]) (by simp [results, Try.results38, go_sem, e0, e1, hlt2]) rfl ⟨rfl, ?_⟩
    exact ((HB2.out.setCell (p := ⟨w.heap.size, 0, none⟩) (Nat.le_refl _) _).setCell (p := ⟨w.heap.size, 1, none⟩) (Nat.le_refl _) _).alloc (by simp [World.setCell]; omega) _
end Go.Proofs.Ytlfgdalpaacccaa.Vm
