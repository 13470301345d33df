/- The program's disk: possible, New, burn, begin, Left, Room, Fuse. -/
import Derived.Test.YtkfjbpcngmipnaaDkAt
import Derived.Test.YtkfjbpcngmipnaaDiskNames
namespace Go.Proofs.Ytkfjbpcngmipnaa.Vm
open Go Go.RowKit Go.Maps
set_option maxRecDepth 100000

theorem PrgAt.same {w w1 : World} {P : Nat → Prop} {bd mb : Nat} {g : ByteArray → Option PF} {fu fu' : Int} {d d' : DiskS} (h : PrgAt w bd mb g fu d) (hP : ∀ k, Dk bd mb g k → P k) (h1 : PrgAt w1 bd mb g fu' d') (hA : Alt (fun k => k = bd) w w1) : PrgPost w P bd d' w1 :=
  h1.post (hA.mono (fun k hk _ => by rw [hk]; exact hP bd (.inl rfl))) (fun k hk => .inl (hP k hk))
set_option maxHeartbeats 1000000 in
theorem possible_any (n : Int) (w : World) :
    Calls Try.prog 25 #[.int .i64 n] w fun e w' => e = .returned (.bool (decide (0 ≤ n ∧ n ≤ 16777216))) ∧ w' = w := by
  by_cases h1 : 0 ≤ n
  · have d1 : decide (0 ≤ n) = true := by rw [decide_eq_true_eq]; exact h1
    by_cases h2 : n ≤ 16777216
    · have d2 : decide (n ≤ 16777216) = true := by rw [decide_eq_true_eq]; exact h2
      have HE := Lib.hid (decide_eq_true (show 0 ≤ n ∧ n ≤ 16777216 from ⟨h1, h2⟩))
      go_enter Try.func25, Try.ntmps25
      go_wp2_with fail
      go_ret
      first | exact ⟨rfl, rfl⟩ | (rw [HE.out]; exact ⟨rfl, rfl⟩)
    · have d2 : decide (n ≤ 16777216) = false := by rw [decide_eq_false_iff_not]; exact h2
      have HE := Lib.hid (decide_eq_false (show ¬ (0 ≤ n ∧ n ≤ 16777216) from fun h => h2 h.2))
      go_enter Try.func25, Try.ntmps25
      go_wp2_with fail
      go_ret
      first | exact ⟨rfl, rfl⟩ | (rw [HE.out]; exact ⟨rfl, rfl⟩)
  · have d1 : decide (0 ≤ n) = false := by rw [decide_eq_false_iff_not]; exact h1
    have HE := Lib.hid (decide_eq_false (show ¬ (0 ≤ n ∧ n ≤ 16777216) from fun h => h1 h.1))
    go_enter Try.func25, Try.ntmps25
    go_wp2_with fail
    go_ret
    first | exact ⟨rfl, rfl⟩ | (rw [HE.out]; exact ⟨rfl, rfl⟩)

set_option maxHeartbeats 1000000 in
theorem pRoom13_any (bd : Nat) (d : DiskS) (P : Nat → Prop) (n : Int) (w : World) (h : PrgD w P bd d) :
    Calls Try.prog 26 #[.pointer (some ⟨bd, 0, none⟩), .int .i64 n] w fun e w' => e = .returned (.int .i64 (roomS d n).1) ∧ PrgPost w P bd (roomS d n).2 w' := by
  obtain ⟨mb, g, fu, h, hP, _⟩ := h
  obtain ⟨_, q1, _, _, _⟩ := h.box.cells
  have f1 := h.box.frozen 1
  have HPO := possible_any n w
  by_cases h1 : 0 ≤ n ∧ n ≤ 16777216
  · rw [decide_eq_true h1] at HPO
    have HB : Hid (roomS d n = (0, { d with most := n })) := by unfold Hid roomS; rw [if_neg (by omega)]
    have HP : Hid (PrgPost w P bd { d with most := n } (w.setCell ⟨bd, 1, none⟩ (.int .i64 n))) := h.same hP (h.store (d' := { d with most := n }) rfl rfl h.fuse h.wf) (setCell_alt _ _ _ _)
    have HPO := Lib.hid HPO
    clear h hP h1
    go_enter Try.func26, Try.ntmps26
    go_wp2_with fail
    refine HPO.out.mono ?_
    rintro e w' ⟨rfl, rfl⟩
    go_wp2_with fail
    go_ret
    rw [HB.out]
    exact ⟨rfl, HP.out⟩
  · rw [decide_eq_false h1] at HPO
    have HB : Hid (roomS d n = (1, d)) := by unfold Hid roomS; rw [if_pos (by omega)]
    have HP : Hid (PrgPost w P bd d w) := h.same hP h (Alt.refl _ _)
    have HPO := Lib.hid HPO
    clear h hP h1
    go_enter Try.func26, Try.ntmps26
    go_wp2_with fail
    refine HPO.out.mono ?_
    rintro e w' ⟨rfl, rfl⟩
    go_wp2_with fail
    go_ret
    rw [HB.out]
    exact ⟨rfl, HP.out⟩

set_option maxHeartbeats 1000000 in
theorem pFuse13_any (bd : Nat) (d : DiskS) (P : Nat → Prop) (n : Int) (w : World) (h : PrgD w P bd d) (hn : -9223372036854775808 ≤ n) :
    Calls Try.prog 19 #[.pointer (some ⟨bd, 0, none⟩), .int .i64 n] w fun e w' => e = .returned (.tuple #[]) ∧ PrgPost w P bd (fuseS d n) w' := by
  obtain ⟨mb, g, fu, h, hP, _⟩ := h
  have f3 := h.box.frozen 3
  obtain ⟨_, _, _, q3, _⟩ := h.box.cells
  have HP : Hid (PrgPost w P bd (fuseS d n) (w.setCell ⟨bd, 3, none⟩ (.int .i64 n))) := h.same hP (h.store (d' := fuseS d n) rfl rfl rfl hn) (setCell_alt _ _ _ _)
  clear h hP
  go_enter Try.func19, Try.ntmps19
  go_wp2_with fail
  go_end0
  exact ⟨rfl, HP.out⟩

theorem make_dk (w : World) : (Instr.makeMap 61 none).run Try.prog w = .ok (.map (some w.heap.size)) (w.alloc (.map #[] 0)) := by
  kernel_rfl
set_option maxHeartbeats 1000000 in
theorem pNew13_any (n : Int) (w : World) :
    Calls Try.prog 8 #[.int .i64 n] w fun e w' => if n < 0 ∨ 16777216 < n then e = .returned (.tuple #[.pointer none, .int .i64 1]) ∧ w' = w else
      ∃ bd, e = .returned (.tuple #[.pointer (some ⟨bd, 0, none⟩), .int .i64 0]) ∧ PrgD w' (fun k => w.heap.size ≤ k ∧ k < w'.heap.size) bd (newDk n) ∧ Below w.heap.size w w' ∧ w.heap.size ≤ bd := by
  have HPO := possible_any n w
  by_cases h1 : n < 0 ∨ 16777216 < n
  · simp only [if_pos h1]
    rw [decide_eq_false (by omega)] at HPO
    have HPO := Lib.hid HPO
    clear h1
    go_enter Try.func8, Try.ntmps8
    go_wp2_with fail
    refine HPO.out.mono ?_
    rintro e w' ⟨rfl, rfl⟩
    go_wp2_with fail
    exact bodyPost_ret (v := .tuple #[.pointer none, .int .i64 1]) (by simp [results, Try.results8, go_sem]) rfl ⟨rfl, rfl⟩
  · simp only [if_neg h1]
    rw [decide_eq_true (by omega)] at HPO
    have HPO := Lib.hid HPO
    have HM := make_dk w
    have HP : Hid (PrgD ((w.alloc (.map #[] 0)).alloc (.cells #[.map (some w.heap.size), .int .i64 n, .int .i64 0, .int .i64 (-1), .bool true] 63)) (fun k => w.heap.size ≤ k ∧ k < ((w.alloc (.map #[] 0)).alloc (.cells #[.map (some w.heap.size), .int .i64 n, .int .i64 0, .int .i64 (-1), .bool true] 63)).heap.size) (w.heap.size + 1) (newDk n)) := by
      refine ⟨w.heap.size, fun _ => none, -1, ⟨?_, ⟨?_, fun y => rfl, fun y _ => trivial, fun y z p q k _ hy => by cases hy⟩, rfl, by decide⟩, fun k hk => ?_, fun k hk => hk.2⟩
      · unfold BoxP
        show ((w.heap.push _).push _)[w.heap.size + 1]? = _
        rw [Array.getElem?_push, if_pos (by simp)]
        rfl
      · exact (kIn_new dkM w (fun _ => rfl)).keep (Below.heap_alloc _ _ _ (by simp))
      · rcases hk with rfl | rfl | ⟨y, p, hy, _⟩
        · simp
        · simp; omega
        · cases hy
    have HB : Hid (Below w.heap.size w ((w.alloc (.map #[] 0)).alloc (.cells #[.map (some w.heap.size), .int .i64 n, .int .i64 0, .int .i64 (-1), .bool true] 63))) := ((Below.refl _ _).alloc (Nat.le_refl _) _).alloc (by simp) _
    clear h1
    go_enter Try.func8, Try.ntmps8
    go_wp2_with fail
    refine HPO.out.mono ?_
    rintro e w' ⟨rfl, rfl⟩
    go_wp2_with fail
    exact bodyPost_ret (v := .tuple #[.pointer (some ⟨w'.heap.size + 1, 0, none⟩), .int .i64 0]) (by simp [results, Try.results8, go_sem]) rfl ⟨_, rfl, HP.out, HB.out, by omega⟩
end Go.Proofs.Ytkfjbpcngmipnaa.Vm
