/- The contracts of input's stall, repair, release and fault. -/
import Derived.Test.YtlfgdalpaacccaaMines
import Derived.Test.YtlfgdalpaacccaaInChecks
import Derived.Test.YtlfgdalpaacccaaStFinds
import Derived.StillTailTactics
namespace Go.Proofs.Ytlfgdalpaacccaa.Vm
open Go Go.RowKit

/-- An input, boxed beside a state. -/
theorem x_head {w : World} {B b : Nat} {h : Sh} {s : St} (m : Mine w B b h s) (x : Inp) :
    ∃ w1, w1 = w.alloc (inpO x 41) ∧ TurnsH w B b h s w1 ∧ InpAt w1 w.heap.size x ∧ w1.heap.size = w.heap.size + 1 :=
  ⟨_, rfl, .calls m ((Below.refl _ _).alloc (Nat.le_refl _) _), inpAt_new w x _, by simp⟩

set_option maxRecDepth 100000 in
set_option maxHeartbeats 1000000 in
theorem stall_any (B b : Nat) (h : Sh) (s : St) (x : Inp) (w : World) (m : Mine w B b h s) (hr : IsR s x.a) :
    Calls Try.prog 47 #[.pointer (some ⟨b, 0, none⟩), inpV x] w fun e w' => e = .returned (.tuple #[]) ∧ Turns w B b (turnH s x) w' := by
  obtain ⟨w1, hw1, t1, hx1, hz1⟩ := x_head m x
  obtain ⟨i, hxa, hi⟩ := isR_int hr
  obtain ⟨lb, ha, hlb, hltb, hcs, hfz⟩ := t1.m.c.rs.at (by omega)
  have HT : Hid (Turns w B b (turnH s x) ((w1.setCell ⟨lb, i * 5 + 4, none⟩ (.int .i64 x.b)).drew)) := by
    have h1 := (t1.trans (t1.m.setR ha hi (show 4 < 5 by omega) x.b)).drew.t
    have e : turnH s x = ⟨s.tick, s.rs.set i (setF (s.rs.getD i zr) 4 x.b), s.ts, s.bl⟩ := by
      unfold turnH
      rw [hxa, Int.toNat_natCast]
      rfl
    unfold Hid
    rw [e]
    exact h1
  have hc := (hcs i hi).2.2.2.2
  have hf := hfz (i * 5 + 4)
  have s1 := t1.m.cell 1
  have hin : i < h.n1 := by have := t1.m.c.n1; omega
  have hnm := t1.m.stIn.rs.len
  unfold maxLen at hnm
  have HW := Lib.hid hw1
  obtain ⟨t, a1, n1, c1, a2, n2, c2, a3, n3, c3⟩ := h
  obtain ⟨xk, xa, xb, xc⟩ := x
  obtain ⟨x0, x1, x2, x3⟩ := hx1
  simp only [] at ha hxa x0 x1 x2 x3 hin hnm HT
  subst ha hxa
  generalize (s.rs.getD i zr).e = old at hc
  simp at s1
  have hltb' := t1.m.lt
  clear t1 hcs hfz hr hw1 m hi hlb hltb
  go_enter Try.func47, Try.ntmps47
  go_wp2_with fail
  rw [← HW.out]
  go_still_tail 10, (by kernel_rfl)
  change wpList _ _ _ _ _ w1.drew
  go_wp2_with fail
  go_end0
  exact ⟨rfl, HT.out⟩

theorem turnR_at {s : St} {x : Inp} {i : Nat} (hxa : x.a = (i : Int)) (y : Int) (hy : (if (s.rs.getD i zr).c = 0 then (0 : Int) else 2) = y) : turnR s x = ⟨s.tick, s.rs.set i (setF (s.rs.getD i zr) 1 y), s.ts, s.bl⟩ := by
  unfold turnR repairR
  rw [hxa, Int.toNat_natCast, hy]
  rfl

set_option maxRecDepth 100000 in
set_option maxHeartbeats 1000000 in
theorem repair_any (B b : Nat) (h : Sh) (s : St) (x : Inp) (w : World) (m : Mine w B b h s) (hr : IsR s x.a) :
    Calls Try.prog 45 #[.pointer (some ⟨b, 0, none⟩), inpV x] w fun e w' => e = .returned (.tuple #[]) ∧ Turns w B b (turnR s x) w' := by
  obtain ⟨w1, hw1, t1, hx1, hz1⟩ := x_head m x
  obtain ⟨i, hxa, hi⟩ := isR_int hr
  obtain ⟨lb, ha, hlb, hltb, hcs, hfz⟩ := t1.m.c.rs.at (by omega)
  have HT := Lib.hid fun (y : Int) (hy : (if (s.rs.getD i zr).c = 0 then (0 : Int) else 2) = y) (n : Nat) =>
    (show Turns w B b (turnR s x) (((w1.drewN n).setCell ⟨lb, i * 5 + 1, none⟩ (.int .i64 y))) by
      have t2 := t1.trans (.calls t1.m (below_drewN (Below.refl _ _) n))
      rw [turnR_at hxa y hy]
      exact (t2.trans (t2.m.setR ha hi (show 1 < 5 by omega) y)).t)
  have hc := (hcs i hi).2.1
  have hc2 := (hcs i hi).2.2.1
  have hf := hfz (i * 5 + 1)
  have s1 := t1.m.cell 1
  have hin : i < h.n1 := by have := t1.m.c.n1; omega
  have hnm := t1.m.stIn.rs.len
  unfold maxLen at hnm
  have HW := Lib.hid hw1
  obtain ⟨t, a1, n1, c1, a2, n2, c2, a3, n3, c3⟩ := h
  obtain ⟨xk, xa, xb, xc⟩ := x
  obtain ⟨x0, x1, x2, x3⟩ := hx1
  simp only [] at ha hxa x0 x1 x2 x3 hin hnm HT
  subst ha hxa
  generalize (s.rs.getD i zr).b = old at hc
  generalize (s.rs.getD i zr).c = job at hc2 HT
  simp at s1
  have hltb' := t1.m.lt
  have hi0 : (0 : Int) ≤ (i : Int) := by omega
  have hi1 : (i : Int) < (n1 : Int) := by omega
  clear t1 hcs hfz hr hw1 m hi hlb
  by_cases hj : job = 0
  · have e1 : (job != 0) = false := by simpa using hj
    have HT2 := Lib.hid fun n => HT.out 0 (by rw [if_pos hj]) n
    clear hj HT
    go_enter Try.func45, Try.ntmps45
    go_wp2_with fail
    rw [← HW.out]
    go_quiet (fail)
    go_wp2_with fail
    go_end0
    exact ⟨rfl, HT2.out nq⟩
  · have e1 : (job != 0) = true := by simpa using hj
    have HT2 := Lib.hid fun n => HT.out 2 (by rw [if_neg hj]) n
    clear hj HT
    go_enter Try.func45, Try.ntmps45
    go_wp2_with fail
    rw [← HW.out]
    go_quiet (fail)
    go_wp2_with fail
    go_end0
    exact ⟨rfl, HT2.out nq⟩
end Go.Proofs.Ytlfgdalpaacccaa.Vm
