/- The contract of input's fault. -/
import Derived.Test.YtlfgdalpaacccaaReleases
namespace Go.Proofs.Ytlfgdalpaacccaa.Vm
open Go Go.RowKit

theorem turnF_no {s : St} {x : Inp} {i : Nat} (hxa : x.a = (i : Int)) (h1 : (s.rs.getD i zr).b ≠ 1) : turnF s x = ⟨s.tick, s.rs.set i (setF (s.rs.getD i zr) 1 4), s.ts, s.bl⟩ := by
  unfold turnF faultR
  rw [hxa, Int.toNat_natCast, if_neg h1, if_neg h1]
  rfl
theorem turnF_yes {s : St} {x : Inp} {i : Nat} (hi : i < s.rs.length) (hxa : x.a = (i : Int)) (h1 : (s.rs.getD i zr).b = 1) :
    turnF s x = ⟨s.tick, (s.rs.set i (setF (s.rs.getD i zr) 2 0)).set i (setF ((s.rs.set i (setF (s.rs.getD i zr) 2 0)).getD i zr) 1 4), freeT s.ts (s.rs.getD i zr).c, s.bl⟩ := by
  unfold turnF faultR
  rw [hxa, Int.toNat_natCast, if_pos h1, if_pos h1, set_at hi, List.set_set]
  rfl

set_option maxRecDepth 100000 in
set_option maxHeartbeats 2000000 in
theorem fault_any (B b : Nat) (h : Sh) (s : St) (x : Inp) (w : World) (m : Mine w B b h s) (hr : IsR s x.a) (hfd : (s.rs.getD x.a.toNat zr).b = 1 → 0 ≤ findS s.ts (s.rs.getD x.a.toNat zr).c) :
    Calls Try.prog 43 #[.pointer (some ⟨b, 0, none⟩), inpV x] w fun e w' => e = .returned (.tuple #[]) ∧ Turns w B b (turnF s x) w' := by
  obtain ⟨w1, hw1, t1, hx1, hz1⟩ := x_head m x
  obtain ⟨i, hxa, hi⟩ := isR_int hr
  obtain ⟨lb, ha, hlb, hltb, hcs, hfz⟩ := t1.m.c.rs.at (by omega)
  have hc := (hcs i hi).2.1
  have hc2 := (hcs i hi).2.2.1
  have hf := hfz (i * 5 + 1)
  have s1 := t1.m.cell 1
  have hin : i < h.n1 := by have := t1.m.c.n1; omega
  have hnm := t1.m.stIn.rs.len
  unfold maxLen at hnm
  have HW := Lib.hid hw1
  have HT1 := Lib.hid t1
  have HI := Lib.hid hi
  rw [hxa, Int.toNat_natCast] at hfd
  have HF1 := Lib.hid fun h1 => turnF_yes hi hxa h1
  have HF0 := Lib.hid fun h1 => turnF_no (s := s) hxa h1
  have HR := Lib.hid fun (V : World) (m : Mine V B b h s) (h1 : (s.rs.getD i zr).b = 1) => release_any B b h s (s.rs.getD i zr).c V m (hfd h1)
  obtain ⟨t, a1, n1, c1, a2, n2, c2, a3, n3, c3⟩ := h
  obtain ⟨xk, xa, xb, xc⟩ := x
  obtain ⟨x0, x1, x2, x3⟩ := hx1
  simp only [] at ha hxa x0 x1 x2 x3 hin hnm
  subst ha hxa
  generalize hj : (s.rs.getD i zr).c = job at hc2 HR HF1
  generalize hm : (s.rs.getD i zr).b = mode at hc HR HF1 HF0
  simp at s1
  have hltb' := t1.m.lt
  have hi0 : (0 : Int) ≤ (i : Int) := by omega
  have hi1 : (i : Int) < (n1 : Int) := by omega
  clear t1 hcs hfz hr hw1 m hi hlb hfd hj hm
  by_cases h1 : mode = 1
  · subst h1
    go_enter Try.func43, Try.ntmps43
    go_wp2_with fail
    rw [← HW.out]
    go_quiet (fail)
    have t2 := HT1.out.trans (.calls HT1.out.m (below_drewN (Below.refl _ _) nq))
    have HR2 := Lib.hid (HR.out _ t2.m (by trivial))
    have HT2 := Lib.hid t2
    clear t2 HR
    go_wp2_with fail
    refine HR2.out.mono ?_
    rintro e w3 ⟨rfl, t3⟩
    have t4 := HT2.out.trans t3
    obtain ⟨lb', ha, hlb, hltb3, hcs, hfz⟩ := t4.m.c.rs.at (by have := HI.out; simp only []; omega)
    injection ha with ha
    injection ha with ha
    subst ha
    have d1 := (hcs i HI.out).2.1
    have d2 := (hcs i HI.out).2.2.1
    have f1 := hfz (i * 5 + 1)
    have f2 := hfz (i * 5 + 2)
    have HT : Hid (Turns w B b (turnF s ⟨xk, i, xb, xc⟩) ((w3.setCell ⟨lb, i * 5 + 2, none⟩ (.int .i64 0)).setCell ⟨lb, i * 5 + 1, none⟩ (.int .i64 4))) := by
      have t5 := t4.trans (t4.m.setR rfl HI.out (show 2 < 5 by omega) 0)
      unfold Hid
      rw [HF1.out (by trivial)]
      exact (t5.trans (t5.m.setR rfl (i := i) (by have := HI.out; simpa using this) (show 1 < 5 by omega) 4)).t
    simp only [] at d1 d2
    generalize (s.rs.getD i zr).b = o1 at d1
    generalize (s.rs.getD i zr).c = o2 at d2
    clear t3 t4 hcs hfz hc hc2 hf s1 x0 x1 x2 x3 HT2 HT1 HR2 HF1 HF0
    go_wp2_with fail
    go_end0
    exact ⟨rfl, HT.out⟩
  · have e1 : (mode == 1) = false := by simpa using h1
    have HT := Lib.hid fun (n : Nat) => (show Turns w B b (turnF s ⟨xk, i, xb, xc⟩) ((w1.drewN n).setCell ⟨lb, i * 5 + 1, none⟩ (.int .i64 4)) by
      have t2 := HT1.out.trans (.calls HT1.out.m (below_drewN (Below.refl _ _) n))
      rw [HF0.out h1]
      exact (t2.trans (t2.m.setR rfl HI.out (show 1 < 5 by omega) 4)).t)
    clear h1 HT1 HR HF1 HF0
    go_enter Try.func43, Try.ntmps43
    go_wp2_with fail
    rw [← HW.out]
    go_quiet (fail)
    go_wp2_with fail
    go_end0
    exact ⟨rfl, HT.out nq⟩
end Go.Proofs.Ytlfgdalpaacccaa.Vm
