/- The contracts of state's hasItsRobot and hasItsTask. -/
import Derived.Test.YtincamjkfpcpiaaRobots
import Derived.Deep.QuietTactic
import Derived.BigQuiet
namespace Go.Proofs.Ytincamjkfpcpiaa.Vm
open Go Go.RowKit

theorem quiet_left {P : Program} {f : FuncId} {args : Array Value} {w : World} {n : Nat} {v : Value}
    (h : Calls P f args (w.drewN n) fun e w' => e = .returned v ∧ w.drewN n = w') : Calls P f args (w.drewN n) fun e w'' => e = .returned v ∧ ∃ m, w'' = w.drewN m :=
  h.mono fun _ _ ⟨he, hm⟩ => ⟨he, n, hm.symm⟩

/-- A robot's Mode and Task, and the task that is its own. -/
def FitP (r o : Rec) : Prop := (r.b = 0 ∨ r.b = 3) ∧ r.c = 0 ∨ r.b = 1 ∧ o.d = 2 ∨ r.b = 2 ∧ o.d = 3 ∨ r.b = 4 ∧ (r.c = 0 ∨ o.d = 3)
theorem yes_beq {p : Prop} {x y : Int} (h : p ↔ x = y) : yes p = (x == y) := by
  by_cases e : x = y
  · rw [yes_true (h.2 e), beq_iff_eq.2 e]
  · rw [yes_false (fun q => e (h.1 q)), beq_eq_false_iff_ne.2 e]
theorem fit_03 {r o : Rec} (h : r.b = 0 ∨ r.b = 3) : yes (FitP r o) = (r.c == 0) := yes_beq (by unfold FitP; omega)
theorem fit_1 {r o : Rec} (h : r.b = 1) : yes (FitP r o) = (o.d == 2) := yes_beq (by unfold FitP; omega)
theorem fit_2 {r o : Rec} (h : r.b = 2) : yes (FitP r o) = (o.d == 3) := yes_beq (by unfold FitP; omega)
theorem fit_4 {r o : Rec} (h : r.b = 4) (hc : r.c = 0) : yes (FitP r o) = true := yes_true (by unfold FitP; omega)
theorem fit_4' {r o : Rec} (h : r.b = 4) (hc : r.c ≠ 0) : yes (FitP r o) = (o.d == 3) := yes_beq (by unfold FitP; omega)
theorem fit_x {r o : Rec} (h0 : r.b ≠ 0) (h1 : r.b ≠ 1) (h2 : r.b ≠ 2) (h3 : r.b ≠ 3) (h4 : r.b ≠ 4) : yes (FitP r o) = false := yes_false (by unfold FitP; omega)
theorem role_1 {rs : List Rec} {t : Rec} (h : t.d = 1) : yes (RoleP rs t) = (t.e == -1) := yes_beq (by unfold RoleP; omega)
theorem role_23 {rs : List Rec} {t : Rec} (h : t.d = 2 ∨ t.d = 3) (he : 0 ≤ t.e ∧ t.e < rs.length) : yes (RoleP rs t) = ((rs.getD t.e.toNat zr).c == t.a) := yes_beq (by unfold RoleP; omega)
theorem role_23' {rs : List Rec} {t : Rec} (h : t.d = 2 ∨ t.d = 3) (he : ¬ (0 ≤ t.e ∧ t.e < rs.length)) : yes (RoleP rs t) = false := yes_false (by unfold RoleP; omega)
theorem role_4 {rs : List Rec} {t : Rec} (h : t.d = 4) : yes (RoleP rs t) = yes (0 ≤ t.e ∧ t.e < rs.length) := yes_same (by unfold RoleP; omega)
theorem role_x {rs : List Rec} {t : Rec} (h1 : t.d ≠ 1) (h2 : t.d ≠ 2) (h3 : t.d ≠ 3) (h4 : t.d ≠ 4) : yes (RoleP rs t) = false := yes_false (by unfold RoleP; omega)

set_option maxRecDepth 100000 in
set_option maxHeartbeats 400000 in
theorem hasItsTask_any (r o : Rec) (w : World) : Calls Try.prog 47 #[recV r, recV o] w fun e w' => e = .returned (.bool (yes (FitP r o))) ∧ Below w.heap.size w w' := by
  have hbel : ∀ x y : Obj, Below w.heap.size w ((w.alloc x).alloc y) := fun x y => ((Below.refl _ _).alloc (Nat.le_refl _) x).alloc (by simp) y
  have HB := Lib.hid hbel
  clear hbel
  by_cases h0 : r.b = 0
  · have HY := Lib.hid (fit_03 (o := o) (.inl h0))
    have e0 : (r.b == 0) = true := by simpa using h0
    clear h0
    go_enter Try.func47, Try.ntmps47
    go_wp2
    go_ret
    exact ⟨ret_bool HY.out.symm, HB.out _ _⟩
  have e0 : (r.b == 0) = false := by simpa using h0
  by_cases h3 : r.b = 3
  · have HY := Lib.hid (fit_03 (o := o) (.inr h3))
    have e3 : (r.b == 3) = true := by simpa using h3
    clear h0 h3
    go_enter Try.func47, Try.ntmps47
    go_wp2
    go_ret
    exact ⟨ret_bool HY.out.symm, HB.out _ _⟩
  have e3 : (r.b == 3) = false := by simpa using h3
  by_cases h1 : r.b = 1
  · have HY := Lib.hid (fit_1 (o := o) h1)
    have e1 : (r.b == 1) = true := by simpa using h1
    clear h0 h3 h1
    go_enter Try.func47, Try.ntmps47
    go_wp2
    go_ret
    exact ⟨ret_bool HY.out.symm, HB.out _ _⟩
  have e1 : (r.b == 1) = false := by simpa using h1
  by_cases h2 : r.b = 2
  · have HY := Lib.hid (fit_2 (o := o) h2)
    have e2 : (r.b == 2) = true := by simpa using h2
    clear h0 h3 h1 h2
    go_enter Try.func47, Try.ntmps47
    go_wp2
    go_ret
    exact ⟨ret_bool HY.out.symm, HB.out _ _⟩
  have e2 : (r.b == 2) = false := by simpa using h2
  by_cases h4 : r.b = 4
  · have e4 : (r.b == 4) = true := by simpa using h4
    by_cases hc : r.c = 0
    · have HY := Lib.hid (fit_4 (o := o) h4 hc)
      have ec : (r.c == 0) = true := by simpa using hc
      clear h0 h3 h1 h2 h4 hc
      go_enter Try.func47, Try.ntmps47
      go_wp2
      go_ret
      exact ⟨ret_bool HY.out.symm, HB.out _ _⟩
    · have HY := Lib.hid (fit_4' (o := o) h4 hc)
      have ec : (r.c == 0) = false := by simpa using hc
      clear h0 h3 h1 h2 h4 hc
      go_enter Try.func47, Try.ntmps47
      go_wp2
      go_ret
      exact ⟨ret_bool HY.out.symm, HB.out _ _⟩
  · have HY := Lib.hid (fit_x (o := o) h0 h1 h2 h3 h4)
    have e4 : (r.b == 4) = false := by simpa using h4
    clear h0 h3 h1 h2 h4
    go_enter Try.func47, Try.ntmps47
    go_wp2
    go_ret
    exact ⟨ret_bool HY.out.symm, HB.out _ _⟩

set_option maxRecDepth 100000 in
set_option maxHeartbeats 800000 in
theorem hasItsRobot_any (a : Option Addr) (n c B : Nat) (rs : List Rec) (t : Rec) (w : World) (h : RowR w B a n c rs) (hB : B ≤ w.heap.size) :
    Calls Try.prog 46 #[.slice a n c, recV t] w fun e w' => e = .returned (.bool (yes (RoleP rs t))) ∧ Below w.heap.size w w' := by
  have hbel : ∀ x : Obj, Below w.heap.size w (w.alloc x) := fun x => (Below.refl _ _).alloc (Nat.le_refl _) x
  have HB := Lib.hid hbel
  have HNL := Lib.hid h.len
  have hnm := h.len
  unfold maxLen at hnm
  have HL := Lib.hid h.1
  have HCS := Lib.hid h.cells
  clear hbel h
  by_cases h1 : t.d = 1
  · have HY := Lib.hid (role_1 (rs := rs) h1)
    have e1 : (t.d == 1) = true := by simpa using h1
    clear h1
    go_enter Try.func46, Try.ntmps46
    go_wp2
    go_ret
    exact ⟨ret_bool HY.out.symm, HB.out _⟩
  have e1 : (t.d == 1) = false := by simpa using h1
  by_cases h4 : t.d = 4
  · have HY := Lib.hid (role_4 (rs := rs) h4)
    have e2 : (t.d == 2) = false := by rw [beq_eq_false_iff_ne]; omega
    have e3 : (t.d == 3) = false := by rw [beq_eq_false_iff_ne]; omega
    have e4 : (t.d == 4) = true := by simpa using h4
    clear h1 h4
    go_enter Try.func46, Try.ntmps46
    go_wp2_with fail
    refine (isRobot_any _ _ _ _ _ HNL.out).mono ?_
    rintro e w' ⟨rfl, rfl⟩
    go_wp2_with fail
    go_ret
    exact ⟨ret_bool (by rw [HY.out, HL.out]), HB.out _⟩
  have e4 : (t.d == 4) = false := by simpa using h4
  by_cases h23 : t.d = 2 ∨ t.d = 3
  · by_cases hr : 0 ≤ t.e ∧ t.e < rs.length
    · have HY := Lib.hid (role_23 h23 hr)
      obtain ⟨ta, tb, tc, td, te⟩ := t
      simp only [] at hr e1 e4 h23 h1 h4
      obtain ⟨k, rfl⟩ := Int.eq_ofNat_of_zero_le hr.1
      have hkn : k < n := by have := HL.out; omega
      obtain ⟨b, off, rfl, hb, hcs⟩ := HCS.out (by omega)
      have hcell := hcs k hkn
      obtain ⟨p1, p2, p3, p4, p5⟩ := hcell
      simp only [Int.toNat_natCast] at HY
      have hb3 : b < w.heap.size := by omega
      have HIR := Lib.hid fun V => isRobot_yes (some ⟨b, off, none⟩) (n := n) c (x := (k : Int)) V HNL.out (by omega)
      generalize (rs.getD k zr).a = xa at p1
      generalize (rs.getD k zr).b = xb at p2
      have hxc : ∃ xc, (rs.getD k zr).c = xc := ⟨_, rfl⟩
      obtain ⟨xc, hxc⟩ := hxc
      rw [hxc] at p3 HY
      generalize (rs.getD k zr).d = xd at p4
      generalize (rs.getD k zr).e = xe at p5
      clear hxc hcs hr h1 h4
      rcases h23 with h2 | h3
      · have e2 : (td == 2) = true := by simpa using h2
        clear h2
        go_enter Try.func46, Try.ntmps46
        go_wp2_with fail
        go_quiet ((go_at_call 38; exact quiet_left (HIR.out _)))
        go_wp2_with fail
        go_ret
        exact ⟨ret_bool HY.out.symm, below_drewN (HB.out _) _⟩
      · have e2 : (td == 2) = false := by rw [beq_eq_false_iff_ne]; omega
        have e3 : (td == 3) = true := by simpa using h3
        clear h3
        go_enter Try.func46, Try.ntmps46
        go_wp2_with fail
        go_quiet ((go_at_call 38; exact quiet_left (HIR.out _)))
        go_wp2_with fail
        go_ret
        exact ⟨ret_bool HY.out.symm, below_drewN (HB.out _) _⟩
    · have HY := Lib.hid (role_23' h23 hr)
      have HIR := Lib.hid fun V => isRobot_no a (n := n) c (x := t.e) V HNL.out (by rw [← HL.out]; exact hr)
      clear hr h1 h4
      rcases h23 with h2 | h3
      · have e2 : (t.d == 2) = true := by simpa using h2
        clear h2
        go_enter Try.func46, Try.ntmps46
        go_wp2_with fail
        go_quiet ((go_at_call 38; exact quiet_left (HIR.out _)))
        go_wp2_with fail
        go_ret
        exact ⟨ret_bool HY.out.symm, below_drewN (HB.out _) _⟩
      · have e2 : (t.d == 2) = false := by rw [beq_eq_false_iff_ne]; omega
        have e3 : (t.d == 3) = true := by simpa using h3
        clear h3
        go_enter Try.func46, Try.ntmps46
        go_wp2_with fail
        go_quiet ((go_at_call 38; exact quiet_left (HIR.out _)))
        go_wp2_with fail
        go_ret
        exact ⟨ret_bool HY.out.symm, below_drewN (HB.out _) _⟩
  · have HY := Lib.hid (role_x (rs := rs) h1 (fun h => h23 (.inl h)) (fun h => h23 (.inr h)) h4)
    have e2 : (t.d == 2) = false := by rw [beq_eq_false_iff_ne]; omega
    have e3 : (t.d == 3) = false := by rw [beq_eq_false_iff_ne]; omega
    clear h1 h4 h23
    go_enter Try.func46, Try.ntmps46
    go_wp2
    go_ret
    exact ⟨ret_bool HY.out.symm, HB.out _⟩
end Go.Proofs.Ytincamjkfpcpiaa.Vm
