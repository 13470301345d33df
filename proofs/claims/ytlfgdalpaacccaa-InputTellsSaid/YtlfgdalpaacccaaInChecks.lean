/- The contracts of input's within, isRobot, isFaulted, and of the checks of a fault, a repair and a stall. -/
import Derived.Test.YtlfgdalpaacccaaInWords
import Derived.Test.YtlfgdalpaacccaaRefFinds
namespace Go.Proofs.Ytlfgdalpaacccaa.Vm
open Go Go.RowKit

set_option maxRecDepth 100000 in
set_option maxHeartbeats 400000 in
theorem iwithin_any (x lo hi : Int) (w : World) : Calls Try.prog 52 #[.int .i64 x, .int .i64 lo, .int .i64 hi] w fun e w' => e = .returned (.bool (yes (lo ≤ x ∧ x ≤ hi))) ∧ w = w' := by
  have ht : lo ≤ x → x ≤ hi → yes (lo ≤ x ∧ x ≤ hi) = true := fun h1 h2 => yes_true ⟨h1, h2⟩
  have hf : ¬ (lo ≤ x ∧ x ≤ hi) → yes (lo ≤ x ∧ x ≤ hi) = false := fun h => yes_false h
  generalize yes (lo ≤ x ∧ x ≤ hi) = Y at ht hf
  by_cases h1 : lo ≤ x
  · by_cases h2 : x ≤ hi
    · have HY := Lib.hid (ht h1 h2)
      clear ht hf
      go_enter Try.func52, Try.ntmps52
      go_wp2
      go_ret
      exact ⟨ret_bool HY.out.symm, rfl⟩
    · have HY := Lib.hid (hf (fun h => h2 h.2))
      clear ht hf
      go_enter Try.func52, Try.ntmps52
      go_wp2
      go_ret
      exact ⟨ret_bool HY.out.symm, rfl⟩
  · have HY := Lib.hid (hf (fun h => h1 h.1))
    clear ht hf
    go_enter Try.func52, Try.ntmps52
    go_wp2
    go_ret
    exact ⟨ret_bool HY.out.symm, rfl⟩
theorem iwithin_yes {x lo hi : Int} (h : lo ≤ x ∧ x ≤ hi) (w : World) : Calls Try.prog 52 #[.int .i64 x, .int .i64 lo, .int .i64 hi] w fun e w' => e = .returned (.bool true) ∧ w = w' := by
  have := iwithin_any x lo hi w
  rwa [yes_true h] at this
theorem iwithin_no {x lo hi : Int} (h : ¬ (lo ≤ x ∧ x ≤ hi)) (w : World) : Calls Try.prog 52 #[.int .i64 x, .int .i64 lo, .int .i64 hi] w fun e w' => e = .returned (.bool false) ∧ w = w' := by
  have := iwithin_any x lo hi w
  rwa [yes_false h] at this

set_option maxRecDepth 100000 in
set_option maxHeartbeats 400000 in
theorem iisRobot_any (h : Sh) (s : St) (B : Nat) (x : Int) (w : World) (hr : RowR w B h.a1 h.n1 h.c1 s.rs) : Calls Try.prog 54 #[shV h, .int .i64 x] w fun e w' => e = .returned (.bool (yes (IsR s x))) ∧ Below w.heap.size w w' := by
  have hn := hr.len
  unfold maxLen at hn
  have HB : Hid (Below w.heap.size w (w.alloc (shO h))) := (Below.refl _ _).alloc (Nat.le_refl _) _
  have HY : Hid (yes (0 ≤ x ∧ x ≤ (h.n1 : Int) - 1) = yes (IsR s x)) := yes_same ⟨fun hh => by have := hr.1; unfold IsR; omega, fun hh => by have := hr.1; unfold IsR at hh; omega⟩
  clear hr
  obtain ⟨t, a1, n1, c1, a2, n2, c2, a3, n3, c3⟩ := h
  simp only [] at HY hn
  go_enter Try.func54, Try.ntmps54
  go_wp2_with fail
  refine (iwithin_any _ _ _ _).mono ?_
  rintro e w' ⟨rfl, rfl⟩
  go_wp2_with fail
  go_ret
  exact ⟨ret_bool HY.out, HB.out⟩

set_option maxRecDepth 100000 in
set_option maxHeartbeats 400000 in
theorem iisFaulted_any (h : Sh) (rs : List Rec) (B i : Nat) (w : World) (hr : RowR w B h.a1 h.n1 h.c1 rs) (hB : B ≤ w.heap.size) (hi : i < rs.length) : Calls Try.prog 55 #[shV h, .int .i64 (i : Int)] w fun e w' => e = .returned (.bool ((rs.getD i zr).b == 4)) ∧ Below w.heap.size w w' := by
  have hn := hr.len
  unfold maxLen at hn
  have hb : Below w.heap.size w (w.alloc (shO h)) := (Below.refl _ _).alloc (Nat.le_refl _) _
  have hl := hr.1
  obtain ⟨b, off, e, hbB, hcs⟩ := hr.cells (by omega)
  have hc := ((hcs i (by omega)).below hb (by omega)).2.1
  have HB := Lib.hid hb
  clear hr hcs hb
  obtain ⟨t, a1, n1, c1, a2, n2, c2, a3, n3, c3⟩ := h
  simp only [] at e hl hn
  subst e
  have hin : i < n1 := by omega
  have hbw : b < w.heap.size := by omega
  generalize (rs.getD i zr).b = m at hc
  clear hl hi
  go_enter Try.func55, Try.ntmps55
  go_wp2_with fail
  go_ret
  exact ⟨rfl, HB.out⟩

theorem isR_int {s : St} {a : Int} (h : IsR s a) : ∃ i : Nat, a = (i : Int) ∧ i < s.rs.length := ⟨a.toNat, by unfold IsR at h; omega, isR_nat h⟩

set_option maxRecDepth 100000 in
set_option maxHeartbeats 1000000 in
theorem checkFault_any (W H : Int) (g : ByteArray) (h : Sh) (s : St) (x : Inp) (B : Nat) (w : World) (hin : StIn w B h s) (hB : B ≤ w.heap.size) :
    Calls Try.prog 42 #[gridV W H g, shV h, inpV x] w fun e w' => e = .returned (.int .i64 (codeF s x)) ∧ Below w.heap.size w w' := by
  obtain ⟨w3, hw3, hB3, hz3, hg3, hs3, hx3⟩ := gsx_head w W H g h x
  have HW := Lib.hid hw3
  have HB3 := Lib.hid hB3
  have HIN := Lib.hid ((hin.mono hB).below hB3)
  have HRO := Lib.hid (iisRobot_any h s w.heap.size x.a w3 HIN.out.rs)
  have HS3 := Lib.hid hs3
  have HX3 := Lib.hid hx3
  by_cases hr : IsR s x.a
  · have HY : Hid (codeF s x = _) := codeF_yes hr
    rw [yes_true hr] at HRO
    obtain ⟨i, hxa, hi⟩ := isR_int hr
    have HFA := Lib.hid fun (V : World) (hV : Below w3.heap.size w3 V) => iisFaulted_any h s.rs w.heap.size i V ((HIN.out.below (hV.mono hB3.size)).rs) (by have := hV.size; omega) hi
    obtain ⟨k, a, b, c⟩ := x
    simp only [] at hxa HRO HY
    subst hxa
    rw [Int.toNat_natCast] at HY
    obtain ⟨t, a1, n1, c1, a2, n2, c2, a3, n3, c3⟩ := h
    clear hw3 hB3 hg3 hs3 hx3 hin hr hi
    go_enter Try.func42, Try.ntmps42
    go_wp2_with fail
    rw [← HW.out]
    refine HRO.out.mono ?_
    rintro e w4 ⟨rfl, hb4⟩
    have hs4 := HS3.out.below hb4 (by omega)
    have hx4 := HX3.out.below hb4 (by omega)
    obtain ⟨s0, s1, s2, s3⟩ := hs4
    obtain ⟨x0, x1, x2, x3⟩ := hx4
    simp only [] at s0 s1 s2 s3 x0 x1 x2 x3
    have HB4 := Lib.hid (HB3.out.trans (hb4.mono HB3.out.size))
    have HFB := Lib.hid (HFA.out _ hb4)
    clear hb4 HRO HFA
    generalize (s.rs.getD i zr).b = m at HFB HY
    by_cases hm : m = 4
    · subst hm
      rw [if_pos rfl] at HY
      go_wp2_with fail
      refine HFB.out.mono ?_
      rintro e w5 ⟨rfl, hb5⟩
      have HB5 := Lib.hid (HB4.out.trans (hb5.mono HB4.out.size))
      go_wp2_with fail
      go_ret
      exact ⟨ret_int' HY.out.symm, HB5.out⟩
    · have e1 : (m == 4) = false := by simpa using hm
      rw [e1] at HFB
      rw [if_neg hm] at HY
      go_wp2_with fail
      refine HFB.out.mono ?_
      rintro e w5 ⟨rfl, hb5⟩
      have HB5 := Lib.hid (HB4.out.trans (hb5.mono HB4.out.size))
      go_wp2_with fail
      go_ret
      exact ⟨ret_int' HY.out.symm, HB5.out⟩
  · have HY : Hid (codeF s x = 5) := codeF_no hr
    rw [yes_false hr] at HRO
    obtain ⟨k, a, b, c⟩ := x
    simp only [] at HRO
    obtain ⟨t, a1, n1, c1, a2, n2, c2, a3, n3, c3⟩ := h
    clear hw3 hB3 hg3 hs3 hx3 hin hr
    go_enter Try.func42, Try.ntmps42
    go_wp2_with fail
    rw [← HW.out]
    refine HRO.out.mono ?_
    rintro e w4 ⟨rfl, hb4⟩
    have HB4 := Lib.hid (HB3.out.trans (hb4.mono HB3.out.size))
    go_wp2_with fail
    go_ret
    exact ⟨ret_int' HY.out.symm, HB4.out⟩

set_option maxRecDepth 100000 in
set_option maxHeartbeats 1000000 in
theorem checkRepair_any (W H : Int) (g : ByteArray) (h : Sh) (s : St) (x : Inp) (B : Nat) (w : World) (hin : StIn w B h s) (hB : B ≤ w.heap.size) :
    Calls Try.prog 44 #[gridV W H g, shV h, inpV x] w fun e w' => e = .returned (.int .i64 (codeR s x)) ∧ Below w.heap.size w w' := by
  obtain ⟨w3, hw3, hB3, hz3, hg3, hs3, hx3⟩ := gsx_head w W H g h x
  have HW := Lib.hid hw3
  have HB3 := Lib.hid hB3
  have HIN := Lib.hid ((hin.mono hB).below hB3)
  have HRO := Lib.hid (iisRobot_any h s w.heap.size x.a w3 HIN.out.rs)
  have HS3 := Lib.hid hs3
  have HX3 := Lib.hid hx3
  by_cases hr : IsR s x.a
  · have HY : Hid (codeR s x = _) := codeR_yes hr
    rw [yes_true hr] at HRO
    obtain ⟨i, hxa, hi⟩ := isR_int hr
    have HFA := Lib.hid fun (V : World) (hV : Below w3.heap.size w3 V) => iisFaulted_any h s.rs w.heap.size i V ((HIN.out.below (hV.mono hB3.size)).rs) (by have := hV.size; omega) hi
    obtain ⟨k, a, b, c⟩ := x
    simp only [] at hxa HRO HY
    subst hxa
    rw [Int.toNat_natCast] at HY
    obtain ⟨t, a1, n1, c1, a2, n2, c2, a3, n3, c3⟩ := h
    clear hw3 hB3 hg3 hs3 hx3 hin hr hi
    go_enter Try.func44, Try.ntmps44
    go_wp2_with fail
    rw [← HW.out]
    refine HRO.out.mono ?_
    rintro e w4 ⟨rfl, hb4⟩
    have hs4 := HS3.out.below hb4 (by omega)
    have hx4 := HX3.out.below hb4 (by omega)
    obtain ⟨s0, s1, s2, s3⟩ := hs4
    obtain ⟨x0, x1, x2, x3⟩ := hx4
    simp only [] at s0 s1 s2 s3 x0 x1 x2 x3
    have HB4 := Lib.hid (HB3.out.trans (hb4.mono HB3.out.size))
    have HFB := Lib.hid (HFA.out _ hb4)
    clear hb4 HRO HFA
    generalize (s.rs.getD i zr).b = m at HFB HY
    by_cases hm : m = 4
    · subst hm
      rw [if_pos rfl] at HY
      go_wp2_with fail
      refine HFB.out.mono ?_
      rintro e w5 ⟨rfl, hb5⟩
      have HB5 := Lib.hid (HB4.out.trans (hb5.mono HB4.out.size))
      go_wp2_with fail
      go_ret
      exact ⟨ret_int' HY.out.symm, HB5.out⟩
    · have e1 : (m == 4) = false := by simpa using hm
      rw [e1] at HFB
      rw [if_neg hm] at HY
      go_wp2_with fail
      refine HFB.out.mono ?_
      rintro e w5 ⟨rfl, hb5⟩
      have HB5 := Lib.hid (HB4.out.trans (hb5.mono HB4.out.size))
      go_wp2_with fail
      go_ret
      exact ⟨ret_int' HY.out.symm, HB5.out⟩
  · have HY : Hid (codeR s x = 5) := codeR_no hr
    rw [yes_false hr] at HRO
    obtain ⟨k, a, b, c⟩ := x
    simp only [] at HRO
    obtain ⟨t, a1, n1, c1, a2, n2, c2, a3, n3, c3⟩ := h
    clear hw3 hB3 hg3 hs3 hx3 hin hr
    go_enter Try.func44, Try.ntmps44
    go_wp2_with fail
    rw [← HW.out]
    refine HRO.out.mono ?_
    rintro e w4 ⟨rfl, hb4⟩
    have HB4 := Lib.hid (HB3.out.trans (hb4.mono HB3.out.size))
    go_wp2_with fail
    go_ret
    exact ⟨ret_int' HY.out.symm, HB4.out⟩

set_option maxRecDepth 100000 in
set_option maxHeartbeats 1000000 in
theorem checkStall_any (W H : Int) (g : ByteArray) (h : Sh) (s : St) (x : Inp) (B : Nat) (w : World) (hin : StIn w B h s) (hB : B ≤ w.heap.size) :
    Calls Try.prog 46 #[gridV W H g, shV h, inpV x] w fun e w' => e = .returned (.int .i64 (codeH s x)) ∧ Below w.heap.size w w' := by
  obtain ⟨w3, hw3, hB3, hz3, hg3, hs3, hx3⟩ := gsx_head w W H g h x
  have HW := Lib.hid hw3
  have HB3 := Lib.hid hB3
  have HIN := Lib.hid ((hin.mono hB).below hB3)
  have HRO := Lib.hid (iisRobot_any h s w.heap.size x.a w3 HIN.out.rs)
  have HX3 := Lib.hid hx3
  by_cases hr : IsR s x.a
  · have HY : Hid (codeH s x = _) := codeH_yes hr
    rw [yes_true hr] at HRO
    obtain ⟨k, a, b, c⟩ := x
    simp only [] at HRO HY
    obtain ⟨t, a1, n1, c1, a2, n2, c2, a3, n3, c3⟩ := h
    clear hw3 hB3 hg3 hs3 hx3 hin hr
    by_cases hm : 1 ≤ b ∧ b ≤ 1000
    · rw [if_pos hm] at HY
      have HWI := Lib.hid fun V => iwithin_yes hm V
      clear hm
      go_enter Try.func46, Try.ntmps46
      go_wp2_with fail
      rw [← HW.out]
      refine HRO.out.mono ?_
      rintro e w4 ⟨rfl, hb4⟩
      have hx4 := HX3.out.below hb4 (by omega)
      obtain ⟨x0, x1, x2, x3⟩ := hx4
      simp only [] at x0 x1 x2 x3
      have HB4 := Lib.hid (HB3.out.trans (hb4.mono HB3.out.size))
      clear hb4 HRO
      go_wp2_with fail
      refine (HWI.out _).mono ?_
      rintro e w5 ⟨rfl, rfl⟩
      go_wp2_with fail
      go_ret
      exact ⟨ret_int' HY.out.symm, HB4.out⟩
    · rw [if_neg hm] at HY
      have HWI := Lib.hid fun V => iwithin_no hm V
      clear hm
      go_enter Try.func46, Try.ntmps46
      go_wp2_with fail
      rw [← HW.out]
      refine HRO.out.mono ?_
      rintro e w4 ⟨rfl, hb4⟩
      have hx4 := HX3.out.below hb4 (by omega)
      obtain ⟨x0, x1, x2, x3⟩ := hx4
      simp only [] at x0 x1 x2 x3
      have HB4 := Lib.hid (HB3.out.trans (hb4.mono HB3.out.size))
      clear hb4 HRO
      go_wp2_with fail
      refine (HWI.out _).mono ?_
      rintro e w5 ⟨rfl, rfl⟩
      go_wp2_with fail
      go_ret
      exact ⟨ret_int' HY.out.symm, HB4.out⟩
  · have HY : Hid (codeH s x = 5) := codeH_no hr
    rw [yes_false hr] at HRO
    obtain ⟨k, a, b, c⟩ := x
    simp only [] at HRO
    obtain ⟨t, a1, n1, c1, a2, n2, c2, a3, n3, c3⟩ := h
    clear hw3 hB3 hg3 hs3 hx3 hin hr
    go_enter Try.func46, Try.ntmps46
    go_wp2_with fail
    rw [← HW.out]
    refine HRO.out.mono ?_
    rintro e w4 ⟨rfl, hb4⟩
    have HB4 := Lib.hid (HB3.out.trans (hb4.mono HB3.out.size))
    go_wp2_with fail
    go_ret
    exact ⟨ret_int' HY.out.symm, HB4.out⟩
end Go.Proofs.Ytlfgdalpaacccaa.Vm
