/- The contracts of grid.beside and grid.Goes, on grids that may be. -/
import Derived.Test.YtacigmjdppoonaaFloors
namespace Go.Proofs.Ytacigmjdppoonaa.Vm
open Go.RowKit

/-- What lies beside a cell. -/
def besideS (W c way : Int) : Int × Bool :=
  if way = 0 then (c, true) else if way = 1 then (c - W, true) else if way = 2 then (c + 1, !(c % W == W - 1)) else if way = 3 then (c + W, true) else if way = 4 then (c - 1, c % W != 0) else (0, false)

theorem ret_ib {R : Int × Bool} {a : Int} {b : Bool} (h : R = (a, b)) : Ending.returned (.tuple #[.int .i64 a, .bool b]) = .returned (.tuple #[.int .i64 R.1, .bool R.2]) := by rw [h]

set_option maxRecDepth 100000 in
set_option maxHeartbeats 400000 in
theorem beside_any (W H c way : Int) (s : ByteArray) (w : World) (hW : 1 ≤ W) (hW2 : W ≤ 256) (hc : 0 ≤ c) (hc2 : c ≤ 1000000) :
    Calls Try.prog 33 #[gridV W H s, .int .i64 c, .int .i64 way] w fun e w' => e = .returned (.tuple #[.int .i64 (besideS W c way).1, .bool (besideS W c way).2]) ∧ Below w.heap.size w w' := by
  have hB : Below w.heap.size w (w.alloc (gridO W H s)) := (Below.refl _ _).alloc (Nat.le_refl _) _
  by_cases h0 : way = 0
  · subst h0
    go_enter Try.func33, Try.ntmps33
    go_wp2
    go_ret2
    exact ⟨ret_ib (by simp [besideS]), hB⟩
  by_cases h1 : way = 1
  · subst h1
    go_enter Try.func33, Try.ntmps33
    go_wp2
    go_ret2
    exact ⟨ret_ib (by simp [besideS]), hB⟩
  by_cases h2 : way = 2
  · subst h2
    clear h0 h1
    go_enter Try.func33, Try.ntmps33
    go_wp2_with fail
    refine (lastOfRow_any W H c s _ hW hW2 hc hc2).mono ?_
    rintro e w1 ⟨rfl, hb⟩
    have hb2 := hB.trans (hb.mono hB.size)
    go_wp2
    go_ret2
    exact ⟨ret_ib (by simp [besideS]), hb2⟩
  by_cases h3 : way = 3
  · subst h3
    clear h0 h1 h2
    go_enter Try.func33, Try.ntmps33
    go_wp2
    go_ret2
    exact ⟨ret_ib (by simp [besideS]), hB⟩
  by_cases h4 : way = 4
  · subst h4
    clear h0 h1 h2 h3
    go_enter Try.func33, Try.ntmps33
    go_wp2
    go_quiet (fail)
    go_wp2
    go_ret2
    exact ⟨ret_ib (by simp [besideS]), below_drewN hB _⟩
  have HE : Hid (besideS W c way = (0, false)) := by unfold Hid besideS; simp [h0, h1, h2, h3, h4]
  have e0 : (way == 0) = false := by simpa using h0
  have e1 : (way == 1) = false := by simpa using h1
  have e2 : (way == 2) = false := by simpa using h2
  have e3 : (way == 3) = false := by simpa using h3
  have e4 : (way == 4) = false := by simpa using h4
  clear h0 h1 h2 h3 h4
  go_enter Try.func33, Try.ntmps33
  go_wp2
  go_ret2
  exact ⟨ret_ib HE.out, hB⟩

/-- A grid that may be, as the walks ask for it. -/
structure Okay (W H : Int) (s : ByteArray) : Prop where
  w1 : 1 ≤ W
  w2 : W ≤ 256
  h1 : 1 ≤ H
  h2 : H ≤ 256
  len : (s.size : Int) = W * H
  le : s.size ≤ 65536
  ok : (bytesOf s).all letterS = true

theorem Okay.of {W H : Int} {s : ByteArray} (h : rightS W H (bytesOf s) = true) : Okay W H s := by
  unfold rightS at h
  rw [Bool.and_eq_true, decide_eq_true_eq, bytesOf_len] at h
  obtain ⟨⟨h1, h2, h3, h4, h5⟩, h6⟩ := h
  refine ⟨h1, h3, h2, h4, h5, ?_, h6⟩
  have := Int.mul_le_mul h3 h4 (by omega) (by omega)
  omega
theorem Okay.right {W H : Int} {s : ByteArray} (h : Okay W H s) : rightS W H (bytesOf s) = true := by
  unfold rightS
  rw [Bool.and_eq_true, decide_eq_true_eq, bytesOf_len]
  exact ⟨⟨h.w1, h.h1, h.w2, h.h2, h.len⟩, h.ok⟩
theorem Okay.at {W H : Int} {s : ByteArray} (h : Okay W H s) {k : Nat} (hk : k < s.size) : letterS (s[k]'hk).toNat = true := by
  rw [← bytesOf_at s k hk]
  refine List.all_eq_true.1 h.ok _ ?_
  have := bytesOf_len s
  simp [List.getD, show k < (bytesOf s).length by omega]

/-- A step, as the code has it. -/
def goesI (W : Int) (l : List Nat) (c way : Int) : Int × Bool :=
  if floorS l c = false ∨ letsB (l.getD c.toNat 0) way = false then (0, false) else
  if (besideS W c way).2 = false ∨ floorS l (besideS W c way).1 = false then (0, false) else ((besideS W c way).1, true)

theorem goesI_eq {W H : Int} {l : List Nat} {c way : Int} (h1 : 1 ≤ W) (hlen : (l.length : Int) = W * H) : goesI W l c way = goesS W H l c way := by
  unfold goesI goesS
  cases hf : floorS l c
  · simp
  obtain ⟨hc0, hc1⟩ := floorS_in hf
  have hx0 := Int.emod_nonneg c (show W ≠ 0 by omega)
  have hx1 := Int.emod_lt_of_pos c (show 0 < W by omega)
  have hy0 : 0 ≤ c / W := Int.ediv_nonneg hc0 (by omega)
  have hy1 : c / W < H := by
    apply Int.ediv_lt_of_lt_mul (by omega)
    rw [Int.mul_comm, ← hlen]
    exact hc1
  have hce := of_cell c W
  by_cases w0 : way = 0
  · subst w0
    have e1 : letsB (l.getD c.toNat 0) 0 = true := by simp [letsB]
    rw [e1]
    simp [besideS, hf]
  by_cases wout : way < 0 ∨ 4 < way
  · have e1 : (besideS W c way) = (0, false) := by unfold besideS; simp [w0, show way ≠ 1 by omega, show way ≠ 2 by omega, show way ≠ 3 by omega, show way ≠ 4 by omega]
    simp [e1, wout]
  have wout' : ¬ (way < 0 ∨ 4 < way) := wout
  rw [if_neg (show ¬ ((true = false) ∨ way < 0 ∨ 4 < way) by simpa using wout'), if_neg w0]
  by_cases hb : Barred (l.getD c.toNat 0) way
  · have e1 : letsB (l.getD c.toNat 0) way = false := by unfold letsB; exact decide_eq_false (fun h => h.elim w0 (fun h => h hb))
    rw [if_pos (.inr e1), if_pos hb]
  have e1 : letsB (l.getD c.toNat 0) way = true := by unfold letsB; exact decide_eq_true (.inr hb)
  rw [if_neg hb, if_neg (by rw [e1]; simp)]
  have hcase : way = 1 ∨ way = 2 ∨ way = 3 ∨ way = 4 := by omega
  have hd1 : c / W * W = c - c % W := by omega
  rcases hcase with rfl | rfl | rfl | rfl
  · have e : (c / W + dyS 1) * W + (c % W + dxS 1) = c - W := by simp only [dyS, dxS]; rw [Int.add_mul]; simp; omega
    rw [e]
    have eb : besideS W c 1 = (c - W, true) := by simp [besideS]
    rw [eb]
    simp only [Bool.true_eq_false, false_or]
    by_cases hr : c / W = 0
    · have hneg : c - W < 0 := by rw [hr] at hd1; omega
      rw [if_pos (floorS_neg hneg), if_pos (.inr (.inl (by simp [dyS, hr])))]
    · have g1 : ¬ (c % W + dxS 1 < 0) := by simp [dxS]; omega
      have g2 : ¬ (c / W + dyS 1 < 0) := by simp [dyS]; omega
      have g3 : ¬ (W ≤ c % W + dxS 1) := by simp [dxS]; omega
      have g4 : ¬ (H ≤ c / W + dyS 1) := by simp [dyS]; omega
      simp only [g1, g2, g3, g4, false_or]
  · have e : (c / W + dyS 2) * W + (c % W + dxS 2) = c + 1 := by simp [dyS, dxS]; omega
    rw [e]
    have eb : besideS W c 2 = (c + 1, !(c % W == W - 1)) := by simp [besideS]
    rw [eb]
    by_cases hr : c % W = W - 1
    · rw [if_pos (.inl (by simp [hr])), if_pos (.inr (.inr (.inl (by simp [dxS, hr]))))]
    · have g0 : (!(c % W == W - 1)) = true := by simpa using hr
      have g1 : ¬ (c % W + dxS 2 < 0) := by simp [dxS]; omega
      have g2 : ¬ (c / W + dyS 2 < 0) := by simp [dyS]; omega
      have g3 : ¬ (W ≤ c % W + dxS 2) := by simp [dxS]; omega
      have g4 : ¬ (H ≤ c / W + dyS 2) := by simp [dyS]; omega
      simp only [g0, g1, g2, g3, g4, false_or, Bool.true_eq_false]
  · have e : (c / W + dyS 3) * W + (c % W + dxS 3) = c + W := by simp only [dyS, dxS]; rw [Int.add_mul]; simp; omega
    rw [e]
    have eb : besideS W c 3 = (c + W, true) := by simp [besideS]
    rw [eb]
    simp only [Bool.true_eq_false, false_or]
    by_cases hr : c / W + 1 = H
    · have hbig : (l.length : Int) ≤ c + W := by rw [hlen, ← hr, Int.mul_add, Int.mul_comm W]; omega
      rw [if_pos (floorS_big hbig), if_pos (.inr (.inr (.inr (.inl (by simp [dyS]; omega)))))]
    · have g1 : ¬ (c % W + dxS 3 < 0) := by simp [dxS]; omega
      have g2 : ¬ (c / W + dyS 3 < 0) := by simp [dyS]; omega
      have g3 : ¬ (W ≤ c % W + dxS 3) := by simp [dxS]; omega
      have g4 : ¬ (H ≤ c / W + dyS 3) := by simp [dyS]; omega
      simp only [g1, g2, g3, g4, false_or]
  · have e : (c / W + dyS 4) * W + (c % W + dxS 4) = c - 1 := by simp [dyS, dxS]; omega
    rw [e]
    have eb : besideS W c 4 = (c - 1, c % W != 0) := by simp [besideS]
    rw [eb]
    by_cases hr : c % W = 0
    · rw [if_pos (.inl (by simp [hr])), if_pos (.inl (by simp [dxS, hr]))]
    · have g0 : (c % W != 0) = true := by simpa using hr
      have g1 : ¬ (c % W + dxS 4 < 0) := by simp [dxS]; omega
      have g2 : ¬ (c / W + dyS 4 < 0) := by simp [dyS]; omega
      have g3 : ¬ (W ≤ c % W + dxS 4) := by simp [dxS]; omega
      have g4 : ¬ (H ≤ c / W + dyS 4) := by simp [dyS]; omega
      simp only [g0, g1, g2, g3, g4, false_or, Bool.true_eq_false]

/-- Two blocks laid, two draws, and a call. -/
theorem below_two' {w w1 : World} {o1 o2 : Obj} (h : Below w.heap.size w w1) : Below w.heap.size w ((w1.alloc o1).alloc o2).drew.drew :=
  (((h.alloc h.size _).alloc (by have := h.size; simp; omega) _).drew).drew
theorem below_two {w1 w3 : World} {o1 o2 : Obj} (h : Below ((w1.alloc o1).alloc o2).drew.drew.heap.size ((w1.alloc o1).alloc o2).drew.drew w3) : Below w1.heap.size w1 w3 :=
  (below_two' (Below.refl _ w1)).trans (h.mono (below_two' (o1 := o1) (o2 := o2) (Below.refl _ w1)).size)

set_option maxRecDepth 100000 in
set_option maxHeartbeats 800000 in
theorem goes_any (W H c way : Int) (s : ByteArray) (w : World) (h : Okay W H s) :
    Calls Try.prog 19 #[gridV W H s, .int .i64 c, .int .i64 way] w fun e w' =>
      e = .returned (.tuple #[.int .i64 (goesS W H (bytesOf s) c way).1, .bool (goesS W H (bytesOf s) c way).2]) ∧ Below w.heap.size w w' := by
  have hw1 := h.w1
  have hw2 := h.w2
  have hle := h.le
  have hE : goesS W H (bytesOf s) c way = goesI W (bytesOf s) c way := (goesI_eq h.w1 (by rw [bytesOf_len]; exact h.len)).symm
  rw [hE]
  clear hE
  have hB : Below w.heap.size w (w.alloc (gridO W H s)) := (Below.refl _ _).alloc (Nat.le_refl _) _
  have hfl := fun w => floor_any W H c s w (by unfold maxLen; omega)
  clear h
  cases hf : floorS (bytesOf s) c
  · have HE : Hid (goesI W (bytesOf s) c way = (0, false)) := by unfold Hid goesI; rw [if_pos (.inl hf)]
    rw [hf] at hfl
    have HFL := Lib.hid hfl
    clear hfl hf
    go_enter Try.func19, Try.ntmps19
    go_wp2_with fail
    refine (HFL.out _).mono ?_
    rintro e w1 ⟨rfl, hb⟩
    have hb2 := hB.trans (hb.mono hB.size)
    go_wp2
    go_ret2
    exact ⟨ret_ib HE.out, hb2⟩
  obtain ⟨hc0, hc1⟩ := floorS_in hf
  rw [bytesOf_len] at hc1
  obtain ⟨k, rfl⟩ := Int.eq_ofNat_of_zero_le hc0
  have hk : k < s.size := by omega
  rw [hf] at hfl
  have HFL := Lib.hid hfl
  have hat : (bytesOf s).getD (k : Int).toNat 0 = (s[k]'hk).toNat := bytesOf_at s k hk
  have hlt := fun w => lets_any (s[k]'hk).toNat way w
  rw [← hat] at hlt
  clear hfl
  cases hl : letsB ((bytesOf s).getD (k : Int).toNat 0) way
  · have HE : Hid (goesI W (bytesOf s) k way = (0, false)) := by unfold Hid goesI; rw [if_pos (.inr hl)]
    rw [hl, hat] at hlt
    have HLT := Lib.hid hlt
    clear hlt hl hat hf
    go_enter Try.func19, Try.ntmps19
    go_wp2_with fail
    refine (HFL.out _).mono ?_
    rintro e w1 ⟨rfl, hb⟩
    have hb2 := hB.trans (hb.mono hB.size)
    obtain ⟨hc, hfz⟩ := bcell hb
    go_wp2_with fail
    refine (HLT.out _).mono ?_
    rintro e w2 ⟨rfl, rfl⟩
    go_wp2
    go_ret2
    exact ⟨ret_ib HE.out, hb2⟩
  rw [hl, hat] at hlt
  have HLT := Lib.hid hlt
  have hE : goesI W (bytesOf s) k way = if (besideS W k way).2 = false ∨ floorS (bytesOf s) (besideS W k way).1 = false then (0, false) else ((besideS W k way).1, true) := by
    unfold goesI; rw [if_neg (by rw [hf, hl]; simp)]
  have hbe := fun w => beside_any W H k way s w hw1 hw2 (by omega) (by omega)
  have hfl2 := fun c w => floor_any W H c s w (by unfold maxLen; omega)
  clear hlt hl hat hf
  obtain ⟨to, ok, hD⟩ : ∃ to ok, besideS W k way = (to, ok) := ⟨_, _, rfl⟩
  rw [hD] at hbe hE
  simp only [] at hbe hE
  have HBE := Lib.hid hbe
  clear hbe hD
  cases ok
  · have HE := Lib.hid (hE.trans (if_pos (.inl rfl)))
    clear hE hfl2
    go_enter Try.func19, Try.ntmps19
    go_wp2_with fail
    refine (HFL.out _).mono ?_
    rintro e w1 ⟨rfl, hb⟩
    have hb2 := hB.trans (hb.mono hB.size)
    obtain ⟨hc, hfz⟩ := bcell hb
    go_wp2_with fail
    refine (HLT.out _).mono ?_
    rintro e w2 ⟨rfl, rfl⟩
    go_wp2_with fail
    refine (HBE.out _).mono ?_
    rintro e w2 ⟨rfl, hb3⟩
    have hb4 := hb2.trans (hb3.mono hb2.size)
    go_wp2
    go_ret2
    exact ⟨ret_ib HE.out, hb4⟩
  have hfl3 := hfl2 to
  clear hfl2
  cases hf : floorS (bytesOf s) to
  · have HE := Lib.hid (hE.trans (if_pos (.inr hf)))
    rw [hf] at hfl3
    have HFL3 := Lib.hid hfl3
    clear hE hfl3 hf
    go_enter Try.func19, Try.ntmps19
    go_wp2_with fail
    refine (HFL.out _).mono ?_
    rintro e w1 ⟨rfl, hb⟩
    have hb2 := hB.trans (hb.mono hB.size)
    obtain ⟨hc, hfz⟩ := bcell hb
    go_wp2_with fail
    refine (HLT.out _).mono ?_
    rintro e w2 ⟨rfl, rfl⟩
    go_wp2_with fail
    refine (HBE.out _).mono ?_
    rintro e w2 ⟨rfl, hb3⟩
    have hb4 := hb2.trans (hb3.mono hb2.size)
    obtain ⟨hc3, hfz3⟩ := bcell hb3
    have hz : w.heap.size < w1.heap.size := by have := hb.size; simp at this; omega
    go_wp2_with fail
    refine (HFL3.out _).mono ?_
    rintro e w3 ⟨rfl, hb5⟩
    have hb6 := hb4.trans (hb5.mono hb4.size)
    go_wp2
    go_ret2
    exact ⟨ret_ib HE.out, hb6⟩
  · have HE := Lib.hid (hE.trans (if_neg (by rw [hf]; simp)))
    rw [hf] at hfl3
    have HFL3 := Lib.hid hfl3
    clear hE hfl3 hf
    go_enter Try.func19, Try.ntmps19
    go_wp2_with fail
    refine (HFL.out _).mono ?_
    rintro e w1 ⟨rfl, hb⟩
    have hb2 := hB.trans (hb.mono hB.size)
    obtain ⟨hc, hfz⟩ := bcell hb
    go_wp2_with fail
    refine (HLT.out _).mono ?_
    rintro e w2 ⟨rfl, rfl⟩
    go_wp2_with fail
    refine (HBE.out _).mono ?_
    rintro e w2 ⟨rfl, hb3⟩
    have hb4 := hb2.trans (hb3.mono hb2.size)
    obtain ⟨hc3, hfz3⟩ := bcell hb3
    have hz : w.heap.size < w1.heap.size := by have := hb.size; simp at this; omega
    go_wp2_with fail
    refine (HFL3.out _).mono ?_
    rintro e w3 ⟨rfl, hb5⟩
    have hb6 := hb4.trans (hb5.mono hb4.size)
    go_wp2
    go_ret2
    exact ⟨ret_ib HE.out, hb6⟩
end Go.Proofs.Ytacigmjdppoonaa.Vm
