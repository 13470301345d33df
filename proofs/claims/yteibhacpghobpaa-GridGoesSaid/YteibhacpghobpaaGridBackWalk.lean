/- tuggerlaw03.GridBack returns true for every input: texts and grids undo one another. -/
import Derived.Test.YteibhacpghobpaaAwakeThree
import Derived.Test.YteibhacpghobpaaRefPrints
namespace Go.Proofs.Yteibhacpghobpaa.Vm
open Go.RowKit

/-- awake, called behind a grid that is laid. -/
theorem awake3_grid (w : World) (W H : Int) (s : ByteArray) : Calls Try.prog 7 #[] (w.alloc (gridO W H s)) fun e w1 => e = .returned (.bool true) ∧ Below w.heap.size w w1 ∧ w.heap.size < w1.heap.size ∧ GridAt w1 w.heap.size W H s := by
  refine (awake3_any _).mono ?_
  rintro e w1 ⟨rfl, hb⟩
  have hB : Below w.heap.size w (w.alloc (gridO W H s)) := (Below.refl _ _).alloc (Nat.le_refl _) _
  exact ⟨rfl, hB.trans (hb.mono hB.size), by have := hb.size; simp at this; omega, (gridAt_new w W H s).below hb (by simp)⟩

theorem letters_lt {l : List Nat} (h : l.all letterS = true) : ∀ x ∈ l, x < 256 := fun x hx => by have := letterS_lt (List.all_eq_true.1 h x hx); omega
theorem rightS_letters {W H : Int} {l : List Nat} (h : rightS W H l = true) : l.all letterS = true := by
  unfold rightS at h
  rw [Bool.and_eq_true] at h
  exact h.2

/-- What Parse answers, in two cases. -/
theorem parse_case (l : List Nat) : (∃ W H cells, parseS l = (W, H, cells, 0)) ∨ parseS l = (0, 0, [], 3) ∨ parseS l = (0, 0, [], 4) := by
  cases h : measS l with
  | none => exact .inr (.inl (parseS_none h))
  | some x =>
    obtain ⟨W, H, cells⟩ := x
    have := parseS_some h
    by_cases hb : 256 < W ∨ 256 < H
    · rw [if_pos hb] at this; exact .inr (.inr this)
    · rw [if_neg hb] at this; exact .inl ⟨W, H, cells, this⟩
theorem parse_as {s : ByteArray} {W H er : Nat} {cells : List Nat} (hs : s.size ≤ 1099511627776) (h : parseS (bytesOf s) = (W, H, cells, er)) (w : World) : Calls Try.prog 8 #[.string s] w fun e w' => e = .returned (.tuple #[gridV W H (strOf cells), .int .i64 (er : Nat)]) ∧ Below w.heap.size w w' := by
  have := parse_any s w hs
  rw [h] at this
  exact this
theorem parse_no {s : ByteArray} {er : Nat} (hs : s.size ≤ 1099511627776) (h : parseS (bytesOf s) = (0, 0, [], er)) (w : World) : Calls Try.prog 8 #[.string s] w fun e w' => e = .returned (.tuple #[gridV 0 0 ⟨#[]⟩, .int .i64 (er : Nat)]) ∧ Below w.heap.size w w' := parse_as hs h w
theorem print_as {s : ByteArray} {W H : Int} {r : ByteArray} (hs : s.size ≤ maxLen) (h : strOf (printS W H (bytesOf s)) = r) (w : World) : Calls Try.prog 12 #[gridV W H s] w fun e w' => e = .returned (.string r) ∧ Below w.heap.size w w' := by
  have := print_any W H s w hs
  rw [h] at this
  exact this
theorem right_as {s : ByteArray} {W H : Int} {b : Bool} (hs : s.size ≤ maxLen) (h : rightS W H (bytesOf s) = b) (w : World) : Calls Try.prog 10 #[gridV W H s] w fun e w' => e = .returned (.bool b) ∧ Below w.heap.size w w' := by
  have := right_any W H s w hs
  rw [h] at this
  exact this

theorem printF_lt {W : Nat} {l : List Nat} (h : ∀ x ∈ l, x < 256) : ∀ y, ∀ x ∈ printF W y l, x < 256 := by
  intro y
  induction y with
  | zero => intro x hx; simp [printF] at hx
  | succ y ih =>
    intro x hx
    rw [printF_succ, List.mem_append, List.mem_append] at hx
    rcases hx with (hx | hx) | hx
    · exact ih x hx
    · exact h x (List.mem_of_mem_drop (List.mem_of_mem_take hx))
    · simp at hx; omega
theorem printS_lt {W H : Int} {l : List Nat} (h : rightS W H l = true) : ∀ x ∈ printS W H l, x < 256 := by
  unfold printS
  rw [if_pos h]
  exact printF_lt (letters_lt (rightS_letters h)) _

set_option maxRecDepth 100000 in
set_option maxHeartbeats 1600000 in
theorem gridBack_walk (s : ByteArray) (W H : Int) (gs : ByteArray) (w : World) (hs : s.size ≤ maxLen) (_ : (Lit.int .i64 W).wf = true) (_ : (Lit.int .i64 H).wf = true) (hg : gs.size ≤ maxLen) :
    Calls Try.prog 5 #[.string s, gridV W H gs] w fun e w' => e = .returned (.bool true) ∧ Below w.heap.size w w' := by
  have HA := Lib.hid (awake3_grid w W H gs)
  unfold maxLen at hs hg
  by_cases hl1 : 2000 < s.size
  · go_enter Try.func5, Try.ntmps5
    go_wp2_with fail
    refine HA.out.mono ?_
    rintro e w1 ⟨rfl, hb1, hz1, g1, g2, g3⟩
    go_wp2_with fail
    go_ret
    exact ⟨rfl, hb1⟩
  by_cases hl2 : 2000 < gs.size
  · go_enter Try.func5, Try.ntmps5
    go_wp2_with fail
    refine HA.out.mono ?_
    rintro e w1 ⟨rfl, hb1, hz1, g1, g2, g3⟩
    go_wp2_with fail
    go_ret
    exact ⟨rfl, hb1⟩
  have hs' : s.size ≤ maxLen := by unfold maxLen; omega
  have hg' : gs.size ≤ maxLen := by unfold maxLen; omega
  cases hr : rightS W H (bytesOf gs)
  · have HRG := Lib.hid (right_as (s := gs) (W := W) (H := H) hg' hr)
    have HPG := Lib.hid (print_as (s := gs) (W := W) (H := H) (r := ⟨#[]⟩) hg' (by rw [printS_no hr]; rfl))
    clear hr
    rcases parse_case (bytesOf s) with ⟨W1, H1, cells, hp⟩ | hp | hp
    · obtain ⟨hr1, hp1⟩ := print_parse hp
      have hlt := letters_lt (rightS_letters hr1)
      have hcs : (strOf cells).size ≤ maxLen := by
        have := (Okay.of (s := strOf cells) (by rw [bytesOf_strOf hlt]; exact hr1)).le
        unfold maxLen; omega
      have HP1 := Lib.hid (parse_as (by omega) hp)
      have HPR1 := Lib.hid (print_as (s := strOf cells) (W := W1) (H := H1) hcs (by rw [bytesOf_strOf hlt, hp1, strOf_bytesOf]))
      have HR1 := Lib.hid (right_as (s := strOf cells) (W := W1) (H := H1) (b := true) hcs (by rw [bytesOf_strOf hlt]; exact hr1))
      generalize strOf cells = cs at HP1 HPR1 HR1
      clear hp hr1 hp1 hlt hcs
      go_enter Try.func5, Try.ntmps5
      go_wp2_with fail
      refine HA.out.mono ?_
      rintro e w1 ⟨rfl, hb1, hz1, g1, g2, g3⟩
      go_wp2_with fail
      refine (HP1.out _).mono ?_
      rintro e w2 ⟨rfl, hb2⟩
      have hB2 := hb1.trans (hb2.mono hb1.size)
      have hz2 : w.heap.size < w2.heap.size := Nat.lt_of_lt_of_le hz1 hb2.size
      have G2 := Lib.hid (GridAt.below ⟨g1, g2, g3⟩ hb2 hz1)
      clear g1 g2 g3 hb2 hb1 hz1
      go_wp2_with fail
      refine (HPR1.out _).mono ?_
      rintro e w3 ⟨rfl, hb3⟩
      have hB3 := (hB2.alloc hB2.size (gridO W1 H1 cs)).trans (hb3.mono (by simp; omega))
      obtain ⟨f1, f2, f3⟩ := (gridAt_new w2 W1 H1 cs).below hb3 (by simp)
      have hz3 : w2.heap.size < w3.heap.size := by have := hb3.size; simp at this; omega
      have G3 := Lib.hid ((G2.out.below (B := w2.heap.size) ((Below.refl _ w2).alloc (Nat.le_refl _) (gridO W1 H1 cs)) hz2).below hb3 (by simp; omega))
      clear hb3
      go_wp2_with fail
      refine (HR1.out _).mono ?_
      rintro e w4 ⟨rfl, hb4⟩
      have hB4 := hB3.trans (hb4.mono hB3.size)
      have hz4 : w.heap.size < w4.heap.size := by have := hb4.size; omega
      obtain ⟨k1, k2, k3⟩ := G3.out.below hb4 (by omega)
      clear hb4 f1 f2 f3
      go_wp2_with fail
      refine (HRG.out _).mono ?_
      rintro e w5 ⟨rfl, hb5⟩
      have hB5 := hB4.trans (hb5.mono hB4.size)
      obtain ⟨k1, k2, k3⟩ := GridAt.below ⟨k1, k2, k3⟩ hb5 hz4
      clear hb5
      go_wp2_with fail
      refine (HPG.out _).mono ?_
      rintro e w6 ⟨rfl, hb6⟩
      have hB6 := hB5.trans (hb6.mono hB5.size)
      go_wp2_with fail
      go_ret
      exact ⟨rfl, hB6⟩
    · have HP1 := Lib.hid (parse_no (by omega) hp)
      clear hp
      go_enter Try.func5, Try.ntmps5
      go_wp2_with fail
      refine HA.out.mono ?_
      rintro e w1 ⟨rfl, hb1, hz1, g1, g2, g3⟩
      go_wp2_with fail
      refine (HP1.out _).mono ?_
      rintro e w2 ⟨rfl, hb2⟩
      have hB2 := hb1.trans (hb2.mono hb1.size)
      have hz2 : w.heap.size < w2.heap.size := Nat.lt_of_lt_of_le hz1 hb2.size
      have G2 := Lib.hid (GridAt.below ⟨g1, g2, g3⟩ hb2 hz1)
      clear g1 g2 g3 hb2 hb1 hz1
      obtain ⟨q1, q2, q3⟩ := G2.out
      go_wp2_with fail
      refine (HRG.out _).mono ?_
      rintro e w5 ⟨rfl, hb5⟩
      have hB4 := hB2.alloc hB2.size (gridO 0 0 ⟨#[]⟩)
      have hB5 := hB4.trans (hb5.mono hB4.size)
      have hz5 : w.heap.size < w5.heap.size := by have := hb5.size; simp at this; omega
      obtain ⟨k1, k2, k3⟩ := (G2.out.below (B := w2.heap.size) ((Below.refl _ w2).alloc (Nat.le_refl _) (gridO 0 0 ⟨#[]⟩)) hz2).below hb5 (by simp; omega)
      clear hb5 q1 q2 q3
      go_wp2_with fail
      refine (HPG.out _).mono ?_
      rintro e w6 ⟨rfl, hb6⟩
      have hB6 := hB5.trans (hb6.mono hB5.size)
      go_wp2_with fail
      go_ret
      exact ⟨rfl, hB6⟩
    · have HP1 := Lib.hid (parse_no (by omega) hp)
      clear hp
      go_enter Try.func5, Try.ntmps5
      go_wp2_with fail
      refine HA.out.mono ?_
      rintro e w1 ⟨rfl, hb1, hz1, g1, g2, g3⟩
      go_wp2_with fail
      refine (HP1.out _).mono ?_
      rintro e w2 ⟨rfl, hb2⟩
      have hB2 := hb1.trans (hb2.mono hb1.size)
      have hz2 : w.heap.size < w2.heap.size := Nat.lt_of_lt_of_le hz1 hb2.size
      have G2 := Lib.hid (GridAt.below ⟨g1, g2, g3⟩ hb2 hz1)
      clear g1 g2 g3 hb2 hb1 hz1
      obtain ⟨q1, q2, q3⟩ := G2.out
      go_wp2_with fail
      refine (HRG.out _).mono ?_
      rintro e w5 ⟨rfl, hb5⟩
      have hB4 := hB2.alloc hB2.size (gridO 0 0 ⟨#[]⟩)
      have hB5 := hB4.trans (hb5.mono hB4.size)
      have hz5 : w.heap.size < w5.heap.size := by have := hb5.size; simp at this; omega
      obtain ⟨k1, k2, k3⟩ := (G2.out.below (B := w2.heap.size) ((Below.refl _ w2).alloc (Nat.le_refl _) (gridO 0 0 ⟨#[]⟩)) hz2).below hb5 (by simp; omega)
      clear hb5 q1 q2 q3
      go_wp2_with fail
      refine (HPG.out _).mono ?_
      rintro e w6 ⟨rfl, hb6⟩
      have hB6 := hB5.trans (hb6.mono hB5.size)
      go_wp2_with fail
      go_ret
      exact ⟨rfl, hB6⟩
  · have hok := Okay.of hr
    obtain ⟨v, rfl⟩ := Int.eq_ofNat_of_zero_le (show 0 ≤ W by have := hok.w1; omega)
    obtain ⟨h, rfl⟩ := Int.eq_ofNat_of_zero_le (show 0 ≤ H by have := hok.h1; omega)
    have hpp := parse_print hr
    have hps : (strOf (printS v h (bytesOf gs))).size ≤ 1099511627776 := by
      rw [strOf_size]
      unfold printS
      rw [if_pos hr]
      have h1 := printF_len (W := (v : Int).toNat) (l := bytesOf gs) (h : Int).toNat
      have h2 : (h : Int).toNat * ((v : Int).toNat + 1) ≤ 256 * 257 := Nat.mul_le_mul (by have := hok.h2; omega) (by have := hok.w2; omega)
      omega
    have hlt2 : ∀ x ∈ printS v h (bytesOf gs), x < 256 := printS_lt hr
    have hpp2 : parseS (bytesOf (strOf (printS v h (bytesOf gs)))) = (v, h, bytesOf gs, 0) := by rw [bytesOf_strOf hlt2]; simpa using hpp
    have HPG := Lib.hid (print_as (s := gs) (W := v) (H := h) hg' rfl)
    have hPP := parse_as hps hpp2
    rw [strOf_bytesOf] at hPP
    have HPP := Lib.hid hPP
    have HRG := Lib.hid (right_as (s := gs) (W := v) (H := h) hg' hr)
    generalize strOf (printS v h (bytesOf gs)) = ps at HPG HPP
    clear hpp hps hlt2 hpp2 hPP hr hok
    rcases parse_case (bytesOf s) with ⟨W1, H1, cells, hp⟩ | hp | hp
    · obtain ⟨hr1, hp1⟩ := print_parse hp
      have hlt := letters_lt (rightS_letters hr1)
      have hcs : (strOf cells).size ≤ maxLen := by
        have := (Okay.of (s := strOf cells) (by rw [bytesOf_strOf hlt]; exact hr1)).le
        unfold maxLen; omega
      have HP1 := Lib.hid (parse_as (by omega) hp)
      have HPR1 := Lib.hid (print_as (s := strOf cells) (W := W1) (H := H1) hcs (by rw [bytesOf_strOf hlt, hp1, strOf_bytesOf]))
      have HR1 := Lib.hid (right_as (s := strOf cells) (W := W1) (H := H1) (b := true) hcs (by rw [bytesOf_strOf hlt]; exact hr1))
      generalize strOf cells = cs at HP1 HPR1 HR1
      clear hp hr1 hp1 hlt hcs
      go_enter Try.func5, Try.ntmps5
      go_wp2_with fail
      refine HA.out.mono ?_
      rintro e w1 ⟨rfl, hb1, hz1, g1, g2, g3⟩
      go_wp2_with fail
      refine (HP1.out _).mono ?_
      rintro e w2 ⟨rfl, hb2⟩
      have hB2 := hb1.trans (hb2.mono hb1.size)
      have hz2 : w.heap.size < w2.heap.size := Nat.lt_of_lt_of_le hz1 hb2.size
      have G2 := Lib.hid (GridAt.below ⟨g1, g2, g3⟩ hb2 hz1)
      clear g1 g2 g3 hb2 hb1 hz1
      go_wp2_with fail
      refine (HPR1.out _).mono ?_
      rintro e w3 ⟨rfl, hb3⟩
      have hB3 := (hB2.alloc hB2.size (gridO W1 H1 cs)).trans (hb3.mono (by simp; omega))
      obtain ⟨f1, f2, f3⟩ := (gridAt_new w2 W1 H1 cs).below hb3 (by simp)
      have hz3 : w2.heap.size < w3.heap.size := by have := hb3.size; simp at this; omega
      have G3 := Lib.hid ((G2.out.below (B := w2.heap.size) ((Below.refl _ w2).alloc (Nat.le_refl _) (gridO W1 H1 cs)) hz2).below hb3 (by simp; omega))
      clear hb3
      go_wp2_with fail
      refine (HR1.out _).mono ?_
      rintro e w4 ⟨rfl, hb4⟩
      have hB4 := hB3.trans (hb4.mono hB3.size)
      have hz4 : w.heap.size < w4.heap.size := by have := hb4.size; omega
      obtain ⟨k1, k2, k3⟩ := G3.out.below hb4 (by omega)
      clear hb4 f1 f2 f3
      go_wp2_with fail
      refine (HRG.out _).mono ?_
      rintro e w5 ⟨rfl, hb5⟩
      have hB5 := hB4.trans (hb5.mono hB4.size)
      have hz5 : w.heap.size < w5.heap.size := Nat.lt_of_lt_of_le hz4 hb5.size
      obtain ⟨k1, k2, k3⟩ := GridAt.below ⟨k1, k2, k3⟩ hb5 hz4
      clear hb5
      go_wp2_with fail
      refine (HPG.out _).mono ?_
      rintro e w6 ⟨rfl, hb6⟩
      have hB6 := hB5.trans (hb6.mono hB5.size)
      have hz6 : w.heap.size < w6.heap.size := Nat.lt_of_lt_of_le hz5 hb6.size
      obtain ⟨k1, k2, k3⟩ := GridAt.below ⟨k1, k2, k3⟩ hb6 hz5
      clear hb6
      go_wp2_with fail
      refine (HPP.out _).mono ?_
      rintro e w7 ⟨rfl, hb7⟩
      have hB7 := hB6.trans (hb7.mono hB6.size)
      have hz7 : w.heap.size < w7.heap.size := Nat.lt_of_lt_of_le hz6 hb7.size
      obtain ⟨k1, k2, k3⟩ := GridAt.below ⟨k1, k2, k3⟩ hb7 hz6
      clear hb7
      go_wp2_with fail
      go_ret
      exact ⟨by simp, hB7.alloc hB7.size _⟩
    · have HP1 := Lib.hid (parse_no (by omega) hp)
      clear hp
      go_enter Try.func5, Try.ntmps5
      go_wp2_with fail
      refine HA.out.mono ?_
      rintro e w1 ⟨rfl, hb1, hz1, g1, g2, g3⟩
      go_wp2_with fail
      refine (HP1.out _).mono ?_
      rintro e w2 ⟨rfl, hb2⟩
      have hB2 := hb1.trans (hb2.mono hb1.size)
      have hz2 : w.heap.size < w2.heap.size := Nat.lt_of_lt_of_le hz1 hb2.size
      have G2 := Lib.hid (GridAt.below ⟨g1, g2, g3⟩ hb2 hz1)
      clear g1 g2 g3 hb2 hb1 hz1
      obtain ⟨q1, q2, q3⟩ := G2.out
      go_wp2_with fail
      refine (HRG.out _).mono ?_
      rintro e w5 ⟨rfl, hb5⟩
      have hB4 := hB2.alloc hB2.size (gridO 0 0 ⟨#[]⟩)
      have hB5 := hB4.trans (hb5.mono hB4.size)
      have hz5 : w.heap.size < w5.heap.size := by have := hb5.size; simp at this; omega
      obtain ⟨k1, k2, k3⟩ := (G2.out.below (B := w2.heap.size) ((Below.refl _ w2).alloc (Nat.le_refl _) (gridO 0 0 ⟨#[]⟩)) hz2).below hb5 (by simp; omega)
      clear hb5 q1 q2 q3
      go_wp2_with fail
      refine (HPG.out _).mono ?_
      rintro e w6 ⟨rfl, hb6⟩
      have hB6 := hB5.trans (hb6.mono hB5.size)
      have hz6 : w.heap.size < w6.heap.size := Nat.lt_of_lt_of_le hz5 hb6.size
      obtain ⟨k1, k2, k3⟩ := GridAt.below ⟨k1, k2, k3⟩ hb6 hz5
      clear hb6
      go_wp2_with fail
      refine (HPP.out _).mono ?_
      rintro e w7 ⟨rfl, hb7⟩
      have hB7 := hB6.trans (hb7.mono hB6.size)
      have hz7 : w.heap.size < w7.heap.size := Nat.lt_of_lt_of_le hz6 hb7.size
      obtain ⟨k1, k2, k3⟩ := GridAt.below ⟨k1, k2, k3⟩ hb7 hz6
      clear hb7
      go_wp2_with fail
      go_ret
      exact ⟨by simp, hB7.alloc hB7.size _⟩
    · have HP1 := Lib.hid (parse_no (by omega) hp)
      clear hp
      go_enter Try.func5, Try.ntmps5
      go_wp2_with fail
      refine HA.out.mono ?_
      rintro e w1 ⟨rfl, hb1, hz1, g1, g2, g3⟩
      go_wp2_with fail
      refine (HP1.out _).mono ?_
      rintro e w2 ⟨rfl, hb2⟩
      have hB2 := hb1.trans (hb2.mono hb1.size)
      have hz2 : w.heap.size < w2.heap.size := Nat.lt_of_lt_of_le hz1 hb2.size
      have G2 := Lib.hid (GridAt.below ⟨g1, g2, g3⟩ hb2 hz1)
      clear g1 g2 g3 hb2 hb1 hz1
      obtain ⟨q1, q2, q3⟩ := G2.out
      go_wp2_with fail
      refine (HRG.out _).mono ?_
      rintro e w5 ⟨rfl, hb5⟩
      have hB4 := hB2.alloc hB2.size (gridO 0 0 ⟨#[]⟩)
      have hB5 := hB4.trans (hb5.mono hB4.size)
      have hz5 : w.heap.size < w5.heap.size := by have := hb5.size; simp at this; omega
      obtain ⟨k1, k2, k3⟩ := (G2.out.below (B := w2.heap.size) ((Below.refl _ w2).alloc (Nat.le_refl _) (gridO 0 0 ⟨#[]⟩)) hz2).below hb5 (by simp; omega)
      clear hb5 q1 q2 q3
      go_wp2_with fail
      refine (HPG.out _).mono ?_
      rintro e w6 ⟨rfl, hb6⟩
      have hB6 := hB5.trans (hb6.mono hB5.size)
      have hz6 : w.heap.size < w6.heap.size := Nat.lt_of_lt_of_le hz5 hb6.size
      obtain ⟨k1, k2, k3⟩ := GridAt.below ⟨k1, k2, k3⟩ hb6 hz5
      clear hb6
      go_wp2_with fail
      refine (HPP.out _).mono ?_
      rintro e w7 ⟨rfl, hb7⟩
      have hB7 := hB6.trans (hb7.mono hB6.size)
      have hz7 : w.heap.size < w7.heap.size := Nat.lt_of_lt_of_le hz6 hb7.size
      obtain ⟨k1, k2, k3⟩ := GridAt.below ⟨k1, k2, k3⟩ hb7 hz6
      clear hb7
      go_wp2_with fail
      go_ret
      exact ⟨by simp, hB7.alloc hB7.size _⟩
end Go.Proofs.Yteibhacpghobpaa.Vm
