/- The program's ways between cells, and where ways lead: leading, Ways, move, Go. -/
import Derived.Test.YtacigmjdppoonaaMovesMath
import Derived.Test.YtacigmjdppoonaaGoes
import Derived.Test.YtacigmjdppoonaaOwnQs
import Derived.Test.YtacigmjdppoonaaClones
import Derived.Test.YtacigmjdppoonaaStWords
import Derived.Deep.RegionHeld3
import Derived.BigRegion
namespace Go.Proofs.Ytacigmjdppoonaa.Vm
open Go Go.RowKit
set_option maxRecDepth 100000

/-- An empty slice of ints with room. -/
theorem make_room (w : World) (N : Nat) (hN : N ≤ 1000000) : (Instr.makeSlice 27 (.int .i64 0) (.int .i64 (N : Int))).run Try.prog w = .ok (.slice (some ⟨w.heap.size, 0, none⟩) 0 N) (w.alloc (.cells ⟨intsZ (List.replicate N 0)⟩ 3)) := by
  obtain ⟨j0, hj0, hy0, hy1, hy2⟩ := info_parts info_int
  have hmk := run_make (P := Try.prog) w 27 3 j0 (.int .i64 0) Try.underlying27 hj0 hy0 .i64 .i64 0 N (by omega) (by omega) (by rw [hy2]; omega) (by omega)
  simp only [Int.toNat_natCast, Int.toNat_zero] at hmk
  rw [hy1] at hmk
  have hmc : (madeCells (Value.int .i64 0).cells (N * 1)) = ⟨intsZ (List.replicate N 0)⟩ := by
    apply Array.ext'
    simp only [Value.cells]
    rw [Nat.mul_one, toList_madeCells_one]
    simp [intsZ]
  rw [hmc] at hmk
  exact hmk
theorem ownZ_room (w : World) (N : Nat) (hN : N ≤ 1000000) : OwnZ (w.alloc (.cells ⟨intsZ (List.replicate N 0)⟩ 3)) w.heap.size (.slice (some ⟨w.heap.size, 0, none⟩) 0 N) [] := by
  refine ⟨rfl, .inr ⟨w.heap.size, N, ⟨intsZ (List.replicate N 0)⟩, rfl, Nat.le_refl _, ?_, Nat.zero_le _, by unfold maxLen; omega, by simp [intsZ], rfl⟩⟩
  show (w.heap.push _)[w.heap.size]? = _
  rw [Array.getElem?_push, if_pos rfl]

section
variable {W H : Int} {l : List Nat} {a t : Int}
/-- What leading tells. -/
def leadP (W H : Int) (l : List Nat) (a t : Int) : Int × Bool := if 0 ≤ wayI W H l a t then (wayI W H l a t, true) else (0, false)
theorem lead_first {m : Nat} (hm : m < 5) (hn : ∀ k : Nat, k < m → goesS W H l a (k : Int) ≠ (t, true)) (hy : goesS W H l a (m : Int) = (t, true)) : leadP W H l a t = ((m : Int), true) := by
  have e : wayI W H l a t = (m : Int) := by
    unfold wayI
    match m, hm with
    | 0, _ => exact if_pos hy
    | 1, _ => rw [if_neg (show ¬ goesS W H l a 0 = (t, true) from hn 0 (by omega))]; exact if_pos hy
    | 2, _ => rw [if_neg (show ¬ goesS W H l a 0 = (t, true) from hn 0 (by omega)), if_neg (show ¬ goesS W H l a 1 = (t, true) from hn 1 (by omega))]; exact if_pos hy
    | 3, _ => rw [if_neg (show ¬ goesS W H l a 0 = (t, true) from hn 0 (by omega)), if_neg (show ¬ goesS W H l a 1 = (t, true) from hn 1 (by omega)), if_neg (show ¬ goesS W H l a 2 = (t, true) from hn 2 (by omega))]; exact if_pos hy
    | 4, _ => rw [if_neg (show ¬ goesS W H l a 0 = (t, true) from hn 0 (by omega)), if_neg (show ¬ goesS W H l a 1 = (t, true) from hn 1 (by omega)), if_neg (show ¬ goesS W H l a 2 = (t, true) from hn 2 (by omega)), if_neg (show ¬ goesS W H l a 3 = (t, true) from hn 3 (by omega))]; exact if_pos hy
  unfold leadP
  rw [e, if_pos (by omega)]
theorem wayI_none (hn : ∀ k : Nat, k < 5 → goesS W H l a (k : Int) ≠ (t, true)) : wayI W H l a t = -1 := by
  unfold wayI
  rw [if_neg (show ¬ goesS W H l a 0 = (t, true) from hn 0 (by omega)), if_neg (show ¬ goesS W H l a 1 = (t, true) from hn 1 (by omega)), if_neg (show ¬ goesS W H l a 2 = (t, true) from hn 2 (by omega)), if_neg (show ¬ goesS W H l a 3 = (t, true) from hn 3 (by omega)), if_neg (show ¬ goesS W H l a 4 = (t, true) from hn 4 (by omega))]
theorem lead_none (hn : ∀ k : Nat, k < 5 → goesS W H l a (k : Int) ≠ (t, true)) : leadP W H l a t = (0, false) := by
  unfold leadP
  rw [wayI_none hn]
  rfl
theorem lead_yes (h : (leadP W H l a t).2 = true) : 0 ≤ wayI W H l a t ∧ (leadP W H l a t).1 = wayI W H l a t := by
  unfold leadP at h ⊢
  split
  · rename_i h0; exact ⟨h0, rfl⟩
  · rename_i h0; rw [if_neg h0] at h; cases h
theorem lead_no (h : (leadP W H l a t).2 = false) : ¬ 0 ≤ wayI W H l a t := by
  unfold leadP at h
  intro h0
  rw [if_pos h0] at h
  cases h
end

set_option maxHeartbeats 1000000 in
theorem leading_any (W H a t : Int) (g : ByteArray) (w : World) (hok : Okay W H g) :
    Calls Try.prog 21 #[gridV W H g, .int .i64 a, .int .i64 t] w fun e w' => e = .returned (.tuple #[.int .i64 (leadP W H (bytesOf g) a t).1, .bool (leadP W H (bytesOf g) a t).2]) ∧ Below w.heap.size w w' := by
  obtain ⟨w1, hw1⟩ : ∃ w1, w1 = w.alloc (gridO W H g) := ⟨_, rfl⟩
  have hb1 : Below w.heap.size w w1 := by rw [hw1]; exact (Below.refl _ _).alloc (Nat.le_refl _) _
  have hz1 : w1.heap.size = w.heap.size + 1 := by rw [hw1]; simp
  have hg1 : GridAt w1 w.heap.size W H g := by rw [hw1]; exact gridAt_new w W H g
  have hlt1 : w.heap.size < w1.heap.size := by omega
  have HG := Lib.hid hg1
  have HW1 := Lib.hid hw1
  have HB1 := Lib.hid hb1
  have HGO := Lib.hid fun (m : Nat) V => goes_any W H a (m : Int) g V hok
  have HWF := Lib.hid fun (m : Nat) => lead_first (W := W) (H := H) (l := bytesOf g) (a := a) (t := t) (m := m)
  have HWS := Lib.hid (lead_none (W := W) (H := H) (l := bytesOf g) (a := a) (t := t))
  generalize leadP W H (bytesOf g) a t = N at HWF HWS ⊢
  have HLT := Lib.hid hlt1
  clear hw1 hb1 hz1 hg1 hlt1
  go_enter Try.func21, Try.ntmps21
  go_wp2_with fail
  rw [← HW1.out]
  go_loopw [8] (fun v V => ∃ m : Nat, m ≤ 5 ∧ v = .int .i64 (m : Nat) ∧ Hid (∀ k : Nat, k < m → goesS W H (bytesOf g) a (k : Int) ≠ (t, true)) ∧ Hid (Below w1.heap.size w1 V)) (fun v _ => 5 - (intOf v).toNat)
  case atStart => exact ⟨0, by omega, rfl, Lib.hid fun k hk => absurd hk (Nat.not_lt_zero _), Below.refl _ _⟩
  case round =>
    obtain ⟨m, hm, rfl, HN, HB⟩ := hrel
    by_cases hm5 : m < 5
    · have c1 : decide ((m : Int) ≤ 4) = true := by rw [decide_eq_true_eq]; omega
      have hmi : (m : Int) ≤ 4 := by omega
      have HC := Lib.hid (HGO.out m wr)
      obtain ⟨P, hP⟩ : ∃ P, goesS W H (bytesOf g) a (m : Int) = P := ⟨_, rfl⟩
      rw [hP] at HC
      have HP := Lib.hid hP
      obtain ⟨p1, p2⟩ := P
      obtain ⟨g0, g1, g2⟩ := HG.out.below HB.out HLT.out
      clear hP
      go_wp2_with fail
      refine HC.out.mono ?_
      rintro e w2 ⟨rfl, hb2⟩
      have HB2 := Lib.hid (HB.out.trans (hb2.mono HB.out.size))
      clear hb2 g0 g1 g2
      cases p2 with
      | false =>
        have HN2 : Hid (∀ k : Nat, k < m + 1 → goesS W H (bytesOf g) a (k : Int) ≠ (t, true)) := fun k hk => by
          by_cases e : k = m
          · subst e; rw [HP.out]; intro q; injection q with _ q; cases q
          · exact HN.out k (by omega)
        go_wp2_with fail
        go_roundw
        case rel => exact ⟨m + 1, by omega, by go_num, HN2, HB2.out⟩
        case measure => simp [intOf]; omega
      | true =>
        by_cases hpt : p1 = t
        · have e2 : (p1 == t) = true := by simpa using hpt
          have HE : Hid (N = ((m : Int), true)) := HWF.out m hm5 HN.out (by rw [HP.out, hpt])
          clear hpt
          go_wp2_with fail
          go_ret2
          exact ⟨by rw [HE.out]; rfl, HB1.out.trans (HB2.out.mono (by have := HB1.out.size; omega))⟩
        · have e2 : (p1 == t) = false := by simpa using hpt
          have HN2 : Hid (∀ k : Nat, k < m + 1 → goesS W H (bytesOf g) a (k : Int) ≠ (t, true)) := fun k hk => by
            by_cases e : k = m
            · subst e; rw [HP.out]; intro q; injection q with q _; exact hpt q
            · exact HN.out k (by omega)
          clear hpt
          go_wp2_with fail
          go_roundw
          case rel => exact ⟨m + 1, by omega, by go_num, HN2, HB2.out⟩
          case measure => simp [intOf]; omega
    · obtain rfl : m = 5 := by omega
      have HE : Hid (N = (0, false)) := HWS.out HN.out
      have HBE : Hid (Below w.heap.size w wr) := HB1.out.trans (HB.out.mono (by have := HB1.out.size; omega))
      go_wp2_with fail
      go_ret2
      exact ⟨by rw [HE.out]; rfl, HBE.out⟩
end Go.Proofs.Ytacigmjdppoonaa.Vm
