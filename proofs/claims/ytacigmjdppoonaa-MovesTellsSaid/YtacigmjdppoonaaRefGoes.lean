/- The contract of the document's Goes, on grids that may be. -/
import Derived.Test.YtacigmjdppoonaaRefGoes1
import Derived.Test.YtacigmjdppoonaaRefGoes2
import Derived.Test.YtacigmjdppoonaaRefGoes3
import Derived.Test.YtacigmjdppoonaaRefGoes4
namespace Go.Proofs.Ytacigmjdppoonaa.Vm
open Go.RowKit

set_option maxRecDepth 100000 in
set_option maxHeartbeats 800000 in
theorem rgoes_any (W H c way : Int) (s : ByteArray) (w : World) (h : Okay W H s) :
    Calls Try.prog 22 #[gridV W H s, .int .i64 c, .int .i64 way] w fun e w' =>
      e = .returned (.tuple #[.int .i64 (goesS W H (bytesOf s) c way).1, .bool (goesS W H (bytesOf s) c way).2]) ∧ Below w.heap.size w w' := by
  have hw1 := h.w1
  have hw2 := h.w2
  have hh1 := h.h1
  have hh2 := h.h2
  have hle := h.le
  have hlen : (s.size : Int) = W * H := h.len
  have hB : Below w.heap.size w (w.alloc (gridO W H s)) := (Below.refl _ _).alloc (Nat.le_refl _) _
  have hfl := fun w => rfloor_any W H c s w (by unfold maxLen; omega)
  clear h
  cases hf : floorS (bytesOf s) c
  · have HE : Hid (goesS W H (bytesOf s) c way = (0, false)) := by unfold Hid goesS; rw [if_pos (.inl hf)]
    rw [hf] at hfl
    have HFL := Lib.hid hfl
    clear hfl hf hlen
    go_enter Try.func22, Try.ntmps22
    go_wp2_with fail
    refine (HFL.out _).mono ?_
    rintro e w1 ⟨rfl, hb⟩
    have hb2 := hB.trans (hb.mono hB.size)
    go_wp2
    go_ret2
    exact ⟨ret_ib HE.out, hb2⟩
  rw [hf] at hfl
  have HFL := Lib.hid hfl
  clear hfl
  by_cases hway : way < 0 ∨ 4 < way
  · have HE : Hid (goesS W H (bytesOf s) c way = (0, false)) := by unfold Hid goesS; rw [if_pos (.inr hway)]
    clear hf hlen
    rcases hway with hway | hway
    all_goals
      go_enter Try.func22, Try.ntmps22
      go_wp2_with fail
      refine (HFL.out _).mono ?_
      rintro e w1 ⟨rfl, hb⟩
      have hb2 := hB.trans (hb.mono hB.size)
      go_wp2
      go_ret2
      exact ⟨ret_ib HE.out, hb2⟩
  have hg := show goesS W H (bytesOf s) c way = _ from by unfold goesS; rw [if_neg (by rw [hf]; simpa using hway)]
  by_cases h0 : way = 0
  · subst h0
    have HE := Lib.hid (hg.trans (if_pos rfl))
    clear hf hlen hg hway
    go_enter Try.func22, Try.ntmps22
    go_wp2_with fail
    refine (HFL.out _).mono ?_
    rintro e w1 ⟨rfl, hb⟩
    have hb2 := hB.trans (hb.mono hB.size)
    go_wp2
    go_ret2
    exact ⟨ret_ib HE.out, hb2⟩
  obtain ⟨hc0, hc1⟩ := floorS_in hf
  rw [bytesOf_len] at hc1
  obtain ⟨k, rfl⟩ := Int.eq_ofNat_of_zero_le hc0
  have hk : k < s.size := by omega
  have hat : (bytesOf s).getD (k : Int).toNat 0 = (s[k]'hk).toNat := bytesOf_at s k hk
  rw [hat, if_neg h0] at hg
  have hy0 : 0 ≤ (k : Int) / W := Int.ediv_nonneg hc0 (by omega)
  have hy1 : (k : Int) / W < H := by
    apply Int.ediv_lt_of_lt_mul (by omega)
    rw [Int.mul_comm, ← hlen]
    exact hc1
  have hx0 := Int.emod_nonneg k (show W ≠ 0 by omega)
  have hx1 := Int.emod_lt_of_pos k (show 0 < W by omega)
  have hf0 := hf
  clear hat hlen hf
  generalize hx : (s[k]'hk).toNat = x at hg
  have HX := Lib.hid hx
  have hcase : way = 1 ∨ way = 2 ∨ way = 3 ∨ way = 4 := by omega
  clear h0 hway hx
  by_cases hb : Barred x way
  · have HE := Lib.hid (hg.trans (if_pos hb))
    clear hg
    have hw0 : 0 < way := by omega
    have hw4 : way ≤ 4 := by omega
    have e0 : (way == 0) = false := by simp; omega
    clear hcase hf0
    rcases hb with ⟨rfl, hb⟩ | ⟨rfl, hb⟩ | ⟨rfl, hb⟩ | ⟨rfl, hb⟩
    · have c1 : (((s[k]'hk).toNat : Int) == 94) = true := by rw [HX.out]; rfl
      have c2 : (way != 1) = true := by simpa using hb
      clear HX hb
      go_enter Try.func22, Try.ntmps22
      go_wp2_with fail
      refine (HFL.out _).mono ?_
      rintro e w1 ⟨rfl, hb⟩
      have hb2 := hB.trans (hb.mono hB.size)
      obtain ⟨hc, hfz⟩ := bcell hb
      go_wp2_with fail
      go_ret2
      exact ⟨ret_ib HE.out, hb2⟩
    · have c0 : (((s[k]'hk).toNat : Int) == 94) = false := by rw [HX.out]; rfl
      have c1 : (((s[k]'hk).toNat : Int) == 62) = true := by rw [HX.out]; rfl
      have c2 : (way != 2) = true := by simpa using hb
      clear HX hb
      go_enter Try.func22, Try.ntmps22
      go_wp2_with fail
      refine (HFL.out _).mono ?_
      rintro e w1 ⟨rfl, hb⟩
      have hb2 := hB.trans (hb.mono hB.size)
      obtain ⟨hc, hfz⟩ := bcell hb
      go_wp2_with fail
      go_ret2
      exact ⟨ret_ib HE.out, hb2⟩
    · have c0 : (((s[k]'hk).toNat : Int) == 94) = false := by rw [HX.out]; rfl
      have c3 : (((s[k]'hk).toNat : Int) == 62) = false := by rw [HX.out]; rfl
      have c1 : (((s[k]'hk).toNat : Int) == 118) = true := by rw [HX.out]; rfl
      have c2 : (way != 3) = true := by simpa using hb
      clear HX hb
      go_enter Try.func22, Try.ntmps22
      go_wp2_with fail
      refine (HFL.out _).mono ?_
      rintro e w1 ⟨rfl, hb⟩
      have hb2 := hB.trans (hb.mono hB.size)
      obtain ⟨hc, hfz⟩ := bcell hb
      go_wp2_with fail
      go_ret2
      exact ⟨ret_ib HE.out, hb2⟩
    · have c0 : (((s[k]'hk).toNat : Int) == 94) = false := by rw [HX.out]; rfl
      have c3 : (((s[k]'hk).toNat : Int) == 62) = false := by rw [HX.out]; rfl
      have c4 : (((s[k]'hk).toNat : Int) == 118) = false := by rw [HX.out]; rfl
      have c1 : (((s[k]'hk).toNat : Int) == 60) = true := by rw [HX.out]; rfl
      have c2 : (way != 4) = true := by simpa using hb
      clear HX hb
      go_enter Try.func22, Try.ntmps22
      go_wp2_with fail
      refine (HFL.out _).mono ?_
      rintro e w1 ⟨rfl, hb⟩
      have hb2 := hB.trans (hb.mono hB.size)
      obtain ⟨hc, hfz⟩ := bcell hb
      go_wp2_with fail
      go_ret2
      exact ⟨ret_ib HE.out, hb2⟩
  · have hE := hg.trans (if_neg hb)
    have g1 : way = 1 ∨ (((s[k]'hk).toNat : Int) == 94) = false := by rw [HX.out]; simp only [beq_eq_false_iff_ne]; omega
    have g2 : way = 2 ∨ (((s[k]'hk).toNat : Int) == 62) = false := by rw [HX.out]; simp only [beq_eq_false_iff_ne]; omega
    have g3 : way = 3 ∨ (((s[k]'hk).toNat : Int) == 118) = false := by rw [HX.out]; simp only [beq_eq_false_iff_ne]; omega
    have g4 : way = 4 ∨ (((s[k]'hk).toNat : Int) == 60) = false := by rw [HX.out]; simp only [beq_eq_false_iff_ne]; omega
    rcases hcase with rfl | rfl | rfl | rfl
    · exact rgoes_1 W H k s w hw1 hw2 hh1 hh2 hle hk hy0 hy1 hx0 hx1 hf0 (g2.resolve_left (by omega)) (g3.resolve_left (by omega)) (g4.resolve_left (by omega)) _ hE
    · exact rgoes_2 W H k s w hw1 hw2 hh1 hh2 hle hk hy0 hy1 hx0 hx1 hf0 (g1.resolve_left (by omega)) (g3.resolve_left (by omega)) (g4.resolve_left (by omega)) _ hE
    · exact rgoes_3 W H k s w hw1 hw2 hh1 hh2 hle hk hy0 hy1 hx0 hx1 hf0 (g1.resolve_left (by omega)) (g2.resolve_left (by omega)) (g4.resolve_left (by omega)) _ hE
    · exact rgoes_4 W H k s w hw1 hw2 hh1 hh2 hle hk hy0 hy1 hx0 hx1 hf0 (g1.resolve_left (by omega)) (g2.resolve_left (by omega)) (g3.resolve_left (by omega)) _ hE
end Go.Proofs.Ytacigmjdppoonaa.Vm
