/- The document's Goes, a direction by itself. -/
import Derived.Test.YtacigmjdppoonaaGoes
import Derived.Deep.RegionWith
namespace Go.Proofs.Ytacigmjdppoonaa.Vm
open Go.RowKit

set_option maxRecDepth 100000 in
set_option maxHeartbeats 800000 in
theorem rgoes_3 (W H : Int) (k : Nat) (s : ByteArray) (w : World) (hw1 : 1 ≤ W) (hw2 : W ≤ 256) (hh1 : 1 ≤ H) (hh2 : H ≤ 256) (hle : s.size ≤ 65536) (hk : k < s.size)
    (hy0 : 0 ≤ (k : Int) / W) (hy1 : (k : Int) / W < H) (hx0 : 0 ≤ (k : Int) % W) (hx1 : (k : Int) % W < W) (hf : floorS (bytesOf s) k = true) (g1 : (((s[k]'hk).toNat : Int) == 94) = false) (g2 : (((s[k]'hk).toNat : Int) == 62) = false) (g4 : (((s[k]'hk).toNat : Int) == 60) = false) (R : Int × Bool)
    (hE : R = if (k : Int) % W + dxS 3 < 0 ∨ (k : Int) / W + dyS 3 < 0 ∨ W ≤ (k : Int) % W + dxS 3 ∨ H ≤ (k : Int) / W + dyS 3 ∨ floorS (bytesOf s) (((k : Int) / W + dyS 3) * W + ((k : Int) % W + dxS 3)) = false then (0, false) else
      (((k : Int) / W + dyS 3) * W + ((k : Int) % W + dxS 3), true)) :
    Calls Try.prog 22 #[gridV W H s, .int .i64 k, .int .i64 3] w fun e w' => e = .returned (.tuple #[.int .i64 R.1, .bool R.2]) ∧ Below w.heap.size w w' := by
  have hB : Below w.heap.size w (w.alloc (gridO W H s)) := (Below.refl _ _).alloc (Nat.le_refl _) _
  have hfl := fun w => rfloor_any W H k s w (by unfold maxLen; omega)
  rw [hf] at hfl
  have HFL := Lib.hid hfl
  have hfl3 := fun w => rfloor_any W H (((k : Int) / W + 1) * W + ((k : Int) % W)) s w (by unfold maxLen; omega)
  rw [show dxS 3 = 0 from rfl, show dyS 3 = 1 from rfl, Int.add_zero] at hE
  generalize floorS (bytesOf s) (((k : Int) / W + 1) * W + ((k : Int) % W)) = fl at hE hfl3
  have HE := Lib.hid hE
  have HFL3 := Lib.hid hfl3
  clear hE hf hfl hfl3
  cases e3 : (((s[k]'hk).toNat : Int) == 118)
  all_goals
    go_enter Try.func22, Try.ntmps22
    go_wp2_with fail
    refine (HFL.out _).mono ?_
    rintro e w1 ⟨rfl, hb⟩
    have hb2 := hB.trans (hb.mono hB.size)
    obtain ⟨hc, hfz⟩ := bcell hb
    have hz : w.heap.size < w1.heap.size := by have := hb.size; simp at this; omega
    go_wp2
    go_region
    go_wp2
    go_region
    by_cases hP : H ≤ (k : Int) / W + 1
    · have HE2 := Lib.hid (HE.out.trans (if_pos (by omega)))
      clear HE
      go_wp2_with fail
      go_ret2
      exact ⟨ret_ib HE2.out, below_two' hb2⟩
    · have hp0 : 0 ≤ ((k : Int) / W + 1) * W := Int.mul_nonneg (by omega) (by omega)
      have hp1 : ((k : Int) / W + 1) * W ≤ 65536 := Int.le_trans (Int.mul_le_mul (show (k : Int) / W + 1 ≤ 256 by omega) hw2 (by omega) (by omega)) (by omega)
      go_wp2_with fail
      refine (HFL3.out _).mono ?_
      rintro e w3 ⟨rfl, hb5⟩
      have hbx : Below w1.heap.size w1 w3 := below_two hb5
      obtain ⟨hc5, hfz5⟩ := bcell hbx
      clear hb5
      cases fl
      · have HE2 := Lib.hid (HE.out.trans (if_pos (.inr (.inr (.inr (.inr rfl))))))
        clear HE
        go_wp2_with fail
        go_ret2
        exact ⟨ret_ib HE2.out, hb2.trans (hbx.mono hb2.size)⟩
      · have HE2 := Lib.hid (HE.out.trans (if_neg (by simp; omega)))
        clear HE
        go_wp2_with fail
        go_ret2
        exact ⟨ret_ib HE2.out, hb2.trans (hbx.mono hb2.size)⟩
end Go.Proofs.Ytacigmjdppoonaa.Vm
