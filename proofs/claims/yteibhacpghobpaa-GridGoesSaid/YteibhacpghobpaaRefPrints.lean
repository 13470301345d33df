/- The contracts of the document's Print and Parse. -/
import Derived.Test.YteibhacpghobpaaPrints
namespace Go.Proofs.Yteibhacpghobpaa.Vm
open Go.RowKit

theorem printF_len {W : Nat} {l : List Nat} : ∀ y, (printF W y l).length ≤ y * (W + 1) := by
  intro y
  induction y with
  | zero => simp [printF]
  | succ y ih =>
    rw [printF_succ, List.length_append, List.length_append, List.length_take, Nat.add_mul]
    simp; omega
theorem str_row {W y : Nat} (s : ByteArray) : strOf (printF W y (bytesOf s)) ++ s.extract (y * W) ((y + 1) * W) ++ ⟨#[10]⟩ = strOf (printF W (y + 1) (bytesOf s)) := by
  apply bytesOf_inj
  rw [printF_succ, strOf_append, strOf_append, bytesOf_append, bytesOf_append, bytesOf_append, bytesOf_append, bytesOf_extract]
  congr 1
  rw [show (y + 1) * W - y * W = W by rw [Nat.add_mul]; omega]
  rw [bytesOf_strOf (l := ((bytesOf s).drop (y * W)).take W) (fun x hx => bytesOf_lt s x (List.mem_of_mem_drop (List.mem_of_mem_take hx)))]

set_option maxRecDepth 100000 in
set_option maxHeartbeats 800000 in
theorem rprint_any (W H : Int) (s : ByteArray) (w : World) (hs : s.size ≤ maxLen) :
    Calls Try.prog 13 #[gridV W H s] w fun e w' => e = .returned (.string (strOf (printS W H (bytesOf s)))) ∧ Below w.heap.size w w' := by
  have hB : Below w.heap.size w (w.alloc (gridO W H s)) := (Below.refl _ _).alloc (Nat.le_refl _) _
  have hri := fun w => rright_any W H s w hs
  unfold maxLen at hs
  cases hr : rightS W H (bytesOf s)
  · have HE := Lib.hid (printS_no hr)
    rw [hr] at hri
    have HR := Lib.hid hri
    clear hri hr
    go_enter Try.func13, Try.ntmps13
    go_wp2_with fail
    refine (HR.out _).mono ?_
    rintro e w1 ⟨rfl, hb⟩
    have hb2 := hB.trans (hb.mono hB.size)
    go_wp2_with fail
    go_ret
    exact ⟨ret_str (by rw [HE.out]; rfl), hb2⟩
  rw [hr] at hri
  have HR := Lib.hid hri
  have hok := Okay.of hr
  have hle := hok.le
  obtain ⟨v, rfl⟩ := Int.eq_ofNat_of_zero_le (show 0 ≤ W by have := hok.w1; omega)
  obtain ⟨h, rfl⟩ := Int.eq_ofNat_of_zero_le (show 0 ≤ H by have := hok.h1; omega)
  have hv1 : 1 ≤ v := by have := hok.w1; omega
  have hv2 : v ≤ 256 := by have := hok.w2; omega
  have hh1 : 1 ≤ h := by have := hok.h1; omega
  have hh2 : h ≤ 256 := by have := hok.h2; omega
  have hlen : s.size = v * h := by have := hok.len; exact_mod_cast this
  have HLEN := Lib.hid hlen
  have HE : Hid (printS v h (bytesOf s) = printF v h (bytesOf s)) := by
    unfold Hid printS
    rw [if_pos hr]; rfl
  clear hri hr hok hlen
  go_enter Try.func13, Try.ntmps13
  go_wp2_with fail
  refine (HR.out _).mono ?_
  rintro e w1 ⟨rfl, hb⟩
  have hb2 := hB.trans (hb.mono hB.size)
  obtain ⟨hc, hfz⟩ := bcell hb
  go_wp2_with fail
  go_loop [3, 4] (fun t i => ∃ y : Nat, y ≤ h ∧ i = .int .i64 y ∧ t = .string (strOf (printF v y (bytesOf s)))) (fun _ i => h - (intOf i).toNat)
  case atStart => exact ⟨0, Nat.zero_le _, rfl, rfl⟩
  case round =>
    obtain ⟨y, hy, rfl, rfl⟩ := hrel
    by_cases hlt : y < h
    · have hrow := str_row (W := v) (y := y) s
      have HROW := Lib.hid hrow
      have hpl := printF_len (W := v) (l := bytesOf s) y
      have hsz : (strOf (printF v y (bytesOf s))).size ≤ 65792 := by
        rw [strOf_size]
        exact Nat.le_trans hpl (Nat.le_trans (Nat.mul_le_mul (show y ≤ 256 by omega) (show v + 1 ≤ 257 by omega)) (by omega))
      have hm1 : y * v ≤ 65536 := Nat.le_trans (Nat.mul_le_mul (show y ≤ 256 by omega) hv2) (by omega)
      have hm2 : (y + 1) * v ≤ 65536 := Nat.le_trans (Nat.mul_le_mul (show y + 1 ≤ 256 by omega) hv2) (by omega)
      have hm3 : (y + 1) * v ≤ s.size := by rw [HLEN.out, Nat.mul_comm v h]; exact Nat.mul_le_mul_right v hlt
      have hm4 : y * v ≤ (y + 1) * v := Nat.mul_le_mul_right v (by omega)
      have c1 : ((y * v : Nat) : Int) = (y : Int) * v := Int.natCast_mul _ _
      have c2 : (((y + 1) * v : Nat) : Int) = ((y : Int) + 1) * v := by rw [Int.natCast_mul, Int.natCast_add]; rfl
      have d1 : 0 ≤ (y : Int) * v := by rw [← c1]; omega
      have d2 : (y : Int) * v ≤ 65536 := by rw [← c1]; omega
      have d3 : 0 ≤ ((y : Int) + 1) * v := by rw [← c2]; omega
      have d4 : ((y : Int) + 1) * v ≤ 65536 := by rw [← c2]; omega
      have d5 : ((y : Int) + 1) * v ≤ s.size := by rw [← c2]; omega
      have d6 : (y : Int) * v ≤ ((y : Int) + 1) * v := by rw [← c2, ← c1]; omega
      have HC1 := Lib.hid c1
      have HC2 := Lib.hid c2
      clear c1 c2 hrow hpl
      generalize strOf (printF v y (bytesOf s)) = acc at hsz HROW
      go_wp2_with fail
      go_round
      case rel => exact ⟨y + 1, by omega, by go_num, by rw [HROW.out]⟩
      case measure => simp [intOf]; omega
    · obtain rfl : y = h := by omega
      go_wp2_with fail
      go_ret
      exact ⟨ret_str (by rw [HE.out]), hb2⟩
end Go.Proofs.Yteibhacpghobpaa.Vm
