/- The contract of grid.measure. The contracts of both Rights and of the document's Light. -/
import Derived.Test.YtacigmjdppoonaaFloors
import Derived.Test.YtacigmjdppoonaaGridMath
import Derived.Laws.RangeAny
import Derived.Lib.OthersKept
namespace Go.Proofs.Ytacigmjdppoonaa.Vm
open Go.RowKit

/-- What measure answers: the sides, if the text has the form of a map. -/
def MeasPost (w : World) (l : List Nat) (e : Ending) (w' : World) : Prop :=
  (∃ (W H : Nat) (cells : List Nat), measS l = some (W, H, cells) ∧ W ≤ l.length ∧ H ≤ l.length ∧ e = .returned (.tuple #[.int .i64 W, .int .i64 H, .bool true]) ∧ Below w.heap.size w w') ∨
  (measS l = none ∧ ∃ W H : Int, e = .returned (.tuple #[.int .i64 W, .int .i64 H, .bool false]) ∧ Below w.heap.size w w')

theorem measPost_no {w w' : World} {l : List Nat} {W H : Int} (h : measS l = none) (hb : Below w.heap.size w w') : MeasPost w l (.returned (.tuple #[.int .i64 W, .int .i64 H, .bool false])) w' := .inr ⟨h, W, H, rfl, hb⟩
theorem measPost_yes {w w' : World} {l : List Nat} {W H : Nat} {cells : List Nat} (h : measS l = some (W, H, cells)) (hW : W ≤ l.length) (hH : H ≤ l.length) (hb : Below w.heap.size w w') : MeasPost w l (.returned (.tuple #[.int .i64 W, .int .i64 H, .bool true])) w' := .inl ⟨W, H, cells, h, hW, hH, rfl, hb⟩

theorem below_iter (w : World) (s : ByteArray) (k : Nat) : Below w.heap.size w (w.iter s k) := (Below.refl _ _).alloc (Nat.le_refl _) _

end Go.Proofs.Ytacigmjdppoonaa.Vm

namespace Go.Proofs.Ytacigmjdppoonaa.Vm
open Go.RowKit

theorem rightS_w {W H : Int} {l : List Nat} (h : sideB W = false) : rightS W H l = false := by
  unfold sideB at h
  unfold rightS
  rw [decide_eq_false (by have := of_decide_eq_false h; omega)]; rfl
theorem rightS_h {W H : Int} {l : List Nat} (h : sideB H = false) : rightS W H l = false := by
  unfold sideB at h
  unfold rightS
  rw [decide_eq_false (by have := of_decide_eq_false h; omega)]; rfl
theorem rightS_len {W H : Int} {l : List Nat} (h : (l.length : Int) ≠ W * H) : rightS W H l = false := by
  unfold rightS
  rw [decide_eq_false (fun h2 => h h2.2.2.2.2)]; rfl
theorem rightS_all {W H : Int} {l : List Nat} (h1 : 1 ≤ W) (h2 : W ≤ 256) (h3 : 1 ≤ H) (h4 : H ≤ 256) (h : (l.length : Int) = W * H) : rightS W H l = l.all letterS := by
  unfold rightS
  rw [decide_eq_true ⟨h1, h3, h2, h4, h⟩, Bool.true_and]
theorem all_no {l : List Nat} {k c : Nat} (hk : k < l.length) (hc : l.getD k 0 = c) (h : letterS c = false) : l.all letterS = false := by
  rw [List.all_eq_false]
  refine ⟨c, ?_, by simp [h]⟩
  rw [← hc]
  simp [List.getD, hk]
theorem all_more {l : List Nat} {k c : Nat} (hk : k < l.length) (hc : l.getD k 0 = c) (h : letterS c = true) (ha : (l.take k).all letterS = true) : (l.take (k + 1)).all letterS = true := by
  rw [take_at hk, hc, List.all_append, ha]
  simp [h]
theorem sideB_in {n : Int} (h : sideB n = true) : 1 ≤ n ∧ n ≤ 256 := of_decide_eq_true h

theorem prod_le {W H : Int} (h1 : 1 ≤ W) (h2 : W ≤ 256) (h3 : 1 ≤ H) (h4 : H ≤ 256) : 0 ≤ W * H ∧ W * H ≤ 65536 :=
  ⟨Int.mul_nonneg (by omega) (by omega), Int.le_trans (Int.mul_le_mul h2 h4 (by omega) (by omega)) (by omega)⟩

theorem iter_there (w : World) (s : ByteArray) (p : Nat) {k : Nat} (hk : k = w.heap.size) : (w.iter s p).heap[k]? = some (.stringIter s p) := by subst hk; exact World.iter_heap w s p
theorem below_iter' {w w1 : World} (h : Below w.heap.size w w1) (s : ByteArray) (p : Nat) : Below w.heap.size w (w1.iter s p) := h.trans ((below_iter w1 s p).mono h.size)


theorem sideB_out {n : Int} (h : n < 1 ∨ 256 < n) : sideB n = false := by unfold sideB; exact decide_eq_false (by omega)

set_option maxRecDepth 100000 in
set_option maxHeartbeats 800000 in
theorem rright_any (W H : Int) (s : ByteArray) (w : World) (hs : s.size ≤ maxLen) :
    Calls Try.prog 20 #[gridV W H s] w fun e w' => e = .returned (.bool (rightS W H (bytesOf s))) ∧ Below w.heap.size w w' := by
  unfold maxLen at hs
  have hB : Below w.heap.size w (w.alloc (gridO W H s)) := (Below.refl _ _).alloc (Nat.le_refl _) _
  by_cases hW1 : W < 1
  · have HE := Lib.hid (rightS_w (H := H) (l := bytesOf s) (sideB_out (.inl hW1)))
    go_enter Try.func20, Try.ntmps20
    go_wp2_with fail
    go_ret
    exact ⟨ret_bool HE.out.symm, hB⟩
  by_cases hH1 : H < 1
  · have HE := Lib.hid (rightS_h (W := W) (l := bytesOf s) (sideB_out (.inl hH1)))
    go_enter Try.func20, Try.ntmps20
    go_wp2_with fail
    go_ret
    exact ⟨ret_bool HE.out.symm, hB⟩
  by_cases hW2 : 256 < W
  · have HE := Lib.hid (rightS_w (H := H) (l := bytesOf s) (sideB_out (.inr hW2)))
    go_enter Try.func20, Try.ntmps20
    go_wp2_with fail
    go_ret
    exact ⟨ret_bool HE.out.symm, hB⟩
  by_cases hH2 : 256 < H
  · have HE := Lib.hid (rightS_h (W := W) (l := bytesOf s) (sideB_out (.inr hH2)))
    go_enter Try.func20, Try.ntmps20
    go_wp2_with fail
    go_ret
    exact ⟨ret_bool HE.out.symm, hB⟩
  obtain ⟨p0, p1⟩ := prod_le (W := W) (H := H) (by omega) (by omega) (by omega) (by omega)
  by_cases hlen : (s.size : Int) = W * H
  · have HE := Lib.hid (rightS_all (l := bytesOf s) (W := W) (H := H) (by omega) (by omega) (by omega) (by omega) (by rw [bytesOf_len]; exact hlen))
    have e0 : ((s.size : Int) != W * H) = false := by rw [bne_eq_false_iff_eq]; exact hlen
    have HL := Lib.hid (bytesOf_len s)
    clear hlen
    go_enter Try.func20, Try.ntmps20
    go_wp2_with fail
    go_loop [3] (fun i => ∃ k : Nat, k ≤ s.size ∧ i = .int .i64 k ∧ Hid (((bytesOf s).take k).all letterS = true)) (fun i => s.size - (intOf i).toNat)
    case atStart => exact ⟨0, Nat.zero_le _, rfl, rfl⟩
    case round =>
      obtain ⟨k, hk, rfl, HA⟩ := hrel
      by_cases hlt : k < s.size
      · have hat := bytesOf_at s k hlt
        have hkl : k < (bytesOf s).length := by rw [HL.out]; exact hlt
        have hisl := fun w => rletter_any (s[k]'hlt).toNat w
        cases hl : letterS (s[k]'hlt).toNat
        · have HN := Lib.hid (all_no hkl hat hl)
          rw [hl] at hisl
          have HI := Lib.hid hisl
          clear hisl hl hat
          go_wp2_with fail
          refine (HI.out _).mono ?_
          rintro e w1 ⟨rfl, rfl⟩
          go_wp2_with fail
          go_ret
          exact ⟨ret_bool (HE.out.trans HN.out).symm, hB⟩
        · have HN := Lib.hid (all_more hkl hat hl HA.out)
          rw [hl] at hisl
          have HI := Lib.hid hisl
          clear hisl hl hat HA
          go_wp2_with fail
          refine (HI.out _).mono ?_
          rintro e w1 ⟨rfl, rfl⟩
          go_wp2_with fail
          go_round
          case rel => exact ⟨k + 1, by omega, by go_num, HN.out⟩
          case measure => simp [intOf]; omega
      · go_wp2_with fail
        go_ret
        refine ⟨ret_bool ?_, hB⟩
        have := HA.out
        rw [List.take_of_length_le (by rw [HL.out]; omega)] at this
        exact (HE.out.trans this).symm
  · have HE := Lib.hid (rightS_len (l := bytesOf s) (by rw [bytesOf_len]; exact hlen))
    have e0 : ((s.size : Int) != W * H) = true := by rw [bne_iff_ne]; exact hlen
    clear hlen
    go_enter Try.func20, Try.ntmps20
    go_wp2_with fail
    go_ret
    exact ⟨ret_bool HE.out.symm, hB⟩

end Go.Proofs.Ytacigmjdppoonaa.Vm
