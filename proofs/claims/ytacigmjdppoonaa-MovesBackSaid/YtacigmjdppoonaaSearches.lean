/- The shelf's contract of slices.BinarySearch at ints, laid at this program (the table of numbers, and the kernel's comparison of each body), in plain words; and what it says of a row that rises. -/
import Derived.Shelf.Slices.SearchI
import Derived.Shelf.Slices.Empties
import Derived.Test.YtacigmjdppoonaaAppendZ
import Derived.Test.YtacigmjdppoonaaInMath
import Derived.Test.YtacigmjdppoonaaProg
namespace Go.Proofs.Ytacigmjdppoonaa.Vm
open Go Go.Shelf Go.RowKit
def lays25_ren : Go.Shelf.Ren := ⟨fun | 25 => 37 | 31 => 41 | 32 => 42 | 37 => 53 | n => n, fun | 22 => 27 | 3 => 3 | 4 => 4 | 40 => 61 | 0 => 0 | n => n, fun | n => n⟩
theorem lays25 : Go.Proofs.Lays2.n25 Try.prog lays25_ren := {
  mixed := by kernel_rfl
  f25 := Try.func37.trans (congrArg some (by kernel_rfl))
  f31 := Try.func41.trans (congrArg some (by kernel_rfl))
  f32 := Try.func42.trans (congrArg some (by kernel_rfl))
  f37 := Try.func53.trans (congrArg some (by kernel_rfl))
  t0 := Try.underlying0
  a0 := Try.isAgg0
  z0 := Try.sizeOf0
  v0 := Try.zeroValue0
  t3 := Try.underlying3
  a3 := Try.isAgg3
  z3 := Try.sizeOf3
  v3 := Try.zeroValue3
  t4 := Try.underlying4
  a4 := Try.isAgg4
  z4 := Try.sizeOf4
  v4 := Try.zeroValue4
  t22 := Try.underlying27
  a22 := Try.isAgg27
  z22 := Try.sizeOf27
  v22 := Try.zeroValue27
  t40 := Try.underlying61
  a40 := Try.isAgg61
  z40 := Try.sizeOf61
  v40 := Try.zeroValue61 }

theorem search_any (a : Option Addr) (n c B : Nat) (l : List Int) (x : Int) (w : World) (h : RowZ .i64 w B a n c l) (hu : l.Pairwise (· < ·)) (hn : n ≤ 1000000) :
    Calls Try.prog 37 #[.slice a n c, .int .i64 x] w fun e w' => e = .returned (.tuple #[.int .i64 (lowZ l x : Nat), .bool (decide (x ∈ l))]) ∧ ∃ q, w' = w.drewN q := by
  by_cases h0 : n = 0
  · subst h0
    obtain rfl := List.eq_nil_of_length_eq_zero h.1
    have h1 : Calls Try.prog 37 #[.slice a 0 c, .int .i64 x] w fun e w' => e = .returned (.tuple #[.int .i64 0, .bool false]) ∧ w' = w := Any.slices_BinarySearch_int_empty lays25 a c x w
    refine h1.mono ?_
    rintro e w' ⟨rfl, rfl⟩
    exact ⟨by simp [lowZ], 0, rfl⟩
  · obtain ⟨b, off, rfl, _, hc⟩ := h.cells (by omega)
    have hl := h.1
    have ht : l.take n = l := List.take_of_length_le (by omega)
    have h1 : Calls Try.prog 37 #[.slice (some ⟨b, off, none⟩) n c, .int .i64 x] w fun e w' => e = .returned (.tuple #[.int .i64 ((l.take n).countP (· < x) : Nat), .bool ((l.take n).contains x)]) ∧ ∃ q, w' = w.drewN q :=
      Any.slices_BinarySearch_int lays25 b off n c l x w (by omega) (by omega) (fun j hj => hc j (by omega)) (by rw [ht]; exact hu.imp (fun h => Int.le_of_lt h))
    rw [ht] at h1
    refine h1.mono ?_
    rintro e w' ⟨rfl, q, rfl⟩
    refine ⟨?_, q, rfl⟩
    congr 3
    simp [lowZ]

end Go.Proofs.Ytacigmjdppoonaa.Vm
