/- The contract of slices.Clone at ints. -/
import Derived.Test.YtacigmjdppoonaaAppendZ
import Derived.Maps.OwnSet
import Derived.Maps.OwnOps
import Derived.WalkLawsBesides
namespace Go.Proofs.Ytacigmjdppoonaa.Vm
open Go Go.RowKit Go.Maps

theorem eql_nilI {t e : TypeId} (ht : Try.prog.underlying t = some (.slice e)) (a : Option Addr) (n c : Nat) (w : World) : (binOp .eql t (.slice a n c) (.slice none 0 0)).run Try.prog w = .ok (.bool a.isNone) w := by
  simp only [binOp]
  simp [run_equal_slice_nil w t e a n c ht, Result.andThen]

set_option maxRecDepth 100000 in
set_option maxHeartbeats 400000 in
theorem cloneZ_any (a : Option Addr) (n c B : Nat) (rs : List Int) (w : World) (h : RowZ .i64 w B a n c rs) (hB : B ≤ w.heap.size) (hn : n ≤ 100000) :
    Calls Try.prog 23 #[.slice a n c] w fun e w' => ∃ a' c', e = .returned (.slice a' n c') ∧ OwnZ w' w.heap.size (.slice a' n c') rs ∧ Below w.heap.size w w' := by
  have hl := h.1
  have hen := eql_nilI Try.underlying27 a n c
  cases a with
  | none =>
    obtain rfl : n = 0 := by
      rcases Nat.eq_zero_or_pos n with h0 | h0
      · exact h0
      · obtain ⟨_, _, e, _⟩ := h.cells h0; cases e
    obtain rfl := List.eq_nil_of_length_eq_zero hl
    clear h
    go_enter Try.func23, Try.ntmps23
    go_wp2_with fail
    go_ret
    exact ⟨none, 0, rfl, World.ownsRow_nil _ _ _ _, Below.refl _ _⟩
  | some ad =>
    obtain ⟨i0, hi0, hz0, hz1, hz2⟩ := info_parts info_int
    have hcs := fun o => cells_rowZ (h.below ((Below.refl B w).alloc hB o))
    have HCS := Lib.hid hcs
    have HOE := Lib.hid (ownZ_empty w (Nat.le_refl _))
    have HL := Lib.hid hl
    have HBE := Lib.hid fun o : Obj => (Below.refl w.heap.size w).alloc (Nat.le_refl _) o
    clear hcs h hl
    go_enter Try.func23, Try.ntmps23
    go_wp2_with (at_builtin; refine wpList_append_own _ rfl (.tmp 5) (.tmp 6) 27 rfl w.heap.size 3 i0 (.int .i64 0) 1 8 Try.underlying27 hi0 hz0 hz1 hz2 rfl (by decide) _ _ _ rfl HOE.out ad n c (intsZ rs) rfl (by rw [intsZ_len, HL.out, Nat.mul_one]) (HCS.out _) (by intro u hu; obtain ⟨_, _, rfl⟩ := List.mem_map.1 hu; rfl) (by simp only [maxLen, List.length_nil]; omega) (by simp only [List.length_nil]; omega) (by simp) ?_; intro v' w3 hown3 hgrow3 _)
    have HO : Hid (OwnZ w3 w.heap.size v' rs) := by
      unfold Hid OwnZ
      rw [HL.out]
      simpa [intsZ] using hown3
    obtain ⟨a', c', rfl⟩ := (own_slice HO.out)
    have HB3 := Lib.hid ((HBE.out _).grown hgrow3 (by simp) (fun k hk => (World.ownsRow.lt HOE.out k hk).1))
    clear hown3 hgrow3
    go_wp2_with fail
    go_ret
    rw [HL.out] at HO ⊢
    exact ⟨a', c', rfl, HO.out, HB3.out⟩

end Go.Proofs.Ytacigmjdppoonaa.Vm
