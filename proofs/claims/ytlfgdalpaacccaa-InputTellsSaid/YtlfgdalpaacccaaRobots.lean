/- The contracts of state's within, isRobot, robotsAreRight. -/
import Derived.Test.YtlfgdalpaacccaaStWords
import Derived.Test.YtlfgdalpaacccaaSetAdds
namespace Go.Proofs.Ytlfgdalpaacccaa.Vm
open Go Go.RowKit



theorem floor_yes {W H c : Int} {s : ByteArray} (w : World) (hs : s.size ≤ maxLen) (h : floorS (bytesOf s) c = true) :
    Calls Try.prog 32 #[gridV W H s, .int .i64 c] w fun e w' => e = .returned (.bool true) ∧ Below w.heap.size w w' := by
  have := floor_any W H c s w hs
  rwa [h] at this
theorem floor_no {W H c : Int} {s : ByteArray} (w : World) (hs : s.size ≤ maxLen) (h : floorS (bytesOf s) c = false) :
    Calls Try.prog 32 #[gridV W H s, .int .i64 c] w fun e w' => e = .returned (.bool false) ∧ Below w.heap.size w w' := by
  have := floor_any W H c s w hs
  rwa [h] at this
theorem floor_wf {s : ByteArray} {c : Int} (hs : s.size ≤ maxLen) (h : floorS (bytesOf s) c = true) : (Lit.int .i64 c).wf = true := by
  have := floorS_in h
  rw [bytesOf_len] at this
  unfold maxLen at hs
  obtain ⟨k, rfl⟩ := Int.eq_ofNat_of_zero_le this.1
  exact WalkArith.wf_i64 (by omega)

theorem makeSet (n : Nat) (w : World) : (Instr.makeMap 60 (some (.int .i64 (n : Int)))).run Try.prog w = .ok (.map (some w.heap.size)) (w.alloc (.map #[] 0)) := by
  simp [Instr.makeMap, go_sem, Result.andThen]

/-- What a loop over robots holds: nothing below B has turned, and the map of the first k cells. -/
theorem restP_no1 {fl : Int → Bool} {rs : List Rec} {i : Nat} (hi : i < rs.length) (h : fl (rs.getD i zr).a = false) : ¬ ∀ j, j < rs.length → RestP fl rs j := fun hh => by
  have := (hh i hi).1
  rw [h] at this
  cases this
theorem restP_no2 {fl : Int → Bool} {rs : List Rec} {i : Nat} (hi : i < rs.length) (h : (rs.getD i zr).a ∈ (rs.take i).map Rec.a) : ¬ ∀ j, j < rs.length → RestP fl rs j := fun hh => by
  obtain ⟨j, hj, e⟩ := (mem_takeR (by omega)).1 h
  exact (hh i hi).2.1 j hj e

end Go.Proofs.Ytlfgdalpaacccaa.Vm
