/- Words for ints with signs in new memory, and the contract of tuggerref01.Ints on them. -/
import Derived.Test.YtkfjbpcngmipnaaOwnIs
import Derived.Test.YtkfjbpcngmipnaaWords
import Derived.OneCell
import Derived.Laws.OwnMore
namespace Go.Proofs.Ytkfjbpcngmipnaa.Vm
open Go Go.RowKit

def intsZ (l : List Int) : List Value := l.map (Value.int .i64)
theorem intsZ_len (l : List Int) : (intsZ l).length = l.length := by simp [intsZ]
theorem intsZ_set (l : List Int) (i : Nat) (z : Int) : (intsZ l).set i (.int .i64 z) = intsZ (l.set i z) := by simp [intsZ, List.map_set]
/-- Ints, in a block of their own. -/
def NumsZ (w : World) (B lb : Nat) (l : List Int) : Prop := w.ownsRow B 3 1 (.slice (some ⟨lb, 0, none⟩) l.length l.length) l.length (intsZ l)

theorem own_upto {w w' : World} {base B size n : Nat} {e : TypeId} {v : Value} {xs : List Value} (h : w.ownsRow base e size v n xs) (hb : Below B w w') (hv : ∀ k, v.ownBlock = some k → k < B) : w'.ownsRow base e size v n xs := by
  refine ⟨h.1, ?_⟩
  rcases h.2 with h2 | ⟨g, cap, cur, rfl, hg, hh, r⟩
  · exact .inl h2
  · exact .inr ⟨g, cap, cur, rfl, hg, (hb.block g (hv g rfl)).trans hh, r⟩

section
variable {w w' : World} {B lb i n : Nat} {l : List Int}
theorem NumsZ.cell (h : NumsZ w B lb l) (hi : i < l.length) : w.cell? ⟨lb, i, none⟩ = some (.int .i64 (l.getD i 0)) :=
  (World.ownsRow.cellAt h i (by omega)).trans (by simp [intsZ, List.getD, hi])
theorem NumsZ.frozen (h : NumsZ w B lb l) (i : Nat) : w.frozen? ⟨lb, i, none⟩ = false := World.ownsRow.frozenAt h i
theorem NumsZ.base (h : NumsZ w B lb l) : B ≤ lb ∧ lb < w.heap.size := World.ownsRow.lt h lb rfl
theorem NumsZ.set (h : NumsZ w B lb l) (i : Nat) (z : Int) : NumsZ (w.setCell ⟨lb, i, none⟩ (.int .i64 z)) B lb (l.set i z) := by
  have := (World.ownsRow.stored h i (.int .i64 z)).1
  unfold NumsZ
  rw [List.length_set, ← intsZ_set]
  exact this
theorem NumsZ.below {B' : Nat} (h : NumsZ w B lb l) (hb : Below B' w w') (hl : lb < B') : NumsZ w' B lb l := own_upto h hb (fun k hk => by
    have e : lb = k := by simpa [Value.ownBlock] using hk
    omega)
theorem NumsZ.mono {B' : Nat} (h : NumsZ w B lb l) (hB : B' ≤ B) : NumsZ w B' lb l := by
  refine ⟨h.1, ?_⟩
  rcases h.2 with h2 | ⟨g, cap, cur, hv, hb, r⟩
  · exact .inl h2
  · exact .inr ⟨g, cap, cur, hv, by omega, r⟩
theorem NumsZ.calls (h : NumsZ w B lb l) (hb : Below w.heap.size w w') : NumsZ w' B lb l := h.below hb h.base.2
theorem NumsZ.alloc (h : NumsZ w B lb l) (o : Obj) : NumsZ (w.alloc o) B lb l := World.ownsRow.alloc h o
theorem NumsZ.row (h : NumsZ w B lb l) : RowZ .i64 w w.heap.size (some ⟨lb, 0, none⟩) l.length l.length l :=
  ⟨rfl, Nat.le_refl _, by
    rcases h.2 with ⟨h1, _⟩ | ⟨g, cap, cur, h1, _, _, _, hm, _⟩
    · cases h1
    · injection h1 with _ _ h3
      omega, fun _ => ⟨lb, 0, rfl, h.base.2, fun i hi => by rw [Nat.zero_add]; exact h.cell hi⟩⟩
end

/-- What is made and filled from the left. -/
def fillZ (N i : Nat) : List Int := (List.range N).map fun j => if j < i then -1 else 0
theorem fillZ_len (N i : Nat) : (fillZ N i).length = N := by simp [fillZ]
theorem fillZ_start (N : Nat) : fillZ N 0 = List.replicate N 0 := by
  unfold fillZ
  apply List.ext_getElem
  · simp
  · intro j h1 h2; simp
theorem fillZ_end (N : Nat) : fillZ N N = List.replicate N (-1) := by
  unfold fillZ
  apply List.ext_getElem
  · simp
  · intro j h1 h2
    simp at h1
    simp [h1]
theorem fillZ_set (N i : Nat) : (fillZ N i).set i (-1) = fillZ N (i + 1) := by
  unfold fillZ
  apply List.ext_getElem
  · simp
  · intro j h1 h2
    simp only [List.getElem_set, List.getElem_map, List.getElem_range]
    by_cases h : i = j
    · subst h; simp
    · rw [if_neg h]
      by_cases h3 : j < i
      · rw [if_pos h3, if_pos (by omega)]
      · rw [if_neg h3, if_neg (by omega)]
/-- A slice that has just been made. -/
theorem numsZ_made (w : World) (N : Nat) (hN : N ≤ 1000000) : NumsZ (w.alloc (.cells ⟨intsZ (List.replicate N 0)⟩ 3)) w.heap.size w.heap.size (List.replicate N 0) := by
  have := World.ownsRow_lit (base := w.heap.size) (e := 3) (size := 1) w ⟨intsZ (List.replicate N 0)⟩ N (Nat.le_refl _) (by unfold maxLen; omega) (by simp [intsZ])
  unfold NumsZ
  rw [List.length_replicate]
  exact this
theorem make_ints (w : World) (N : Nat) (hN : N ≤ 1000000) : (Instr.makeSlice 34 (.int .i64 (N : Int)) (.int .i64 (N : Int))).run Try.prog w = .ok (.slice (some ⟨w.heap.size, 0, none⟩) N N) (w.alloc (.cells ⟨intsZ (List.replicate N 0)⟩ 3)) := by
  obtain ⟨j0, hj0, hy0, hy1, hy2⟩ := info_parts info_int
  have hmk := run_make (P := Try.prog) w 34 3 j0 (.int .i64 0) Try.underlying34 hj0 hy0 .i64 .i64 N N (by omega) (Int.le_refl _) (by rw [hy2]; omega) (by omega)
  simp only [Int.toNat_natCast] at hmk
  rw [hy1] at hmk
  have hmc : (madeCells (Value.int .i64 0).cells (N * 1)) = ⟨intsZ (List.replicate N 0)⟩ := by
    apply Array.ext'
    simp only [Value.cells]
    rw [Nat.mul_one, toList_madeCells_one]
    simp [intsZ]
  rw [hmc] at hmk
  exact hmk

/-- Equal as far as k. -/
theorem take_moreZ {xs ys : List Int} {k n : Nat} (hx : xs.length = n) (hy : ys.length = n) (hk : k < n) (h : xs.take k = ys.take k) (he : xs.getD k 0 = ys.getD k 0) : xs.take (k + 1) = ys.take (k + 1) := by
  rw [List.take_succ_eq_append_getElem (by omega), List.take_succ_eq_append_getElem (by omega), h]
  simp only [List.getD, List.getElem?_eq_getElem (show k < xs.length by omega), List.getElem?_eq_getElem (show k < ys.length by omega), Option.getD_some] at he
  rw [he]
theorem ne_atZ {xs ys : List Int} {k : Nat} (he : xs.getD k 0 ≠ ys.getD k 0) : xs ≠ ys := fun h => he (by rw [h])

/-- A row lies in no block of another type. -/
theorem own_apart {w : World} {B size n k : Nat} {e t : TypeId} {v : Value} {xs : List Value} {cs : Array Value} {fr : Nat × Nat} (ho : w.ownsRow B e size v n xs) (hk : w.heap[k]? = some (.cells cs t fr)) (hne : e ≠ t) : v.ownBlock ≠ some k := fun ek => by
  rcases ho.2 with ⟨rfl, _⟩ | ⟨g, cap, cur, rfl, hb, hh, _⟩
  · cases ek
  · injection ek with ek
    have ek' : g = k := ek
    subst ek'
    rw [hk] at hh
    injection hh with hh
    injection hh with _ hh
    exact hne hh.symm
/-- Two rows of different types lie apart. -/
theorem own_own {w : World} {B size n B' size' n' : Nat} {e e' : TypeId} {v v' : Value} {xs xs' : List Value} (ho : w.ownsRow B e size v n xs) (ho' : w.ownsRow B' e' size' v' n' xs') (hne : e ≠ e') : v'.ownBlock = none ∨ v'.ownBlock ≠ v.ownBlock := by
  rcases ho'.2 with ⟨rfl, _⟩ | ⟨g, cap, cur, rfl, hb, hh, _⟩
  · exact .inl rfl
  · exact .inr fun e => own_apart ho hh hne e.symm
end Go.Proofs.Ytkfjbpcngmipnaa.Vm
