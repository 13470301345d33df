/- Words for what the iterator of package dist holds in memory: the marks of what has been seen, the edge, the next edge. -/
import Derived.Test.YtincamjkfpcpiaaOwnIs
import Derived.Test.YtincamjkfpcpiaaRounds
import Derived.OneCell
import Derived.Laws.OwnMore
import Derived.Maps.OwnIn
namespace Go.Proofs.Ytincamjkfpcpiaa.Vm
open Go Go.RowKit

theorem info_bool : (Try.prog.info? 4).map (fun i => (i.zero, i.size, i.bytes)) = some (some (.bool false), 1, 1) := by kernel_rfl

/-- Marks as cells. -/
def bools (l : List Bool) : List Value := l.map .bool
theorem bools_len (l : List Bool) : (bools l).length = l.length := by simp [bools]
theorem bools_at {l : List Bool} {i : Nat} (h : i < l.length) : (bools l)[i]? = some (.bool (l.getD i false)) := by simp [bools, List.getD, h]
theorem bools_set (l : List Bool) (i : Nat) : (bools l).set i (.bool true) = bools (l.set i true) := by simp [bools, List.map_set]

/-- Some marks, in a block. -/
def Marks (w : World) (B sb : Nat) (l : List Bool) : Prop := w.ownsRow B 4 1 (.slice (some ⟨sb, 0, none⟩) l.length l.length) l.length (bools l)

section
variable {w w' : World} {B sb i : Nat} {l : List Bool}
theorem Marks.cell (h : Marks w B sb l) (hi : i < l.length) : w.cell? ⟨sb, i, none⟩ = some (.bool (l.getD i false)) := (World.ownsRow.cellAt h i (by omega)).trans (bools_at hi)
theorem Marks.frozen (h : Marks w B sb l) (i : Nat) : w.frozen? ⟨sb, i, none⟩ = false := World.ownsRow.frozenAt h i
theorem Marks.base (h : Marks w B sb l) : B ≤ sb ∧ sb < w.heap.size := World.ownsRow.lt h sb rfl
theorem Marks.set (h : Marks w B sb l) (i : Nat) : Marks (w.setCell ⟨sb, i, none⟩ (.bool true)) B sb (l.set i true) := by
  have := (World.ownsRow.stored h i (.bool true)).1
  unfold Marks
  rw [List.length_set, ← bools_set]
  exact this
/-- Marks and ints don't share a block. -/
theorem Marks.other {v : Value} {B' : Nat} {xs : List Nat} (h : Marks w B sb l) (hv : OwnI w B' v xs) : v.ownBlock ≠ some sb := by
  rcases h.2 with ⟨h1, _⟩ | ⟨g, cap, cur, h1, _, hg, _⟩
  · cases h1
  · rcases hv.2 with ⟨rfl, _⟩ | ⟨g', cap', cur', rfl, _, hg', _⟩
    · simp [Value.ownBlock]
    · intro e
      have e1 : g' = sb := by simpa [Value.ownBlock] using e
      have e2 : sb = g := by simpa using congrArg (fun v => match v with | Value.slice (some a) _ _ => a.block | _ => 0) h1
      subst e1 e2
      rw [hg] at hg'
      injection hg' with h3
      injection h3 with h4 h5
      exact absurd h5 (by decide)
end

/-- What the call owns outlasts whatever spares cells at or beyond b. -/
theorem own_spares {w w' : World} {b B base size n : Nat} {e : TypeId} {v : Value} {xs : List Value} (h : w.ownsRow base e size v n xs) (hs : Spares b B w w') (hb : b ≤ base) : w'.ownsRow base e size v n xs := by
  refine ⟨h.1, ?_⟩
  rcases h.2 with h2 | ⟨g, cap, cur, rfl, hg, hh, r⟩
  · exact .inl h2
  · exact .inr ⟨g, cap, cur, rfl, hg, hs.same g _ (by omega) hh (.inr rfl), r⟩
theorem own_calls {w w' : World} {base size n : Nat} {e : TypeId} {v : Value} {xs : List Value} (h : w.ownsRow base e size v n xs) (hb : Below w.heap.size w w') : w'.ownsRow base e size v n xs := by
  refine ⟨h.1, ?_⟩
  rcases h.2 with h2 | ⟨g, cap, cur, rfl, hg, hh, r⟩
  · exact .inl h2
  · exact .inr ⟨g, cap, cur, rfl, hg, (hb.block g (heap_lt hh)).trans hh, r⟩

theorem ownI_cons {w : World} {B : Nat} {v : Value} {c : Nat} {l : List Nat} (h : OwnI w B v (c :: l)) : ∃ g cap, v = .slice (some ⟨g, 0, none⟩) (l.length + 1) cap := by
  rcases h.2 with ⟨_, h0⟩ | ⟨g, cap, _, rfl, _⟩
  · simp at h0
  · exact ⟨g, cap, rfl⟩
theorem ownI_cell {w : World} {B g n cap i : Nat} {l : List Nat} (h : OwnI w B (.slice (some ⟨g, 0, none⟩) n cap) l) (hi : i < l.length) : w.cell? ⟨g, i, none⟩ = some (.int .i64 (l.getD i 0 : Nat)) := by
  have := World.ownsRow.cells h (g := g) rfl i (.int .i64 (l.getD i 0 : Nat)) (by simp [i64s, List.getD, hi])
  rw [Row.add] at this
  simpa using this

/-- What the iterator holds: whatever lay between b and B lies as it lay in W; its own are the marks, the edge, the next edge, each in a block of its own. -/
structure It (b B : Nat) (W : World) (sb : Nat) (seen : List Bool) (ve : Value) (edge : List Nat) (vn : Value) (next : List Nat) (A : World) : Prop where
  held : ∀ k, b ≤ k → k < B → A.heap[k]? = W.heap[k]?
  size : W.heap.size ≤ A.heap.size
  marks : Marks A W.heap.size sb seen
  edg : OwnI A W.heap.size ve edge
  nxt : OwnI A W.heap.size vn next
  apart : ∀ k, ve.ownBlock = some k → vn.ownBlock ≠ some k

section
variable {b B sb o : Nat} {W A A' : World} {seen : List Bool} {ve vn : Value} {edge next : List Nat}
theorem It.spares (h : It b B W sb seen ve edge vn next A) (hs : Spares b B A A') (hB : B ≤ W.heap.size) (hb : b ≤ B) : It b B W sb seen ve edge vn next A' where
  held := fun k h1 h2 => by
    have hk : k < W.heap.size := by omega
    have h3 := h.held k h1 h2
    rw [Array.getElem?_eq_getElem hk] at h3
    rw [Array.getElem?_eq_getElem hk]
    exact hs.same k _ h1 h3 (.inl h2)
  size := Nat.le_trans h.size hs.size
  marks := own_spares h.marks hs (by omega)
  edg := own_spares h.edg hs (by omega)
  nxt := own_spares h.nxt hs (by omega)
  apart := h.apart
theorem It.below (h : It b B W sb seen ve edge vn next A) (hb : Below A.heap.size A A') (hB : B ≤ W.heap.size) : It b B W sb seen ve edge vn next A' where
  held := fun k h1 h2 => (hb.block k (by have := h.size; omega)).trans (h.held k h1 h2)
  size := Nat.le_trans h.size hb.size
  marks := own_calls h.marks hb
  edg := own_calls h.edg hb
  nxt := own_calls h.nxt hb
  apart := h.apart
theorem It.start {s : Nat} (hb : Below W.heap.size W A) (hz : A.heap.size = W.heap.size + 1) (hm : Marks A W.heap.size W.heap.size seen) (hB : B ≤ W.heap.size) :
    It b B W W.heap.size seen (.slice (some ⟨W.heap.size + 1, 0, none⟩) 1 1) [s] (.slice (some ⟨W.heap.size + 1 + 1, 0, none⟩) 0 0) [] ((A.alloc (.cells #[.int .i64 (s : Nat)] 3)).alloc (.cells #[] 3)) ∧
    Below W.heap.size W ((A.alloc (.cells #[.int .i64 (s : Nat)] 3)).alloc (.cells #[] 3)) := by
  have h2 : Below W.heap.size W ((A.alloc (.cells #[.int .i64 (s : Nat)] 3)).alloc (.cells #[] 3)) := (hb.alloc (by omega) _).alloc (by simp; omega) _
  refine ⟨⟨fun k _ h => h2.block k (by omega), h2.size, World.ownsRow.alloc (World.ownsRow.alloc hm _) _, World.ownsRow.alloc ?_ _, ?_, fun k hk hk' => ?_⟩, h2⟩
  · have := World.ownsRow_lit (base := W.heap.size) (e := 3) (size := 1) A #[.int .i64 (s : Nat)] 1 (by omega) (by unfold maxLen; omega) rfl
    rw [hz] at this
    exact this
  · have := World.ownsRow_lit (base := W.heap.size) (e := 3) (size := 1) (A.alloc (.cells #[.int .i64 (s : Nat)] 3)) #[] 0 (by simp; omega) (by unfold maxLen; omega) rfl
    rw [show (A.alloc (.cells #[.int .i64 (s : Nat)] 3)).heap.size = W.heap.size + 1 + 1 by simp; omega] at this
    exact this
  · have e1 : W.heap.size + 1 = k := by simpa [Value.ownBlock] using hk
    have e2 : W.heap.size + 1 + 1 = k := by simpa [Value.ownBlock] using hk'
    omega
theorem It.drew (h : It b B W sb seen ve edge vn next A) : It b B W sb seen ve edge vn next A.drew := ⟨h.held, h.size, h.marks, h.edg, h.nxt, h.apart⟩
theorem It.drewN (h : It b B W sb seen ve edge vn next A) (m : Nat) : It b B W sb seen ve edge vn next (A.drewN m) := ⟨h.held, h.size, h.marks, h.edg, h.nxt, h.apart⟩
theorem It.mark (h : It b B W sb seen ve edge vn next A) (hB : B ≤ W.heap.size) (o : Nat) : It b B W sb (seen.set o true) ve edge vn next (A.setCell ⟨sb, o, none⟩ (.bool true)) where
  held := fun k h1 h2 => (Below.heap_setCell A _ _ k (by have := h.marks.base.1; show k ≠ sb; omega)).trans (h.held k h1 h2)
  size := by simpa [World.setCell] using h.size
  marks := h.marks.set o
  edg := ownsRow_setCell_other h.edg (h.marks.other h.edg) _
  nxt := ownsRow_setCell_other h.nxt (h.marks.other h.nxt) _
  apart := h.apart
theorem It.below_mark (h : It b B W sb seen ve edge vn next A) (o : Nat) : Below W.heap.size A (A.setCell ⟨sb, o, none⟩ (.bool true)) := (Below.refl _ _).setCell (p := ⟨sb, o, none⟩) h.marks.base.1 _
theorem It.push {v' : Value} {A1 : World} {ob : Obj} {x : Nat} (h : It b B W sb seen ve edge vn next A) (hB : B ≤ W.heap.size)
    (hown : A1.ownsRow W.heap.size 3 1 v' (next.length + 1) (i64s next ++ [.int .i64 (x : Nat)])) (hg : (A.alloc ob).grownBy A1 vn.ownBlock) (hl : v'.ownBlock = vn.ownBlock ∨ v'.ownBlock = some (A.alloc ob).heap.size) :
    It b B W sb seen ve edge v' (next ++ [x]) A1 ∧ Below W.heap.size A A1 := by
  have hvn : ∀ k, vn.ownBlock = some k → W.heap.size ≤ k := fun k hk => (World.ownsRow.lt h.nxt k hk).1
  have hbel : Below W.heap.size A A1 := ((Below.refl _ A).alloc h.size ob).grown hg (by have := h.size; simp; omega) hvn
  refine ⟨⟨fun k h1 h2 => (hbel.block k (by omega)).trans (h.held k h1 h2), Nat.le_trans h.size hbel.size, ?_, ?_, own_pushI hown, fun k hk => ?_⟩, hbel⟩
  · exact World.ownsRow.kept (World.ownsRow.alloc h.marks ob) hg (.inr (fun e => h.marks.other h.nxt e.symm))
  · refine World.ownsRow.kept (World.ownsRow.alloc h.edg ob) hg ?_
    cases he : ve.ownBlock with
    | none => exact .inl rfl
    | some k => exact .inr (fun e => h.apart k he e.symm)
  · rcases hl with hl | hl
    · rw [hl]; exact h.apart k hk
    · rw [hl]
      intro e
      have h1 := (World.ownsRow.lt h.edg k hk).2
      have h2 : (A.alloc ob).heap.size = k := by simpa using e
      simp at h2
      omega
theorem It.swap {g cap n : Nat} (h : It b B W sb seen (.slice (some ⟨g, 0, none⟩) n cap) edge vn next A) : It b B W sb seen vn next (.slice (some ⟨g, 0, none⟩) 0 cap) [] A where
  held := h.held
  size := h.size
  marks := h.marks
  edg := h.nxt
  nxt := by
    rcases h.edg.2 with ⟨h1, _⟩ | ⟨g', cap', cur, h1, hb, hg, _, hm, hcs, _⟩
    · cases h1
    · injection h1 with h1 h2 h3
      injection h1 with h1
      injection h1 with h1
      subst h1 h3
      exact ⟨rfl, .inr ⟨g, cap, cur, rfl, hb, hg, Nat.zero_le _, hm, hcs, by simp [i64s]⟩⟩
  apart := fun k hk hk' => h.apart k hk' hk
end
end Go.Proofs.Ytincamjkfpcpiaa.Vm
