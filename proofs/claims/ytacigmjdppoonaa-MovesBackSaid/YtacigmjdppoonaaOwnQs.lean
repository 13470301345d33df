/- Cells of a block that is known whole; slices of slices of ints in new memory, each in new memory; an empty slice with room. -/
import Derived.Test.YtacigmjdppoonaaIntRows
import Derived.Test.YtacigmjdppoonaaAppendZ
import Derived.Test.YtacigmjdppoonaaStMath
namespace Go.Proofs.Ytacigmjdppoonaa.Vm
open Go Go.RowKit
set_option maxRecDepth 100000

theorem cell_new (w : World) (cs : Array Value) (t : TypeId) {k i : Nat} (hk : k = w.heap.size) {v : Value} (hv : cs[i]? = some v) : (w.alloc (.cells cs t)).cell? ⟨k, i, none⟩ = some v := by
  subst hk
  have e : (w.alloc (.cells cs t)).heap[w.heap.size]? = some (.cells cs t (0, 0)) := by
    show (w.heap.push _)[w.heap.size]? = _
    rw [Array.getElem?_push, if_pos rfl]
  unfold World.cell?
  rw [e]
  exact hv
theorem cell_heap {w : World} {b i : Nat} {cs : Array Value} {t : TypeId} {fr : Nat × Nat} {v : Value} (h : w.heap[b]? = some (.cells cs t fr)) (hv : cs[i]? = some v) : w.cell? ⟨b, i, none⟩ = some v := by
  unfold World.cell?; rw [h]; exact hv
theorem frozen_heap {w : World} {b i : Nat} {cs : Array Value} {t : TypeId} (h : w.heap[b]? = some (.cells cs t (0, 0))) : w.frozen? ⟨b, i, none⟩ = false := by
  unfold World.frozen?; rw [h]; simp
theorem rowL_mk {V : World} {b B n : Nat} {arr : Array Value} {t : TypeId} {ls : List (List Int)} (h : V.heap[b]? = some (.cells arr t (0, 0))) (hl : ls.length = n) (hb : b < B) (hm : n ≤ maxLen)
    (hr : ∀ i, i < n → ∃ a m c, arr[i]? = some (.slice a m c) ∧ RowZ .i64 V B a m c (ls.getD i [])) : RowL V B (some ⟨b, 0, none⟩) n n ls :=
  ⟨hl, Nat.le_refl _, hm, fun _ => ⟨b, 0, rfl, hb, fun i hi => by
    obtain ⟨a, m, c, e1, e2⟩ := hr i hi
    exact ⟨a, m, c, by rw [Nat.zero_add]; exact cell_heap h e1, e2⟩⟩⟩
theorem heap_new (w : World) (o : Obj) {k : Nat} (hk : k = w.heap.size) : (w.alloc o).heap[k]? = some o := by
  subst hk
  show (w.heap.push o)[w.heap.size]? = _
  rw [Array.getElem?_push, if_pos rfl]
theorem info_row : (Try.prog.info? 27).map (fun i => (i.zero, i.size, i.bytes)) = some (some (.slice none 0 0), 1, 24) := by kernel_rfl
/-- All blocks of ints are as they were. -/
def IntsKept (w w' : World) : Prop := ∀ (g : Nat) (arr : Array Value), w.heap[g]? = some (.cells arr 3 (0, 0)) → w'.heap[g]? = w.heap[g]?
theorem IntsKept.calls {w w' : World} (hb : Below w.heap.size w w') : IntsKept w w' := fun g _ h => hb.block g (Array.getElem?_eq_some_iff.1 h).1
theorem IntsKept.set {w : World} {lb i : Nat} {v : Value} {arr : Array Value} (h : w.heap[lb]? = some (.cells arr 27 (0, 0))) : IntsKept w (w.setCell ⟨lb, i, none⟩ v) := fun g a hg =>
  Below.heap_setCell w ⟨lb, i, none⟩ v g (fun e => by
    have e : g = lb := e
    subst e
    rw [h] at hg
    simp at hg)
theorem IntsKept.push {w w' : World} {B n : Nat} {v : Value} {xs : List Value} {o : Obj} (h1 : w.ownsRow B 27 1 v n xs) (hg : (w.alloc o).grownBy w' v.ownBlock) : IntsKept w w' := fun g a ha => by
  have hl := (Array.getElem?_eq_some_iff.1 ha).1
  refine (hg.block g (by simp; omega) (fun e => ?_)).trans (heap_alloc_old w o hl)
  rcases h1.2 with ⟨rfl, _⟩ | ⟨g', cap, cur, rfl, _, hg', _⟩
  · simp [Value.ownBlock] at e
  · simp only [Value.ownBlock, Option.some.injEq] at e
    subst e
    rw [ha] at hg'
    simp at hg'
theorem OwnZ.kept {w w' : World} {B : Nat} {v : Value} {l : List Int} (h : OwnZ w B v l) (hk : IntsKept w w') : OwnZ w' B v l := by
  refine ⟨h.1, ?_⟩
  rcases h.2 with h2 | ⟨g, cap, cur, rfl, hb, hh, r⟩
  · exact .inl h2
  · exact .inr ⟨g, cap, cur, rfl, hb, by rw [hk g cur hh]; exact hh, r⟩

/-- Slices of paths, in new memory, each in new memory. -/
def OwnQ (w : World) (B : Nat) (v : Value) (ls : List (List Int)) : Prop :=
  ∃ xs : List Value, w.ownsRow B 27 1 v ls.length xs ∧ ∀ (i : Nat) (l : List Int), ls[i]? = some l → ∃ u, xs[i]? = some u ∧ OwnZ w B u l
theorem OwnQ.nil (w : World) (B : Nat) : OwnQ w B (.slice none 0 0) [] := ⟨[], World.ownsRow_nil _ _ _ _, fun i l h => by simp at h⟩
theorem OwnQ.kept {w w' : World} {B : Nat} {v : Value} {ls : List (List Int)} (h : OwnQ w B v ls) (hk : IntsKept w w') (hq : ∀ k, B ≤ k → k < w.heap.size → w'.heap[k]? = w.heap[k]?) : OwnQ w' B v ls := by
  obtain ⟨xs, h1, h2⟩ := h
  refine ⟨xs, ⟨h1.1, ?_⟩, fun i l hl => ?_⟩
  · rcases h1.2 with h3 | ⟨g, cap, cur, rfl, hg, hh, r⟩
    · exact .inl h3
    · exact .inr ⟨g, cap, cur, rfl, hg, by rw [hq g hg (Array.getElem?_eq_some_iff.1 hh).1]; exact hh, r⟩
  · obtain ⟨u, hu, ho⟩ := h2 i l hl
    exact ⟨u, hu, ho.kept hk⟩
theorem OwnQ.calls {w w' : World} {B : Nat} {v : Value} {ls : List (List Int)} (h : OwnQ w B v ls) (hb : Below w.heap.size w w') : OwnQ w' B v ls := h.kept (.calls hb) (fun k _ hk => hb.block k hk)
theorem OwnQ.push {w w' : World} {B : Nat} {v v' u : Value} {ls : List (List Int)} {xs : List Value} {l : List Int} {o : Obj} (h1 : w.ownsRow B 27 1 v ls.length xs) (h2 : ∀ (i : Nat) (l : List Int), ls[i]? = some l → ∃ u, xs[i]? = some u ∧ OwnZ w B u l)
    (hu : OwnZ w B u l) (h : w'.ownsRow B 27 1 v' (ls.length + 1) (xs ++ [u])) (hg : (w.alloc o).grownBy w' v.ownBlock) : OwnQ w' B v' (ls ++ [l]) := by
  have hlx : xs.length = ls.length := by simpa using h1.1
  have hk : IntsKept w w' := .push h1 hg
  refine ⟨xs ++ [u], by simpa using h, fun i l' hl => ?_⟩
  by_cases hi : i < ls.length
  · rw [List.getElem?_append_left hi] at hl
    obtain ⟨u', hu', ho⟩ := h2 i l' hl
    exact ⟨u', by rw [List.getElem?_append_left (by omega)]; exact hu', ho.kept hk⟩
  · rw [List.getElem?_append_right (by omega)] at hl
    obtain ⟨h3, h4⟩ := List.getElem?_eq_some_iff.1 hl
    simp at h3 h4
    subst h4
    exact ⟨u, by rw [List.getElem?_append_right (by omega)]; simp [show i - xs.length = 0 by omega], hu.kept hk⟩
theorem OwnQ.rowL {w : World} {B : Nat} {v : Value} {ls : List (List Int)} (h : OwnQ w B v ls) : ∃ a c, v = .slice a ls.length c ∧ RowL w w.heap.size a ls.length c ls := by
  obtain ⟨xs, h1, h2⟩ := h
  rcases h1.2 with ⟨rfl, hn⟩ | ⟨g, cap, cur, rfl, hb, hg, hnc, hcm, hcs, htake⟩
  · obtain rfl := List.eq_nil_of_length_eq_zero hn
    exact ⟨none, 0, rfl, rowL_nil w _⟩
  · refine ⟨some ⟨g, 0, none⟩, cap, rfl, rfl, hnc, hcm, fun hn => ⟨g, 0, rfl, (Array.getElem?_eq_some_iff.1 hg).1, fun i hi => ?_⟩⟩
    obtain ⟨u, hu, ho⟩ := h2 i ls[i] (by simp [hi])
    obtain ⟨a', c', rfl, hr⟩ := ho.row
    have hc := World.ownsRow.cells h1 (g := g) rfl i _ hu
    rw [Row.add] at hc
    exact ⟨a', _, c', hc, by rw [show ls.getD i [] = ls[i] by simp [List.getD, hi]]; exact hr⟩

end Go.Proofs.Ytacigmjdppoonaa.Vm
