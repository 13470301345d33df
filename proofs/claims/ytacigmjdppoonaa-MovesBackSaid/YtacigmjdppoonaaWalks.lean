/- The contract of the program's Walk: a range over ticks. -/
import Derived.Test.YtacigmjdppoonaaTickOff
namespace Go.Proofs.Ytacigmjdppoonaa.Vm
open Go Go.RowKit
set_option maxRecDepth 100000

theorem Tk.len {W H : Int} {l : List Nat} {c : List Int} {ls : List (List Int)} {s : List (List Int × Int)} (h : Tk W H l c ls s) : s.length ≤ ls.length + 1 := by
  induction h with
  | one c ls => simp
  | on _ _ ih => simpa using ih
  | bad _ _ => simp
theorem results_two {P : Program} {fn : Func} {p q : Tmp} {t u : TypeId} (h : fn.results = #[.cell p t, .cell q u]) {tmps : Array Value} {w : World} {a b : Addr} {v1 v2 : Value} (hp : tmps.getD p undef = .pointer (some a)) (hq : tmps.getD q undef = .pointer (some b))
    (h1 : (loadVar t a).run P w = .ok v1 w) (h2 : (loadVar u b).run P w = .ok v2 w) : (results fn tmps).run P w = .ok (.tuple #[v1, v2]) w := by
  simp only [results, h]
  rw [Array.getD_eq_getD_getElem?] at hp hq
  simp [Sem.run_bind, Result.andThen, hp, hq, asAddr, h1, h2]
/-- A slice of slices of ints, empty, with room. -/
theorem make_roomQ (w : World) (N : Nat) (hN : N ≤ 1000000) : (Instr.makeSlice 24 (.int .i64 0) (.int .i64 (N : Int))).run Try.prog w = .ok (.slice (some ⟨w.heap.size, 0, none⟩) 0 N) (w.alloc (.cells ⟨List.replicate N (.slice none 0 0)⟩ 27)) := by
  obtain ⟨j0, hj0, hy0, hy1, hy2⟩ := info_parts info_row
  have hmk := run_make (P := Try.prog) w 24 27 j0 (.slice none 0 0) Try.underlying24 hj0 hy0 .i64 .i64 0 N (by omega) (by omega) (by rw [hy2]; omega) (by omega)
  simp only [Int.toNat_natCast, Int.toNat_zero] at hmk
  rw [hy1] at hmk
  have hmc : (madeCells (Value.slice none 0 0).cells (N * 1)) = ⟨List.replicate N (.slice none 0 0)⟩ := by
    apply Array.ext'
    simp only [Value.cells]
    rw [Nat.mul_one, toList_madeCells_one]
  rw [hmc] at hmk
  exact hmk
theorem load_cellS (w : World) (b : Nat) (a : Option Addr) (n c : Nat) (h : w.cell? ⟨b, 0, none⟩ = some (.slice a n c)) : (loadVar 24 ⟨b, 0, none⟩).run Try.prog w = .ok (.slice a n c) w := by
  simp [loadVar, Sem.run_bind, run_underlying Try.underlying24, isAgg, Result.andThen, h, go_sem]
theorem load_cellE (w : World) (b : Nat) (x : Int) (h : w.cell? ⟨b, 0, none⟩ = some (.int .i64 x)) : (loadVar 28 ⟨b, 0, none⟩).run Try.prog w = .ok (.int .i64 x) w := by
  simp [loadVar, Sem.run_bind, run_underlying Try.underlying28, isAgg, Result.andThen, h, go_sem]

/-- What the walk's memory says while it goes. -/
structure WkI (w : World) (b6 N : Nat) (r : Option Nat) (pre : List El) (V : World) : Prop where
  c6 : V.heap[b6]? = some (.cells #[.slice none 0 0] 24 (0, 0))
  c7 : V.heap[b6 + 1]? = some (.cells #[.int .i64 0] 28 (0, 0))
  c8 : V.heap[b6 + 3]? = some (.cells #[.slice (some ⟨b6 + 2, 0, none⟩) pre.length N] 24 (0, 0))
  own : V.ownsRow w.heap.size 27 1 (.slice (some ⟨b6 + 2, 0, none⟩) pre.length N) pre.length (pre.map El.v)
  els : ∀ x ∈ pre, OwnZ V w.heap.size x.v x.l ∧ x.l.length = x.n ∧ (x.v.ownBlock = none ∨ x.v.ownBlock ≠ r)
  bel : Below w.heap.size w V
/-- What it says where a round has left. -/
def WkX (w : World) (b6 : Nat) (cd : Code) (_ : Option Nat) (pre : List El) (V : World) : Prop :=
  cd = .ret ∧ ∃ p y, pre = p ++ [y] ∧ y.e ≠ 0 ∧ V.heap[b6]? = some (.cells #[.slice none 0 0] 24 (0, 0)) ∧ V.heap[b6 + 1]? = some (.cells #[.int .i64 y.e] 28 (0, 0)) ∧ Below w.heap.size w V
section
variable {w V V' : World} {b6 N k : Nat} {r : Option Nat} {pre : List El} {cd : Code} {x y : Loop}
theorem own_put {B n : Nat} {e : TypeId} {size : Nat} {v : Value} {xs : List Value} (h : V.ownsRow B e size v n xs) (hl : V.heap[k]? = some (.loop x)) : (V.putObj k (.loop y)).ownsRow B e size v n xs := by
  refine ⟨h.1, ?_⟩
  rcases h.2 with h1 | ⟨g, cap, cur, hv, hg, hh, q⟩
  · exact .inl h1
  · exact .inr ⟨g, cap, cur, hv, hg, (World.putObj_heap_other (fun e => by subst e; rw [hl] at hh; cases hh)).trans hh, q⟩
theorem put_cells {k' : Nat} {cs : Array Value} {t : TypeId} {fr : Nat × Nat} (h : V.heap[k']? = some (.cells cs t fr)) (hl : V.heap[k]? = some (.loop x)) : (V.putObj k (.loop y)).heap[k']? = some (.cells cs t fr) :=
  (World.putObj_heap_other (fun e => by subst e; rw [hl] at h; cases h)).trans h
theorem WkI.put (h : WkI w b6 N r pre V) (hk : w.heap.size ≤ k) (hl : V.heap[k]? = some (.loop x)) : WkI w b6 N r pre (V.putObj k (.loop y)) :=
  ⟨put_cells h.c6 hl, put_cells h.c7 hl, put_cells h.c8 hl, own_put h.own hl, fun e he => ⟨own_put (h.els e he).1 hl, (h.els e he).2⟩, h.bel.trans (below_put hk _)⟩
theorem WkX.put (h : WkX w b6 cd r pre V) (hk : w.heap.size ≤ k) (hl : V.heap[k]? = some (.loop x)) : WkX w b6 cd r pre (V.putObj k (.loop y)) := by
  obtain ⟨h0, p, z, h1, h2, h3, h4, h5⟩ := h
  exact ⟨h0, p, z, h1, h2, put_cells h3 hl, put_cells h4 hl, h5.trans (below_put hk _)⟩
theorem grow_heap {k' : Nat} {o : Obj} (hg : V.grownBy V' r) (h : V.heap[k']? = some o) (hr : ∀ q, r = some q → k' ≠ q) : V'.heap[k']? = some o :=
  (hg.block k' (heap_lt h) (fun e => hr k' e.symm rfl)).trans h
theorem WkI.grown (h : WkI w b6 N r pre V) (hg : V.grownBy V' r) (hr : ∀ q, r = some q → b6 + 4 ≤ q) (hb : w.heap.size ≤ b6) : WkI w b6 N r pre V' :=
  ⟨grow_heap hg h.c6 (fun q hq => by have := hr q hq; omega), grow_heap hg h.c7 (fun q hq => by have := hr q hq; omega), grow_heap hg h.c8 (fun q hq => by have := hr q hq; omega),
    World.ownsRow.kept h.own hg (.inr (fun e => by
      have e : some (b6 + 2) = r := e
      have := hr _ e.symm
      omega)), fun x hx => ⟨World.ownsRow.kept (h.els x hx).1 hg (h.els x hx).2.2, (h.els x hx).2⟩, h.bel.grown hg h.bel.size (fun q hq => by have := hr q hq; omega)⟩
theorem WkX.grown (h : WkX w b6 cd r pre V) (hg : V.grownBy V' r) (hr : ∀ q, r = some q → b6 + 4 ≤ q) (hb : w.heap.size ≤ b6) : WkX w b6 cd r pre V' := by
  obtain ⟨h0, p, z, h1, h2, h3, h4, h5⟩ := h
  exact ⟨h0, p, z, h1, h2, grow_heap hg h3 (fun q hq => by have := hr q hq; omega), grow_heap hg h4 (fun q hq => by have := hr q hq; omega), h5.grown hg h5.size (fun q hq => by have := hr q hq; omega)⟩
theorem OkT.put {W H : Int} {l : List Nat} {B0 : Nat} {cs : List Int} {ls : List (List Int)} {s : List El} (h : OkT W H l B0 cs ls r s V) (hl : V.heap[k]? = some (.loop x)) : OkT W H l B0 cs ls r s (V.putObj k (.loop y)) :=
  ⟨h.1, fun p e he => ⟨own_put (h.2 p e he).1 hl, (h.2 p e he).2⟩⟩
end

/-- What Walk leaves. -/
def WalkPost (w : World) (P : List (List Int) → Int → Prop) (e : Ending) (w' : World) : Prop :=
  ∃ a n c ls x, e = .returned (.tuple #[.slice a n c, .int .i64 x]) ∧ P ls x ∧ ls.length = n ∧ OwnQ w' w.heap.size (.slice a n c) ls ∧ Below w.heap.size w w'
end Go.Proofs.Ytacigmjdppoonaa.Vm
