/- Words for what a call owns: bytes in new memory ('Own'), and how that is kept. No function of the program is named here. -/
import Derived.Test.YtplnaaokapilpaaDoorChecked
import Derived.Test.YtplnaaokapilpaaDoorWords
import Derived.Lib.Hide
namespace Go.Proofs.YtplnaaokapilpaaDoor.Vm
open Go.RowKit

theorem info_u8 : (Tryd.prog.info? 5).map (fun i => (i.zero, i.size, i.bytes)) = some (some (.int .u8 0), 1, 1) := by kernel_rfl

/-- Bytes as cells. -/
def u8s (l : List Nat) : List Value := l.map fun z => Value.int .u8 (z : Nat)

theorem u8s_one (l : List Nat) : ∀ u ∈ u8s l, u.oneCell' = true := by
  intro u hu
  obtain ⟨_, _, rfl⟩ := List.mem_map.1 hu
  rfl

/-- The call owns these bytes. -/
def Own (w : World) (B : Nat) (v : Value) (l : List Nat) : Prop := w.ownsRow B 5 1 v l.length (u8s l)

theorem own_push {w : World} {B : Nat} {v : Value} {l : List Nat} {x : Nat} (h : w.ownsRow B 5 1 v (l.length + 1) (u8s l ++ [.int .u8 (x : Nat)])) : Own w B v (l ++ [x]) := by
  unfold Own
  simpa [u8s] using h

/-- A byte appended: what is owned, and what lies below. -/
theorem push_step {w wr w1 : World} {B : Nat} {v v' : Value} {out : List Nat} {x : Nat} {o : Obj} {X : Int} (hX : X = (x : Nat)) (hown : Own wr B v out) (hbel : Below B w wr) (hB : B ≤ w.heap.size)
    (hown1 : w1.ownsRow B 5 1 v' (out.length + 1) (u8s out ++ [.int .u8 X])) (hg : (wr.alloc o).grownBy w1 v.ownBlock) : Own w1 B v' (out ++ [x]) ∧ Below B w w1 := by
  subst hX
  have hs := hbel.size
  exact ⟨own_push hown1, (hbel.alloc (by omega) o).grown hg (by simp; omega) (fun k hk => (World.ownsRow.lt hown k hk).1)⟩

/-- One new cell. -/
theorem one_cell (w : World) (u : Value) (t : TypeId) : ∀ j x, [u][j]? = some x → (w.alloc (.cells #[u] t)).cell? ((⟨w.heap.size, 0, none⟩ : Addr).add j) = some x := by
  intro j x hj
  match j, hj with
  | 0, hj => simp at hj; subst hj; simp [Addr.add]

/-- What the call owns, as a slice with its cells. -/
theorem Own.form {w : World} {B : Nat} {v : Value} {l : List Nat} (h : Own w B v l) (hl : 0 < l.length) :
    ∃ g cap, v = .slice (some ⟨g, 0, none⟩) l.length cap ∧ B ≤ g ∧ g < w.heap.size ∧ Row .u8 w w.heap.size (some ⟨g, 0, none⟩) l.length cap l := by
  have h0 := h
  rcases h.2 with ⟨_, hn⟩ | ⟨g, cap, cur, rfl, hb, hg, _⟩
  · omega
  · exact ⟨g, cap, rfl, hb, (Array.getElem?_eq_some_iff.1 hg).1, Row.of_own (e := 5) h0⟩

/-- Two numbers in a new row. -/
theorem row_two (k : IntKind) (w : World) (x y : Nat) (t : TypeId) : Row k (w.alloc (.cells #[.int k (x : Nat), .int k (y : Nat)] t)) (w.heap.size + 1) (some ⟨w.heap.size, 0, none⟩) 2 2 [x, y] :=
  ⟨rfl, Nat.le_refl _, by simp [maxLen], fun _ => ⟨_, 0, rfl, Nat.lt_succ_self _, fun i hi => by
    match i, hi with
    | 0, _ => simp
    | 1, _ => simp⟩⟩

theorem Own.mono {w : World} {B B' : Nat} {v : Value} {l : List Nat} (h : Own w B v l) (hB : B' ≤ B) : Own w B' v l := by
  refine ⟨h.1, ?_⟩
  rcases h.2 with h2 | ⟨g, cap, cur, hv, hb, r⟩
  · exact .inl h2
  · exact .inr ⟨g, cap, cur, hv, by omega, r⟩

/-- One number in a new row. -/
theorem row_one (k : IntKind) (w : World) (x : Nat) (t : TypeId) : Row k (w.alloc (.cells #[.int k (x : Nat)] t)) (w.heap.size + 1) (some ⟨w.heap.size, 0, none⟩) 1 1 [x] :=
  ⟨rfl, Nat.le_refl _, by simp [maxLen], fun _ => ⟨_, 0, rfl, Nat.lt_succ_self _, fun i hi => by
    obtain rfl : i = 0 := by omega
    simp⟩⟩

/-- A byte in a new row is owned. -/
theorem own_new (w : World) (x : Nat) : Own (w.alloc (.cells #[.int .u8 (x : Nat)] 5)) w.heap.size (.slice (some ⟨w.heap.size, 0, none⟩) 1 1) [x] :=
  ⟨rfl, .inr ⟨w.heap.size, 1, _, rfl, Nat.le_refl _, heap_alloc_new w _, Nat.le_refl _, by simp [maxLen], rfl, rfl⟩⟩

theorem own_below {w w' : World} {B B' : Nat} {v : Value} {l : List Nat} (h : Own w B v l) (hb : Below B' w w') (hv : ∀ k, v.ownBlock = some k → k < B') : Own w' B v l := by
  refine ⟨h.1, ?_⟩
  rcases h.2 with h2 | ⟨g, cap, cur, rfl, hg, hh, r⟩
  · exact .inl h2
  · exact .inr ⟨g, cap, cur, rfl, hg, by rw [hb.block g (hv g rfl)]; exact hh, r⟩

theorem u8s_append (a b : List Nat) : u8s (a ++ b) = u8s a ++ u8s b := by simp [u8s]
theorem u8s_len (a : List Nat) : (u8s a).length = a.length := by simp [u8s]

/-- The cells of a row, as the laws on append ask for them. -/
theorem row_cells {w : World} {B b off n c : Nat} {l : List Nat} (h : Row .u8 w B (some ⟨b, off, none⟩) n c l) : ∀ j u, (u8s l)[j]? = some u → w.cell? ((⟨b, off, none⟩ : Addr).add j) = some u := by
  intro j u hu
  have hl := h.1
  have hj : j < l.length := by
    have := (List.getElem?_eq_some_iff.1 hu).1
    simpa [u8s] using this
  obtain ⟨b', off', e1, _, hc⟩ := h.cells (by omega)
  injection e1 with e1
  injection e1 with e1 e2
  subst e1 e2
  rw [Row.add, hc j (by omega)]
  simp [u8s, hj] at hu
  rw [← hu]
  simp [List.getD, hj]

theorem below_drewN {B : Nat} {a w : World} (h : Below B a w) (n : Nat) : Below B a (w.drewN n) := ⟨h.os, h.tape, h.output, h.size, h.block⟩
/-- A contract that leaves bytes in new memory, as its caller reads them. -/
theorem as_row {f : FuncId} {args : Array Value} {w : World} {l : List Nat} (h : Calls Tryd.prog f args w fun e w' => ∃ v, e = .returned v ∧ Own w' w.heap.size v l ∧ Below w.heap.size w w') :
    Calls Tryd.prog f args w fun e w' => ∃ a n c, e = .returned (.slice a n c) ∧ Row .u8 w' w'.heap.size a n c l ∧ Below w.heap.size w w' :=
  h.mono fun e w' ⟨v, he, hown, hbel⟩ => by
    obtain ⟨a, c, rfl⟩ := own_slice hown
    exact ⟨a, _, c, he, Row.of_own (e := 5) hown, hbel⟩
end Go.Proofs.YtplnaaokapilpaaDoor.Vm
