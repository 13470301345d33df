/- Words for memory: a slice value that holds numbers ('Row'), and how that is kept. No program is named here. Words for memory: a slice value that holds integers with signs. No program is named here. What is held while a region draws its order: nothing that lay at its first world has turned. No program is named here. Whether two lists are one. No program is named here. -/
import Derived.WalkKit
import Derived.Deep.Draws
import Derived.ProofKit
import Derived.OpenShut
import Derived.Below
namespace Go.Proofs.YtplnaaokapilpaaDoor.Vm
open Go.RowKit

/-- The slice '.slice a n c' holds the numbers zs of kind k, in a block below B (nil and empty slices hold none). -/
def Row (k : IntKind) (w : World) (B : Nat) (a : Option Addr) (n c : Nat) (zs : List Nat) : Prop :=
  zs.length = n ∧ n ≤ c ∧ c ≤ maxLen ∧
  (0 < n → ∃ b off, a = some ⟨b, off, none⟩ ∧ b < B ∧ ∀ i, i < n → w.cell? ⟨b, off + i, none⟩ = some (.int k (zs.getD i 0 : Nat)))

section
variable {k : IntKind} {w w' : World} {B B' : Nat} {a : Option Addr} {n c : Nat} {zs : List Nat}
theorem Row.nil (w : World) (B : Nat) : Row k w B none 0 0 [] := ⟨rfl, Nat.le_refl _, by simp [maxLen], fun h => absurd h (by omega)⟩
theorem Row.keep (h : Row k w B a n c zs) (hk : ∀ p : Addr, p.block < B → w'.cell? p = w.cell? p) : Row k w' B a n c zs :=
  ⟨h.1, h.2.1, h.2.2.1, fun hn => by
    obtain ⟨b, off, e, hb, hc⟩ := h.2.2.2 hn
    exact ⟨b, off, e, hb, fun i hi => (hk ⟨b, off + i, none⟩ hb).trans (hc i hi)⟩⟩
theorem Row.mono (h : Row k w B a n c zs) (hB : B ≤ B') : Row k w B' a n c zs :=
  ⟨h.1, h.2.1, h.2.2.1, fun hn => by
    obtain ⟨b, off, e, hb, hc⟩ := h.2.2.2 hn
    exact ⟨b, off, e, by omega, hc⟩⟩
theorem Row.below (h : Row k w B a n c zs) (hb : Below B w w') : Row k w' B a n c zs := h.keep fun _ hp => hb.cell hp
theorem Row.alloc (h : Row k w B a n c zs) (hB : B ≤ w.heap.size) (o : Obj) : Row k (w.alloc o) B a n c zs :=
  h.keep fun p hp => World.cell?_alloc_lt w o p (by omega)
/-- The cells of a row that isn't empty. -/
theorem Row.cells (h : Row k w B a n c zs) (hn : 0 < n) : ∃ b off, a = some ⟨b, off, none⟩ ∧ b < B ∧ ∀ i, i < n → w.cell? ⟨b, off + i, none⟩ = some (.int k (zs.getD i 0 : Nat)) := h.2.2.2 hn
theorem Row.add (b off i : Nat) : (⟨b, off, none⟩ : Addr).add i = ⟨b, off + i, none⟩ := by simp [Addr.add_lit]
/-- A part of a row. -/
theorem Row.part (h : Row k w B a n c zs) {lo hi mx : Nat} {a' : Option Addr} (h1 : lo ≤ hi) (h2 : hi ≤ n) (h3 : hi ≤ mx) (h4 : mx ≤ c)
    (ha : ∀ b off, a = some ⟨b, off, none⟩ → lo < hi → a' = some ⟨b, off + lo, none⟩) : Row k w B a' (hi - lo) (mx - lo) ((zs.drop lo).take (hi - lo)) := by
  refine ⟨by have := h.1; simp; omega, by omega, by have := h.2.2.1; omega, fun hn => ?_⟩
  obtain ⟨b, off, rfl, hb, hc⟩ := h.cells (by omega)
  refine ⟨b, off + lo, ha b off rfl (by omega), hb, fun i hi' => ?_⟩
  rw [Nat.add_assoc, hc (lo + i) (by omega)]
  congr 3
  simp [List.getD, hi']
/-- What the call owns is a row. -/
theorem Row.of_own {base : Nat} {e : TypeId} (hw : w.ownsRow base e 1 (.slice a n c) n (zs.map fun z => Value.int k (z : Nat))) : Row k w w.heap.size a n c zs := by
  have hl : zs.length = n := by simpa using hw.1
  rcases hw.2 with ⟨hv, rfl⟩ | ⟨g, cap, cur, hv, hb, hg, hnc, hcm, hcs, htake⟩
  · injection hv with h1 h2 h3; subst h1 h3
    exact ⟨hl, Nat.le_refl _, by simp [maxLen], fun h => absurd h (by omega)⟩
  · injection hv with h1 h2 h3; subst h1 h3
    refine ⟨hl, hnc, hcm, fun hn => ⟨g, 0, rfl, (Array.getElem?_eq_some_iff.1 hg).1, fun i hi => ?_⟩⟩
    have := World.ownsRow.cells hw (g := g) rfl i (.int k (zs.getD i 0 : Nat)) (by simp [List.getD, hl, hi])
    rwa [Row.add] at this
end

/-- A slice of integers that came in: nil; or a row of 'cap' cells, the numbers zs. (As the shells of the laws have it.) -/
def IsRow (k : IntKind) (w : World) (a : Option Addr) (len cap : Nat) (zs : List Int) : Prop :=
  (a = none ∧ len = 0 ∧ cap = 0 ∧ zs = []) ∨
  ∃ x, a = some x ∧ len ≤ cap ∧ cap ≤ maxLen ∧ zs.length = cap ∧ (∀ i, i < zs.length → w.cell? (x.add i) = some (.int k (zs.getD i 0))) ∧ ∀ n ∈ zs, (Lit.int k n).wf = true

theorem IsRow.wf {k : IntKind} {w : World} {a : Option Addr} {len cap : Nat} {zs : List Int} (h : IsRow k w a len cap zs) : ∀ n ∈ zs, (Lit.int k n).wf = true := by
  rcases h with ⟨_, _, _, rfl⟩ | ⟨_, _, _, _, _, _, h⟩
  · simp
  · exact h

theorem Row.of_isRow {k : IntKind} {w : World} {a : Option Addr} {len cap : Nat} {zs : List Int} (h : IsRow k w a len cap zs) (hp : ∀ n ∈ zs, 0 ≤ n) :
    Row k w w.heap.size a len cap ((zs.take len).map Int.toNat) := by
  rcases h with ⟨rfl, rfl, rfl, rfl⟩ | ⟨x, rfl, hl, hm, hz, hc, _⟩
  · exact Row.nil w _
  · refine ⟨by simp; omega, hl, hm, fun hn => ?_⟩
    obtain ⟨b, off, rfl, hc'⟩ := ints_at hc (by omega)
    refine ⟨b, off, rfl, by simpa using World.block_lt_of_cell? w ⟨b, off + 0, none⟩ (hc' 0 (by omega)), fun i hi => ?_⟩
    have h2 := hc' i (by omega)
    have h3 : 0 ≤ zs[i]'(by omega) := hp _ (List.getElem_mem _)
    rw [h2]
    simp [List.getD, show i < zs.length by omega, hi]
    omega

/-- Whatever the call owns is a slice of that length. -/
theorem own_slice {w : World} {base : Nat} {e : TypeId} {v : Value} {n : Nat} {xs : List Value} (hw : w.ownsRow base e 1 v n xs) : ∃ a c, v = .slice a n c := by
  rcases hw.2 with ⟨rfl, rfl⟩ | ⟨g, cap, cur, rfl, _⟩
  · exact ⟨_, _, rfl⟩
  · exact ⟨_, _, rfl⟩
end Go.Proofs.YtplnaaokapilpaaDoor.Vm

namespace Go.Proofs.YtplnaaokapilpaaDoor.Vm
open Go.RowKit

/-- The slice '.slice a n c' holds the integers zs of kind k, in a block below B. -/
def RowZ (k : IntKind) (w : World) (B : Nat) (a : Option Addr) (n c : Nat) (zs : List Int) : Prop :=
  zs.length = n ∧ n ≤ c ∧ c ≤ maxLen ∧
  (0 < n → ∃ b off, a = some ⟨b, off, none⟩ ∧ b < B ∧ ∀ i, i < n → w.cell? ⟨b, off + i, none⟩ = some (.int k (zs.getD i 0)))

section
variable {k : IntKind} {w w' : World} {B B' : Nat} {a : Option Addr} {n c : Nat} {zs : List Int}
theorem RowZ.keep (h : RowZ k w B a n c zs) (hk : ∀ p : Addr, p.block < B → w'.cell? p = w.cell? p) : RowZ k w' B a n c zs :=
  ⟨h.1, h.2.1, h.2.2.1, fun hn => by
    obtain ⟨b, off, e, hb, hc⟩ := h.2.2.2 hn
    exact ⟨b, off, e, hb, fun i hi => (hk ⟨b, off + i, none⟩ hb).trans (hc i hi)⟩⟩
theorem RowZ.mono (h : RowZ k w B a n c zs) (hB : B ≤ B') : RowZ k w B' a n c zs :=
  ⟨h.1, h.2.1, h.2.2.1, fun hn => by
    obtain ⟨b, off, e, hb, hc⟩ := h.2.2.2 hn
    exact ⟨b, off, e, by omega, hc⟩⟩
theorem RowZ.below (h : RowZ k w B a n c zs) (hb : Below B w w') : RowZ k w' B a n c zs := h.keep fun _ hp => hb.cell hp
theorem RowZ.cells (h : RowZ k w B a n c zs) (hn : 0 < n) : ∃ b off, a = some ⟨b, off, none⟩ ∧ b < B ∧ ∀ i, i < n → w.cell? ⟨b, off + i, none⟩ = some (.int k (zs.getD i 0)) := h.2.2.2 hn
theorem RowZ.of_isRow {len cap : Nat} (h : IsRow k w a len cap zs) : RowZ k w w.heap.size a len cap (zs.take len) := by
  rcases h with ⟨rfl, rfl, rfl, rfl⟩ | ⟨x, rfl, hl, hm, hz, hc, _⟩
  · exact ⟨rfl, Nat.le_refl _, by simp [maxLen], fun h => absurd h (by omega)⟩
  · refine ⟨by simp; omega, hl, hm, fun hn => ?_⟩
    obtain ⟨b, off, rfl, hc'⟩ := ints_at hc (by omega)
    refine ⟨b, off, rfl, by simpa using World.block_lt_of_cell? w ⟨b, off + 0, none⟩ (hc' 0 (by omega)), fun i hi => ?_⟩
    rw [hc' i (by omega)]
    simp [List.getD, hi]
end

end Go.Proofs.YtplnaaokapilpaaDoor.Vm

namespace Go.Proofs.YtplnaaokapilpaaDoor.Vm
open Go.RowKit

/-- What lay there lies there. -/
def Kept (a w : World) : Prop := Below a.heap.size a w
theorem Kept.refl (a : World) : Kept a a := Below.refl _ a
theorem Kept.drew {a w : World} (h : Kept a w) : Kept a w.drew := Below.drew h
theorem Kept.alloc {a w : World} (h : Kept a w) (o : Obj) : Kept a (w.alloc o) := Below.alloc h (Below.size h) o
end Go.Proofs.YtplnaaokapilpaaDoor.Vm

namespace Go.Proofs.YtplnaaokapilpaaDoor.Vm

/-- Equal as far as k. -/
theorem take_more {xs ys : List Nat} {k n : Nat} (hx : xs.length = n) (hy : ys.length = n) (hk : k < n) (h : xs.take k = ys.take k) (he : xs.getD k 0 = ys.getD k 0) : xs.take (k + 1) = ys.take (k + 1) := by
  rw [List.take_succ_eq_append_getElem (by omega), List.take_succ_eq_append_getElem (by omega), h]
  simp only [List.getD, List.getElem?_eq_getElem (show k < xs.length by omega), List.getElem?_eq_getElem (show k < ys.length by omega), Option.getD_some] at he
  rw [he]
theorem ne_at {xs ys : List Nat} {k : Nat} (he : xs.getD k 0 ≠ ys.getD k 0) : xs ≠ ys := fun h => he (by rw [h])
def sameB (xs ys : List Nat) : Bool := decide (xs = ys)

theorem ret_bool {a b : Bool} (h : a = b) : Ending.returned (.bool a) = .returned (.bool b) := by rw [h]

end Go.Proofs.YtplnaaokapilpaaDoor.Vm

namespace Go.Proofs.YtplnaaokapilpaaDoor.Vm
open Go Go.RowKit

/-- All but block lb lies as at A. -/
def But (lb : Nat) (A V : World) : Prop := A.grownBy V (some lb)
theorem But.refl (lb : Nat) (A : World) : But lb A A := ⟨rfl, rfl, rfl, Nat.le_refl _, fun _ _ _ => rfl⟩
theorem But.drew {lb : Nat} {A V : World} (h : But lb A V) : But lb A V.drew := ⟨h.os, h.tape, h.output, h.size, h.block⟩
theorem But.set {lb o : Nat} {A V : World} (h : But lb A V) (v : Value) : But lb A (V.setCell ⟨lb, o, none⟩ v) :=
  ⟨h.os, h.tape, h.output, by simpa [World.setCell] using h.size, fun k hk hne => (Below.heap_setCell V _ v k (fun e => hne (by rw [e]))).trans (h.block k hk hne)⟩
theorem But.cell {lb : Nat} {A V : World} (h : But lb A V) {p : Addr} (hp : p.block < A.heap.size) (hne : p.block ≠ lb) : V.cell? p = A.cell? p := World.cell?_of_block (h.block p.block hp (fun e => hne (by injection e)))
theorem But.trans {lb : Nat} {A V V' : World} (h : But lb A V) (h' : But lb V V') : But lb A V' :=
  ⟨h'.os.trans h.os, h'.tape.trans h.tape, h'.output.trans h.output, Nat.le_trans h.size h'.size, fun k hk hne => (h'.block k (Nat.lt_of_lt_of_le hk h.size) hne).trans (h.block k hk hne)⟩
theorem But.calls {lb : Nat} {A V V' : World} (h : But lb A V) (h' : Below A.heap.size V V') : But lb A V' :=
  ⟨h'.os.trans h.os, h'.tape.trans h.tape, h'.output.trans h.output, Nat.le_trans h.size h'.size, fun k hk hne => (h'.block k hk).trans (h.block k hk hne)⟩
theorem But.setNew {lb b i : Nat} {A V : World} (h : But lb A V) (hp : A.heap.size ≤ b) (u : Value) : But lb A (V.setCell ⟨b, i, none⟩ u) :=
  ⟨h.os, h.tape, h.output, by simpa [World.setCell] using h.size, fun k hk hne => (Below.heap_setCell V _ u k (fun e => by have : k = b := e; omega)).trans (h.block k hk hne)⟩
theorem But.below {lb B : Nat} {A V : World} (h : But lb A V) (hB : B ≤ lb) (hA : B ≤ A.heap.size) : Below B A V := ⟨h.os, h.tape, h.output, h.size, fun k hk => h.block k (by omega) (fun e => by injection e; omega)⟩
theorem own_but {A V : World} {lb b0 b1 size size' n n' m c : Nat} {e e' : TypeId} {v : Value} {xs xs' : List Value} (hb : But lb A V) (ho : A.ownsRow b0 e size (.slice (some ⟨lb, 0, none⟩) m c) n xs) (h : A.ownsRow b1 e' size' v n' xs') (hne : e ≠ e') : V.ownsRow b1 e' size' v n' xs' := by
  refine ⟨h.1, ?_⟩
  rcases h.2 with h2 | ⟨g, cap, cur, rfl, hg, hh, r⟩
  · exact .inl h2
  · refine .inr ⟨g, cap, cur, rfl, hg, (hb.block g (Array.getElem?_eq_some_iff.1 hh).1 (fun x => ?_)).trans hh, r⟩
    injection x with x
    subst x
    rcases ho.2 with ⟨h1, _⟩ | ⟨g', cap', cur', hv', _, hh', _⟩
    · injection h1 with h1
      cases h1
    · injection hv' with h1
      injection h1 with h1
      injection h1 with h1
      subst h1
      rw [hh] at hh'
      injection hh' with hh'
      injection hh' with _ hh'
      exact hne hh'.symm
end Go.Proofs.YtplnaaokapilpaaDoor.Vm
