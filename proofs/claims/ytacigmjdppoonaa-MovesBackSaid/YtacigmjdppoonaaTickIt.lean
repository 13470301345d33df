/- The program's ticks: cells, and those behind each list of ways, one behind the other; what the iterator offers. -/
import Derived.Test.YtacigmjdppoonaaIterLaw
import Derived.Test.YtacigmjdppoonaaHopsC
import Derived.Deep.RegionHeld3
namespace Go.Proofs.Ytacigmjdppoonaa.Vm
open Go Go.RowKit
set_option maxRecDepth 100000

/-- What is enumerated, as far as it has gone: cells and the code of the move that led there. -/
inductive Tk (W H : Int) (l : List Nat) : List Int → List (List Int) → List (List Int × Int) → Prop
  | one (c : List Int) (ls : List (List Int)) : Tk W H l c ls [(c, 0)]
  | on {c c' w : List Int} {ws : List (List Int)} {s : List (List Int × Int)} : MoveOut W H l c w c' 0 → Tk W H l c' ws s → Tk W H l c (w :: ws) ((c, 0) :: s)
  | bad {c c' w : List Int} {ws : List (List Int)} {x : Int} : MoveOut W H l c w c' x → x ≠ 0 → Tk W H l c (w :: ws) [(c, 0), (c', x)]
section
variable {W H : Int} {l : List Nat}
theorem MoveOut.go {c w c' : List Int} (h : MoveOut W H l c w c' 0) : GoOut W H l c w c' 0 := by
  rcases h with ⟨h1, h2, h3, _⟩ | ⟨_, h⟩
  · exact .inl ⟨h1, h2, h3, rfl⟩
  · cases h
theorem MoveOut.no {c w c' : List Int} {x : Int} (h : MoveOut W H l c w c' x) (hx : x ≠ 0) : GoOut W H l c w [] x := by
  rcases h with ⟨_, _, _, h⟩ | ⟨h1, h⟩
  · exact absurd h hx
  · exact .inr ⟨h1, rfl, h⟩
theorem Tk.ne {c : List Int} {ls : List (List Int)} {s : List (List Int × Int)} (h : Tk W H l c ls s) : s ≠ [] := by cases h <;> simp
/-- One more. -/
theorem Tk.snoc {c : List Int} {ls : List (List Int)} {s : List (List Int × Int)} (h : Tk W H l c ls s) : ∀ {p : List (List Int × Int)} {cur w c' : List Int} {x : Int}, s = p ++ [(cur, 0)] → ls[p.length]? = some w → MoveOut W H l cur w c' x → Tk W H l c ls (s ++ [(c', x)]) := by
  induction h with
  | one c ls =>
    intro p cur w c' x hs hw hm
    cases p with
    | nil =>
      simp only [List.nil_append, List.cons.injEq, Prod.mk.injEq, and_true] at hs
      subst hs
      cases ls with
      | nil => simp at hw
      | cons w0 ws =>
        simp only [List.length_nil, List.getElem?_cons_zero, Option.some.injEq] at hw
        subst hw
        by_cases h0 : x = 0
        · subst h0; exact .on hm (.one _ _)
        · exact .bad hm h0
    | cons y p => simp at hs
  | on hm0 h ih =>
    intro p cur w c' x hs hw hm
    cases p with
    | nil =>
      simp only [List.nil_append, List.cons.injEq] at hs
      exact absurd hs.2 h.ne
    | cons y p =>
      simp only [List.cons_append, List.cons.injEq] at hs
      refine .on hm0 (ih hs.2 ?_ hm)
      simpa using hw
  | bad hm0 hx =>
    intro p cur w c' x' hs hw hm
    cases p with
    | nil => simp at hs
    | cons y p =>
      cases p with
      | nil =>
        simp only [List.cons_append, List.nil_append, List.cons.injEq, Prod.mk.injEq, and_true] at hs
        exact absurd hs.2.2 hx
      | cons y2 p => simp at hs
theorem Tk.whole {c : List Int} {ls : List (List Int)} {s : List (List Int × Int)} (h : Tk W H l c ls s) : s.length = ls.length + 1 → (∀ y ∈ s, y.2 = 0) → WalkOut W H l c ls (s.map Prod.fst) 0 := by
  induction h with
  | one c ls =>
    intro hl _
    obtain rfl : ls = [] := List.eq_nil_of_length_eq_zero (by simpa using hl)
    exact .done c
  | on hm h ih => exact fun hl hz => .on hm.go (ih (by simpa using hl) fun y hy => hz y (List.mem_cons_of_mem _ hy))
  | bad hm hx => exact fun _ hz => absurd (hz _ (List.mem_cons_of_mem _ (List.mem_cons_self ..))) hx
theorem Tk.broken {c : List Int} {ls : List (List Int)} {s : List (List Int × Int)} (h : Tk W H l c ls s) : ∀ {p : List (List Int × Int)} {cur : List Int} {x : Int}, s = p ++ [(cur, x)] → x ≠ 0 → WalkOut W H l c ls [] x := by
  induction h with
  | one c ls =>
    intro p cur x hs hx
    cases p with
    | nil =>
      simp only [List.nil_append, List.cons.injEq, Prod.mk.injEq, and_true] at hs
      exact absurd hs.2.symm hx
    | cons y p => simp at hs
  | on hm h ih =>
    intro p cur x hs hx
    cases p with
    | nil =>
      simp only [List.nil_append, List.cons.injEq] at hs
      exact absurd hs.2 h.ne
    | cons y p =>
      simp only [List.cons_append, List.cons.injEq] at hs
      exact .later hm.go (ih hs.2 hx) hx
  | bad hm hx0 =>
    intro p cur x hs hx
    cases p with
    | nil => simp at hs
    | cons y p =>
      cases p with
      | nil =>
        simp only [List.cons_append, List.nil_append, List.cons.injEq, Prod.mk.injEq, and_true] at hs
        obtain ⟨_, _, rfl⟩ := hs
        exact .bad (hm.no hx) hx
      | cons y2 p => simp at hs
end

/-- What is handed over: a slice, its cells, the code. -/
structure El where
  a : Option Addr
  n : Nat
  c : Nat
  e : Int
  l : List Int
abbrev El.v (x : El) : Value := .slice x.a x.n x.c
def El.ct (x : El) : List Int × Int := (x.l, x.e)
abbrev elV (x : El) : Array Value := #[x.v, .int .i64 x.e]
/-- Where an element is handed over: it is the next one, in new memory, apart from the iterator's own. -/
def OkT (W H : Int) (l : List Nat) (B0 : Nat) (cs : List Int) (ls : List (List Int)) (r : Option Nat) (s : List El) (A : World) : Prop :=
  Tk W H l cs ls (s.map El.ct) ∧ ∀ pre x, s = pre ++ [x] → OwnZ A B0 x.v x.l ∧ x.l.length = x.n ∧ (x.v.ownBlock = none ∨ x.v.ownBlock ≠ r)
def AllT (W H : Int) (l : List Nat) (cs : List Int) (ls : List (List Int)) (s : List El) : Prop := Tk W H l cs ls (s.map El.ct) ∧ s.length = ls.length + 1 ∧ ∀ y ∈ s, y.e = 0
def SomeT (W H : Int) (l : List Nat) (cs : List Int) (ls : List (List Int)) (s : List El) : Prop := Tk W H l cs ls (s.map El.ct)
def BadT (x : El) : Prop := x.e ≠ 0

section
variable {lo b B k : Nat} {u v w w' : World} {o : Obj}
theorem SparesL.refl (lo b B : Nat) (w : World) : SparesL lo b B w w := ⟨Nat.le_refl _, fun _ _ _ h _ => h⟩
theorem SparesL.grown (h : SparesL lo b B u v) {r : Option Nat} (hg : v.grownBy w r) (hr : ∀ q, r = some q → u.heap.size ≤ q) : SparesL lo b B u w :=
  ⟨Nat.le_trans h.size hg.size, fun k o hb hk ho => by
    have h1 := h.same k o hb hk ho
    exact (hg.block k (heap_lt h1) (fun e => by have := hr k e.symm; have := heap_lt hk; omega)).trans h1⟩
theorem cell_isCells {p : Addr} {x : Value} (h : w.cell? p = some x) : ∃ o, w.heap[p.block]? = some o ∧ o.isCells = true := by
  unfold World.cell? at h
  split at h
  · rename_i cs t fr e; exact ⟨_, e, rfl⟩
  · cases h
theorem SparesL.cell (h : SparesL lo b B w w') {p : Addr} {x : Value} (hp : p.block < lo ∨ b ≤ p.block) (hc : w.cell? p = some x) : w'.cell? p = some x := by
  obtain ⟨o, h1, h2⟩ := cell_isCells hc
  exact (World.cell?_of_block ((h.same p.block o hp h1 (.inr h2)).trans h1.symm)).trans hc
theorem SparesL.rowZ {a : Option Addr} {n c : Nat} {l : List Int} (h : SparesL lo b B w w') (hr : RowZ .i64 w lo a n c l) : RowZ .i64 w' lo a n c l :=
  ⟨hr.1, hr.2.1, hr.2.2.1, fun hn => by
    obtain ⟨q, off, e, hq, hc⟩ := hr.2.2.2 hn
    exact ⟨q, off, e, hq, fun i hi => h.cell (p := ⟨q, off + i, none⟩) (.inl hq) (hc i hi)⟩⟩
theorem SparesL.rowL {a : Option Addr} {n c : Nat} {ls : List (List Int)} (h : SparesL lo b B w w') (hr : RowL w lo a n c ls) : RowL w' lo a n c ls := by
  obtain ⟨h1, h2, h3, h4⟩ := hr
  refine ⟨h1, h2, h3, fun hn => ?_⟩
  obtain ⟨q, off, e, hq, hc⟩ := h4 hn
  refine ⟨q, off, e, hq, fun i hi => ?_⟩
  obtain ⟨ai, ni, ci, h5, h6⟩ := hc i hi
  exact ⟨ai, ni, ci, h.cell (p := ⟨q, off + i, none⟩) (.inl hq) h5, h.rowZ h6⟩
theorem SparesL.ownZ {B0 : Nat} {x : Value} {l : List Int} (h : SparesL lo b B w w') (hr : OwnZ w B0 x l) (hb : b ≤ B0) : OwnZ w' B0 x l := by
  refine ⟨hr.1, ?_⟩
  rcases hr.2 with h1 | ⟨g, cap, cur, hv, hg, hh, r⟩
  · exact .inl h1
  · exact .inr ⟨g, cap, cur, hv, hg, h.same g _ (.inr (by omega)) hh (.inr rfl), r⟩
end

set_option maxHeartbeats 1000000 in
/-- ticks hands back a function over its arguments, in boxes. -/
theorem ticks_any (W H : Int) (g : ByteArray) (a al : Option Addr) (n c nl cl : Nat) (w : World) :
    Calls Try.prog 25 #[gridV W H g, .slice a n c, .slice al nl cl] w fun e w' =>
      e = .returned (.func (.func 36) #[] #[.pointer (some ⟨w.heap.size + 1, 0, none⟩), .pointer (some ⟨w.heap.size + 2, 0, none⟩), .pointer (some ⟨w.heap.size, 0, none⟩)]) ∧
      GridAt w' w.heap.size W H g ∧ w'.cell? ⟨w.heap.size + 1, 0, none⟩ = some (.slice a n c) ∧ w'.cell? ⟨w.heap.size + 2, 0, none⟩ = some (.slice al nl cl) ∧ w'.heap.size = w.heap.size + 3 ∧ Below w.heap.size w w' := by
  have HF : Hid (∀ t1 t2 : TypeId, GridAt (((w.alloc (gridO W H g)).alloc (.cells #[.slice a n c] t1)).alloc (.cells #[.slice al nl cl] t2)) w.heap.size W H g ∧ (((w.alloc (gridO W H g)).alloc (.cells #[.slice a n c] t1)).alloc (.cells #[.slice al nl cl] t2)).cell? ⟨w.heap.size + 1, 0, none⟩ = some (.slice a n c) ∧ (((w.alloc (gridO W H g)).alloc (.cells #[.slice a n c] t1)).alloc (.cells #[.slice al nl cl] t2)).cell? ⟨w.heap.size + 2, 0, none⟩ = some (.slice al nl cl) ∧ (((w.alloc (gridO W H g)).alloc (.cells #[.slice a n c] t1)).alloc (.cells #[.slice al nl cl] t2)).heap.size = w.heap.size + 3 ∧ Below w.heap.size w (((w.alloc (gridO W H g)).alloc (.cells #[.slice a n c] t1)).alloc (.cells #[.slice al nl cl] t2))) := fun t1 t2 => by
    refine ⟨?_, ?_, ?_, by simp, (((Below.refl _ _).alloc (Nat.le_refl _) _).alloc (by simp) _).alloc (by simp; omega) _⟩
    · exact (gridAt_new w W H g).below (B := w.heap.size + 1) (((Below.refl _ _).alloc (by simp) _).alloc (by simp) _) (by simp)
    · have h1 := cell_new (w.alloc (gridO W H g)) #[.slice a n c] t1 (k := w.heap.size + 1) (i := 0) (by simp) (v := .slice a n c) rfl
      rw [(((Below.refl (w.heap.size + 2) ((w.alloc (gridO W H g)).alloc (.cells #[.slice a n c] t1))).alloc (by simp) (.cells #[.slice al nl cl] t2)).cell (p := ⟨w.heap.size + 1, 0, none⟩) (by simp))]
      exact h1
    · exact cell_new ((w.alloc (gridO W H g)).alloc (.cells #[.slice a n c] t1)) #[.slice al nl cl] t2 (k := w.heap.size + 2) (i := 0) (by simp) (v := .slice al nl cl) rfl
  go_enter Try.func25, Try.ntmps25
  go_wp2_with fail
  go_ret
  exact ⟨rfl, HF.out _ _⟩
end Go.Proofs.Ytacigmjdppoonaa.Vm
