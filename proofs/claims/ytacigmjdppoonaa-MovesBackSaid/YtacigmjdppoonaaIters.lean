/- A range over an iterator that keeps a state of its own in memory: what each side promises the other, and the law of the statement. No program is named here. Words for what the iterator of package dist holds in memory: the marks of what has been seen, the edge, the next edge. The contract of the iterator of package dist: nearest first. -/
import Derived.Test.YtacigmjdppoonaaWords
import Derived.Test.YtacigmjdppoonaaOwnIs
import Derived.Test.YtacigmjdppoonaaGridMath
import Derived.RangeFuncCalls
import Derived.RangeFuncBound
import Derived.OneCell
import Derived.Laws.OwnMore
import Derived.Maps.OwnIn
import Derived.Shelf.Abstract
import Derived.Shelf.RegionOpen
import Derived.WalkKit
import Derived.OwnWalkIn
import Derived.TacticsInMore
import Derived.LoopNIn
import Derived.LoopIn
import Derived.Sort.LoopGhostIn
namespace Go.Proofs.Ytacigmjdppoonaa.Vm
open Go Go.RowKit

/-- What a loop's round pays: whatever lies at or beyond b lies as it lay. -/
structure Tame (b : Nat) (w w' : World) : Prop where
  size : w.heap.size ≤ w'.heap.size
  same : ∀ k, b ≤ k → k < w.heap.size → w'.heap[k]? = w.heap[k]?
/-- What the iterator is promised across a round: cells at or beyond b, and whatever lies between b and B, lie as they lay. -/
structure Spares (b B : Nat) (w w' : World) : Prop where
  size : w.heap.size ≤ w'.heap.size
  same : ∀ (k : Nat) (o : Obj), b ≤ k → w.heap[k]? = some o → (k < B ∨ o.isCells = true) → w'.heap[k]? = some o

section
variable {b B k : Nat} {u v w w' : World} {o : Obj}
theorem heap_lt (h : w.heap[k]? = some o) : k < w.heap.size := (Array.getElem?_eq_some_iff.1 h).1
theorem Tame.refl (b : Nat) (w : World) : Tame b w w := ⟨Nat.le_refl _, fun _ _ _ => rfl⟩
theorem Tame.trans (h : Tame b u v) (h' : Tame b v w) : Tame b u w :=
  ⟨Nat.le_trans h.size h'.size, fun k hb hk => (h'.same k hb (Nat.lt_of_lt_of_le hk h.size)).trans (h.same k hb hk)⟩
theorem Tame.alloc (h : Tame b u w) (o : Obj) : Tame b u (w.alloc o) :=
  h.trans ⟨by simp, fun k _ hk => Below.heap_alloc w o k hk⟩
theorem Tame.setCell (h : Tame b u w) {p : Addr} (hp : p.block < b) (x : Value) : Tame b u (w.setCell p x) :=
  h.trans ⟨by simp [World.setCell], fun k hb _ => Below.heap_setCell w p x k (by omega)⟩
theorem Tame.drew (h : Tame b u w) : Tame b u w.drew := ⟨h.size, h.same⟩
theorem Tame.drewN (h : Tame b u w) (m : Nat) : Tame b u (w.drewN m) := ⟨h.size, h.same⟩
/-- What lies below the heap's size is kept by a call: so all of it is. -/
theorem Tame.of_below (h : Below w.heap.size w w') : Tame b w w' := ⟨h.size, fun k _ hk => h.block k hk⟩
theorem Tame.spares (h : Tame b w w') : Spares b B w w' := ⟨h.size, fun k o hb hk _ => (h.same k hb (heap_lt hk)).trans hk⟩
theorem Spares.trans (h : Spares b B u v) (h' : Spares b B v w) : Spares b B u w :=
  ⟨Nat.le_trans h.size h'.size, fun k o hb hk ho => h'.same k o hb (h.same k o hb hk ho) ho⟩
theorem Spares.put {l : Nat} {o' : Obj} (hl : w.heap[l]? = some o) (hB : B ≤ l) (ho : o.isCells = false) : Spares b B w (w.putObj l o') :=
  ⟨by simp, fun k x _ hk hx => (World.putObj_heap_other (fun e => by subst e; rw [hl] at hk; cases hk; rcases hx with h | h; omega; rw [ho] at h; cases h)).trans hk⟩
theorem below_put {n l : Nat} {o' : Obj} (hn : n ≤ l) (w : World) : Below n w (w.putObj l o') :=
  ⟨rfl, rfl, rfl, by simp, fun k hk => World.putObj_heap_other (by omega)⟩
end

/-- What an iterator promises, whatever its caller says of the memory that was there (J; Jx where a round has left): it hands over one element behind the other; each beginning is Ok; where it ends by itself, all have come (S); where a round has left, a beginning (Sp). -/
def Offers {α : Type} (F : Fence) (n : Nat) (P : Program) (g : Nat) (lb : Array Value) (encs : α → Array Value) (b : Nat) (Ok S Sp : List α → Prop) (w : World) : Prop :=
  ∀ (l : Nat) (J Jx : List α → World → Prop) (W : World), Below w.heap.size w W →
    (∀ s A A', J s A → Below W.heap.size A A' → J s A') → (∀ s A A', Jx s A → Below W.heap.size A A' → Jx s A') →
    (∀ pre x A, J pre A → Ok (pre ++ [x]) → YieldAt F (n - 1) P l (encs x) A fun e A' =>
      (e = .returned (.bool true) ∧ J (pre ++ [x]) A' ∧ Spares b w.heap.size A A') ∨ (e = .returned (.bool false) ∧ Jx (pre ++ [x]) A')) →
    J [] W →
    CallsIn F n P g (#[.func (.yield l) #[] #[]] ++ lb) W fun e A => (∃ v, e = .returned v) ∧ ((∃ xs, S xs ∧ J xs A) ∨ (∃ pre, Sp pre ∧ Jx pre A))

/-- How a round's body may be left. -/
def Leaves {α : Type} (b : Nat) (I : List α → World → Prop) (Ix : Code → List α → World → Prop) (xs : List α) (W : World) : Exit → Act → World → Prop
  | .normal, _, W' => Tame b W W' ∧ I xs W'
  | .ret, _, W' => Tame b W W' ∧ Ix .ret xs W'
  | .exit id, _, W' => Tame b W W' ∧ Ix (.exit id) xs W'
  | .goto t, _, W' => Tame b W W' ∧ Ix (.goto t) xs W'
  | .panic _, _, _ => False
  | .outgrown, _, _ => False

/-- The record of a loop. -/
abbrev recOf (fn : FuncId) (tmps : Array Value) (ps : Array Tmp) (assign body : Code) (D : Nat) (st : LoopState) (pe : Option Code) : Loop :=
  { state := st, pending := pe, fn, tmps, params := ps, assign, body, defers := D }
/-- The record at l, and the block for the rounds' deferred calls at D. -/
def Led (D l : Nat) (r : Loop) (W : World) : Prop := W.heap[l]? = some (.loop r) ∧ W.heap[D]? = some (.deferred (some []))
section
variable {D l B : Nat} {r r' : Loop} {W W' : World}
theorem Led.below (h : Led D l r W) (hb : Below B W W') (h1 : D < B) (h2 : l < B) : Led D l r W' := ⟨(hb.block l h2).trans h.1, (hb.block D h1).trans h.2⟩
theorem Led.put (h : Led D l r W) (hne : D ≠ l) (r' : Loop) : Led D l r' (W.putObj l (.loop r')) :=
  ⟨World.putObj_heap_same (heap_lt h.1), (World.putObj_heap_other hne).trans h.2⟩
theorem Led.tame {b : Nat} (h : Led D l r W) (ht : Tame b W W') (h1 : b ≤ D) (h2 : b ≤ l) : Led D l r W' :=
  ⟨(ht.same l h2 (heap_lt h.1)).trans h.1, (ht.same D h1 (heap_lt h.2)).trans h.2⟩
end

variable {F : Fence} {n : Nat} {P : Program}

/-- The statement 'for .. := range g { .. }' over an iterator that keeps a state of its own. -/
theorem rounds {α : Type} {g : Operand} {ps : Array Tmp} {assign body : Code} {Q : Exit → Act → World → Prop} {a : Act} {w : World}
    (hro : F.round = none) (h1 : 1 ≤ n) {gf : Nat} {lb : Array Value} (hg : a.eval g = .func (.func gf) #[] lb) (hFg : F.fn gf) (eg : ∀ args w, (callFunc gf args).run P w = .ok (.enter gf args) w)
    {encs : α → Array Value} {b : Nat} {Ok S Sp : List α → Prop} (hseq : Offers F (n - 1) P gf lb encs b Ok S Sp w) (hbw : b ≤ w.heap.size) (hps : ∀ x, (encs x).size = ps.size)
    (I : List α → World → Prop) (Ix : Code → List α → World → Prop) (hI : ∀ s A A', I s A → Below w.heap.size A A' → I s A') (hIx : ∀ c s A A', Ix c s A → Below w.heap.size A A' → Ix c s A')
    (h0 : I [] w) (a₁ : α → Act)
    (hassign : ∀ (l : Nat) (x : α) (W : World) (K : Act → World → Prop), K (a₁ x) W →
      assign.wpIn (F.inRound l) (n - 1 - 1) P (Exit.then K (fun _ _ _ => False)) { tmps := (ps.zip (encs x)).foldl (fun t (p, v) => t.setIfInBounds p v) a.tmps, defers := [] } W)
    (hbody : ∀ (l : Nat) (pre : List α) (x : α) (W : World), I pre W → Ok (pre ++ [x]) → body.wpIn (F.inRound l) (n - 1 - 1) P (Leaves b I Ix (pre ++ [x]) W) (a₁ x) W)
    (hdone : ∀ (D : Nat) (xs : List α) (W : World), w.heap.size ≤ D → S xs → I xs W → W.heap[D]? = some (.deferred (some [])) → Q .normal { a with defers := { target := .collected D, args := #[] } :: a.defers } W)
    (hstop : ∀ (D : Nat) (c : Code) (pre : List α) (W : World), w.heap.size ≤ D → Sp pre → Ix c pre W → W.heap[D]? = some (.deferred (some [])) → c.wpIn F n P Q { a with defers := { target := .collected D, args := #[] } :: a.defers } W) :
    (Code.rangeFunc g ps assign body).wpIn F n P Q a w := by
  refine wpIn_rangeFunc fun fn hfn => ?_
  rw [hro]
  have hlen : (w.alloc (.deferred (some []))).heap.size = w.heap.size + 1 := by simp
  obtain ⟨W1, hW1⟩ : ∃ W1, (w.alloc (.deferred (some []))).alloc (.loop (recOf fn a.tmps ps assign body w.heap.size .ready none)) = W1 := ⟨_, rfl⟩
  have hs1 : W1.heap.size = w.heap.size + 2 := by rw [← hW1]; simp
  have hB1 : Below w.heap.size w W1 := by rw [← hW1]; exact ((Below.refl _ w).alloc (Nat.le_refl _) _).alloc (by simp) _
  have hled : Led w.heap.size (w.heap.size + 1) (recOf fn a.tmps ps assign body w.heap.size .ready none) W1 := by
    rw [← hW1]
    refine ⟨?_, (Below.heap_alloc _ _ _ (by simp)).trans (World.alloc_heap_new w _)⟩
    have := World.alloc_heap_new (w.alloc (.deferred (some []))) (.loop (recOf fn a.tmps ps assign body w.heap.size .ready none))
    rwa [hlen] at this
  refine ⟨w.heap.size + 1, [{ target := .collected w.heap.size, args := #[] }], W1, { target := .fn (.func gf) lb, args := #[.func (.yield (w.heap.size + 1)) #[] #[]] }, W1, gf,
    #[.func (.yield (w.heap.size + 1)) #[] #[]] ++ lb, W1, ?_, ?_, ?_, ?_, fun _ => h1, ?_⟩
  · rw [← hW1]; exact run_enterLoop_outer _ _ _ _ _
  · simp only [resolve, hg]
    simp [go_sem]
  · intro f' hf'
    simp [Target.leads] at hf'
    subst hf'
    exact hFg
  · simp [invoke, go_sem, eg]
  have hput : ∀ {s : List α} {A : World} (o : Obj), I s A → I s (A.putObj (w.heap.size + 1) o) := fun o h => hI _ _ _ h (below_put (by omega) _)
  have hputx : ∀ {c : Code} {s : List α} {A : World} (o : Obj), Ix c s A → Ix c s (A.putObj (w.heap.size + 1) o) := fun o h => hIx _ _ _ _ h (below_put (by omega) _)
  refine (hseq (w.heap.size + 1)
    (fun pre A => I pre A ∧ Led w.heap.size (w.heap.size + 1) (recOf fn a.tmps ps assign body w.heap.size .ready none) A)
    (fun pre A => ∃ c, Ix c pre A ∧ Led w.heap.size (w.heap.size + 1) (recOf fn a.tmps ps assign body w.heap.size .done (some c)) A)
    W1 hB1
    (fun s A A' h hb => ⟨hI _ _ _ h.1 (hb.mono (by omega)), h.2.below hb (by omega) (by omega)⟩)
    (fun s A A' ⟨c, h, hl⟩ hb => ⟨c, hIx _ _ _ _ h (hb.mono (by omega)), hl.below hb (by omega) (by omega)⟩)
    ?_ ⟨hI _ _ _ h0 hB1, hled⟩).mono ?_
  · rintro pre x A ⟨hi, hl⟩ hok
    refine ⟨fn, _, assign, body, run_yield (P := P) (args := encs x) hl.1 (hps x), roundIn_of_wpIn hfn (hassign _ x A _ ⟨_, run_beginRound hl.1 rfl, ?_⟩)⟩
    have hl2 := hl.put (by omega) (recOf fn a.tmps ps assign body w.heap.size .busy none)
    have hsp : Spares b w.heap.size A (A.putObj (w.heap.size + 1) (.loop (recOf fn a.tmps ps assign body w.heap.size .busy none))) := Spares.put hl.1 (by omega) rfl
    refine wpIn_mono (hbody _ pre x _ (hput _ hi) hok) ?_
    rintro e a3 A3 hp
    cases e with
    | normal =>
      obtain ⟨ht, hi3⟩ := hp
      have hl3 := hl2.tame ht hbw (by omega)
      exact ⟨_, _, run_endRound (P := P) none hl3.1, .inl ⟨rfl, ⟨hput _ hi3, hl3.put (by omega) _⟩, (hsp.trans ht.spares).trans (Spares.put hl3.1 (by omega) rfl)⟩⟩
    | ret =>
      obtain ⟨ht, hi3⟩ := hp
      have hl3 := hl2.tame ht hbw (by omega)
      exact ⟨_, _, run_endRound (P := P) (some .ret) hl3.1, .inr ⟨rfl, .ret, hputx _ hi3, hl3.put (by omega) _⟩⟩
    | exit id =>
      obtain ⟨ht, hi3⟩ := hp
      have hl3 := hl2.tame ht hbw (by omega)
      exact ⟨_, _, run_endRound (P := P) (some (.exit id)) hl3.1, .inr ⟨rfl, .exit id, hputx _ hi3, hl3.put (by omega) _⟩⟩
    | goto t =>
      obtain ⟨ht, hi3⟩ := hp
      have hl3 := hl2.tame ht hbw (by omega)
      exact ⟨_, _, run_endRound (P := P) (some (.goto t)) hl3.1, .inr ⟨rfl, .goto t, hputx _ hi3, hl3.put (by omega) _⟩⟩
    | panic ch => exact hp.elim
    | outgrown => exact hp.elim
  · rintro e A ⟨⟨v, rfl⟩, (⟨xs, hS, hi, hl⟩ | ⟨pre, hSp, c, hi, hl⟩)⟩
    · exact ⟨none, _, run_endLoop (P := P) hl.1 (by simp), hdone _ xs _ (Nat.le_refl _) hS (hput _ hi) ((World.putObj_heap_other (by omega)).trans hl.2)⟩
    · exact ⟨some c, _, run_endLoop (P := P) hl.1 (by simp), hstop _ c pre _ (Nat.le_refl _) hSp (hputx _ hi) ((World.putObj_heap_other (by omega)).trans hl.2)⟩

/-- A frame's temporaries, some of them set. -/
def setAll (t : Array Value) : List (Nat × Value) → Array Value
  | [] => t
  | (i, v) :: r => setAll (t.setIfInBounds i v) r

/-- The same, the frame behind the assignments told by what they set. -/
theorem rounds_set {α : Type} {g : Operand} {ps : Array Tmp} {assign body : Code} {Q : Exit → Act → World → Prop} {a : Act} {w : World}
    (hro : F.round = none) (h1 : 1 ≤ n) {gf : Nat} {lb : Array Value} (hg : a.eval g = .func (.func gf) #[] lb) (hFg : F.fn gf) (eg : ∀ args w, (callFunc gf args).run P w = .ok (.enter gf args) w)
    {encs : α → Array Value} {b : Nat} {Ok S Sp : List α → Prop} (hseq : Offers F (n - 1) P gf lb encs b Ok S Sp w) (hbw : b ≤ w.heap.size) (hps : ∀ x, (encs x).size = ps.size)
    (I : List α → World → Prop) (Ix : Code → List α → World → Prop) (hI : ∀ s A A', I s A → Below w.heap.size A A' → I s A') (hIx : ∀ c s A A', Ix c s A → Below w.heap.size A A' → Ix c s A')
    (h0 : I [] w) (sets : α → List (Nat × Value))
    (hassign : ∀ (l : Nat) (x : α) (W : World) (K : Act → World → Prop), K { tmps := setAll a.tmps (sets x), defers := [] } W →
      assign.wpIn (F.inRound l) (n - 1 - 1) P (Exit.then K (fun _ _ _ => False)) { tmps := (ps.zip (encs x)).foldl (fun t (p, v) => t.setIfInBounds p v) a.tmps, defers := [] } W)
    (hbody : ∀ (l : Nat) (pre : List α) (x : α) (W : World), I pre W → Ok (pre ++ [x]) → body.wpIn (F.inRound l) (n - 1 - 1) P (Leaves b I Ix (pre ++ [x]) W) { tmps := setAll a.tmps (sets x), defers := [] } W)
    (hdone : ∀ (D : Nat) (xs : List α) (W : World), w.heap.size ≤ D → S xs → I xs W → W.heap[D]? = some (.deferred (some [])) → Q .normal { a with defers := { target := .collected D, args := #[] } :: a.defers } W)
    (hstop : ∀ (D : Nat) (c : Code) (pre : List α) (W : World), w.heap.size ≤ D → Sp pre → Ix c pre W → W.heap[D]? = some (.deferred (some [])) → c.wpIn F n P Q { a with defers := { target := .collected D, args := #[] } :: a.defers } W) :
    (Code.rangeFunc g ps assign body).wpIn F n P Q a w :=
  rounds hro h1 hg hFg eg hseq hbw hps I Ix hI hIx h0 _ hassign hbody hdone hstop
end Go.Proofs.Ytacigmjdppoonaa.Vm

namespace Go.Proofs.Ytacigmjdppoonaa.Vm
open Go Go.RowKit

theorem info_bool : (Try.prog.info? 4).map (fun i => (i.zero, i.size, i.bytes)) = some (some (.bool false), 1, 1) := by kernel_rfl

/-- Marks as cells. -/
def bools (l : List Bool) : List Value := l.map .bool
theorem bools_len (l : List Bool) : (bools l).length = l.length := by simp [bools]
theorem bools_at {l : List Bool} {i : Nat} (h : i < l.length) : (bools l)[i]? = some (.bool (l.getD i false)) := by simp [bools, List.getD, h]
theorem bools_set (l : List Bool) (i : Nat) : (bools l).set i (.bool true) = bools (l.set i true) := by simp [bools, List.map_set]

/-- Some marks, in a block. -/
def Marks (w : World) (B sb : Nat) (l : List Bool) : Prop := w.ownsRow B 4 1 (.slice (some ⟨sb, 0, none⟩) l.length l.length) l.length (bools l)

section
variable {w w' : World} {B sb i : Nat} {l : List Bool}
theorem Marks.cell (h : Marks w B sb l) (hi : i < l.length) : w.cell? ⟨sb, i, none⟩ = some (.bool (l.getD i false)) := (World.ownsRow.cellAt h i (by omega)).trans (bools_at hi)
theorem Marks.frozen (h : Marks w B sb l) (i : Nat) : w.frozen? ⟨sb, i, none⟩ = false := World.ownsRow.frozenAt h i
theorem Marks.base (h : Marks w B sb l) : B ≤ sb ∧ sb < w.heap.size := World.ownsRow.lt h sb rfl
theorem Marks.set (h : Marks w B sb l) (i : Nat) : Marks (w.setCell ⟨sb, i, none⟩ (.bool true)) B sb (l.set i true) := by
  have := (World.ownsRow.stored h i (.bool true)).1
  unfold Marks
  rw [List.length_set, ← bools_set]
  exact this
/-- Marks and ints don't share a block. -/
theorem Marks.other {v : Value} {B' : Nat} {xs : List Nat} (h : Marks w B sb l) (hv : OwnI w B' v xs) : v.ownBlock ≠ some sb := by
  rcases h.2 with ⟨h1, _⟩ | ⟨g, cap, cur, h1, _, hg, _⟩
  · cases h1
  · rcases hv.2 with ⟨rfl, _⟩ | ⟨g', cap', cur', rfl, _, hg', _⟩
    · simp [Value.ownBlock]
    · intro e
      have e1 : g' = sb := by simpa [Value.ownBlock] using e
      have e2 : sb = g := by simpa using congrArg (fun v => match v with | Value.slice (some a) _ _ => a.block | _ => 0) h1
      subst e1 e2
      rw [hg] at hg'
      injection hg' with h3
      injection h3 with h4 h5
      exact absurd h5 (by decide)
end

/-- What the call owns outlasts whatever spares cells at or beyond b. -/
theorem own_spares {w w' : World} {b B base size n : Nat} {e : TypeId} {v : Value} {xs : List Value} (h : w.ownsRow base e size v n xs) (hs : Spares b B w w') (hb : b ≤ base) : w'.ownsRow base e size v n xs := by
  refine ⟨h.1, ?_⟩
  rcases h.2 with h2 | ⟨g, cap, cur, rfl, hg, hh, r⟩
  · exact .inl h2
  · exact .inr ⟨g, cap, cur, rfl, hg, hs.same g _ (by omega) hh (.inr rfl), r⟩
theorem own_calls {w w' : World} {base size n : Nat} {e : TypeId} {v : Value} {xs : List Value} (h : w.ownsRow base e size v n xs) (hb : Below w.heap.size w w') : w'.ownsRow base e size v n xs := by
  refine ⟨h.1, ?_⟩
  rcases h.2 with h2 | ⟨g, cap, cur, rfl, hg, hh, r⟩
  · exact .inl h2
  · exact .inr ⟨g, cap, cur, rfl, hg, (hb.block g (heap_lt hh)).trans hh, r⟩

theorem ownI_cons {w : World} {B : Nat} {v : Value} {c : Nat} {l : List Nat} (h : OwnI w B v (c :: l)) : ∃ g cap, v = .slice (some ⟨g, 0, none⟩) (l.length + 1) cap := by
  rcases h.2 with ⟨_, h0⟩ | ⟨g, cap, _, rfl, _⟩
  · simp at h0
  · exact ⟨g, cap, rfl⟩
theorem ownI_cell {w : World} {B g n cap i : Nat} {l : List Nat} (h : OwnI w B (.slice (some ⟨g, 0, none⟩) n cap) l) (hi : i < l.length) : w.cell? ⟨g, i, none⟩ = some (.int .i64 (l.getD i 0 : Nat)) := by
  have := World.ownsRow.cells h (g := g) rfl i (.int .i64 (l.getD i 0 : Nat)) (by simp [i64s, List.getD, hi])
  rw [Row.add] at this
  simpa using this

/-- What the iterator holds: whatever lay between b and B lies as it lay in W; its own are the marks, the edge, the next edge, each in a block of its own. -/
structure It (b B : Nat) (W : World) (sb : Nat) (seen : List Bool) (ve : Value) (edge : List Nat) (vn : Value) (next : List Nat) (A : World) : Prop where
  held : ∀ k, b ≤ k → k < B → A.heap[k]? = W.heap[k]?
  size : W.heap.size ≤ A.heap.size
  marks : Marks A W.heap.size sb seen
  edg : OwnI A W.heap.size ve edge
  nxt : OwnI A W.heap.size vn next
  apart : ∀ k, ve.ownBlock = some k → vn.ownBlock ≠ some k

section
variable {b B sb o : Nat} {W A A' : World} {seen : List Bool} {ve vn : Value} {edge next : List Nat}
theorem It.spares (h : It b B W sb seen ve edge vn next A) (hs : Spares b B A A') (hB : B ≤ W.heap.size) (hb : b ≤ B) : It b B W sb seen ve edge vn next A' where
  held := fun k h1 h2 => by
    have hk : k < W.heap.size := by omega
    have h3 := h.held k h1 h2
    rw [Array.getElem?_eq_getElem hk] at h3
    rw [Array.getElem?_eq_getElem hk]
    exact hs.same k _ h1 h3 (.inl h2)
  size := Nat.le_trans h.size hs.size
  marks := own_spares h.marks hs (by omega)
  edg := own_spares h.edg hs (by omega)
  nxt := own_spares h.nxt hs (by omega)
  apart := h.apart
theorem It.below (h : It b B W sb seen ve edge vn next A) (hb : Below A.heap.size A A') (hB : B ≤ W.heap.size) : It b B W sb seen ve edge vn next A' where
  held := fun k h1 h2 => (hb.block k (by have := h.size; omega)).trans (h.held k h1 h2)
  size := Nat.le_trans h.size hb.size
  marks := own_calls h.marks hb
  edg := own_calls h.edg hb
  nxt := own_calls h.nxt hb
  apart := h.apart
theorem It.start {s : Nat} (hb : Below W.heap.size W A) (hz : A.heap.size = W.heap.size + 1) (hm : Marks A W.heap.size W.heap.size seen) (hB : B ≤ W.heap.size) :
    It b B W W.heap.size seen (.slice (some ⟨W.heap.size + 1, 0, none⟩) 1 1) [s] (.slice (some ⟨W.heap.size + 1 + 1, 0, none⟩) 0 0) [] ((A.alloc (.cells #[.int .i64 (s : Nat)] 3)).alloc (.cells #[] 3)) ∧
    Below W.heap.size W ((A.alloc (.cells #[.int .i64 (s : Nat)] 3)).alloc (.cells #[] 3)) := by
  have h2 : Below W.heap.size W ((A.alloc (.cells #[.int .i64 (s : Nat)] 3)).alloc (.cells #[] 3)) := (hb.alloc (by omega) _).alloc (by simp; omega) _
  refine ⟨⟨fun k _ h => h2.block k (by omega), h2.size, World.ownsRow.alloc (World.ownsRow.alloc hm _) _, World.ownsRow.alloc ?_ _, ?_, fun k hk hk' => ?_⟩, h2⟩
  · have := World.ownsRow_lit (base := W.heap.size) (e := 3) (size := 1) A #[.int .i64 (s : Nat)] 1 (by omega) (by unfold maxLen; omega) rfl
    rw [hz] at this
    exact this
  · have := World.ownsRow_lit (base := W.heap.size) (e := 3) (size := 1) (A.alloc (.cells #[.int .i64 (s : Nat)] 3)) #[] 0 (by simp; omega) (by unfold maxLen; omega) rfl
    rw [show (A.alloc (.cells #[.int .i64 (s : Nat)] 3)).heap.size = W.heap.size + 1 + 1 by simp; omega] at this
    exact this
  · have e1 : W.heap.size + 1 = k := by simpa [Value.ownBlock] using hk
    have e2 : W.heap.size + 1 + 1 = k := by simpa [Value.ownBlock] using hk'
    omega
theorem It.drew (h : It b B W sb seen ve edge vn next A) : It b B W sb seen ve edge vn next A.drew := ⟨h.held, h.size, h.marks, h.edg, h.nxt, h.apart⟩
theorem It.drewN (h : It b B W sb seen ve edge vn next A) (m : Nat) : It b B W sb seen ve edge vn next (A.drewN m) := ⟨h.held, h.size, h.marks, h.edg, h.nxt, h.apart⟩
theorem It.mark (h : It b B W sb seen ve edge vn next A) (hB : B ≤ W.heap.size) (o : Nat) : It b B W sb (seen.set o true) ve edge vn next (A.setCell ⟨sb, o, none⟩ (.bool true)) where
  held := fun k h1 h2 => (Below.heap_setCell A _ _ k (by have := h.marks.base.1; show k ≠ sb; omega)).trans (h.held k h1 h2)
  size := by simpa [World.setCell] using h.size
  marks := h.marks.set o
  edg := ownsRow_setCell_other h.edg (h.marks.other h.edg) _
  nxt := ownsRow_setCell_other h.nxt (h.marks.other h.nxt) _
  apart := h.apart
theorem It.below_mark (h : It b B W sb seen ve edge vn next A) (o : Nat) : Below W.heap.size A (A.setCell ⟨sb, o, none⟩ (.bool true)) := (Below.refl _ _).setCell (p := ⟨sb, o, none⟩) h.marks.base.1 _
theorem It.push {v' : Value} {A1 : World} {ob : Obj} {x : Nat} (h : It b B W sb seen ve edge vn next A) (hB : B ≤ W.heap.size)
    (hown : A1.ownsRow W.heap.size 3 1 v' (next.length + 1) (i64s next ++ [.int .i64 (x : Nat)])) (hg : (A.alloc ob).grownBy A1 vn.ownBlock) (hl : v'.ownBlock = vn.ownBlock ∨ v'.ownBlock = some (A.alloc ob).heap.size) :
    It b B W sb seen ve edge v' (next ++ [x]) A1 ∧ Below W.heap.size A A1 := by
  have hvn : ∀ k, vn.ownBlock = some k → W.heap.size ≤ k := fun k hk => (World.ownsRow.lt h.nxt k hk).1
  have hbel : Below W.heap.size A A1 := ((Below.refl _ A).alloc h.size ob).grown hg (by have := h.size; simp; omega) hvn
  refine ⟨⟨fun k h1 h2 => (hbel.block k (by omega)).trans (h.held k h1 h2), Nat.le_trans h.size hbel.size, ?_, ?_, own_pushI hown, fun k hk => ?_⟩, hbel⟩
  · exact World.ownsRow.kept (World.ownsRow.alloc h.marks ob) hg (.inr (fun e => h.marks.other h.nxt e.symm))
  · refine World.ownsRow.kept (World.ownsRow.alloc h.edg ob) hg ?_
    cases he : ve.ownBlock with
    | none => exact .inl rfl
    | some k => exact .inr (fun e => h.apart k he e.symm)
  · rcases hl with hl | hl
    · rw [hl]; exact h.apart k hk
    · rw [hl]
      intro e
      have h1 := (World.ownsRow.lt h.edg k hk).2
      have h2 : (A.alloc ob).heap.size = k := by simpa using e
      simp at h2
      omega
theorem It.swap {g cap n : Nat} (h : It b B W sb seen (.slice (some ⟨g, 0, none⟩) n cap) edge vn next A) : It b B W sb seen vn next (.slice (some ⟨g, 0, none⟩) 0 cap) [] A where
  held := h.held
  size := h.size
  marks := h.marks
  edg := h.nxt
  nxt := by
    rcases h.edg.2 with ⟨h1, _⟩ | ⟨g', cap', cur, h1, hb, hg, _, hm, hcs, _⟩
    · cases h1
    · injection h1 with h1 h2 h3
      injection h1 with h1
      injection h1 with h1
      subst h1 h3
      exact ⟨rfl, .inr ⟨g, cap, cur, rfl, hb, hg, Nat.zero_le _, hm, hcs, by simp [i64s]⟩⟩
  apart := fun k hk hk' => h.apart k hk' hk
end
end Go.Proofs.Ytacigmjdppoonaa.Vm

namespace Go.Proofs.Ytacigmjdppoonaa.Vm
open Go Go.RowKit Go.Shelf
attribute [local go_sem] Oper.semAt_some

/-- What the step function promises, in every world in which the captured blocks lie as they lay in W. -/
def Steps (F : Fence) (n : Nat) (fs : Nat) (lbs : Array Value) (b B : Nat) (W : World) (N : Nat) (st : Nat → Nat → Int × Bool) : Prop :=
  ∀ (A : World) (c way : Nat), c < N → 1 ≤ way → way ≤ 4 → (∀ k, b ≤ k → k < B → A.heap[k]? = W.heap[k]?) → B ≤ A.heap.size →
    CallsIn F n Try.prog fs (#[.int .i64 (c : Nat), .int .i64 (way : Nat)] ++ lbs) A fun e A' => e = .returned (.tuple #[.int .i64 (st c way).1, .bool (st c way).2]) ∧ Below A.heap.size A A'

end Go.Proofs.Ytacigmjdppoonaa.Vm
