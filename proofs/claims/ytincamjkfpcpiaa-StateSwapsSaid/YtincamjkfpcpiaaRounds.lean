/- A range over an iterator that keeps a state of its own in memory: what each side promises the other, and the law of the statement. No program is named here. -/
import Derived.RangeFuncCalls
import Derived.RangeFuncBound
import Derived.Test.YtincamjkfpcpiaaWords
namespace Go.Proofs.Ytincamjkfpcpiaa.Vm
open Go Go.RowKit

/-- What a loop's round pays: whatever lies at or beyond b lies as it lay. -/
structure Tame (b : Nat) (w w' : World) : Prop where
  size : w.heap.size ≤ w'.heap.size
  same : ∀ k, b ≤ k → k < w.heap.size → w'.heap[k]? = w.heap[k]?
/-- What the iterator is promised across a round: cells at or beyond b, and whatever lies between b and B, lie as they lay. -/
structure Spares (b B : Nat) (w w' : World) : Prop where
  size : w.heap.size ≤ w'.heap.size
  same : ∀ (k : Nat) (o : Obj), b ≤ k → w.heap[k]? = some o → (k < B ∨ o.isCells = true) → w'.heap[k]? = some o

section
variable {b B k : Nat} {u v w w' : World} {o : Obj}
theorem heap_lt (h : w.heap[k]? = some o) : k < w.heap.size := (Array.getElem?_eq_some_iff.1 h).1
theorem Tame.refl (b : Nat) (w : World) : Tame b w w := ⟨Nat.le_refl _, fun _ _ _ => rfl⟩
theorem Tame.trans (h : Tame b u v) (h' : Tame b v w) : Tame b u w :=
  ⟨Nat.le_trans h.size h'.size, fun k hb hk => (h'.same k hb (Nat.lt_of_lt_of_le hk h.size)).trans (h.same k hb hk)⟩
theorem Tame.alloc (h : Tame b u w) (o : Obj) : Tame b u (w.alloc o) :=
  h.trans ⟨by simp, fun k _ hk => Below.heap_alloc w o k hk⟩
theorem Tame.setCell (h : Tame b u w) {p : Addr} (hp : p.block < b) (x : Value) : Tame b u (w.setCell p x) :=
  h.trans ⟨by simp [World.setCell], fun k hb _ => Below.heap_setCell w p x k (by omega)⟩
theorem Tame.drew (h : Tame b u w) : Tame b u w.drew := ⟨h.size, h.same⟩
theorem Tame.drewN (h : Tame b u w) (m : Nat) : Tame b u (w.drewN m) := ⟨h.size, h.same⟩
/-- What lies below the heap's size is kept by a call: so all of it is. -/
theorem Tame.of_below (h : Below w.heap.size w w') : Tame b w w' := ⟨h.size, fun k _ hk => h.block k hk⟩
theorem Tame.spares (h : Tame b w w') : Spares b B w w' := ⟨h.size, fun k o hb hk _ => (h.same k hb (heap_lt hk)).trans hk⟩
theorem Spares.trans (h : Spares b B u v) (h' : Spares b B v w) : Spares b B u w :=
  ⟨Nat.le_trans h.size h'.size, fun k o hb hk ho => h'.same k o hb (h.same k o hb hk ho) ho⟩
theorem Spares.put {l : Nat} {o' : Obj} (hl : w.heap[l]? = some o) (hB : B ≤ l) (ho : o.isCells = false) : Spares b B w (w.putObj l o') :=
  ⟨by simp, fun k x _ hk hx => (World.putObj_heap_other (fun e => by subst e; rw [hl] at hk; cases hk; rcases hx with h | h; omega; rw [ho] at h; cases h)).trans hk⟩
theorem below_put {n l : Nat} {o' : Obj} (hn : n ≤ l) (w : World) : Below n w (w.putObj l o') :=
  ⟨rfl, rfl, rfl, by simp, fun k hk => World.putObj_heap_other (by omega)⟩
end

/-- What an iterator promises, whatever its caller says of the memory that was there (J; Jx where a round has left): it hands over one element behind the other; each beginning is Ok; where it ends by itself, all have come (S); where a round has left, a beginning (Sp). -/
def Offers {α : Type} (F : Fence) (n : Nat) (P : Program) (g : Nat) (lb : Array Value) (encs : α → Array Value) (b : Nat) (Ok S Sp : List α → Prop) (w : World) : Prop :=
  ∀ (l : Nat) (J Jx : List α → World → Prop) (W : World), Below w.heap.size w W →
    (∀ s A A', J s A → Below W.heap.size A A' → J s A') → (∀ s A A', Jx s A → Below W.heap.size A A' → Jx s A') →
    (∀ pre x A, J pre A → Ok (pre ++ [x]) → YieldAt F (n - 1) P l (encs x) A fun e A' =>
      (e = .returned (.bool true) ∧ J (pre ++ [x]) A' ∧ Spares b w.heap.size A A') ∨ (e = .returned (.bool false) ∧ Jx (pre ++ [x]) A')) →
    J [] W →
    CallsIn F n P g (#[.func (.yield l) #[] #[]] ++ lb) W fun e A => (∃ v, e = .returned v) ∧ ((∃ xs, S xs ∧ J xs A) ∨ (∃ pre, Sp pre ∧ Jx pre A))

/-- How a round's body may be left. -/
def Leaves {α : Type} (b : Nat) (I : List α → World → Prop) (Ix : Code → List α → World → Prop) (xs : List α) (W : World) : Exit → Act → World → Prop
  | .normal, _, W' => Tame b W W' ∧ I xs W'
  | .ret, _, W' => Tame b W W' ∧ Ix .ret xs W'
  | .exit id, _, W' => Tame b W W' ∧ Ix (.exit id) xs W'
  | .goto t, _, W' => Tame b W W' ∧ Ix (.goto t) xs W'
  | .panic _, _, _ => False
  | .outgrown, _, _ => False

/-- The record of a loop. -/
abbrev recOf (fn : FuncId) (tmps : Array Value) (ps : Array Tmp) (assign body : Code) (D : Nat) (st : LoopState) (pe : Option Code) : Loop :=
  { state := st, pending := pe, fn, tmps, params := ps, assign, body, defers := D }
/-- The record at l, and the block for the rounds' deferred calls at D. -/
def Led (D l : Nat) (r : Loop) (W : World) : Prop := W.heap[l]? = some (.loop r) ∧ W.heap[D]? = some (.deferred (some []))
section
variable {D l B : Nat} {r r' : Loop} {W W' : World}
theorem Led.below (h : Led D l r W) (hb : Below B W W') (h1 : D < B) (h2 : l < B) : Led D l r W' := ⟨(hb.block l h2).trans h.1, (hb.block D h1).trans h.2⟩
theorem Led.put (h : Led D l r W) (hne : D ≠ l) (r' : Loop) : Led D l r' (W.putObj l (.loop r')) :=
  ⟨World.putObj_heap_same (heap_lt h.1), (World.putObj_heap_other hne).trans h.2⟩
theorem Led.tame {b : Nat} (h : Led D l r W) (ht : Tame b W W') (h1 : b ≤ D) (h2 : b ≤ l) : Led D l r W' :=
  ⟨(ht.same l h2 (heap_lt h.1)).trans h.1, (ht.same D h1 (heap_lt h.2)).trans h.2⟩
end

variable {F : Fence} {n : Nat} {P : Program}

/-- The statement 'for .. := range g { .. }' over an iterator that keeps a state of its own. -/
theorem rounds {α : Type} {g : Operand} {ps : Array Tmp} {assign body : Code} {Q : Exit → Act → World → Prop} {a : Act} {w : World}
    (hro : F.round = none) (h1 : 1 ≤ n) {gf : Nat} {lb : Array Value} (hg : a.eval g = .func (.func gf) #[] lb) (hFg : F.fn gf) (eg : ∀ args w, (callFunc gf args).run P w = .ok (.enter gf args) w)
    {encs : α → Array Value} {b : Nat} {Ok S Sp : List α → Prop} (hseq : Offers F (n - 1) P gf lb encs b Ok S Sp w) (hbw : b ≤ w.heap.size) (hps : ∀ x, (encs x).size = ps.size)
    (I : List α → World → Prop) (Ix : Code → List α → World → Prop) (hI : ∀ s A A', I s A → Below w.heap.size A A' → I s A') (hIx : ∀ c s A A', Ix c s A → Below w.heap.size A A' → Ix c s A')
    (h0 : I [] w) (a₁ : α → Act)
    (hassign : ∀ (l : Nat) (x : α) (W : World) (K : Act → World → Prop), K (a₁ x) W →
      assign.wpIn (F.inRound l) (n - 1 - 1) P (Exit.then K (fun _ _ _ => False)) { tmps := (ps.zip (encs x)).foldl (fun t (p, v) => t.setIfInBounds p v) a.tmps, defers := [] } W)
    (hbody : ∀ (l : Nat) (pre : List α) (x : α) (W : World), I pre W → Ok (pre ++ [x]) → body.wpIn (F.inRound l) (n - 1 - 1) P (Leaves b I Ix (pre ++ [x]) W) (a₁ x) W)
    (hdone : ∀ (D : Nat) (xs : List α) (W : World), w.heap.size ≤ D → S xs → I xs W → W.heap[D]? = some (.deferred (some [])) → Q .normal { a with defers := { target := .collected D, args := #[] } :: a.defers } W)
    (hstop : ∀ (D : Nat) (c : Code) (pre : List α) (W : World), w.heap.size ≤ D → Sp pre → Ix c pre W → W.heap[D]? = some (.deferred (some [])) → c.wpIn F n P Q { a with defers := { target := .collected D, args := #[] } :: a.defers } W) :
    (Code.rangeFunc g ps assign body).wpIn F n P Q a w := by
  refine wpIn_rangeFunc fun fn hfn => ?_
  rw [hro]
  have hlen : (w.alloc (.deferred (some []))).heap.size = w.heap.size + 1 := by simp
  obtain ⟨W1, hW1⟩ : ∃ W1, (w.alloc (.deferred (some []))).alloc (.loop (recOf fn a.tmps ps assign body w.heap.size .ready none)) = W1 := ⟨_, rfl⟩
  have hs1 : W1.heap.size = w.heap.size + 2 := by rw [← hW1]; simp
  have hB1 : Below w.heap.size w W1 := by rw [← hW1]; exact ((Below.refl _ w).alloc (Nat.le_refl _) _).alloc (by simp) _
  have hled : Led w.heap.size (w.heap.size + 1) (recOf fn a.tmps ps assign body w.heap.size .ready none) W1 := by
    rw [← hW1]
    refine ⟨?_, (Below.heap_alloc _ _ _ (by simp)).trans (World.alloc_heap_new w _)⟩
    have := World.alloc_heap_new (w.alloc (.deferred (some []))) (.loop (recOf fn a.tmps ps assign body w.heap.size .ready none))
    rwa [hlen] at this
  refine ⟨w.heap.size + 1, [{ target := .collected w.heap.size, args := #[] }], W1, { target := .fn (.func gf) lb, args := #[.func (.yield (w.heap.size + 1)) #[] #[]] }, W1, gf,
    #[.func (.yield (w.heap.size + 1)) #[] #[]] ++ lb, W1, ?_, ?_, ?_, ?_, fun _ => h1, ?_⟩
  · rw [← hW1]; exact run_enterLoop_outer _ _ _ _ _
  · simp only [resolve, hg]
    simp [go_sem]
  · intro f' hf'
    simp [Target.leads] at hf'
    subst hf'
    exact hFg
  · simp [invoke, go_sem, eg]
  have hput : ∀ {s : List α} {A : World} (o : Obj), I s A → I s (A.putObj (w.heap.size + 1) o) := fun o h => hI _ _ _ h (below_put (by omega) _)
  have hputx : ∀ {c : Code} {s : List α} {A : World} (o : Obj), Ix c s A → Ix c s (A.putObj (w.heap.size + 1) o) := fun o h => hIx _ _ _ _ h (below_put (by omega) _)
  refine (hseq (w.heap.size + 1)
    (fun pre A => I pre A ∧ Led w.heap.size (w.heap.size + 1) (recOf fn a.tmps ps assign body w.heap.size .ready none) A)
    (fun pre A => ∃ c, Ix c pre A ∧ Led w.heap.size (w.heap.size + 1) (recOf fn a.tmps ps assign body w.heap.size .done (some c)) A)
    W1 hB1
    (fun s A A' h hb => ⟨hI _ _ _ h.1 (hb.mono (by omega)), h.2.below hb (by omega) (by omega)⟩)
    (fun s A A' ⟨c, h, hl⟩ hb => ⟨c, hIx _ _ _ _ h (hb.mono (by omega)), hl.below hb (by omega) (by omega)⟩)
    ?_ ⟨hI _ _ _ h0 hB1, hled⟩).mono ?_
  · rintro pre x A ⟨hi, hl⟩ hok
    refine ⟨fn, _, assign, body, run_yield (P := P) (args := encs x) hl.1 (hps x), roundIn_of_wpIn hfn (hassign _ x A _ ⟨_, run_beginRound hl.1 rfl, ?_⟩)⟩
    have hl2 := hl.put (by omega) (recOf fn a.tmps ps assign body w.heap.size .busy none)
    have hsp : Spares b w.heap.size A (A.putObj (w.heap.size + 1) (.loop (recOf fn a.tmps ps assign body w.heap.size .busy none))) := Spares.put hl.1 (by omega) rfl
    refine wpIn_mono (hbody _ pre x _ (hput _ hi) hok) ?_
    rintro e a3 A3 hp
    cases e with
    | normal =>
      obtain ⟨ht, hi3⟩ := hp
      have hl3 := hl2.tame ht hbw (by omega)
      exact ⟨_, _, run_endRound (P := P) none hl3.1, .inl ⟨rfl, ⟨hput _ hi3, hl3.put (by omega) _⟩, (hsp.trans ht.spares).trans (Spares.put hl3.1 (by omega) rfl)⟩⟩
    | ret =>
      obtain ⟨ht, hi3⟩ := hp
      have hl3 := hl2.tame ht hbw (by omega)
      exact ⟨_, _, run_endRound (P := P) (some .ret) hl3.1, .inr ⟨rfl, .ret, hputx _ hi3, hl3.put (by omega) _⟩⟩
    | exit id =>
      obtain ⟨ht, hi3⟩ := hp
      have hl3 := hl2.tame ht hbw (by omega)
      exact ⟨_, _, run_endRound (P := P) (some (.exit id)) hl3.1, .inr ⟨rfl, .exit id, hputx _ hi3, hl3.put (by omega) _⟩⟩
    | goto t =>
      obtain ⟨ht, hi3⟩ := hp
      have hl3 := hl2.tame ht hbw (by omega)
      exact ⟨_, _, run_endRound (P := P) (some (.goto t)) hl3.1, .inr ⟨rfl, .goto t, hputx _ hi3, hl3.put (by omega) _⟩⟩
    | panic ch => exact hp.elim
    | outgrown => exact hp.elim
  · rintro e A ⟨⟨v, rfl⟩, (⟨xs, hS, hi, hl⟩ | ⟨pre, hSp, c, hi, hl⟩)⟩
    · exact ⟨none, _, run_endLoop (P := P) hl.1 (by simp), hdone _ xs _ (Nat.le_refl _) hS (hput _ hi) ((World.putObj_heap_other (by omega)).trans hl.2)⟩
    · exact ⟨some c, _, run_endLoop (P := P) hl.1 (by simp), hstop _ c pre _ (Nat.le_refl _) hSp (hputx _ hi) ((World.putObj_heap_other (by omega)).trans hl.2)⟩

/-- A frame's temporaries, some of them set. -/
def setAll (t : Array Value) : List (Nat × Value) → Array Value
  | [] => t
  | (i, v) :: r => setAll (t.setIfInBounds i v) r

/-- The same, the frame behind the assignments told by what they set. -/
theorem rounds_set {α : Type} {g : Operand} {ps : Array Tmp} {assign body : Code} {Q : Exit → Act → World → Prop} {a : Act} {w : World}
    (hro : F.round = none) (h1 : 1 ≤ n) {gf : Nat} {lb : Array Value} (hg : a.eval g = .func (.func gf) #[] lb) (hFg : F.fn gf) (eg : ∀ args w, (callFunc gf args).run P w = .ok (.enter gf args) w)
    {encs : α → Array Value} {b : Nat} {Ok S Sp : List α → Prop} (hseq : Offers F (n - 1) P gf lb encs b Ok S Sp w) (hbw : b ≤ w.heap.size) (hps : ∀ x, (encs x).size = ps.size)
    (I : List α → World → Prop) (Ix : Code → List α → World → Prop) (hI : ∀ s A A', I s A → Below w.heap.size A A' → I s A') (hIx : ∀ c s A A', Ix c s A → Below w.heap.size A A' → Ix c s A')
    (h0 : I [] w) (sets : α → List (Nat × Value))
    (hassign : ∀ (l : Nat) (x : α) (W : World) (K : Act → World → Prop), K { tmps := setAll a.tmps (sets x), defers := [] } W →
      assign.wpIn (F.inRound l) (n - 1 - 1) P (Exit.then K (fun _ _ _ => False)) { tmps := (ps.zip (encs x)).foldl (fun t (p, v) => t.setIfInBounds p v) a.tmps, defers := [] } W)
    (hbody : ∀ (l : Nat) (pre : List α) (x : α) (W : World), I pre W → Ok (pre ++ [x]) → body.wpIn (F.inRound l) (n - 1 - 1) P (Leaves b I Ix (pre ++ [x]) W) { tmps := setAll a.tmps (sets x), defers := [] } W)
    (hdone : ∀ (D : Nat) (xs : List α) (W : World), w.heap.size ≤ D → S xs → I xs W → W.heap[D]? = some (.deferred (some [])) → Q .normal { a with defers := { target := .collected D, args := #[] } :: a.defers } W)
    (hstop : ∀ (D : Nat) (c : Code) (pre : List α) (W : World), w.heap.size ≤ D → Sp pre → Ix c pre W → W.heap[D]? = some (.deferred (some [])) → c.wpIn F n P Q { a with defers := { target := .collected D, args := #[] } :: a.defers } W) :
    (Code.rangeFunc g ps assign body).wpIn F n P Q a w :=
  rounds hro h1 hg hFg eg hseq hbw hps I Ix hI hIx h0 _ hassign hbody hdone hstop
end Go.Proofs.Ytincamjkfpcpiaa.Vm
