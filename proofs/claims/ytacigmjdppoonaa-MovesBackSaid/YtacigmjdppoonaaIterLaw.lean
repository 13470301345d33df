/- A range over an iterator that keeps a state of its own in memory, and hands over what lies in new memory: what each side promises the other, and the law of the statement (as Iters has it, where what is handed over is told by itself alone). No program is named here. -/
import Derived.Test.YtacigmjdppoonaaIters
namespace Go.Proofs.Ytacigmjdppoonaa.Vm
open Go Go.RowKit

/-- What a round pays: whatever lies below lo, or at or beyond b, lies as it lay. -/
structure TameL (lo b : Nat) (w w' : World) : Prop where
  size : w.heap.size ≤ w'.heap.size
  same : ∀ k, k < lo ∨ b ≤ k → k < w.heap.size → w'.heap[k]? = w.heap[k]?
/-- What the iterator is promised across a round. -/
structure SparesL (lo b B : Nat) (w w' : World) : Prop where
  size : w.heap.size ≤ w'.heap.size
  same : ∀ (k : Nat) (o : Obj), k < lo ∨ b ≤ k → w.heap[k]? = some o → (k < B ∨ o.isCells = true) → w'.heap[k]? = some o
section
variable {lo b B k : Nat} {u v w w' : World} {o : Obj}
theorem TameL.refl (lo b : Nat) (w : World) : TameL lo b w w := ⟨Nat.le_refl _, fun _ _ _ => rfl⟩
theorem TameL.trans (h : TameL lo b u v) (h' : TameL lo b v w) : TameL lo b u w :=
  ⟨Nat.le_trans h.size h'.size, fun k hb hk => (h'.same k hb (Nat.lt_of_lt_of_le hk h.size)).trans (h.same k hb hk)⟩
theorem TameL.setCell (h : TameL lo b u w) {p : Addr} (hl : lo ≤ p.block) (hp : p.block < b) (x : Value) : TameL lo b u (w.setCell p x) :=
  h.trans ⟨by simp [World.setCell], fun k hb _ => Below.heap_setCell w p x k (by omega)⟩
theorem TameL.of_below (h : Below w.heap.size w w') : TameL lo b w w' := ⟨h.size, fun k _ hk => h.block k hk⟩
theorem TameL.grown (h : TameL lo b u w) {r : Option Nat} (hg : w.grownBy w' r) (hr : ∀ q, r = some q → lo ≤ q ∧ q < b) : TameL lo b u w' :=
  h.trans ⟨hg.size, fun k hb hk => hg.block k hk (fun e => by have := hr k e.symm; omega)⟩
theorem TameL.spares (h : TameL lo b w w') : SparesL lo b B w w' := ⟨h.size, fun k o hb hk _ => (h.same k hb (heap_lt hk)).trans hk⟩
theorem SparesL.trans (h : SparesL lo b B u v) (h' : SparesL lo b B v w) : SparesL lo b B u w :=
  ⟨Nat.le_trans h.size h'.size, fun k o hb hk ho => h'.same k o hb (h.same k o hb hk ho) ho⟩
theorem SparesL.put {l : Nat} {o' : Obj} (hl : w.heap[l]? = some o) (hB : B ≤ l) (ho : o.isCells = false) : SparesL lo b B w (w.putObj l o') :=
  ⟨by simp, fun k x _ hk hx => (World.putObj_heap_other (fun e => by subst e; rw [hl] at hk; cases hk; rcases hx with h | h; omega; rw [ho] at h; cases h)).trans hk⟩
end

/-- What an iterator promises, whatever its caller says of the memory (J; Jx where a round has left): each element is Ok where it is handed over; nothing turns but new memory and one block of the iterator's (r); where an element is Bad, the round leaves. -/
def OffersL {α : Type} (F : Fence) (n : Nat) (P : Program) (g : Nat) (lb : Array Value) (encs : α → Array Value) (lo b : Nat) (Ok : Option Nat → List α → World → Prop) (Bad : α → Prop) (S Sp : List α → Prop) (w : World) : Prop :=
  ∀ (l : Nat) (J Jx : Option Nat → List α → World → Prop) (W : World), Below w.heap.size w W →
    (∀ r s A A', (∀ q, r = some q → W.heap.size ≤ q) → J r s A → A.grownBy A' r → J r s A') → (∀ r s A A', (∀ q, r = some q → W.heap.size ≤ q) → Jx r s A → A.grownBy A' r → Jx r s A') →
    (∀ r pre x A, (∀ q, r = some q → W.heap.size ≤ q) → J r pre A → Ok r (pre ++ [x]) A → YieldAt F (n - 1) P l (encs x) A fun e A' =>
      (e = .returned (.bool true) ∧ ¬ Bad x ∧ J r (pre ++ [x]) A' ∧ SparesL lo b w.heap.size A A') ∨ (e = .returned (.bool false) ∧ Jx r (pre ++ [x]) A')) →
    (∀ r, (∀ q, r = some q → W.heap.size ≤ q) → J r [] W) →
    CallsIn F n P g (#[.func (.yield l) #[] #[]] ++ lb) W fun e A => (∃ v, e = .returned v) ∧ ((∃ r xs, S xs ∧ J r xs A) ∨ (∃ r pre, Sp pre ∧ Jx r pre A))

/-- How a round's body may be left. -/
def LeavesL {α : Type} (lo b : Nat) (Bad : α → Prop) (x : α) (I : List α → World → Prop) (Ix : Code → List α → World → Prop) (xs : List α) (W : World) : Exit → Act → World → Prop
  | .normal, _, W' => TameL lo b W W' ∧ ¬ Bad x ∧ I xs W'
  | .ret, _, W' => TameL lo b W W' ∧ Ix .ret xs W'
  | .exit id, _, W' => TameL lo b W W' ∧ Ix (.exit id) xs W'
  | .goto t, _, W' => TameL lo b W W' ∧ Ix (.goto t) xs W'
  | .panic _, _, _ => False
  | .outgrown, _, _ => False
section
variable {D l B : Nat} {r r' : Loop} {W W' : World}
theorem Led.grown {q : Option Nat} (h : Led D l r W) (hg : W.grownBy W' q) (hq : ∀ x, q = some x → D ≠ x ∧ l ≠ x) : Led D l r W' :=
  ⟨(hg.block l (heap_lt h.1) (fun e => (hq l e.symm).2 rfl)).trans h.1, (hg.block D (heap_lt h.2) (fun e => (hq D e.symm).1 rfl)).trans h.2⟩
theorem Led.tameL {lo b : Nat} (h : Led D l r W) (ht : TameL lo b W W') (h1 : b ≤ D) (h2 : b ≤ l) : Led D l r W' :=
  ⟨(ht.same l (.inr h2) (heap_lt h.1)).trans h.1, (ht.same D (.inr h1) (heap_lt h.2)).trans h.2⟩
end

variable {F : Fence} {n : Nat} {P : Program}

/-- The statement 'for .. := range g { .. }' over an iterator that keeps a state of its own. -/
theorem roundsL {α : Type} {g : Operand} {ps : Array Tmp} {assign body : Code} {Q : Exit → Act → World → Prop} {a : Act} {w : World}
    (hro : F.round = none) (h1 : 1 ≤ n) {gf : Nat} {lb : Array Value} (hg : a.eval g = .func (.func gf) #[] lb) (hFg : F.fn gf) (eg : ∀ args w, (callFunc gf args).run P w = .ok (.enter gf args) w)
    {encs : α → Array Value} {lo b : Nat} {Ok : Option Nat → List α → World → Prop} {Bad : α → Prop} {S Sp : List α → Prop} (hseq : OffersL F (n - 1) P gf lb encs lo b Ok Bad S Sp w) (hbw : b ≤ w.heap.size) (hps : ∀ x, (encs x).size = ps.size)
    (I : Option Nat → List α → World → Prop) (Ix : Code → Option Nat → List α → World → Prop) (hI : ∀ r s A A', (∀ q, r = some q → w.heap.size ≤ q) → I r s A → A.grownBy A' r → I r s A') (hIx : ∀ c r s A A', (∀ q, r = some q → w.heap.size ≤ q) → Ix c r s A → A.grownBy A' r → Ix c r s A')
    (hIp : ∀ r s A k x y, w.heap.size ≤ k → I r s A → A.heap[k]? = some (.loop x) → I r s (A.putObj k (.loop y))) (hIxp : ∀ c r s A k x y, w.heap.size ≤ k → Ix c r s A → A.heap[k]? = some (.loop x) → Ix c r s (A.putObj k (.loop y))) (hOkp : ∀ r s A k x y, w.heap.size ≤ k → Ok r s A → A.heap[k]? = some (.loop x) → Ok r s (A.putObj k (.loop y)))
    (h0 : ∀ r, (∀ q, r = some q → w.heap.size ≤ q) → I r [] w) (a₁ : α → Act)
    (hassign : ∀ (l : Nat) (x : α) (W : World) (K : Act → World → Prop), K (a₁ x) W →
      assign.wpIn (F.inRound l) (n - 1 - 1) P (Exit.then K (fun _ _ _ => False)) { tmps := (ps.zip (encs x)).foldl (fun t (p, v) => t.setIfInBounds p v) a.tmps, defers := [] } W)
    (hbody : ∀ (l : Nat) (r : Option Nat) (pre : List α) (x : α) (W : World), (∀ q, r = some q → w.heap.size ≤ q) → I r pre W → Ok r (pre ++ [x]) W → body.wpIn (F.inRound l) (n - 1 - 1) P (LeavesL lo b Bad x (I r) (fun c => Ix c r) (pre ++ [x]) W) (a₁ x) W)
    (hdone : ∀ (D : Nat) (r : Option Nat) (xs : List α) (W : World), w.heap.size ≤ D → S xs → I r xs W → W.heap[D]? = some (.deferred (some [])) → Q .normal { a with defers := { target := .collected D, args := #[] } :: a.defers } W)
    (hstop : ∀ (D : Nat) (c : Code) (r : Option Nat) (pre : List α) (W : World), w.heap.size ≤ D → Sp pre → Ix c r pre W → W.heap[D]? = some (.deferred (some [])) → c.wpIn F n P Q { a with defers := { target := .collected D, args := #[] } :: a.defers } W) :
    (Code.rangeFunc g ps assign body).wpIn F n P Q a w := by
  refine wpIn_rangeFunc fun fn hfn => ?_
  rw [hro]
  have hlen : (w.alloc (.deferred (some []))).heap.size = w.heap.size + 1 := by simp
  obtain ⟨W1, hW1⟩ : ∃ W1, (w.alloc (.deferred (some []))).alloc (.loop (recOf fn a.tmps ps assign body w.heap.size .ready none)) = W1 := ⟨_, rfl⟩
  have hs1 : W1.heap.size = w.heap.size + 2 := by rw [← hW1]; simp
  have hB1 : Below w.heap.size w W1 := by rw [← hW1]; exact ((Below.refl _ w).alloc (Nat.le_refl _) _).alloc (by simp) _
  have hled : Led w.heap.size (w.heap.size + 1) (recOf fn a.tmps ps assign body w.heap.size .ready none) W1 := by
    rw [← hW1]
    refine ⟨?_, (Below.heap_alloc _ _ _ (by simp)).trans (World.alloc_heap_new w _)⟩
    have := World.alloc_heap_new (w.alloc (.deferred (some []))) (.loop (recOf fn a.tmps ps assign body w.heap.size .ready none))
    rwa [hlen] at this
  refine ⟨w.heap.size + 1, [{ target := .collected w.heap.size, args := #[] }], W1, { target := .fn (.func gf) lb, args := #[.func (.yield (w.heap.size + 1)) #[] #[]] }, W1, gf,
    #[.func (.yield (w.heap.size + 1)) #[] #[]] ++ lb, W1, ?_, ?_, ?_, ?_, fun _ => h1, ?_⟩
  · rw [← hW1]; exact run_enterLoop_outer _ _ _ _ _
  · simp only [resolve, hg]
    simp [go_sem]
  · intro f' hf'
    simp [Target.leads] at hf'
    subst hf'
    exact hFg
  · simp [invoke, go_sem, eg]
  have hlt : (w.heap.size + 1) < W1.heap.size := by omega
  refine (hseq (w.heap.size + 1)
    (fun r pre A => I r pre A ∧ Led w.heap.size (w.heap.size + 1) (recOf fn a.tmps ps assign body w.heap.size .ready none) A)
    (fun r pre A => ∃ c, Ix c r pre A ∧ Led w.heap.size (w.heap.size + 1) (recOf fn a.tmps ps assign body w.heap.size .done (some c)) A)
    W1 hB1
    (fun r s A A' hr h hg' => ⟨hI _ _ _ _ (fun q hq => by have := hr q hq; omega) h.1 hg', h.2.grown hg' (fun q hq => by have := hr q hq; omega)⟩)
    (fun r s A A' hr ⟨c, h, hl⟩ hg' => ⟨c, hIx _ _ _ _ _ (fun q hq => by have := hr q hq; omega) h hg', hl.grown hg' (fun q hq => by have := hr q hq; omega)⟩)
    ?_ (fun r hr => ⟨hI _ _ _ _ (fun q hq => by have := hr q hq; omega) (h0 r (fun q hq => by have := hr q hq; omega)) ⟨hB1.os, hB1.tape, hB1.output, hB1.size, fun k hk _ => hB1.block k hk⟩, hled⟩)).mono ?_
  · rintro r pre x A hr ⟨hi, hl⟩ hok
    have hr' : ∀ q, r = some q → w.heap.size ≤ q := fun q hq => by have := hr q hq; omega
    refine ⟨fn, _, assign, body, run_yield (P := P) (args := encs x) hl.1 (hps x), roundIn_of_wpIn hfn (hassign _ x A _ ⟨_, run_beginRound hl.1 rfl, ?_⟩)⟩
    have hl2 := hl.put (by omega) (recOf fn a.tmps ps assign body w.heap.size .busy none)
    have hsp : SparesL lo b w.heap.size A (A.putObj (w.heap.size + 1) (.loop (recOf fn a.tmps ps assign body w.heap.size .busy none))) := SparesL.put hl.1 (by omega) rfl
    refine wpIn_mono (hbody _ r pre x _ hr' (hIp _ _ _ _ _ _ (by omega) hi hl.1) (hOkp _ _ _ _ _ _ (by omega) hok hl.1)) ?_
    rintro e a3 A3 hp
    cases e with
    | normal =>
      obtain ⟨ht, hbad, hi3⟩ := hp
      have hl3 := hl2.tameL ht hbw (by omega)
      exact ⟨_, _, run_endRound (P := P) none hl3.1, .inl ⟨rfl, hbad, ⟨hIp _ _ _ _ _ _ (by omega) hi3 hl3.1, hl3.put (by omega) _⟩, (hsp.trans ht.spares).trans (SparesL.put hl3.1 (by omega) rfl)⟩⟩
    | ret =>
      obtain ⟨ht, hi3⟩ := hp
      have hl3 := hl2.tameL ht hbw (by omega)
      exact ⟨_, _, run_endRound (P := P) (some .ret) hl3.1, .inr ⟨rfl, .ret, hIxp _ _ _ _ _ _ _ (by omega) hi3 hl3.1, hl3.put (by omega) _⟩⟩
    | exit id =>
      obtain ⟨ht, hi3⟩ := hp
      have hl3 := hl2.tameL ht hbw (by omega)
      exact ⟨_, _, run_endRound (P := P) (some (.exit id)) hl3.1, .inr ⟨rfl, .exit id, hIxp _ _ _ _ _ _ _ (by omega) hi3 hl3.1, hl3.put (by omega) _⟩⟩
    | goto t =>
      obtain ⟨ht, hi3⟩ := hp
      have hl3 := hl2.tameL ht hbw (by omega)
      exact ⟨_, _, run_endRound (P := P) (some (.goto t)) hl3.1, .inr ⟨rfl, .goto t, hIxp _ _ _ _ _ _ _ (by omega) hi3 hl3.1, hl3.put (by omega) _⟩⟩
    | panic ch => exact hp.elim
    | outgrown => exact hp.elim
  · rintro e A ⟨⟨v, rfl⟩, (⟨r, xs, hS, hi, hl⟩ | ⟨r, pre, hSp, c, hi, hl⟩)⟩
    · exact ⟨none, _, run_endLoop (P := P) hl.1 (by simp), hdone _ r xs _ (Nat.le_refl _) hS (hIp _ _ _ _ _ _ (by omega) hi hl.1) ((World.putObj_heap_other (by omega)).trans hl.2)⟩
    · exact ⟨some c, _, run_endLoop (P := P) hl.1 (by simp), hstop _ c r pre _ (Nat.le_refl _) hSp (hIxp _ _ _ _ _ _ _ (by omega) hi hl.1) ((World.putObj_heap_other (by omega)).trans hl.2)⟩

/-- The same, the frame behind the assignments told by what they set. -/
theorem roundsL_set {α : Type} {g : Operand} {ps : Array Tmp} {assign body : Code} {Q : Exit → Act → World → Prop} {a : Act} {w : World}
    (hro : F.round = none) (h1 : 1 ≤ n) {gf : Nat} {lb : Array Value} (hg : a.eval g = .func (.func gf) #[] lb) (hFg : F.fn gf) (eg : ∀ args w, (callFunc gf args).run P w = .ok (.enter gf args) w)
    {encs : α → Array Value} {lo b : Nat} {Ok : Option Nat → List α → World → Prop} {Bad : α → Prop} {S Sp : List α → Prop} (hseq : OffersL F (n - 1) P gf lb encs lo b Ok Bad S Sp w) (hbw : b ≤ w.heap.size) (hps : ∀ x, (encs x).size = ps.size)
    (I : Option Nat → List α → World → Prop) (Ix : Code → Option Nat → List α → World → Prop) (hI : ∀ r s A A', (∀ q, r = some q → w.heap.size ≤ q) → I r s A → A.grownBy A' r → I r s A') (hIx : ∀ c r s A A', (∀ q, r = some q → w.heap.size ≤ q) → Ix c r s A → A.grownBy A' r → Ix c r s A')
    (hIp : ∀ r s A k x y, w.heap.size ≤ k → I r s A → A.heap[k]? = some (.loop x) → I r s (A.putObj k (.loop y))) (hIxp : ∀ c r s A k x y, w.heap.size ≤ k → Ix c r s A → A.heap[k]? = some (.loop x) → Ix c r s (A.putObj k (.loop y))) (hOkp : ∀ r s A k x y, w.heap.size ≤ k → Ok r s A → A.heap[k]? = some (.loop x) → Ok r s (A.putObj k (.loop y)))
    (h0 : ∀ r, (∀ q, r = some q → w.heap.size ≤ q) → I r [] w) (sets : α → List (Nat × Value))
    (hassign : ∀ (l : Nat) (x : α) (W : World) (K : Act → World → Prop), K { tmps := setAll a.tmps (sets x), defers := [] } W →
      assign.wpIn (F.inRound l) (n - 1 - 1) P (Exit.then K (fun _ _ _ => False)) { tmps := (ps.zip (encs x)).foldl (fun t (p, v) => t.setIfInBounds p v) a.tmps, defers := [] } W)
    (hbody : ∀ (l : Nat) (r : Option Nat) (pre : List α) (x : α) (W : World), (∀ q, r = some q → w.heap.size ≤ q) → I r pre W → Ok r (pre ++ [x]) W → body.wpIn (F.inRound l) (n - 1 - 1) P (LeavesL lo b Bad x (I r) (fun c => Ix c r) (pre ++ [x]) W) { tmps := setAll a.tmps (sets x), defers := [] } W)
    (hdone : ∀ (D : Nat) (r : Option Nat) (xs : List α) (W : World), w.heap.size ≤ D → S xs → I r xs W → W.heap[D]? = some (.deferred (some [])) → Q .normal { a with defers := { target := .collected D, args := #[] } :: a.defers } W)
    (hstop : ∀ (D : Nat) (c : Code) (r : Option Nat) (pre : List α) (W : World), w.heap.size ≤ D → Sp pre → Ix c r pre W → W.heap[D]? = some (.deferred (some [])) → c.wpIn F n P Q { a with defers := { target := .collected D, args := #[] } :: a.defers } W) :
    (Code.rangeFunc g ps assign body).wpIn F n P Q a w :=
  roundsL hro h1 hg hFg eg hseq hbw hps I Ix hI hIx hIp hIxp hOkp h0 _ hassign hbody hdone hstop
end Go.Proofs.Ytacigmjdppoonaa.Vm
