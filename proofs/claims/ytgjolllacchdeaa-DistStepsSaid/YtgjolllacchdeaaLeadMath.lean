/- The plain mathematics of package dist's two ways of going through a map: to a cell, and from a cell. No program is named here. -/
import Derived.Test.YtgjolllacchdeaaStepMath
import Derived.Test.YtgjolllacchdeaaBfsMath
import Derived.Test.YtgjolllacchdeaaGoes
namespace Go.Proofs.Ytgjolllacchdeaa.Vm

/-- The cell from which alone that way can lead to a cell. -/
def originS (W cell way : Int) : Int := if way = 1 then cell + W else if way = 2 then cell - 1 else if way = 3 then cell - W else cell + 1

/-- Backwards: from a cell to those from which a step leads there. -/
def leadS (W H : Int) (l : List Nat) (bl : List Int) (cell way : Nat) : Int × Bool :=
  (originS W cell way, (goesS W H l (originS W cell way) way).2 && !decide ((cell : Int) ∈ bl))
/-- Forwards. -/
def fromS (W H : Int) (l : List Nat) (bl : List Int) (cell way : Nat) : Int × Bool :=
  ((goesS W H l cell way).1, (goesS W H l cell way).2 && !decide ((goesS W H l cell way).1 ∈ bl))
/-- Whence a step leads to c. -/
def backS' (W H : Int) (l : List Nat) (bl : List Int) (c : Nat) : List Nat := (List.range l.length).filter fun b => decide (c ∈ stepsS W H l bl b)

section
variable {W H : Int} {l : List Nat} {bl : List Int}
theorem back_mem {b c : Nat} : b ∈ backS' W H l bl c ↔ b < l.length ∧ c ∈ stepsS W H l bl b := by
  unfold backS'
  rw [List.mem_filter, List.mem_range, decide_eq_true_eq]
theorem step_from {c x : Nat} (h : x ∈ stepsS W H l bl c) : c < l.length := by
  obtain ⟨way, _, h1, _⟩ := steps_mem.1 h
  unfold goesS at h1
  by_cases hf : floorS l (c : Int) = true
  · have := floorS_in hf; omega
  · have hf' : floorS l (c : Int) = false := by simpa using hf
    simp [hf'] at h1

/-- Where a way leads, it leads beside; and back the same. -/
theorem goes_beside {c to : Int} {way : Nat} (h1 : 1 ≤ W) (hlen : (l.length : Int) = W * H) (hw : 1 ≤ way ∧ way ≤ 4) (h : goesS W H l c way = (to, true)) : originS W to way = c := by
  rw [← goesI_eq h1 hlen] at h
  unfold goesI at h
  split at h
  · cases h
  · split at h
    · cases h
    · have ht := congrArg Prod.fst h
      simp only [] at ht
      subst ht
      have hcase : way = 1 ∨ way = 2 ∨ way = 3 ∨ way = 4 := by omega
      rcases hcase with rfl | rfl | rfl | rfl <;> simp [besideS, originS] <;> omega
theorem goes_origin {cell : Int} {way : Nat} (h1 : 1 ≤ W) (hlen : (l.length : Int) = W * H) (hw : 1 ≤ way ∧ way ≤ 4) (h : (goesS W H l (originS W cell way) way).2 = true) : goesS W H l (originS W cell way) way = (cell, true) := by
  obtain ⟨to, ok, hR⟩ : ∃ to ok, goesS W H l (originS W cell way) way = (to, ok) := ⟨_, _, rfl⟩
  rw [hR] at h ⊢
  simp only [] at h
  subst h
  have h2 := goes_beside h1 hlen hw hR
  have hcase : way = 1 ∨ way = 2 ∨ way = 3 ∨ way = 4 := by omega
  have h3 : to = cell := by rcases hcase with rfl | rfl | rfl | rfl <;> simp [originS] at h2 <;> omega
  rw [h3]

theorem lead_graph (h1 : 1 ≤ W) (hlen : (l.length : Int) = W * H) : Graph (stepsS W H l bl) (leadS W H l bl) l.length where
  edge := fun b c hb => by
    rw [steps_mem]
    constructor
    · rintro ⟨way, hw, hg, hn⟩
      have ho := goes_beside h1 hlen hw hg
      refine ⟨way, hw.1, hw.2, ?_⟩
      unfold leadS
      rw [ho, hg]
      simp [hn]
    · rintro ⟨way, hw1, hw2, hs⟩
      unfold leadS at hs
      have e1 : originS W b way = (c : Int) := congrArg Prod.fst hs
      have e2 : ((goesS W H l (originS W b way) way).2 && !decide ((b : Int) ∈ bl)) = true := congrArg Prod.snd hs
      rw [Bool.and_eq_true] at e2
      have e3 := goes_origin h1 hlen ⟨hw1, hw2⟩ e2.1
      rw [e1] at e3
      exact ⟨way, ⟨hw1, hw2⟩, e3, by simpa using e2.2⟩
  into := fun b c h => ⟨step_from h, steps_in h⟩
  to := fun b way o hb h => by
    unfold leadS at h
    have e1 : originS W b way = o := congrArg Prod.fst h
    have e2 : ((goesS W H l (originS W b way) way).2 && !decide ((b : Int) ∈ bl)) = true := congrArg Prod.snd h
    rw [Bool.and_eq_true, e1] at e2
    have e3 := e2.1
    unfold goesS at e3
    by_cases hf : floorS l o = true
    · exact floorS_in hf
    · have hf' : floorS l o = false := by simpa using hf
      simp [hf'] at e3
theorem from_graph : Graph (backS' W H l bl) (fromS W H l bl) l.length where
  edge := fun b c hb => by
    rw [back_mem, steps_mem]
    constructor
    · rintro ⟨_, way, hw, hg, hn⟩
      refine ⟨way, hw.1, hw.2, ?_⟩
      unfold fromS
      rw [hg]
      simp [hn]
    · rintro ⟨way, hw1, hw2, hs⟩
      unfold fromS at hs
      have e1 : (goesS W H l b way).1 = (c : Int) := congrArg Prod.fst hs
      have e2 : ((goesS W H l b way).2 && !decide ((goesS W H l b way).1 ∈ bl)) = true := congrArg Prod.snd hs
      rw [Bool.and_eq_true, e1] at e2
      exact ⟨hb, way, ⟨hw1, hw2⟩, Prod.ext e1 e2.1, by simpa using e2.2⟩
  into := fun b c h => ⟨steps_in (back_mem.1 h).2, (back_mem.1 h).1⟩
  to := fun b way o hb h => by
    unfold fromS at h
    have e1 : (goesS W H l b way).1 = o := congrArg Prod.fst h
    have e2 : ((goesS W H l b way).2 && !decide ((goesS W H l b way).1 ∈ bl)) = true := congrArg Prod.snd h
    rw [Bool.and_eq_true] at e2
    exact goesS_nat (Prod.ext e1 e2.1)

/-- A step more at the other end. -/
theorem Reach.more_end {S : Nat → List Nat} {b c : Nat} (hb : b ∈ S c) : ∀ n a, Reach S c n a → Reach S b (n + 1) a := by
  intro n
  induction n with
  | zero => intro a h; have : a = c := h; subst this; exact ⟨b, hb, rfl⟩
  | succ n ih => intro a ⟨x, hx, hr⟩; exact ⟨x, hx, ih x hr⟩
/-- From a to c forwards is from c to a backwards. -/
theorem reach_turn {S S' : Nat → List Nat} (h : ∀ b c, b ∈ S' c ↔ c ∈ S b) {a : Nat} : ∀ n c, Reach S' a n c → Reach S c n a := by
  intro n
  induction n with
  | zero => intro c hc; have : c = a := hc; subst this; rfl
  | succ n ih =>
    intro c ⟨b, hb, hr⟩
    exact Reach.more_end ((h b c).1 hb) n a (ih b hr)
theorem far_turn {S S' : Nat → List Nat} (h : ∀ b c, b ∈ S' c ↔ c ∈ S b) {a c n : Nat} : FarS S' a c n ↔ FarS S c a n :=
  ⟨fun ⟨h1, h2⟩ => ⟨reach_turn h n c h1, fun m hm h3 => h2 m hm (reach_turn (S := S') (S' := S) (fun b c => (h c b).symm) m a h3)⟩,
   fun ⟨h1, h2⟩ => ⟨reach_turn (S := S') (S' := S) (fun b c => (h c b).symm) n a h1, fun m hm h3 => h2 m hm (reach_turn h m c h3)⟩⟩
theorem far_back {a c n : Nat} : FarS (backS' W H l bl) a c n ↔ FarS (stepsS W H l bl) c a n :=
  far_turn fun b c => ⟨fun h => (back_mem.1 h).2, fun h => back_mem.2 ⟨step_from h, h⟩⟩
end
end Go.Proofs.Ytgjolllacchdeaa.Vm
