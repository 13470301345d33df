/- The plain mathematics of package dist's two ways of going through a map: to a cell, and from a cell. No program is named here. The plain mathematics of the nearest of some cells. No program is named here. -/
import Derived.Test.YtopgboepkckkjaaGridMath
import Derived.Test.YtopgboepkckkjaaGoes
namespace Go.Proofs.Ytopgboepkckkjaa.Vm

/-- The cell from which alone that way can lead to a cell. -/
def originS (W cell way : Int) : Int := if way = 1 then cell + W else if way = 2 then cell - 1 else if way = 3 then cell - W else cell + 1

/-- Backwards: from a cell to those from which a step leads there. -/
def leadS (W H : Int) (l : List Nat) (bl : List Int) (cell way : Nat) : Int × Bool :=
  (originS W cell way, (goesS W H l (originS W cell way) way).2 && !decide ((cell : Int) ∈ bl))
/-- Forwards. -/
def fromS (W H : Int) (l : List Nat) (bl : List Int) (cell way : Nat) : Int × Bool :=
  ((goesS W H l cell way).1, (goesS W H l cell way).2 && !decide ((goesS W H l cell way).1 ∈ bl))
/-- Whence a step leads to c. -/
def backS' (W H : Int) (l : List Nat) (bl : List Int) (c : Nat) : List Nat := (List.range l.length).filter fun b => decide (c ∈ stepsS W H l bl b)

section
variable {W H : Int} {l : List Nat} {bl : List Int}
theorem back_mem {b c : Nat} : b ∈ backS' W H l bl c ↔ b < l.length ∧ c ∈ stepsS W H l bl b := by
  unfold backS'
  rw [List.mem_filter, List.mem_range, decide_eq_true_eq]
theorem step_from {c x : Nat} (h : x ∈ stepsS W H l bl c) : c < l.length := by
  obtain ⟨way, _, h1, _⟩ := steps_mem.1 h
  unfold goesS at h1
  by_cases hf : floorS l (c : Int) = true
  · have := floorS_in hf; omega
  · have hf' : floorS l (c : Int) = false := by simpa using hf
    simp [hf'] at h1

/-- Where a way leads, it leads beside; and back the same. -/
theorem goes_beside {c to : Int} {way : Nat} (h1 : 1 ≤ W) (hlen : (l.length : Int) = W * H) (hw : 1 ≤ way ∧ way ≤ 4) (h : goesS W H l c way = (to, true)) : originS W to way = c := by
  rw [← goesI_eq h1 hlen] at h
  unfold goesI at h
  split at h
  · cases h
  · split at h
    · cases h
    · have ht := congrArg Prod.fst h
      simp only [] at ht
      subst ht
      have hcase : way = 1 ∨ way = 2 ∨ way = 3 ∨ way = 4 := by omega
      rcases hcase with rfl | rfl | rfl | rfl <;> simp [besideS, originS] <;> omega
theorem goes_origin {cell : Int} {way : Nat} (h1 : 1 ≤ W) (hlen : (l.length : Int) = W * H) (hw : 1 ≤ way ∧ way ≤ 4) (h : (goesS W H l (originS W cell way) way).2 = true) : goesS W H l (originS W cell way) way = (cell, true) := by
  obtain ⟨to, ok, hR⟩ : ∃ to ok, goesS W H l (originS W cell way) way = (to, ok) := ⟨_, _, rfl⟩
  rw [hR] at h ⊢
  simp only [] at h
  subst h
  have h2 := goes_beside h1 hlen hw hR
  have hcase : way = 1 ∨ way = 2 ∨ way = 3 ∨ way = 4 := by omega
  have h3 : to = cell := by rcases hcase with rfl | rfl | rfl | rfl <;> simp [originS] at h2 <;> omega
  rw [h3]

theorem lead_graph (h1 : 1 ≤ W) (hlen : (l.length : Int) = W * H) : Graph (stepsS W H l bl) (leadS W H l bl) l.length where
  edge := fun b c hb => by
    rw [steps_mem]
    constructor
    · rintro ⟨way, hw, hg, hn⟩
      have ho := goes_beside h1 hlen hw hg
      refine ⟨way, hw.1, hw.2, ?_⟩
      unfold leadS
      rw [ho, hg]
      simp [hn]
    · rintro ⟨way, hw1, hw2, hs⟩
      unfold leadS at hs
      have e1 : originS W b way = (c : Int) := congrArg Prod.fst hs
      have e2 : ((goesS W H l (originS W b way) way).2 && !decide ((b : Int) ∈ bl)) = true := congrArg Prod.snd hs
      rw [Bool.and_eq_true] at e2
      have e3 := goes_origin h1 hlen ⟨hw1, hw2⟩ e2.1
      rw [e1] at e3
      exact ⟨way, ⟨hw1, hw2⟩, e3, by simpa using e2.2⟩
  into := fun b c h => ⟨step_from h, steps_in h⟩
  to := fun b way o hb h => by
    unfold leadS at h
    have e1 : originS W b way = o := congrArg Prod.fst h
    have e2 : ((goesS W H l (originS W b way) way).2 && !decide ((b : Int) ∈ bl)) = true := congrArg Prod.snd h
    rw [Bool.and_eq_true, e1] at e2
    have e3 := e2.1
    unfold goesS at e3
    by_cases hf : floorS l o = true
    · exact floorS_in hf
    · have hf' : floorS l o = false := by simpa using hf
      simp [hf'] at e3
theorem from_graph : Graph (backS' W H l bl) (fromS W H l bl) l.length where
  edge := fun b c hb => by
    rw [back_mem, steps_mem]
    constructor
    · rintro ⟨_, way, hw, hg, hn⟩
      refine ⟨way, hw.1, hw.2, ?_⟩
      unfold fromS
      rw [hg]
      simp [hn]
    · rintro ⟨way, hw1, hw2, hs⟩
      unfold fromS at hs
      have e1 : (goesS W H l b way).1 = (c : Int) := congrArg Prod.fst hs
      have e2 : ((goesS W H l b way).2 && !decide ((goesS W H l b way).1 ∈ bl)) = true := congrArg Prod.snd hs
      rw [Bool.and_eq_true, e1] at e2
      exact ⟨hb, way, ⟨hw1, hw2⟩, Prod.ext e1 e2.1, by simpa using e2.2⟩
  into := fun b c h => ⟨steps_in (back_mem.1 h).2, (back_mem.1 h).1⟩
  to := fun b way o hb h => by
    unfold fromS at h
    have e1 : (goesS W H l b way).1 = o := congrArg Prod.fst h
    have e2 : ((goesS W H l b way).2 && !decide ((goesS W H l b way).1 ∈ bl)) = true := congrArg Prod.snd h
    rw [Bool.and_eq_true] at e2
    exact goesS_nat (Prod.ext e1 e2.1)

/-- A step more at the other end. -/
theorem Reach.more_end {S : Nat → List Nat} {b c : Nat} (hb : b ∈ S c) : ∀ n a, Reach S c n a → Reach S b (n + 1) a := by
  intro n
  induction n with
  | zero => intro a h; have : a = c := h; subst this; exact ⟨b, hb, rfl⟩
  | succ n ih => intro a ⟨x, hx, hr⟩; exact ⟨x, hx, ih x hr⟩
/-- From a to c forwards is from c to a backwards. -/
theorem reach_turn {S S' : Nat → List Nat} (h : ∀ b c, b ∈ S' c ↔ c ∈ S b) {a : Nat} : ∀ n c, Reach S' a n c → Reach S c n a := by
  intro n
  induction n with
  | zero => intro c hc; have : c = a := hc; subst this; rfl
  | succ n ih =>
    intro c ⟨b, hb, hr⟩
    exact Reach.more_end ((h b c).1 hb) n a (ih b hr)
theorem far_turn {S S' : Nat → List Nat} (h : ∀ b c, b ∈ S' c ↔ c ∈ S b) {a c n : Nat} : FarS S' a c n ↔ FarS S c a n :=
  ⟨fun ⟨h1, h2⟩ => ⟨reach_turn h n c h1, fun m hm h3 => h2 m hm (reach_turn (S := S') (S' := S) (fun b c => (h c b).symm) m a h3)⟩,
   fun ⟨h1, h2⟩ => ⟨reach_turn (S := S') (S' := S) (fun b c => (h c b).symm) n a h1, fun m hm h3 => h2 m hm (reach_turn h m c h3)⟩⟩
theorem far_back {a c n : Nat} : FarS (backS' W H l bl) a c n ↔ FarS (stepsS W H l bl) c a n :=
  far_turn fun b c => ⟨fun h => (back_mem.1 h).2, fun h => back_mem.2 ⟨step_from h, h⟩⟩
end
end Go.Proofs.Ytopgboepkckkjaa.Vm

namespace Go.Proofs.Ytopgboepkckkjaa.Vm

/-- R is the nearest, the least cell of several, and its distance. -/
def IsNear (d : Int → Int) (of : List Int) (R : Int × Int) : Prop :=
  (R = (-1, -1) ∧ ∀ x ∈ of, d x < 0) ∨ (R.1 ∈ of ∧ R.2 = d R.1 ∧ 0 ≤ R.2 ∧ ∀ x ∈ of, 0 ≤ d x → R.2 < d x ∨ (R.2 = d x ∧ R.1 ≤ x))
theorem IsNear.only {d : Int → Int} {of : List Int} {R R' : Int × Int} (h : IsNear d of R) (h' : IsNear d of R') : R = R' := by
  rcases h with ⟨h1, h2⟩ | ⟨h1, h2, h3, h4⟩ <;> rcases h' with ⟨k1, k2⟩ | ⟨k1, k2, k3, k4⟩
  · rw [h1, k1]
  · have := h2 _ k1; omega
  · have := k2 _ h1; omega
  · have a1 := h4 _ k1 (by omega)
    have a2 := k4 _ h1 (by omega)
    have e1 : R.2 = R'.2 := by omega
    have e2 : R.1 = R'.1 := by omega
    exact Prod.ext e2 e1
theorem nearS_is (d : Int → Int) : ∀ of : List Int, IsNear d of (nearS d of) := by
  intro of
  rw [← List.reverse_reverse of]
  induction of.reverse with
  | nil => exact .inl ⟨rfl, by simp⟩
  | cons x t ih =>
    rw [List.reverse_cons, nearS_snoc]
    generalize nearS d t.reverse = R at ih ⊢
    unfold nearStep
    by_cases hc : 0 ≤ d x ∧ (R.2 < 0 ∨ d x < R.2 ∨ (d x = R.2 ∧ x < R.1))
    · rw [if_pos hc]
      refine .inr ⟨by simp, rfl, hc.1, fun y hy h0 => ?_⟩
      show d x < d y ∨ (d x = d y ∧ x ≤ y)
      rcases List.mem_append.1 hy with h1 | h1
      · rcases ih with ⟨k1, k2⟩ | ⟨k1, k2, k3, k4⟩
        · have := k2 y h1; omega
        · have := k4 y h1 h0
          omega
      · have : y = x := by simpa using h1
        subst this
        omega
    · rw [if_neg hc]
      rcases ih with ⟨k1, k2⟩ | ⟨k1, k2, k3, k4⟩
      · refine .inl ⟨k1, fun y hy => ?_⟩
        rcases List.mem_append.1 hy with h1 | h1
        · exact k2 y h1
        · have : y = x := by simpa using h1
          subst this
          rw [k1] at hc
          simp only [] at hc
          omega
      · refine .inr ⟨List.mem_append.2 (.inl k1), k2, k3, fun y hy h0 => ?_⟩
        rcases List.mem_append.1 hy with h1 | h1
        · exact k4 y h1 h0
        · have : y = x := by simpa using h1
          subst this
          omega

/-- The nearest of those that have come. -/
def NearP (of : List Int) (pre : List (Nat × Nat)) (R : Int × Int) : Prop :=
  (R = (-1, -1) ∧ ∀ c e, (c, e) ∈ pre → (c : Int) ∉ of) ∨
  ∃ b n : Nat, R = ((b : Int), (n : Int)) ∧ (b, n) ∈ pre ∧ (b : Int) ∈ of ∧ ∀ c e, (c, e) ∈ pre → (c : Int) ∈ of → n < e ∨ (n = e ∧ b ≤ c)
/-- How a distance is told. -/
def Tells (S : Nat → List Nat) (s : Nat) (d : Int → Int) : Prop :=
  ∀ x : Int, (∃ c e : Nat, x = c ∧ d x = e ∧ FarS S s c e) ∨ (d x = -1 ∧ ∀ c e : Nat, x = c → ¬ FarS S s c e)

section
variable {S : Nat → List Nat} {s N c e b n : Nat} {of : List Int} {pre : List (Nat × Nat)} {R : Int × Int} {d : Int → Int}
theorem NearP.nil : NearP of [] (-1, -1) := .inl ⟨rfl, by simp⟩
theorem snoc_mem {c e c' e' : Nat} (h : (c', e') ∈ pre ++ [(c, e)]) : (c', e') ∈ pre ∨ (c' = c ∧ e' = e) := by
  rcases List.mem_append.1 h with h1 | h1
  · exact .inl h1
  · have : (c', e') = (c, e) := by simpa using h1
    injection this with h2 h3
    exact .inr ⟨h2, h3⟩
theorem NearP.none (h : NearP of pre (-1, -1)) : ∀ c e, (c, e) ∈ pre → (c : Int) ∉ of := by
  rcases h with ⟨_, h⟩ | ⟨b, n, h, _⟩
  · exact h
  · have := congrArg Prod.fst h; simp only [] at this; omega
theorem NearP.some (h : NearP of pre ((b : Int), (n : Int))) : (b, n) ∈ pre ∧ (b : Int) ∈ of ∧ ∀ c e, (c, e) ∈ pre → (c : Int) ∈ of → n < e ∨ (n = e ∧ b ≤ c) := by
  rcases h with ⟨h, _⟩ | ⟨b', n', h, h1⟩
  · have := congrArg Prod.fst h; simp only [] at this; omega
  · have e1 := congrArg Prod.fst h
    have e2 := congrArg Prod.snd h
    simp only [] at e1 e2
    obtain rfl : b = b' := by omega
    obtain rfl : n = n' := by omega
    exact h1
theorem NearP.form (h : NearP of pre R) : R = (-1, -1) ∨ ∃ b n : Nat, R = ((b : Int), (n : Int)) := by
  rcases h with ⟨h, _⟩ | ⟨b, n, h, _⟩
  · exact .inl h
  · exact .inr ⟨b, n, h⟩
theorem NearP.first (h : NearP of pre (-1, -1)) (hc : (c : Int) ∈ of) : NearP of (pre ++ [(c, e)]) ((c : Int), (e : Int)) :=
  .inr ⟨c, e, rfl, by simp, hc, fun c' e' h1 h2 => by
    rcases snoc_mem h1 with h3 | ⟨rfl, rfl⟩
    · exact absurd h2 (h.none c' e' h3)
    · exact .inr ⟨rfl, Nat.le_refl _⟩⟩
theorem NearP.not (h : NearP of pre R) (hc : (c : Int) ∉ of) : NearP of (pre ++ [(c, e)]) R := by
  rcases h with ⟨h, h1⟩ | ⟨b, n, h, h1, h2, h3⟩
  · refine .inl ⟨h, fun c' e' k => ?_⟩
    rcases snoc_mem k with k1 | ⟨rfl, rfl⟩
    · exact h1 c' e' k1
    · exact hc
  · refine .inr ⟨b, n, h, List.mem_append.2 (.inl h1), h2, fun c' e' k hk => ?_⟩
    rcases snoc_mem k with k1 | ⟨rfl, rfl⟩
    · exact h3 c' e' k1 hk
    · exact absurd hk hc
/-- What comes, wanted, is no nearer than what has come. -/
theorem NearP.level (hb : Begun S s N pre) (hg : Good S s N pre (c, e)) (h : NearP of pre ((b : Int), (n : Int))) (hc : (c : Int) ∈ of) : n ≤ e := by
  obtain ⟨h1, h2, h3⟩ := h.some
  rcases Nat.lt_or_ge e n with h4 | h4
  · obtain ⟨p, q, rfl⟩ := List.append_of_mem h1
    have h5 := (hb p (b, n) q rfl).2.2.2 c e hg.2.2.1 h4
    have := h3 c e (List.mem_append.2 (.inl h5)) hc
    omega
  · exact h4
theorem NearP.less (hb : Begun S s N pre) (hg : Good S s N pre (c, e)) (h : NearP of pre ((b : Int), (n : Int))) (hc : (c : Int) ∈ of) (he : e ≤ n) (hlt : c < b) : NearP of (pre ++ [(c, e)]) ((c : Int), (e : Int)) := by
  have hl := h.level hb hg hc
  obtain ⟨h1, h2, h3⟩ := h.some
  refine .inr ⟨c, e, rfl, by simp, hc, fun c' e' k hk => ?_⟩
  rcases snoc_mem k with k1 | ⟨rfl, rfl⟩
  · have := h3 c' e' k1 hk; omega
  · exact .inr ⟨rfl, Nat.le_refl _⟩
theorem NearP.more (hb : Begun S s N pre) (hg : Good S s N pre (c, e)) (h : NearP of pre ((b : Int), (n : Int))) (hc : (c : Int) ∈ of) (hge : b ≤ c) : NearP of (pre ++ [(c, e)]) ((b : Int), (n : Int)) := by
  have hl := h.level hb hg hc
  obtain ⟨h1, h2, h3⟩ := h.some
  refine .inr ⟨b, n, rfl, List.mem_append.2 (.inl h1), h2, fun c' e' k hk => ?_⟩
  rcases snoc_mem k with k1 | ⟨rfl, rfl⟩
  · exact h3 c' e' k1 hk
  · omega
theorem Tells.at (ht : Tells S s d) (h : FarS S s c e) : d c = e := by
  rcases ht c with ⟨c', e', h1, h2, h3⟩ | ⟨_, h2⟩
  · obtain rfl : c = c' := by omega
    rw [h2, h3.only h]
  · exact absurd h (h2 c e rfl)
theorem Tells.far (ht : Tells S s d) {x : Int} (h : 0 ≤ d x) : ∃ c e : Nat, x = c ∧ d x = e ∧ FarS S s c e := by
  rcases ht x with h1 | ⟨h1, _⟩
  · exact h1
  · omega
theorem NearP.ended (ht : Tells S s d) (hx : AllCome S s N pre) (h : NearP of pre R) : R = nearS d of := by
  refine IsNear.only ?_ (nearS_is d of)
  rcases h with ⟨h, h1⟩ | ⟨b, n, rfl, h1, h2, h3⟩
  · refine .inl ⟨h, fun x hx' => ?_⟩
    rcases ht x with ⟨c, e, rfl, _, h4⟩ | ⟨h4, _⟩
    · exact absurd hx' (h1 c e (hx.2 c e h4))
    · omega
  · refine .inr ⟨h2, (ht.at (hx.1.at h1).2.2).symm, by simp, fun x hx' h0 => ?_⟩
    obtain ⟨c, e, rfl, h5, h6⟩ := ht.far h0
    have := h3 c e (hx.2 c e h6) hx'
    rw [h5]
    simp only []
    omega
theorem NearP.broken (ht : Tells S s d) (hb : Begun S s N pre) (hg : Good S s N pre (c, e)) (h : NearP of pre ((b : Int), (n : Int))) (he : n < e) : ((b : Int), (n : Int)) = nearS d of := by
  refine IsNear.only ?_ (nearS_is d of)
  obtain ⟨h1, h2, h3⟩ := h.some
  refine .inr ⟨h2, (ht.at (hb.at h1).2.2).symm, by simp, fun x hx' h0 => ?_⟩
  obtain ⟨c', e', rfl, h5, h6⟩ := ht.far h0
  rw [h5]
  simp only []
  rcases Nat.lt_or_ge e' e with h7 | h7
  · have := h3 c' e' (hg.2.2.2 c' e' h6 h7) hx'
    omega
  · omega
end

theorem tells_from {W H : Int} {l : List Nat} {bl : List Int} {fr : Nat} (hf : floorS l fr = true) : Tells (backS' W H l bl) fr (fun x => farG W H l bl fr x) := by
  intro x
  have hno : floorS l x = false → ∀ c e : Nat, x = c → ¬ FarS (backS' W H l bl) fr c e := by
    rintro h c e rfl hfar
    have h2 := far_back.1 hfar
    cases e with
    | zero =>
      have : fr = c := far_zero.1 h2
      subst this
      rw [hf] at h; cases h
    | succ e =>
      have h3 : ∀ n a, Reach (stepsS W H l bl) c (n + 1) a → floorS l (c : Int) = true := by
        intro n
        induction n with
        | zero =>
          intro a ⟨y, hy, hr⟩
          have : y = c := hr
          subst this
          obtain ⟨way, _, hg, _⟩ := steps_mem.1 hy
          exact (goesS_step hg).1
        | succ n ih => intro a ⟨y, _, hr⟩; exact ih y hr
      rw [h3 e fr h2.1] at h; cases h
  by_cases hx : floorS l x = true
  · obtain ⟨h0, h1⟩ := floorS_in hx
    obtain ⟨c, rfl⟩ := Int.eq_ofNat_of_zero_le h0
    have e1 : farG W H l bl fr c = farI (stepsS W H l bl) c fr := by unfold farG; rw [if_pos ⟨hf, hx⟩]; simp
    rcases farI_case (stepsS W H l bl) c fr with ⟨n, h2, h3⟩ | ⟨h2, h3⟩
    · exact .inl ⟨c, n, rfl, by simp only []; rw [e1, h2], far_back.2 h3⟩
    · refine .inr ⟨by simp only []; rw [e1, h2], fun c' e hc hfar => ?_⟩
      obtain rfl : c = c' := by omega
      exact h3 e (far_back.1 hfar).1
  · have hx' : floorS l x = false := by simpa using hx
    exact .inr ⟨by simp only []; unfold farG; rw [if_neg (by rw [hx']; simp)], hno hx'⟩
end Go.Proofs.Ytopgboepkckkjaa.Vm
