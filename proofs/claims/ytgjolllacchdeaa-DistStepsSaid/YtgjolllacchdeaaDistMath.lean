/- The plain mathematics of distances: the least number of steps, over any steps. No program is named here. -/
import Derived.Below
namespace Go.Proofs.Ytgjolllacchdeaa.Vm

/-- From c one comes to 'to' by n steps. -/
def Reach (S : Nat → List Nat) (to : Nat) : Nat → Nat → Prop
  | 0, c => c = to
  | n + 1, c => ∃ x ∈ S c, Reach S to n x
/-- The distance is n. -/
def FarS (S : Nat → List Nat) (to c n : Nat) : Prop := Reach S to n c ∧ ∀ m, m < n → ¬ Reach S to m c
/-- There is no way. -/
def NoWay (S : Nat → List Nat) (to c : Nat) : Prop := ∀ n, ¬ Reach S to n c

section
variable {S S' : Nat → List Nat} {to c x n m : Nat}
theorem least_of {P : Nat → Prop} : ∀ n, P n → ∃ k, k ≤ n ∧ P k ∧ ∀ m, m < k → ¬ P m := by
  intro n
  induction n using Nat.strongRecOn with
  | ind n ih =>
    intro hn
    by_cases h : ∃ m, m < n ∧ P m
    · obtain ⟨m, hm, hp⟩ := h
      obtain ⟨k, h1, h2, h3⟩ := ih m hm hp
      exact ⟨k, by omega, h2, h3⟩
    · exact ⟨n, Nat.le_refl _, hn, fun m hm hp => h ⟨m, hm, hp⟩⟩
theorem Reach.far (h : Reach S to n c) : ∃ k, k ≤ n ∧ FarS S to c k := by
  obtain ⟨k, h1, h2, h3⟩ := least_of (P := fun n => Reach S to n c) n h
  exact ⟨k, h1, h2, h3⟩
theorem FarS.only (h1 : FarS S to c n) (h2 : FarS S to c m) : n = m := by
  rcases Nat.lt_trichotomy n m with h | h | h
  · exact absurd h1.1 (h2.2 n h)
  · exact h
  · exact absurd h2.1 (h1.2 m h)
theorem FarS.not (h1 : FarS S to c n) (h2 : NoWay S to c) : False := h2 n h1.1
theorem far_or (S : Nat → List Nat) (to c : Nat) : (∃ n, FarS S to c n) ∨ NoWay S to c := by
  by_cases h : ∃ n, Reach S to n c
  · obtain ⟨n, hn⟩ := h
    obtain ⟨k, _, hk⟩ := hn.far
    exact .inl ⟨k, hk⟩
  · exact .inr fun n hn => h ⟨n, hn⟩
theorem far_zero : FarS S to c 0 ↔ c = to := ⟨fun h => h.1, fun h => ⟨h, fun _ hm => absurd hm (by omega)⟩⟩
/-- From where it is far some step leads nearer by just one. -/
theorem FarS.step (h : FarS S to c (n + 1)) : ∃ x ∈ S c, FarS S to x n := by
  obtain ⟨x, hx, hr⟩ := h.1
  refine ⟨x, hx, hr, fun m hm hr' => ?_⟩
  exact h.2 (m + 1) (by omega) ⟨x, hx, hr'⟩
/-- A step leads nearer by one at most. -/
theorem FarS.near (h : FarS S to x n) (hx : x ∈ S c) : ∃ k, k ≤ n + 1 ∧ FarS S to c k := Reach.far (n := n + 1) ⟨x, hx, h.1⟩
/-- How the next distance is told by the last. -/
theorem far_next : FarS S to c (n + 1) ↔ (∀ m, m ≤ n → ¬ FarS S to c m) ∧ ∃ x ∈ S c, FarS S to x n := by
  refine ⟨fun h => ⟨fun m hm h2 => by have := h.only h2; omega, h.step⟩, fun ⟨h1, x, hx, h2⟩ => ?_⟩
  obtain ⟨k, hk, h3⟩ := h2.near hx
  have : k = n + 1 := by
    rcases Nat.lt_or_ge k (n + 1) with h | h
    · exact absurd h3 (h1 k (by omega))
    · omega
  subst this
  exact h3
/-- Where no cell is at a distance, none is farther. -/
theorem far_end (h : ∀ c, ¬ FarS S to c n) : ∀ m, n ≤ m → ∀ c, ¬ FarS S to c m := by
  intro m
  induction m with
  | zero =>
    intro hm c
    obtain rfl : n = 0 := by omega
    exact h c
  | succ m ih =>
    intro hm c hc
    rcases Nat.lt_or_ge m n with h2 | h2
    · obtain rfl : n = m + 1 := by omega
      exact h c hc
    · obtain ⟨x, _, hx⟩ := hc.step
      exact ih h2 x hx
/-- Fewer steps let nothing be nearer. -/
theorem Reach.more (hs : ∀ c x, x ∈ S' c → x ∈ S c) : ∀ n c, Reach S' to n c → Reach S to n c := by
  intro n
  induction n with
  | zero => intro c h; exact h
  | succ n ih => intro c ⟨x, hx, hr⟩; exact ⟨x, hs c x hx, ih x hr⟩
/-- There, and on from there. -/
theorem Reach.on {b : Nat} (h2 : Reach S to m b) : ∀ n c, Reach S b n c → Reach S to (n + m) c := by
  intro n
  induction n with
  | zero => intro c h; rw [Nat.zero_add]; have : c = b := h; rw [this]; exact h2
  | succ n ih => intro c ⟨x, hx, hr⟩; rw [show n + 1 + m = (n + m) + 1 by omega]; exact ⟨x, hx, ih x hr⟩
end

/-- A list that holds the distances: -1 where there is no way. -/
def IsField (S : Nat → List Nat) (to N : Nat) (l : List Int) : Prop := l.length = N ∧ ∀ c, c < N → (∃ n : Nat, l.getD c 0 = n ∧ FarS S to c n) ∨ (l.getD c 0 = -1 ∧ NoWay S to c)
theorem IsField.only {S : Nat → List Nat} {to N : Nat} {l l' : List Int} (h : IsField S to N l) (h' : IsField S to N l') : l = l' := by
  apply List.ext_getElem (by rw [h.1, h'.1])
  intro i h1 h2
  have hi : i < N := by rw [← h.1]; exact h1
  have e1 : l.getD i 0 = l[i] := by simp [List.getD, h1]
  have e2 : l'.getD i 0 = l'[i] := by simp [List.getD, h2]
  rw [← e1, ← e2]
  rcases h.2 i hi with ⟨n, g1, g2⟩ | ⟨g1, g2⟩ <;> rcases h'.2 i hi with ⟨m, k1, k2⟩ | ⟨k1, k2⟩
  · rw [g1, k1, g2.only k2]
  · exact absurd k2 (fun hn => g2.not hn)
  · exact absurd g2 (fun hn => k2.not hn)
  · rw [g1, k1]

/-- The distances up to n are told; what is farther is -1. -/
def UpTo (S : Nat → List Nat) (to N n : Nat) (l : List Int) : Prop := l.length = N ∧ ∀ c, c < N → (∃ d : Nat, d ≤ n ∧ l.getD c 0 = d ∧ FarS S to c d) ∨ (l.getD c 0 = -1 ∧ ∀ d, d ≤ n → ¬ FarS S to c d)
theorem UpTo.done {S : Nat → List Nat} {to N n : Nat} {l : List Int} (h : UpTo S to N n l) (hno : ∀ c, c < N → ¬ FarS S to c (n + 1)) (hS : ∀ c, N ≤ c → ¬ FarS S to c (n + 1)) : IsField S to N l := by
  refine ⟨h.1, fun c hc => ?_⟩
  rcases h.2 c hc with ⟨d, _, h1, h2⟩ | ⟨h1, h2⟩
  · exact .inl ⟨d, h1, h2⟩
  · refine .inr ⟨h1, fun k hk => ?_⟩
    obtain ⟨j, _, hj⟩ := hk.far
    have hall : ∀ c, ¬ FarS S to c (n + 1) := fun c => by
      rcases Nat.lt_or_ge c N with h | h
      · exact hno c h
      · exact hS c h
    rcases Nat.lt_or_ge n j with h3 | h3
    · exact far_end hall j (by omega) c hj
    · exact h2 j h3 hj

/-- How many cells are not told yet. -/
def untold (l : List Int) : Nat := l.countP fun x => x == -1
theorem untold_set : ∀ (l : List Int) (c : Nat) (v : Int), c < l.length → l.getD c 0 = -1 → v ≠ -1 → untold (l.set c v) + 1 = untold l := by
  intro l
  induction l with
  | nil => intro c v h; simp at h
  | cons a l ih =>
    intro c v h h1 h2
    cases c with
    | zero =>
      simp at h1
      subst h1
      simp [untold, h2]
    | succ c =>
      simp only [List.set_cons_succ, untold, List.countP_cons]
      have := ih c v (by simpa using h) (by simpa using h1) h2
      simp only [untold] at this
      omega

/-- The cells below c are told up to n + 1, the others up to n. -/
def Mid (S : Nat → List Nat) (to N n c : Nat) (l : List Int) : Prop := l.length = N ∧ ∀ d, d < N →
  (∃ e : Nat, e ≤ (if d < c then n + 1 else n) ∧ l.getD d 0 = e ∧ FarS S to d e) ∨ (l.getD d 0 = -1 ∧ ∀ e, e ≤ (if d < c then n + 1 else n) → ¬ FarS S to d e)
section
variable {S : Nat → List Nat} {to N n c x : Nat} {l : List Int}
theorem Mid.start (h : UpTo S to N n l) : Mid S to N n 0 l := ⟨h.1, fun d hd => by rw [if_neg (by omega)]; exact h.2 d hd⟩
theorem Mid.done (h : Mid S to N n N l) : UpTo S to N (n + 1) l := ⟨h.1, fun d hd => by have := h.2 d hd; rwa [if_pos hd] at this⟩
theorem Mid.is (h : Mid S to N n c l) (hx : x < N) : l.getD x 0 = (n : Int) ↔ FarS S to x n := by
  rcases h.2 x hx with ⟨e, h1, h2, h3⟩ | ⟨h1, h2⟩
  · rw [h2]
    refine ⟨fun h => ?_, fun h => by rw [h3.only h]⟩
    obtain rfl : e = n := by omega
    exact h3
  · rw [h1]
    refine ⟨fun h => absurd h (by omega), fun h => absurd h (h2 n (by split <;> omega))⟩
theorem Mid.told (h : Mid S to N n c l) (hc : c < N) (hl : l.getD c 0 ≠ -1) : Mid S to N n (c + 1) l := by
  refine ⟨h.1, fun d hd => ?_⟩
  by_cases hdc : d = c
  · subst hdc
    rw [if_pos (by omega)]
    rcases h.2 d hd with ⟨e, h1, h2, h3⟩ | ⟨h1, _⟩
    · rw [if_neg (by omega)] at h1
      exact .inl ⟨e, by omega, h2, h3⟩
    · exact absurd h1 hl
  · have := h.2 d hd
    by_cases h1 : d < c
    · rw [if_pos h1] at this; rw [if_pos (by omega)]; exact this
    · rw [if_neg h1] at this; rw [if_neg (by omega)]; exact this
theorem Mid.none (h : Mid S to N n c l) (hc : c < N) (hl : l.getD c 0 = -1) (hS : ∀ x ∈ S c, x < N) (hno : ∀ x ∈ S c, l.getD x 0 ≠ (n : Int)) : Mid S to N n (c + 1) l ∧ ¬ FarS S to c (n + 1) := by
  have hnf : ¬ FarS S to c (n + 1) := fun hf => by
    obtain ⟨x, hx, hxf⟩ := hf.step
    exact hno x hx ((h.is (hS x hx)).2 hxf)
  refine ⟨⟨h.1, fun d hd => ?_⟩, hnf⟩
  by_cases hdc : d = c
  · subst hdc
    rw [if_pos (by omega)]
    refine .inr ⟨hl, fun e he => ?_⟩
    rcases h.2 d hd with ⟨e', _, h2, _⟩ | ⟨_, h2⟩
    · rw [hl] at h2; omega
    · rw [if_neg (by omega)] at h2
      by_cases h3 : e = n + 1
      · subst h3; exact hnf
      · exact h2 e (by omega)
  · have := h.2 d hd
    by_cases h1 : d < c
    · rw [if_pos h1] at this; rw [if_pos (by omega)]; exact this
    · rw [if_neg h1] at this; rw [if_neg (by omega)]; exact this
theorem Mid.some (h : Mid S to N n c l) (hc : c < N) (hl : l.getD c 0 = -1) (hx : x ∈ S c) (hxN : x < N) (hn : l.getD x 0 = (n : Int)) : Mid S to N n (c + 1) (l.set c ((n + 1 : Nat) : Int)) ∧ FarS S to c (n + 1) := by
  have hf : FarS S to c (n + 1) := by
    refine far_next.2 ⟨fun m hm => ?_, x, hx, (h.is hxN).1 hn⟩
    rcases h.2 c hc with ⟨e, _, h2, _⟩ | ⟨_, h2⟩
    · rw [hl] at h2; omega
    · exact h2 m (by rw [if_neg (by omega)]; exact hm)
  refine ⟨⟨by rw [List.length_set]; exact h.1, fun d hd => ?_⟩, hf⟩
  by_cases hdc : d = c
  · subst hdc
    rw [if_pos (by omega)]
    refine .inl ⟨n + 1, Nat.le_refl _, ?_, hf⟩
    simp [List.getD, h.1, hd]
  · have e : (l.set c ((n + 1 : Nat) : Int)).getD d 0 = l.getD d 0 := by simp [List.getD, Ne.symm hdc]
    rw [e]
    have := h.2 d hd
    by_cases h1 : d < c
    · rw [if_pos h1] at this; rw [if_pos (by omega)]; exact this
    · rw [if_neg h1] at this; rw [if_neg (by omega)]; exact this
/-- The list that tells the goal alone. -/
theorem UpTo.first (hto : to < N) : UpTo S to N 0 ((List.replicate N (-1 : Int)).set to 0) := by
  refine ⟨by simp, fun c hc => ?_⟩
  by_cases h : c = to
  · subst h
    exact .inl ⟨0, Nat.le_refl _, by simp [List.getD, hc], far_zero.2 rfl⟩
  · refine .inr ⟨by simp [List.getD, Ne.symm h, hc], fun d hd hf => ?_⟩
    obtain rfl : d = 0 := by omega
    exact h (far_zero.1 hf)
/-- Where no step leads to the goal, the goal alone is told. -/
theorem field_shut (hto : to < N) (hno : ∀ c, to ∉ S c) : IsField S to N ((List.replicate N (-1 : Int)).set to 0) := by
  have h1 : ∀ c, ¬ FarS S to c 1 := fun c hf => by
    obtain ⟨x, hx, hxf⟩ := hf.step
    have : x = to := far_zero.1 hxf
    subst this
    exact hno c hx
  exact (UpTo.first hto).done (fun c _ => h1 c) (fun c _ => h1 c)
end
end Go.Proofs.Ytgjolllacchdeaa.Vm
