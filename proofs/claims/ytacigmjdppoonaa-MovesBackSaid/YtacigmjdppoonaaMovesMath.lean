/- The plain mathematics of recorded movements: the ways between cells, where ways lead, walks; that ways that are told go there, and that a walk parts in two. No program is named here. -/
import Derived.Test.YtacigmjdppoonaaGridMath
namespace Go.Proofs.Ytacigmjdppoonaa.Vm

section
variable (W H : Int) (l : List Nat)
/-- The least direction that leads there; -1: none. -/
def wayI (c t : Int) : Int := if goesS W H l c 0 = (t, true) then 0 else if goesS W H l c 1 = (t, true) then 1 else if goesS W H l c 2 = (t, true) then 2 else if goesS W H l c 3 = (t, true) then 3 else if goesS W H l c 4 = (t, true) then 4 else -1
/-- The ways of the first k; the cells to which the first k go. -/
def waysK (fr to' : List Int) (k : Nat) : List Int := (List.range k).map fun i => wayI W H l (fr.getD i 0) (to'.getD i 0)
def goK (cells ways : List Int) (k : Nat) : List Int := (List.range k).map fun i => (goesS W H l (cells.getD i 0) (ways.getD i 0)).1
def WaysP (fr to' : List Int) (k : Nat) : Prop := ∀ i, i < k → 0 ≤ wayI W H l (fr.getD i 0) (to'.getD i 0)
def GoP (cells ways : List Int) (k : Nat) : Prop := ∀ i, i < k → (goesS W H l (cells.getD i 0) (ways.getD i 0)).2 = true
/-- What is told: the ways, the cells, and the error. -/
def WaysOut (fr to' out : List Int) (x : Int) : Prop := (fr.length = to'.length ∧ WaysP W H l fr to' fr.length ∧ out = waysK W H l fr to' fr.length ∧ x = 0) ∨ (¬ (fr.length = to'.length ∧ WaysP W H l fr to' fr.length) ∧ out = [] ∧ x = 1)
def GoOut (cells ways out : List Int) (x : Int) : Prop := (cells.length = ways.length ∧ GoP W H l cells ways cells.length ∧ out = goK W H l cells ways cells.length ∧ x = 0) ∨ (¬ (cells.length = ways.length ∧ GoP W H l cells ways cells.length) ∧ out = [] ∧ x = 1)
/-- A walk: behind each list of ways. -/
inductive WalkOut : List Int → List (List Int) → List (List Int) → Int → Prop
  | done (c : List Int) : WalkOut c [] [c] 0
  | on {c c' w : List Int} {ws out : List (List Int)} : GoOut W H l c w c' 0 → WalkOut c' ws out 0 → WalkOut c (w :: ws) (c :: out) 0
  | bad {c c' w : List Int} {ws : List (List Int)} {x : Int} : GoOut W H l c w c' x → x ≠ 0 → WalkOut c (w :: ws) [] x
  | later {c c' w : List Int} {ws : List (List Int)} {x : Int} : GoOut W H l c w c' 0 → WalkOut c' ws [] x → x ≠ 0 → WalkOut c (w :: ws) [] x
end

section
variable {W H : Int} {l : List Nat}
theorem wayI_goes {c t : Int} (h : 0 ≤ wayI W H l c t) : goesS W H l c (wayI W H l c t) = (t, true) := by
  unfold wayI at h ⊢
  split
  · assumption
  · split
    · assumption
    · split
      · assumption
      · split
        · assumption
        · split
          · assumption
          · rename_i h0 h1 h2 h3 h4
            rw [if_neg h0, if_neg h1, if_neg h2, if_neg h3, if_neg h4] at h
            exact absurd h (by decide)
theorem wayI_some {c t : Int} {k : Nat} (hk : k ≤ 4) (h : goesS W H l c (k : Int) = (t, true)) : 0 ≤ wayI W H l c t ∧ wayI W H l c t ≤ (k : Int) := by
  unfold wayI
  by_cases h0 : goesS W H l c 0 = (t, true)
  · rw [if_pos h0]; omega
  rw [if_neg h0]
  by_cases h1 : goesS W H l c 1 = (t, true)
  · rw [if_pos h1]
    match k, hk with
    | 0, _ => exact absurd h h0
    | k + 1, _ => omega
  rw [if_neg h1]
  by_cases h2 : goesS W H l c 2 = (t, true)
  · rw [if_pos h2]
    match k, hk with
    | 0, _ => exact absurd h h0
    | 1, _ => exact absurd h h1
    | k + 2, _ => omega
  rw [if_neg h2]
  by_cases h3 : goesS W H l c 3 = (t, true)
  · rw [if_pos h3]
    match k, hk with
    | 0, _ => exact absurd h h0
    | 1, _ => exact absurd h h1
    | 2, _ => exact absurd h h2
    | k + 3, _ => omega
  rw [if_neg h3]
  match k, hk with
  | 0, _ => exact absurd h h0
  | 1, _ => exact absurd h h1
  | 2, _ => exact absurd h h2
  | 3, _ => exact absurd h h3
  | 4, _ => rw [if_pos (show goesS W H l c 4 = (t, true) from h)]; omega
theorem waysK_len (fr to' : List Int) (k : Nat) : (waysK W H l fr to' k).length = k := by simp [waysK]
theorem goK_len (c w : List Int) (k : Nat) : (goK W H l c w k).length = k := by simp [goK]
theorem waysK_at {fr to' : List Int} {k i : Nat} (hi : i < k) : (waysK W H l fr to' k).getD i 0 = wayI W H l (fr.getD i 0) (to'.getD i 0) := by simp [waysK, List.getD, hi]
theorem goK_at {c w : List Int} {k i : Nat} (hi : i < k) : (goK W H l c w k).getD i 0 = (goesS W H l (c.getD i 0) (w.getD i 0)).1 := by simp [goK, List.getD, hi]
theorem WaysOut.one {fr to' out out' : List Int} {x x' : Int} (h : WaysOut W H l fr to' out x) (h' : WaysOut W H l fr to' out' x') : out = out' ∧ x = x' := by
  rcases h with ⟨h1, h2, rfl, rfl⟩ | ⟨h1, rfl, rfl⟩ <;> rcases h' with ⟨h1', h2', rfl, rfl⟩ | ⟨h1', rfl, rfl⟩ <;> first | exact ⟨rfl, rfl⟩ | exact absurd ⟨h1, h2⟩ h1' | exact absurd ⟨h1', h2'⟩ h1
theorem GoOut.one {fr to' out out' : List Int} {x x' : Int} (h : GoOut W H l fr to' out x) (h' : GoOut W H l fr to' out' x') : out = out' ∧ x = x' := by
  rcases h with ⟨h1, h2, rfl, rfl⟩ | ⟨h1, rfl, rfl⟩ <;> rcases h' with ⟨h1', h2', rfl, rfl⟩ | ⟨h1', rfl, rfl⟩ <;> first | exact ⟨rfl, rfl⟩ | exact absurd ⟨h1, h2⟩ h1' | exact absurd ⟨h1', h2'⟩ h1
theorem WalkOut.one {ls : List (List Int)} : ∀ {c : List Int} {out out' : List (List Int)} {x x' : Int}, WalkOut W H l c ls out x → WalkOut W H l c ls out' x' → out = out' ∧ x = x' := by
  induction ls with
  | nil =>
    intro c out out' x x' h h'
    cases h; cases h'; exact ⟨rfl, rfl⟩
  | cons w ws ih =>
    intro c out out' x x' h h'
    cases h with
    | on g1 k1 =>
      cases h' with
      | on g2 k2 =>
        obtain ⟨rfl, _⟩ := g1.one g2
        obtain ⟨rfl, _⟩ := ih k1 k2
        exact ⟨rfl, rfl⟩
      | bad g2 n2 => exact absurd (g1.one g2).2.symm n2
      | later g2 k2 n2 =>
        obtain ⟨rfl, _⟩ := g1.one g2
        exact absurd (ih k1 k2).2.symm n2
    | bad g1 n1 =>
      cases h' with
      | on g2 k2 => exact absurd (g1.one g2).2 n1
      | bad g2 n2 => exact ⟨rfl, (g1.one g2).2⟩
      | later g2 k2 n2 => exact absurd (g1.one g2).2 n1
    | later g1 k1 n1 =>
      cases h' with
      | on g2 k2 =>
        obtain ⟨rfl, _⟩ := g1.one g2
        exact absurd (ih k1 k2).2 n1
      | bad g2 n2 => exact absurd (g1.one g2).2.symm n2
      | later g2 k2 n2 =>
        obtain ⟨rfl, _⟩ := g1.one g2
        exact ⟨rfl, (ih k1 k2).2⟩
/-- P12.3: ways that were told go there. -/
theorem ways_go {fr to' out : List Int} (h : WaysOut W H l fr to' out 0) : GoOut W H l fr out to' 0 := by
  rcases h with ⟨h1, h2, rfl, _⟩ | ⟨_, _, h3⟩
  · have hg : ∀ i, i < fr.length → goesS W H l (fr.getD i 0) ((waysK W H l fr to' fr.length).getD i 0) = (to'.getD i 0, true) := fun i hi => by
      rw [waysK_at hi]
      exact wayI_goes (h2 i hi)
    refine .inl ⟨(waysK_len _ _ _).symm, fun i hi => by rw [hg i hi], ?_, rfl⟩
    apply List.ext_getElem
    · rw [goK_len, h1]
    · intro i q1 q2
      have hi : i < fr.length := by rw [h1]; exact q1
      have q := goK_at (W := W) (H := H) (l := l) (c := fr) (w := waysK W H l fr to' fr.length) hi
      rw [hg i hi] at q
      simpa [List.getD, q1, q2] using q.symm
  · exact absurd h3 (by decide)
/-- P12.3: a walk of all lists is one of some, and one of the others behind it. -/
theorem WalkOut.parts {c : List Int} {ls : List (List Int)} {out : List (List Int)} (h : WalkOut W H l c ls out 0) : ∀ at', at' ≤ ls.length → ∃ a b, WalkOut W H l c (ls.take at') a 0 ∧ a.length = at' + 1 ∧ WalkOut W H l (a.getD at' []) (ls.drop at') b 0 ∧ out = a ++ b.drop 1 := by
  induction ls generalizing c out with
  | nil =>
    intro at' ha
    cases h with
    | done => exact ⟨[c], [c], by simpa using WalkOut.done c, by simp at ha; simp [ha], by simp at ha; subst ha; exact WalkOut.done c, by simp⟩
  | cons w ws ih =>
    intro at' ha
    cases h with
    | on g k =>
      match at', ha with
      | 0, _ => exact ⟨[c], _, WalkOut.done c, rfl, WalkOut.on g k, by simp⟩
      | n + 1, ha =>
        obtain ⟨a, b, h1, h2, h3, h4⟩ := ih k n (by simpa using ha)
        exact ⟨c :: a, b, WalkOut.on g h1, by simp [h2], by simpa using h3, by rw [h4]; simp⟩
    | bad g n => exact absurd rfl n
    | later g k n => exact absurd rfl n
end
end Go.Proofs.Ytacigmjdppoonaa.Vm
