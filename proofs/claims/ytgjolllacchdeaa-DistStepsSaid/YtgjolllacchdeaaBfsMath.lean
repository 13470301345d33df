/- The plain mathematics of going through cells nearest first: edge, next, seen. No program is named here. -/
import Derived.Test.YtgjolllacchdeaaDistMath
namespace Go.Proofs.Ytgjolllacchdeaa.Vm

/-- What the walk goes by: from b the ways 1 to 4 lead to just the cells c with b among S c. -/
structure Graph (S : Nat → List Nat) (st : Nat → Nat → Int × Bool) (N : Nat) : Prop where
  edge : ∀ b c : Nat, b < N → (b ∈ S c ↔ ∃ way : Nat, 1 ≤ way ∧ way ≤ 4 ∧ st b way = ((c : Int), true))
  into : ∀ b c : Nat, b ∈ S c → c < N ∧ b < N
  to : ∀ (b way : Nat) (o : Int), b < N → st b way = (o, true) → 0 ≤ o ∧ o < (N : Int)

/-- x may come next behind p: its distance is told, and all that is nearer has come. -/
def Good (S : Nat → List Nat) (s N : Nat) (p : List (Nat × Nat)) (x : Nat × Nat) : Prop :=
  x.1 < N ∧ x.2 < N ∧ FarS S s x.1 x.2 ∧ ∀ c e, FarS S s c e → e < x.2 → (c, e) ∈ p
/-- A beginning. -/
def Begun (S : Nat → List Nat) (s N : Nat) (l : List (Nat × Nat)) : Prop := ∀ p x q, l = p ++ x :: q → Good S s N p x
/-- All have come. -/
def AllCome (S : Nat → List Nat) (s N : Nat) (l : List (Nat × Nat)) : Prop := Begun S s N l ∧ ∀ c e, FarS S s c e → (c, e) ∈ l

theorem Begun.nil {S : Nat → List Nat} {s N : Nat} : Begun S s N [] := fun p x q h => by simp at h
theorem Begun.snoc {S : Nat → List Nat} {s N : Nat} {l : List (Nat × Nat)} {x : Nat × Nat} (h : Begun S s N l) (hx : Good S s N l x) : Begun S s N (l ++ [x]) := by
  intro p y q he
  rcases List.eq_nil_or_concat q with rfl | ⟨q', z, rfl⟩
  · obtain ⟨rfl, h2⟩ := List.append_inj' he rfl
    have h3 : x = y := by simpa using h2
    subst h3
    exact hx
  · have he' : l ++ [x] = (p ++ y :: q') ++ [z] := by rw [he]; simp
    obtain ⟨h1, _⟩ := List.append_inj' he' rfl
    exact h p y q' h1
theorem Begun.last {S : Nat → List Nat} {s N : Nat} {l : List (Nat × Nat)} {x : Nat × Nat} (h : Begun S s N (l ++ [x])) : Good S s N l x := h l x [] rfl
theorem Begun.at {S : Nat → List Nat} {s N c e : Nat} {l : List (Nat × Nat)} (h : Begun S s N l) (hx : (c, e) ∈ l) : c < N ∧ e < N ∧ FarS S s c e := by
  obtain ⟨p, q, rfl⟩ := List.append_of_mem hx
  have := h p (c, e) q rfl
  exact ⟨this.1, this.2.1, this.2.2.1⟩

/-- How many have been seen. -/
def seenN (l : List Bool) : Nat := l.countP id
theorem seenN_set : ∀ (l : List Bool) (c : Nat), c < l.length → l.getD c false = false → seenN (l.set c true) = seenN l + 1 := by
  intro l
  induction l with
  | nil => intro c h; simp at h
  | cons a l ih =>
    intro c h h1
    cases c with
    | zero =>
      simp at h1
      subst h1
      simp [seenN]
    | succ c =>
      simp only [List.set_cons_succ, seenN, List.countP_cons]
      have := ih c (by simpa using h) (by simpa using h1)
      simp only [seenN] at this
      omega
theorem seenN_le (l : List Bool) : seenN l ≤ l.length := List.countP_le_length
theorem seenN_none (N : Nat) : seenN (List.replicate N false) = 0 := by
  rw [seenN, List.countP_eq_zero]
  intro x hx
  rw [(List.mem_replicate.1 hx).2]
  simp
theorem getD_set_ne {l : List Bool} {c o : Nat} (h : c ≠ o) : (l.set o true).getD c false = l.getD c false := by simp [List.getD, Ne.symm h]
theorem getD_set_eq {l : List Bool} {o : Nat} (h : o < l.length) : (l.set o true).getD o false = true := by simp [List.getD, h]

/-- The state: at distance d; i of that distance have come; rest: those that are still to come; next: the cells at distance d + 1 that are found; X: what is still to be looked at. -/
structure Bfs (S : Nat → List Nat) (s N d i : Nat) (pre : List (Nat × Nat)) (rest next : List Nat) (seen : List Bool) (X : Nat → Nat → Prop) : Prop where
  len : seen.length = N
  cnt : pre.length + rest.length + next.length = seenN seen
  mem : ∀ c, seen.getD c false = true ↔ (∃ e, (c, e) ∈ pre) ∨ c ∈ rest ∨ c ∈ next
  beg : Begun S s N pre
  lvl : ∀ c e, (c, e) ∈ pre → e ≤ d ∧ (i = 0 → e < d)
  rst : ∀ c, c ∈ rest → c < N ∧ FarS S s c d
  nxt : ∀ c, c ∈ next → c < N ∧ FarS S s c (d + 1)
  all : ∀ c e, FarS S s c e → e ≤ d → (c, e) ∈ pre ∨ (e = d ∧ c ∈ rest)
  dle : d + i ≤ pre.length
  come : ∀ b c, (b, d) ∈ pre → b ∈ S c → seen.getD c false = true ∨ X b c

/-- What is still to be looked at from b: the ways from k on. -/
def Left (st : Nat → Nat → Int × Bool) (b k : Nat) (b' c : Nat) : Prop := b' = b ∧ ∃ way : Nat, k ≤ way ∧ way ≤ 4 ∧ st b way = ((c : Int), true)
def NoneLeft (_ _ : Nat) : Prop := False

section
variable {S : Nat → List Nat} {st : Nat → Nat → Int × Bool} {s N d i b k : Nat} {pre : List (Nat × Nat)} {rest next : List Nat} {seen : List Bool} {X : Nat → Nat → Prop}

theorem Bfs.start (hs : s < N) : Bfs S s N 0 0 [] [s] [] ((List.replicate N false).set s true) NoneLeft where
  len := by simp
  cnt := by rw [seenN_set _ _ (by simpa using hs) (by simp [List.getD, hs]), seenN_none]; simp
  mem := fun c => by
    by_cases h : c = s
    · subst h
      rw [getD_set_eq (by simpa using hs)]
      simp
    · rw [getD_set_ne h]
      simp [List.getD, h, List.getElem?_replicate]
      split <;> rfl
  beg := .nil
  lvl := fun c e h => by simp at h
  rst := fun c h => by
    obtain rfl : c = s := by simpa using h
    exact ⟨hs, far_zero.2 rfl⟩
  nxt := fun c h => by simp at h
  all := fun c e h he => by
    obtain rfl : e = 0 := by omega
    exact .inr ⟨rfl, by rw [far_zero.1 h]; simp⟩
  dle := by simp
  come := fun b c h => by simp at h

theorem Bfs.few (h : Bfs S s N d i pre rest next seen X) : pre.length + rest.length + next.length ≤ N := by
  rw [h.cnt, ← h.len]; exact seenN_le _
/-- One of this distance comes. -/
theorem Bfs.good (h : Bfs S s N d i pre (b :: rest) next seen X) : Good S s N pre (b, d) := by
  obtain ⟨h1, h2⟩ := h.rst b (by simp)
  have hf := h.few
  have hd := h.dle
  refine ⟨h1, ?_, h2, fun c e hc he => ?_⟩
  · simp at hf; show d < N; omega
  · rcases h.all c e hc (by simp at he; omega) with h3 | ⟨h3, _⟩
    · exact h3
    · simp at he; omega
theorem Bfs.pop (G : Graph S st N) (h : Bfs S s N d i pre (b :: rest) next seen NoneLeft) : Bfs S s N d (i + 1) (pre ++ [(b, d)]) rest next seen (Left st b 1) where
  len := h.len
  cnt := by have := h.cnt; simp at this ⊢; omega
  mem := fun c => by
    rw [h.mem c]
    simp only [List.mem_append, List.mem_cons, List.mem_nil_iff, or_false, Prod.mk.injEq]
    constructor
    · rintro (⟨e, h1⟩ | (rfl | h1) | h1)
      · exact .inl ⟨e, .inl h1⟩
      · exact .inl ⟨d, .inr ⟨rfl, rfl⟩⟩
      · exact .inr (.inl h1)
      · exact .inr (.inr h1)
    · rintro (⟨e, h1 | ⟨h1, _⟩⟩ | h1 | h1)
      · exact .inl ⟨e, h1⟩
      · exact .inr (.inl (.inl h1))
      · exact .inr (.inl (.inr h1))
      · exact .inr (.inr h1)
  beg := h.beg.snoc h.good
  lvl := fun c e he => by
    rcases List.mem_append.1 he with h1 | h1
    · exact ⟨(h.lvl c e h1).1, by omega⟩
    · simp at h1; exact ⟨by omega, by omega⟩
  rst := fun c hc => h.rst c (by simp [hc])
  nxt := h.nxt
  all := fun c e hc he => by
    rcases h.all c e hc he with h1 | ⟨rfl, h1⟩
    · exact .inl (List.mem_append.2 (.inl h1))
    · rcases List.mem_cons.1 h1 with rfl | h2
      · exact .inl (by simp)
      · exact .inr ⟨rfl, h2⟩
  dle := by have := h.dle; simp; omega
  come := fun b' c hb hc => by
    rcases List.mem_append.1 hb with h1 | h1
    · rcases h.come b' c h1 hc with h2 | h2
      · exact .inl h2
      · exact h2.elim
    · obtain rfl : b' = b := by simpa using h1
      exact .inr ⟨rfl, by
        obtain ⟨w, h2, h3, h4⟩ := (G.edge b' c (G.into b' c hc).2).1 hc
        exact ⟨w, h2, h3, h4⟩⟩
/-- A way that does not lead on. -/
theorem Bfs.no (h : Bfs S s N d i pre rest next seen (Left st b k)) (hk : (st b k).2 = false) : Bfs S s N d i pre rest next seen (Left st b (k + 1)) :=
  { h with come := fun b' c hb hc => (h.come b' c hb hc).imp id fun ⟨e, w, h1, h2, h3⟩ => ⟨e, w, by
      by_cases hw : w = k
      · subst hw; rw [h3] at hk; cases hk
      · omega, h2, h3⟩ }
/-- A way to a cell that has been seen. -/
theorem Bfs.old {o : Nat} (h : Bfs S s N d i pre rest next seen (Left st b k)) (hk : st b k = ((o : Int), true)) (ho : seen.getD o false = true) : Bfs S s N d i pre rest next seen (Left st b (k + 1)) :=
  ⟨h.len, h.cnt, h.mem, h.beg, h.lvl, h.rst, h.nxt, h.all, h.dle, fun b' c hb hc => by
      rcases h.come b' c hb hc with h1 | ⟨e, w, h1, h2, h3⟩
      · exact .inl h1
      · by_cases hw : w = k
        · subst hw
          rw [hk] at h3
          have h4 : (o : Int) = c := congrArg Prod.fst h3
          obtain rfl : o = c := by omega
          exact .inl ho
        · exact .inr ⟨e, w, by omega, h2, h3⟩⟩
/-- A way to a new cell. -/
theorem Bfs.new {o : Nat} (G : Graph S st N) (h : Bfs S s N d i pre rest next seen (Left st b k)) (hb : b < N) (hbp : (b, d) ∈ pre) (hk1 : 1 ≤ k) (hk4 : k ≤ 4) (hk : st b k = ((o : Int), true)) (ho : seen.getD o false = false) :
    Bfs S s N d i pre rest (next ++ [o]) (seen.set o true) (Left st b (k + 1)) := by
  have hoN : o < N := by have := (G.to b k o hb hk).2; omega
  have hbo : b ∈ S o := (G.edge b o hb).2 ⟨k, hk1, hk4, hk⟩
  have hfar : FarS S s o (d + 1) := by
    refine far_next.2 ⟨fun m hm hf => ?_, b, hbo, (h.beg.at hbp).2.2⟩
    have : seen.getD o false = true := (h.mem o).2 (by
      rcases h.all o m hf hm with h1 | ⟨_, h1⟩
      · exact .inl ⟨m, h1⟩
      · exact .inr (.inl h1))
    rw [ho] at this; cases this
  have hmono : ∀ c, seen.getD c false = true → (seen.set o true).getD c false = true := fun c hc => by
    by_cases e : c = o
    · subst e; exact getD_set_eq (by rw [h.len]; exact hoN)
    · rw [getD_set_ne e]; exact hc
  refine ⟨by rw [List.length_set]; exact h.len, ?_, fun c => ?_, h.beg, h.lvl, h.rst, fun c hc => ?_, h.all, h.dle, fun b' c hb' hc => ?_⟩
  · rw [seenN_set _ _ (by rw [h.len]; exact hoN) ho, ← h.cnt]; simp; omega
  · by_cases e : c = o
    · subst e
      rw [getD_set_eq (by rw [h.len]; exact hoN)]
      simp
    · rw [getD_set_ne e, h.mem c]
      simp [e]
  · rcases List.mem_append.1 hc with h1 | h1
    · exact h.nxt c h1
    · obtain rfl : c = o := by simpa using h1
      exact ⟨hoN, hfar⟩
  · rcases h.come b' c hb' hc with h1 | ⟨e, w, h1, h2, h3⟩
    · exact .inl (hmono c h1)
    · by_cases hw : w = k
      · subst hw
        rw [hk] at h3
        have h4 : (o : Int) = c := congrArg Prod.fst h3
        obtain rfl : o = c := by omega
        exact .inl (getD_set_eq (by rw [h.len]; exact hoN))
      · exact .inr ⟨e, w, by omega, h2, h3⟩
/-- All ways have been looked at. -/
theorem Bfs.looked (h : Bfs S s N d i pre rest next seen (Left st b 5)) : Bfs S s N d i pre rest next seen NoneLeft :=
  { h with come := fun b' c hb hc => (h.come b' c hb hc).imp id fun ⟨_, w, h1, h2, _⟩ => by omega }
/-- All of this distance have come. -/
theorem Bfs.level (h : Bfs S s N d i pre [] next seen NoneLeft) (hi : 0 < i) : Bfs S s N (d + 1) 0 pre next [] seen NoneLeft where
  len := h.len
  cnt := by have := h.cnt; simp at this ⊢; omega
  mem := fun c => by rw [h.mem c]; simp
  beg := h.beg
  lvl := fun c e he => by have := (h.lvl c e he).1; omega
  rst := h.nxt
  nxt := fun c hc => by simp at hc
  all := fun c e hc he => by
    by_cases h1 : e ≤ d
    · rcases h.all c e hc h1 with h2 | ⟨_, h2⟩
      · exact .inl h2
      · simp at h2
    · obtain rfl : e = d + 1 := by omega
      obtain ⟨x, hx, hf⟩ := hc.step
      have hp : (x, d) ∈ pre := by
        rcases h.all x d hf (Nat.le_refl _) with h2 | ⟨_, h2⟩
        · exact h2
        · simp at h2
      rcases h.come x c hp hx with h2 | h2
      · rcases (h.mem c).1 h2 with ⟨e, h3⟩ | h3 | h3
        · have h4 := (h.beg.at h3).2.2.only hc
          have h5 := (h.lvl c e h3).1
          omega
        · simp at h3
        · exact .inr ⟨rfl, h3⟩
      · exact h2.elim
  dle := by have := h.dle; omega
  come := fun b c hb => by have := (h.lvl b (d + 1) hb).1; omega
/-- Nothing is at this distance: all have come. -/
theorem Bfs.ended (h : Bfs S s N d 0 pre [] [] seen NoneLeft) : AllCome S s N pre := by
  refine ⟨h.beg, fun c e hc => ?_⟩
  have hno : ∀ c, ¬ FarS S s c d := fun c hf => by
    rcases h.all c d hf (Nat.le_refl _) with h2 | ⟨_, h2⟩
    · have := (h.lvl c d h2).2 rfl
      omega
    · simp at h2
  rcases Nat.lt_or_ge e d with h1 | h1
  · rcases h.all c e hc (by omega) with h2 | ⟨h2, _⟩
    · exact h2
    · omega
  · exact absurd hc (far_end hno e h1 c)
end
end Go.Proofs.Ytgjolllacchdeaa.Vm
