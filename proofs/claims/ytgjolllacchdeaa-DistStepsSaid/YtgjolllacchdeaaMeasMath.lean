/- The plain mathematics of a text that is measured, letter by letter. No program is named here. -/
import Derived.Test.YtgjolllacchdeaaGridMath
namespace Go.Proofs.Ytgjolllacchdeaa.Vm

/-- The rows of a text, of whatever size, if it has the form of one. -/
def measS (l : List Nat) : Option (Nat × Nat × List Nat) := if l = [] ∨ l.getLast? ≠ some 10 then none else parseF l 0 0 [] []

theorem parseS_none {l : List Nat} (h : measS l = none) : parseS l = (0, 0, [], 3) := by
  unfold measS at h
  unfold parseS
  by_cases h0 : l = [] ∨ l.getLast? ≠ some 10
  · rw [if_pos h0]
  · rw [if_neg h0] at h ⊢
    rw [h]
theorem parseS_some {l : List Nat} {W H : Nat} {cells : List Nat} (h : measS l = some (W, H, cells)) : parseS l = if 256 < W ∨ 256 < H then (0, 0, [], 4) else (W, H, cells, 0) := by
  unfold measS at h
  unfold parseS
  by_cases h0 : l = [] ∨ l.getLast? ≠ some 10
  · rw [if_pos h0] at h; cases h
  · rw [if_neg h0] at h ⊢
    rw [h]

/-- What has been measured, up to the letter k. -/
structure Meas (l : List Nat) (k W H : Nat) (cells row : List Nat) : Prop where
  eq : parseF l 0 0 [] [] = parseF (l.drop k) W H cells row
  rk : row.length ≤ k
  hk : H ≤ k
  wk : W ≤ k
  read : Read W H cells row
  last : row = [] ↔ (l.take k).getLast?.getD 10 = 10
  zero : H = 0 → row = [] → k = 0

theorem Meas.start (l : List Nat) : Meas l 0 0 0 [] [] :=
  ⟨rfl, Nat.le_refl _, Nat.le_refl _, Nat.le_refl _, ⟨rfl, fun h => absurd h (by omega), fun _ => rfl, rfl, rfl⟩, by simp, fun _ _ => rfl⟩

theorem drop_at {l : List Nat} {k : Nat} (hk : k < l.length) : l.drop k = l.getD k 0 :: l.drop (k + 1) := by
  rw [List.drop_eq_getElem_cons hk]; simp [List.getD, hk]
theorem take_at {l : List Nat} {k : Nat} (hk : k < l.length) : l.take (k + 1) = l.take k ++ [l.getD k 0] := by
  rw [List.take_succ_eq_append_getElem hk]; simp [List.getD, hk]

theorem Meas.letter {l : List Nat} {k W H c : Nat} {cells row : List Nat} (h : Meas l k W H cells row) (hk : k < l.length) (hc : l.getD k 0 = c) (hl : letterS c = true) : Meas l (k + 1) W H cells (row ++ [c]) := by
  have hne := letterS_ne hl
  refine ⟨?_, by have := h.rk; simp; omega, by have := h.hk; omega, by have := h.wk; omega, ⟨h.read.len, h.read.some', h.read.none', h.read.ok, by rw [List.all_append, h.read.row]; simp [hl]⟩, ?_, fun _ h2 => by simp at h2⟩
  · rw [h.eq, drop_at hk, hc, parseF, if_pos hne, if_pos hl]
  · rw [take_at hk, hc]; simp [hne]
theorem Meas.line {l : List Nat} {k W H : Nat} {cells row : List Nat} (h : Meas l k W H cells row) (hk : k < l.length) (hc : l.getD k 0 = 10) (hg : ¬ (row = [] ∨ (0 < H ∧ row.length ≠ W))) : Meas l (k + 1) row.length (H + 1) (cells ++ row) [] := by
  have hW : H = 0 ∨ row.length = W := by
    rcases Nat.eq_zero_or_pos H with h | h
    · exact .inl h
    · exact .inr (Decidable.byContradiction fun h2 => hg (.inr ⟨h, h2⟩))
  have hlen : cells.length = row.length * H := by
    rcases hW with h2 | h2
    · have := h.read.len; rw [h2] at this ⊢; simpa using this
    · rw [h2]; exact h.read.len
  refine ⟨?_, by simp, by have := h.hk; omega, by have := h.rk; omega, ⟨by rw [List.length_append, hlen, Nat.mul_add, Nat.mul_one], fun _ => ?_, fun h => absurd h (by omega), by rw [List.all_append, h.read.ok, h.read.row]; rfl, rfl⟩, ?_, fun h => absurd h (by omega)⟩
  · rw [h.eq, drop_at hk, hc, parseF, if_neg (by simp), if_neg hg]
  · exact List.length_pos_iff.2 fun h => hg (.inl h)
  · rw [take_at hk, hc]; simp
theorem Meas.bad {l : List Nat} {k W H c : Nat} {cells row : List Nat} (h : Meas l k W H cells row) (hk : k < l.length) (hc : l.getD k 0 = c) (hne : c ≠ 10) (hl : letterS c = false) : measS l = none := by
  unfold measS
  by_cases h0 : l = [] ∨ l.getLast? ≠ some 10
  · rw [if_pos h0]
  · rw [if_neg h0, h.eq, drop_at hk, hc, parseF, if_pos hne, if_neg (by simp [hl])]
theorem Meas.uneven {l : List Nat} {k W H : Nat} {cells row : List Nat} (h : Meas l k W H cells row) (hk : k < l.length) (hc : l.getD k 0 = 10) (hg : row = [] ∨ (0 < H ∧ row.length ≠ W)) : measS l = none := by
  unfold measS
  by_cases h0 : l = [] ∨ l.getLast? ≠ some 10
  · rw [if_pos h0]
  · rw [if_neg h0, h.eq, drop_at hk, hc, parseF, if_neg (by simp), if_pos hg]
theorem Meas.done {l : List Nat} {W H : Nat} {cells row : List Nat} (h : Meas l l.length W H cells row) : measS l = if 0 < H ∧ row = [] then some (W, H, cells) else none := by
  have hlast := h.last
  rw [List.take_length] at hlast
  unfold measS
  by_cases h0 : l = [] ∨ l.getLast? ≠ some 10
  · rw [if_pos h0, if_neg]
    rintro ⟨h1, h2⟩
    rcases h0 with rfl | h0
    · have := h.hk; simp at this; omega
    · have h3 := hlast.1 h2
      cases hl : l.getLast? with
      | none =>
        rw [List.getLast?_eq_none_iff] at hl
        subst hl
        have := h.hk; simp at this; omega
      | some x => rw [hl] at h3 h0; simp at h3 h0; exact h0 h3
  · rw [if_neg h0, h.eq, List.drop_length, parseF, if_pos]
    have hl : l.getLast? = some 10 := Decidable.byContradiction fun h => h0 (.inr h)
    have hrow : row = [] := hlast.2 (by rw [hl]; rfl)
    refine ⟨?_, hrow⟩
    rcases Nat.eq_zero_or_pos H with h1 | h1
    · have := h.zero h1 hrow
      exact absurd (List.length_eq_zero_iff.1 this) (fun h => h0 (.inl h))
    · exact h1
theorem measS_read {l : List Nat} {W H : Nat} {cells : List Nat} (h : measS l = some (W, H, cells)) : cells.length = W * H ∧ cells.all letterS = true := by
  unfold measS at h
  by_cases h0 : l = [] ∨ l.getLast? ≠ some 10
  · rw [if_pos h0] at h; cases h
  · rw [if_neg h0] at h
    have hla : l.getLast? = some 10 := Decidable.byContradiction fun h => h0 (.inr h)
    have := (parseF_read l 0 0 [] [] _ _ _ ⟨rfl, fun h => absurd h (by omega), fun _ => rfl, rfl, rfl⟩ (.inr (by simpa using hla)) h).1
    exact ⟨this.len, this.ok⟩

/-- All letters but the line feeds, in their order. -/
def flatS (l : List Nat) : List Nat := l.filter fun c => c != 10
theorem parseF_flat (r : List Nat) : ∀ (W H : Nat) (cells row : List Nat) (W' H' : Nat) (cells' : List Nat), parseF r W H cells row = some (W', H', cells') →
    (∀ c ∈ r, c = 10 ∨ letterS c = true) ∧ ((row ++ r = [] ∨ (row ++ r).getLast? = some 10) → (∀ x ∈ row, x ≠ 10) → cells' = cells ++ row ++ flatS r) := by
  induction r with
  | nil =>
    intro W H cells row W' H' cells' hp
    simp only [parseF, Option.some.injEq, Prod.mk.injEq] at hp
    obtain ⟨rfl, rfl, rfl⟩ := hp
    refine ⟨by simp, fun hlast hrow => ?_⟩
    have : row = [] := by
      rcases hlast with h | h
      · simpa using h
      · rw [List.append_nil] at h
        exact absurd rfl (hrow 10 (List.mem_of_getLast? h))
    subst this
    simp [flatS]
  | cons c r ih =>
    intro W H cells row W' H' cells' hp
    by_cases hc : c = 10
    · subst hc
      simp only [parseF, ne_eq, not_true_eq_false, if_false] at hp
      by_cases hbad : row = [] ∨ (0 < H ∧ row.length ≠ W)
      · rw [if_pos hbad] at hp; cases hp
      · rw [if_neg hbad] at hp
        obtain ⟨g1, g2⟩ := ih _ _ _ _ _ _ _ hp
        refine ⟨fun c hc => ?_, fun hlast hrow => ?_⟩
        · rcases List.mem_cons.1 hc with rfl | hc
          · exact .inl rfl
          · exact g1 c hc
        · have := g2 (by
            rcases r with _ | ⟨d, r⟩
            · exact .inl rfl
            · refine .inr ?_
              rcases hlast with h | h
              · simp at h
              · rw [List.nil_append]
                rw [List.getLast?_append] at h
                simpa using h) (by simp)
          rw [this]
          simp [flatS]
    · simp only [parseF, ne_eq, hc, not_false_eq_true, if_true] at hp
      by_cases hl : letterS c = true
      · rw [if_pos hl] at hp
        obtain ⟨g1, g2⟩ := ih _ _ _ _ _ _ _ hp
        refine ⟨fun d hd => ?_, fun hlast hrow => ?_⟩
        · rcases List.mem_cons.1 hd with rfl | hd
          · exact .inr hl
          · exact g1 d hd
        · have := g2 (by rwa [List.append_assoc, List.singleton_append]) (by
            intro x hx
            rcases List.mem_append.1 hx with hx | hx
            · exact hrow x hx
            · simp at hx; rw [hx]; exact hc)
          rw [this]
          simp [flatS, hc]
      · rw [if_neg hl] at hp; cases hp
theorem measS_flat {l : List Nat} {W H : Nat} {cells : List Nat} (h : measS l = some (W, H, cells)) : (∀ c ∈ l, c = 10 ∨ letterS c = true) ∧ cells = flatS l := by
  unfold measS at h
  by_cases h0 : l = [] ∨ l.getLast? ≠ some 10
  · rw [if_pos h0] at h; cases h
  · rw [if_neg h0] at h
    have hla : l.getLast? = some 10 := Decidable.byContradiction fun h => h0 (.inr h)
    obtain ⟨g1, g2⟩ := parseF_flat l 0 0 [] [] _ _ _ h
    exact ⟨g1, by simpa using g2 (.inr (by simpa using hla)) (by simp)⟩
theorem flatS_snoc {l : List Nat} {k c : Nat} (hk : k < l.length) (hc : l.getD k 0 = c) : flatS (l.take (k + 1)) = flatS (l.take k) ++ (if c = 10 then [] else [c]) := by
  unfold flatS
  rw [take_at hk, hc, List.filter_append]
  by_cases h : c = 10 <;> simp [h]
theorem flatS_len (l : List Nat) (k : Nat) : (flatS (l.take k)).length ≤ (flatS l).length := by
  unfold flatS
  conv => rhs; rw [← List.take_append_drop k l, List.filter_append, List.length_append]
  omega
end Go.Proofs.Ytgjolllacchdeaa.Vm
