/- The plain mathematics of a search that stops robots round by round and looks only at those behind who have just been stopped: it stops the same ones as the rounds do. No program is named here. -/
import Derived.Test.YtccdblbnphmpjaaGateMath
namespace Go.Proofs.Ytccdblbnphmpjaa.Vm

/-- The robot that stands in a cell, of the first k. -/
def inG (cells : List Int) : Nat → Int → Option Int
  | 0, _ => none
  | k + 1, y => if y = cells.getD k 0 then some (k : Int) else inG cells k y
/-- The first of the first k robots that want to move to a cell. -/
def firstG (cells wants : List Int) : Nat → Int → Option Int
  | 0, _ => none
  | k + 1, y => if y = wants.getD k 0 ∧ firstG cells wants k y = none ∧ wants.getD k 0 ≠ cells.getD k 0 then some (k : Int) else firstG cells wants k y

theorem inG_none {cells : List Int} {y : Int} : ∀ {k : Nat}, (∀ j, j < k → cells.getD j 0 ≠ y) → inG cells k y = none
  | 0, _ => rfl
  | k + 1, h => by rw [inG, if_neg (fun e => h k (by omega) e.symm)]; exact inG_none fun j hj => h j (by omega)
theorem inG_some {cells : List Int} {y x : Int} : ∀ {k : Nat}, inG cells k y = some x → ∃ j : Nat, x = j ∧ j < k ∧ cells.getD j 0 = y
  | 0, h => by cases h
  | k + 1, h => by
    rw [inG] at h
    split at h
    · rename_i e; injection h with h; exact ⟨k, h.symm, by omega, e.symm⟩
    · obtain ⟨j, h1, h2, h3⟩ := inG_some h; exact ⟨j, h1, by omega, h3⟩
theorem inG_no {cells : List Int} {y : Int} {k : Nat} (h : inG cells k y = none) : ∀ j, j < k → cells.getD j 0 ≠ y := by
  induction k with
  | zero => intro j hj; omega
  | succ k ih =>
    rw [inG] at h
    split at h
    · cases h
    · rename_i e
      intro j hj
      by_cases ej : j = k
      · subst ej; exact fun e' => e e'.symm
      · exact ih h j (by omega)
theorem takeG_at {l : List Int} {j k : Nat} (hj : j < k) (hl : j < l.length) : l.getD j 0 ∈ l.take k := by
  rw [List.mem_take_iff_getElem]
  exact ⟨j, by omega, by simp [List.getD, hl]⟩
theorem takeG_inv {l : List Int} {k : Nat} {y : Int} (h : y ∈ l.take k) : ∃ j, j < k ∧ j < l.length ∧ l.getD j 0 = y := by
  rw [List.mem_take_iff_getElem] at h
  obtain ⟨j, hj, e⟩ := h
  exact ⟨j, by omega, by omega, by simp [List.getD, show j < l.length by omega, e]⟩
theorem apart_of {cells : List Int} (h : ¬ TwiceP cells) {i k : Nat} (hi : i < cells.length) (hk : k < cells.length) (hik : i ≠ k) : cells.getD i 0 ≠ cells.getD k 0 := by
  intro e
  rcases Nat.lt_or_ge i k with h1 | h1
  · exact h ⟨k, hk, by rw [← e]; exact takeG_at h1 hi⟩
  · exact h ⟨i, hi, by rw [e]; exact takeG_at (by omega) hk⟩
theorem inG_at {cells : List Int} (h : ¬ TwiceP cells) {n j : Nat} (hn : n ≤ cells.length) (hj : j < n) : inG cells n (cells.getD j 0) = some (j : Int) := by
  cases e : inG cells n (cells.getD j 0) with
  | none => exact absurd rfl (inG_no e j hj)
  | some x =>
    obtain ⟨i, rfl, hi, hc⟩ := inG_some e
    by_cases hij : i = j
    · subst hij; rfl
    · exact absurd hc (apart_of h (by omega) (by omega) hij)
theorem firstG_some {cells wants : List Int} {y x : Int} : ∀ {k : Nat}, firstG cells wants k y = some x → ∃ j : Nat, x = j ∧ j < k ∧ wants.getD j 0 = y ∧ wants.getD j 0 ≠ cells.getD j 0 ∧ ∀ i, i < j → ¬ (wants.getD i 0 = y ∧ wants.getD i 0 ≠ cells.getD i 0)
  | 0, h => by cases h
  | k + 1, h => by
    rw [firstG] at h
    split at h
    · rename_i e
      injection h with h
      refine ⟨k, h.symm, by omega, e.1.symm, e.2.2, ?_⟩
      have hn : ∀ m, firstG cells wants m y = none → ∀ i, i < m → ¬ (wants.getD i 0 = y ∧ wants.getD i 0 ≠ cells.getD i 0) := by
        intro m
        induction m with
        | zero => intro _ i hi; omega
        | succ m ih =>
          intro hm i hi
          rw [firstG] at hm
          split at hm
          · cases hm
          · rename_i e2
            by_cases ei : i = m
            · subst ei; exact fun hc => e2 ⟨hc.1.symm, hm, hc.2⟩
            · exact ih hm i (by omega)
      exact hn k e.2.1
    · obtain ⟨j, h1, h2, h3⟩ := firstG_some h; exact ⟨j, h1, by omega, h3⟩
theorem firstG_no {cells wants : List Int} {y : Int} : ∀ {k : Nat}, firstG cells wants k y = none → ∀ i, i < k → ¬ (wants.getD i 0 = y ∧ wants.getD i 0 ≠ cells.getD i 0)
  | 0, _ => fun i hi => by omega
  | k + 1, hm => by
    intro i hi
    rw [firstG] at hm
    split at hm
    · cases hm
    · rename_i e2
      by_cases ei : i = k
      · subst ei; exact fun hc => e2 ⟨hc.1.symm, hm, hc.2⟩
      · exact firstG_no hm i (by omega)
/-- Who is the first. -/
theorem firstG_is {cells wants : List Int} {n i : Nat} (hi : i < n) (h1 : wants.getD i 0 ≠ cells.getD i 0) (h2 : ∀ j, j < i → ¬ (wants.getD j 0 = wants.getD i 0 ∧ wants.getD j 0 ≠ cells.getD j 0)) : firstG cells wants n (wants.getD i 0) = some (i : Int) := by
  cases e : firstG cells wants n (wants.getD i 0) with
  | none => exact absurd ⟨rfl, h1⟩ (firstG_no e i hi)
  | some x =>
    obtain ⟨j, rfl, hj, h3, h4, h5⟩ := firstG_some e
    by_cases hij : j = i
    · subst hij; rfl
    · rcases Nat.lt_or_ge j i with hl | hl
      · exact absurd ⟨h3, h4⟩ (h2 j hl)
      · exact absurd ⟨rfl, h1⟩ (h5 i (by omega))

/-- What holds of the requests on the way: each one's are its own or the first ones; and behind the first round nobody but the first wants to move to a cell. -/
structure Late (cells wants now : List Int) : Prop where
  len : now.length = cells.length
  own : ∀ i, i < cells.length → now.getD i 0 = cells.getD i 0 ∨ now.getD i 0 = wants.getD i 0
  late : now = wants ∨ ∀ i, i < cells.length → now.getD i 0 ≠ cells.getD i 0 → firstG cells wants cells.length (now.getD i 0) = some (i : Int)
theorem Late.start {cells wants : List Int} (h : wants.length = cells.length) : Late cells wants wants := ⟨h, fun _ _ => .inr rfl, .inl rfl⟩
/-- Who is stopped, as the program looks. -/
def StopP (cells wants blocked now : List Int) (i : Nat) : Prop :=
  now.getD i 0 ≠ cells.getD i 0 ∧ ((now.getD i 0 ∈ blocked ∨ (firstG cells wants cells.length (now.getD i 0)).getD 0 ≠ (i : Int)) ∨
    ∃ j : Nat, inG cells cells.length (now.getD i 0) = some (j : Int) ∧ (now.getD j 0 = now.getD i 0 ∨ now.getD j 0 = cells.getD i 0))
theorem stop_iff {cells wants blocked now : List Int} (ht : ¬ TwiceP cells) (h : Late cells wants now) {i : Nat} (hi : i < cells.length) : StopP cells wants blocked now i ↔ KeptP cells blocked now i := by
  constructor
  · rintro ⟨h0, (hb | hf) | ⟨j, hj, hc⟩⟩
    · exact ⟨h0, .inl hb⟩
    · rcases h.late with rfl | hl
      · cases e : firstG cells now cells.length (now.getD i 0) with
        | none => exact absurd ⟨rfl, h0⟩ (firstG_no e i hi)
        | some x =>
          obtain ⟨j, rfl, hj, h3, h4, h5⟩ := firstG_some e
          rw [e] at hf
          have hne : j ≠ i := fun e => hf (by rw [e]; rfl)
          have hlt : j < i := by
            rcases Nat.lt_or_ge j i with hl | hl
            · exact hl
            · exact absurd ⟨rfl, h0⟩ (h5 i (by omega))
          exact ⟨h0, .inr ⟨j, hj, hne, .inr (.inl ⟨h4, h3, hlt⟩)⟩⟩
      · rw [hl i hi h0] at hf; exact absurd rfl hf
    · obtain ⟨j', e, hj, hcj⟩ := inG_some hj
      obtain rfl : j = j' := by omega
      have hne : j ≠ i := fun e => h0 (by rw [← hcj, e])
      rcases hc with hc | hc
      · exact ⟨h0, .inr ⟨j, hj, hne, .inl ⟨hc.trans hcj.symm, hcj⟩⟩⟩
      · exact ⟨h0, .inr ⟨j, hj, hne, .inr (.inr ⟨hcj, hc⟩)⟩⟩
  · rintro ⟨h0, hb | ⟨k, hk, hki, ⟨h1, h2⟩ | ⟨h1, h2, h3⟩ | ⟨h1, h2⟩⟩⟩
    · exact ⟨h0, .inl (.inl hb)⟩
    · exact ⟨h0, .inr ⟨k, by rw [← h2]; exact inG_at ht (Nat.le_refl _) hk, .inl (h1.trans h2)⟩⟩
    · refine ⟨h0, .inl (.inr ?_)⟩
      rcases h.late with rfl | hl
      · cases e : firstG cells now cells.length (now.getD i 0) with
        | none => exact absurd ⟨rfl, h0⟩ (firstG_no e i hi)
        | some x =>
          obtain ⟨j, rfl, hj, h5, h6, h7⟩ := firstG_some e
          have : j ≤ k := by
            rcases Nat.lt_or_ge k j with hl | hl
            · exact absurd ⟨h2, h1⟩ (h7 k hl)
            · exact hl
          intro he
          have he : (j : Int) = i := he
          omega
      · have e1 := hl k hk h1
        have e2 := hl i hi h0
        rw [h2] at e1
        rw [e1] at e2
        injection e2 with e2
        exact absurd (by omega) hki
    · exact ⟨h0, .inr ⟨k, by rw [← h1]; exact inG_at ht (Nat.le_refl _) hk, .inr h2⟩⟩
theorem nextG_moves {cells blocked now : List Int} {i : Nat} (hi : i < cells.length) (hne : (nextG cells blocked now).getD i 0 ≠ cells.getD i 0) : ¬ KeptP cells blocked now i ∧ (nextG cells blocked now).getD i 0 = now.getD i 0 := by
  rw [nextG_at hi] at hne ⊢
  by_cases hb : keptB cells blocked now i = true
  · rw [if_pos hb] at hne; exact absurd rfl hne
  · rw [if_neg hb]; exact ⟨fun hk => hb (keptB_yes hk), rfl⟩
theorem Late.firsts {cells wants blocked now : List Int} (h : Late cells wants now) {i : Nat} (hi : i < cells.length) (hne : (nextG cells blocked now).getD i 0 ≠ cells.getD i 0) : firstG cells wants cells.length ((nextG cells blocked now).getD i 0) = some (i : Int) := by
  obtain ⟨hk, he⟩ := nextG_moves hi hne
  rw [he] at hne ⊢
  rcases h.late with rfl | hl
  · refine firstG_is hi hne fun j hj hc => hk ⟨hne, .inr ⟨j, by omega, by omega, .inr (.inl ⟨hc.2, hc.1, hj⟩)⟩⟩
  · exact hl i hi hne
theorem Late.next {cells wants blocked now : List Int} (h : Late cells wants now) : Late cells wants (nextG cells blocked now) := by
  refine ⟨nextG_len _ _ _, fun i hi => ?_, .inr fun i hi hne => h.firsts hi hne⟩
  by_cases hb : keptB cells blocked now i = true
  · exact .inl (by rw [nextG_at hi, if_pos hb])
  · rw [nextG_at hi, if_neg hb]; exact h.own i hi
/-- These are the robots that are stopped now, and no others. -/
def These (cells blocked now S : List Int) : Prop := (∀ s ∈ S, ∃ i : Nat, s = i ∧ i < cells.length) ∧ ∀ i : Nat, i < cells.length → ((i : Int) ∈ S ↔ KeptP cells blocked now i)
/-- The requests when these robots have been stopped. -/
def haltG (cells now S : List Int) : List Int := (List.range cells.length).map fun (i : Nat) => if (i : Int) ∈ S then cells.getD i 0 else now.getD i 0
theorem haltG_len (cells now S : List Int) : (haltG cells now S).length = cells.length := by simp [haltG]
theorem haltG_nil {cells now : List Int} (h : now.length = cells.length) : haltG cells now [] = now := by
  apply List.ext_getElem
  · rw [haltG_len, h]
  · intro j h1 h2
    simp [haltG, List.getD, h2]
theorem haltG_snoc {cells now S : List Int} {i : Nat} : haltG cells now (S ++ [(i : Int)]) = (haltG cells now S).set i (cells.getD i 0) := by
  apply List.ext_getElem
  · rw [List.length_set, haltG_len, haltG_len]
  · intro j h1 h2
    rw [List.getElem_set]
    by_cases e : i = j
    · subst e
      simp [haltG]
    · rw [if_neg e]
      have : ¬ ((j : Int) = (i : Int)) := by omega
      simp [haltG, this]
theorem haltG_these {cells blocked now S : List Int} (h : These cells blocked now S) : haltG cells now S = nextG cells blocked now := by
  apply List.ext_getElem
  · rw [haltG_len, nextG_len]
  · intro j h1 h2
    have hj : j < cells.length := by rwa [haltG_len] at h1
    simp only [haltG, nextG, List.getElem_map, List.getElem_range]
    by_cases hk : KeptP cells blocked now j
    · rw [if_pos ((h.2 j hj).2 hk), if_pos (keptB_yes hk)]
    · rw [if_neg (fun e => hk ((h.2 j hj).1 e)), if_neg (by rw [keptB_no hk]; simp)]
/-- Those behind these. -/
def behindG (cells wants S : List Int) : List Int := S.filterMap fun s => firstG cells wants cells.length (cells.getD s.toNat 0)
theorem behindG_len (cells wants S : List Int) : (behindG cells wants S).length ≤ S.length := List.length_filterMap_le _ _
theorem behindG_in {cells wants S : List Int} : ∀ s ∈ behindG cells wants S, ∃ i : Nat, s = i ∧ i < cells.length := by
  intro s hs
  obtain ⟨r, _, hr⟩ := List.mem_filterMap.1 hs
  obtain ⟨j, h1, h2, _⟩ := firstG_some hr
  exact ⟨j, h1, h2⟩
noncomputable def stopB (cells wants blocked now : List Int) (s : Int) : Bool := @decide (StopP cells wants blocked now s.toNat) (Classical.propDecidable _)
theorem stopB_iff {cells wants blocked now : List Int} {s : Int} : stopB cells wants blocked now s = true ↔ StopP cells wants blocked now s.toNat := @decide_eq_true_iff _ (Classical.propDecidable _)
theorem stopB_yes {cells wants blocked now : List Int} {i : Nat} (h : StopP cells wants blocked now i) : stopB cells wants blocked now (i : Int) = true := stopB_iff.2 h
theorem stopB_no {cells wants blocked now : List Int} {i : Nat} (h : ¬ StopP cells wants blocked now i) : stopB cells wants blocked now (i : Int) = false := by
  cases e : stopB cells wants blocked now (i : Int)
  · rfl
  · exact absurd (stopB_iff.1 e) h
/-- The robots' numbers. -/
def allG (n : Nat) : List Int := (List.range n).map fun (i : Nat) => (i : Int)
theorem allG_len (n : Nat) : (allG n).length = n := by simp [allG]
theorem these_first {cells wants blocked : List Int} (ht : ¬ TwiceP cells) (hl : wants.length = cells.length) : These cells blocked wants ((allG cells.length).filter (stopB cells wants blocked wants)) := by
  constructor
  · intro s hs
    obtain ⟨h1, _⟩ := List.mem_filter.1 hs
    obtain ⟨i, hi, rfl⟩ := List.mem_map.1 h1
    exact ⟨i, rfl, by simpa using hi⟩
  · intro i hi
    rw [List.mem_filter, stopB_iff, Int.toNat_natCast, stop_iff ht (Late.start hl) hi]
    exact ⟨fun h => h.2, fun h => ⟨List.mem_map.2 ⟨i, by simpa using hi, rfl⟩, h⟩⟩
theorem these_next {cells wants blocked now S : List Int} (ht : ¬ TwiceP cells) (hw : Late cells wants now) (h : These cells blocked now S) :
    These cells blocked (nextG cells blocked now) ((behindG cells wants S).filter (stopB cells wants blocked (nextG cells blocked now))) := by
  have hw' : Late cells wants (nextG cells blocked now) := hw.next
  refine ⟨fun s hs => behindG_in s (List.mem_filter.1 hs).1, fun i hi => ?_⟩
  rw [List.mem_filter, stopB_iff, Int.toNat_natCast, stop_iff ht hw' hi]
  refine ⟨fun h => h.2, fun hk => ⟨?_, hk⟩⟩
  have hy : ∀ i, i < cells.length → ¬ KeptP cells blocked now i → (nextG cells blocked now).getD i 0 = now.getD i 0 := by
    intro i hi hne
    rw [nextG_at hi, if_neg (by rw [keptB_no hne]; simp)]
  obtain ⟨h0, hr⟩ := hk
  obtain ⟨hnk, he⟩ := nextG_moves hi h0
  have hne : now.getD i 0 ≠ cells.getD i 0 := by rw [← he]; exact h0
  have key : ∀ k, k < cells.length → k ≠ i → cells.getD k 0 = now.getD i 0 → KeptP cells blocked now k → (i : Int) ∈ behindG cells wants S := by
    intro k hk _ hc hkk
    refine List.mem_filterMap.2 ⟨(k : Int), (h.2 k hk).2 hkk, ?_⟩
    rw [Int.toNat_natCast, hc, ← he]
    exact hw.firsts hi h0
  rcases hr with hb | ⟨k, hk, hki, ⟨h1, h2⟩ | ⟨h1, h2, h3⟩ | ⟨h1, h2⟩⟩
  · exact absurd ⟨hne, .inl (by rw [← he]; exact hb)⟩ hnk
  · by_cases hkk : KeptP cells blocked now k
    · exact key k hk hki (by rw [h2, he]) hkk
    · rw [hy k hk hkk] at h1
      exact absurd ⟨hne, .inr ⟨k, hk, hki, .inl ⟨h1, by rw [h2, he]⟩⟩⟩ hnk
  · obtain ⟨_, hek⟩ := nextG_moves hk h1
    rw [hek] at h1 h2
    exact absurd ⟨hne, .inr ⟨k, hk, hki, .inr (.inl ⟨h1, by rw [h2, he], h3⟩)⟩⟩ hnk
  · by_cases hkk : KeptP cells blocked now k
    · exact key k hk hki (by rw [h1, he]) hkk
    · rw [hy k hk hkk] at h2
      exact absurd ⟨hne, .inr ⟨k, hk, hki, .inr (.inr ⟨by rw [h1, he], h2⟩)⟩⟩ hnk
/-- On the way: these are stopped now, and what comes of these requests comes of the first ones. -/
structure Going (cells wants blocked now S : List Int) : Prop where
  late : Late cells wants now
  these : These cells blocked now S
  goes : ∀ a, GoesTo cells blocked now a → GoesTo cells blocked wants a
  few : S.length ≤ cells.length
theorem Going.start {cells wants blocked : List Int} (ht : ¬ TwiceP cells) (hl : wants.length = cells.length) : Going cells wants blocked wants ((allG cells.length).filter (stopB cells wants blocked wants)) :=
  ⟨Late.start hl, these_first ht hl, fun _ => id, Nat.le_trans (List.length_filter_le _ _) (Nat.le_of_eq (allG_len _))⟩
theorem Going.has {cells wants blocked now S : List Int} (h : Going cells wants blocked now S) (hS : S ≠ []) : ∃ i, i < cells.length ∧ KeptP cells blocked now i := by
  obtain ⟨s, hs⟩ := List.exists_mem_of_ne_nil S hS
  obtain ⟨i, rfl, hi⟩ := h.these.1 s hs
  exact ⟨i, hi, (h.these.2 i hi).1 hs⟩
theorem Going.next {cells wants blocked now S : List Int} (ht : ¬ TwiceP cells) (h : Going cells wants blocked now S) (hS : S ≠ []) :
    Going cells wants blocked (haltG cells now S) ((behindG cells wants S).filter (stopB cells wants blocked (haltG cells now S))) := by
  rw [haltG_these h.these]
  exact ⟨h.late.next, these_next ht h.late h.these, fun a ha => h.goes a (.round now a (h.has hS) ha), Nat.le_trans (List.length_filter_le _ _) (Nat.le_trans (behindG_len _ _ _) h.few)⟩
theorem Going.less {cells wants blocked now S : List Int} (h : Going cells wants blocked now S) (hS : S ≠ []) : movers cells (haltG cells now S) < movers cells now := by
  rw [haltG_these h.these]; exact movers_next (h.has hS)
theorem Going.done {cells wants blocked now : List Int} (h : Going cells wants blocked now []) : gateG cells wants blocked = now :=
  gateG_of (h.goes now (.done now fun i hi hk => by have := (h.these.2 i hi).2 hk; simp at this))
end Go.Proofs.Ytccdblbnphmpjaa.Vm
