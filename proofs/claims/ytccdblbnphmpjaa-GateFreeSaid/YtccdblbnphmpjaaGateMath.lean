/- The plain mathematics of rounds in which robots are stopped: who is (KeptP), what comes of a round (nextG), of all of them (GoesTo), and what holds behind them. No program is named here. -/
import Derived.Test.YtccdblbnphmpjaaMath
namespace Go.Proofs.Ytccdblbnphmpjaa.Vm

/-- Robot i is stopped in a round. -/
def KeptP (cells blocked now : List Int) (i : Nat) : Prop :=
  now.getD i 0 ≠ cells.getD i 0 ∧ (now.getD i 0 ∈ blocked ∨ ∃ k, k < cells.length ∧ k ≠ i ∧
    ((now.getD k 0 = cells.getD k 0 ∧ cells.getD k 0 = now.getD i 0) ∨ (now.getD k 0 ≠ cells.getD k 0 ∧ now.getD k 0 = now.getD i 0 ∧ k < i) ∨ (cells.getD k 0 = now.getD i 0 ∧ now.getD k 0 = cells.getD i 0)))
noncomputable def keptB (cells blocked now : List Int) (i : Nat) : Bool := @decide (KeptP cells blocked now i) (Classical.propDecidable _)
theorem keptB_yes {cells blocked now : List Int} {i : Nat} (h : KeptP cells blocked now i) : keptB cells blocked now i = true := @decide_eq_true _ (Classical.propDecidable _) h
theorem keptB_no {cells blocked now : List Int} {i : Nat} (h : ¬ KeptP cells blocked now i) : keptB cells blocked now i = false := @decide_eq_false _ (Classical.propDecidable _) h
theorem keptB_iff {cells blocked now : List Int} {i : Nat} : keptB cells blocked now i = true ↔ KeptP cells blocked now i := by
  constructor
  · intro h
    by_cases hk : KeptP cells blocked now i
    · exact hk
    · rw [keptB_no hk] at h; cases h
  · exact keptB_yes
/-- The requests behind a round. -/
noncomputable def nextG (cells blocked now : List Int) : List Int := (List.range cells.length).map fun i => if keptB cells blocked now i = true then cells.getD i 0 else now.getD i 0
theorem nextG_len (cells blocked now : List Int) : (nextG cells blocked now).length = cells.length := by simp [nextG]
theorem nextG_at {cells blocked now : List Int} {i : Nat} (hi : i < cells.length) : (nextG cells blocked now).getD i 0 = if keptB cells blocked now i = true then cells.getD i 0 else now.getD i 0 := by
  simp [nextG, List.getD, hi]
/-- Behind all rounds. -/
inductive GoesTo (cells blocked : List Int) : List Int → List Int → Prop
  | done (now : List Int) : (∀ i, i < cells.length → ¬ KeptP cells blocked now i) → GoesTo cells blocked now now
  | round (now a : List Int) : (∃ i, i < cells.length ∧ KeptP cells blocked now i) → GoesTo cells blocked (nextG cells blocked now) a → GoesTo cells blocked now a
theorem GoesTo.cases_on {cells blocked now b : List Int} (h : GoesTo cells blocked now b) : (now = b ∧ ∀ i, i < cells.length → ¬ KeptP cells blocked now i) ∨ ((∃ i, i < cells.length ∧ KeptP cells blocked now i) ∧ GoesTo cells blocked (nextG cells blocked now) b) := by
  induction h with
  | done now h => exact .inl ⟨rfl, h⟩
  | round now a hk hg _ => exact .inr ⟨hk, hg⟩
theorem GoesTo.one {cells blocked now a b : List Int} (h : GoesTo cells blocked now a) : GoesTo cells blocked now b → a = b := by
  induction h with
  | done now h =>
    intro h'
    rcases h'.cases_on with ⟨e, _⟩ | ⟨⟨i, hi, hk⟩, _⟩
    · exact e
    · exact absurd hk (h i hi)
  | round now a hk _ ih =>
    intro h'
    rcases h'.cases_on with ⟨_, h⟩ | ⟨_, hg⟩
    · obtain ⟨i, hi, hk⟩ := hk; exact absurd hk (h i hi)
    · exact ih hg
theorem GoesTo.still {cells blocked now a : List Int} (h : GoesTo cells blocked now a) : ∀ i, i < cells.length → ¬ KeptP cells blocked a i := by
  induction h with
  | done now h => exact h
  | round now a _ _ ih => exact ih
/-- How many request to move. -/
def movers (cells now : List Int) : Nat := ((List.range cells.length).filter fun i => decide (now.getD i 0 ≠ cells.getD i 0)).length
theorem filter_lt {p q : Nat → Bool} : ∀ {l : List Nat}, (∀ x ∈ l, q x = true → p x = true) → (∃ x ∈ l, p x = true ∧ q x = false) → (l.filter q).length < (l.filter p).length
  | [], _, h => by obtain ⟨x, hx, _⟩ := h; simp at hx
  | y :: l, h1, h2 => by
    have hle : ∀ {m : List Nat}, (∀ x ∈ m, q x = true → p x = true) → (m.filter q).length ≤ (m.filter p).length := by
      intro m
      induction m with
      | nil => intro _; simp
      | cons z m ih =>
        intro hm
        have h3 := ih (fun x hx => hm x (by simp [hx]))
        by_cases hq : q z = true
        · rw [List.filter_cons_of_pos hq, List.filter_cons_of_pos (hm z (by simp) hq)]
          simpa using h3
        · rw [List.filter_cons_of_neg hq]
          by_cases hp : p z = true
          · rw [List.filter_cons_of_pos hp]; simp; omega
          · rw [List.filter_cons_of_neg hp]; exact h3
    obtain ⟨x, hx, hp, hq⟩ := h2
    have h1' : ∀ x ∈ l, q x = true → p x = true := fun x hx => h1 x (by simp [hx])
    rcases List.mem_cons.1 hx with rfl | hx
    · rw [List.filter_cons_of_pos hp, List.filter_cons_of_neg (by rw [hq]; simp)]
      have := hle h1'
      simp
      omega
    · have ih := filter_lt h1' ⟨x, hx, hp, hq⟩
      by_cases hqy : q y = true
      · rw [List.filter_cons_of_pos hqy, List.filter_cons_of_pos (h1 y (by simp) hqy)]
        simpa using ih
      · rw [List.filter_cons_of_neg hqy]
        by_cases hpy : p y = true
        · rw [List.filter_cons_of_pos hpy]; simp; omega
        · rw [List.filter_cons_of_neg hpy]; exact ih
theorem movers_next {cells blocked now : List Int} (h : ∃ i, i < cells.length ∧ KeptP cells blocked now i) : movers cells (nextG cells blocked now) < movers cells now := by
  obtain ⟨i, hi, hk⟩ := h
  refine filter_lt (fun x hx hq => ?_) ⟨i, by simpa using hi, by simpa using hk.1, ?_⟩
  · have hx' : x < cells.length := by simpa using hx
    rw [decide_eq_true_eq, nextG_at hx'] at hq
    rw [decide_eq_true_eq]
    by_cases hb : keptB cells blocked now x = true
    · rw [if_pos hb] at hq; exact absurd rfl hq
    · rw [if_neg hb] at hq; exact hq
  · rw [decide_eq_false_iff_not, nextG_at hi, if_pos (keptB_yes hk)]
    simp
/-- There is an end. -/
theorem goesTo_ex (cells blocked : List Int) : ∀ (m : Nat) (now : List Int), movers cells now ≤ m → ∃ a, GoesTo cells blocked now a
  | 0, now, h => by
    refine ⟨now, .done now fun i hi hk => ?_⟩
    have := movers_next ⟨i, hi, hk⟩
    omega
  | m + 1, now, h => by
    by_cases hk : ∃ i, i < cells.length ∧ KeptP cells blocked now i
    · have := movers_next hk
      obtain ⟨a, ha⟩ := goesTo_ex cells blocked m (nextG cells blocked now) (by omega)
      exact ⟨a, .round now a hk ha⟩
    · exact ⟨now, .done now fun i hi h => hk ⟨i, hi, h⟩⟩
noncomputable def gateG (cells wants blocked : List Int) : List Int := Classical.choose (goesTo_ex cells blocked _ wants (Nat.le_refl _))
theorem gateG_goes (cells wants blocked : List Int) : GoesTo cells blocked wants (gateG cells wants blocked) := Classical.choose_spec (goesTo_ex cells blocked _ wants (Nat.le_refl _))
theorem gateG_of {cells wants blocked a : List Int} (h : GoesTo cells blocked wants a) : gateG cells wants blocked = a := (gateG_goes cells wants blocked).one h
/-- Who stays, or goes where it was to go. -/
theorem goesTo_or {cells blocked now a : List Int} (h : GoesTo cells blocked now a) : ∀ i, i < cells.length → a.getD i 0 = cells.getD i 0 ∨ a.getD i 0 = now.getD i 0 := by
  induction h with
  | done now h => exact fun i _ => .inr rfl
  | round now a _ _ ih =>
    intro i hi
    rcases ih i hi with h1 | h1
    · exact .inl h1
    · rw [nextG_at hi] at h1
      by_cases hb : keptB cells blocked now i = true
      · rw [if_pos hb] at h1; exact .inl h1
      · rw [if_neg hb] at h1; exact .inr h1
theorem goesTo_len {cells blocked now a : List Int} (h : GoesTo cells blocked now a) : now.length = cells.length → a.length = cells.length := by
  induction h with
  | done now h => exact id
  | round now a _ _ ih => exact fun _ => ih (nextG_len _ _ _)
/-- Behind the rounds none meet. -/
theorem still_safe {cells blocked a : List Int} (hs : ∀ i, i < cells.length → ¬ KeptP cells blocked a i) (hd : ∀ i k, i < cells.length → k < cells.length → i ≠ k → cells.getD i 0 ≠ cells.getD k 0) {i k : Nat} (hi : i < cells.length) (hk : k < cells.length) (hik : k < i) :
    a.getD i 0 ≠ a.getD k 0 ∧ ¬ (a.getD i 0 = cells.getD k 0 ∧ a.getD k 0 = cells.getD i 0) := by
  have hd1 := hd i k hi hk (by omega)
  constructor
  · intro he
    by_cases h1 : a.getD i 0 = cells.getD i 0
    · by_cases h2 : a.getD k 0 = cells.getD k 0
      · exact hd1 (by rw [← h1, he, h2])
      · exact hs k hk ⟨h2, .inr ⟨i, hi, by omega, .inl ⟨h1, by rw [← h1, he]⟩⟩⟩
    · by_cases h2 : a.getD k 0 = cells.getD k 0
      · exact hs i hi ⟨h1, .inr ⟨k, hk, by omega, .inl ⟨h2, by rw [← h2, he]⟩⟩⟩
      · exact hs i hi ⟨h1, .inr ⟨k, hk, by omega, .inr (.inl ⟨h2, he.symm, hik⟩)⟩⟩
  · rintro ⟨h1, h2⟩
    by_cases h3 : a.getD i 0 = cells.getD i 0
    · exact hd1 (by rw [← h3, h1])
    · exact hs i hi ⟨h3, .inr ⟨k, hk, by omega, .inr (.inr ⟨h1.symm, h2⟩)⟩⟩
theorem still_free {cells blocked a : List Int} (hs : ∀ i, i < cells.length → ¬ KeptP cells blocked a i) {i : Nat} (hi : i < cells.length) (hb : a.getD i 0 ∈ blocked) : a.getD i 0 = cells.getD i 0 := by
  by_cases h : a.getD i 0 = cells.getD i 0
  · exact h
  · exact absurd ⟨h, .inl hb⟩ (hs i hi)
/-- Who wants to go where nobody is, and nobody else wants to go, goes. -/
theorem goesTo_free {cells blocked wants : List Int} {i : Nat} (hi : i < cells.length) (h1 : ∀ k, k < cells.length → cells.getD k 0 ≠ wants.getD i 0) (h2 : ∀ k, k < cells.length → k ≠ i → wants.getD k 0 ≠ wants.getD i 0) (h3 : wants.getD i 0 ∉ blocked) {now a : List Int} (h : GoesTo cells blocked now a) :
    now.getD i 0 = wants.getD i 0 → (∀ k, k < cells.length → now.getD k 0 = cells.getD k 0 ∨ now.getD k 0 = wants.getD k 0) → a.getD i 0 = wants.getD i 0 := by
  induction h with
  | done now h => exact fun e _ => e
  | round now a _ _ ih =>
    intro e ho
    have hk : ¬ KeptP cells blocked now i := by
      rintro ⟨_, hb | ⟨k, hk, hki, ⟨_, h5⟩ | ⟨h4, h5, _⟩ | ⟨h4, _⟩⟩⟩
      · exact h3 (by rw [← e]; exact hb)
      · exact h1 k hk (by rw [h5, e])
      · rcases ho k hk with h6 | h6
        · exact h4 h6
        · exact h2 k hk hki (by rw [← h6, h5, e])
      · exact h1 k hk (by rw [h4, e])
    refine ih (by rw [nextG_at hi, if_neg (by rw [keptB_no hk]; simp)]; exact e) (fun k hk2 => ?_)
    rw [nextG_at hk2]
    by_cases hb : keptB cells blocked now k = true
    · rw [if_pos hb]; exact .inl rfl
    · rw [if_neg hb]; exact ho k hk2
/-- Asked again, nobody else is stopped. -/
theorem gateG_again {cells wants blocked : List Int} : gateG cells (gateG cells wants blocked) blocked = gateG cells wants blocked := gateG_of (.done _ (gateG_goes cells wants blocked).still)
/-- Two who meet. -/
def MeetP (fr to : List Int) (i k : Nat) : Prop := to.getD i 0 = to.getD k 0 ∨ (to.getD i 0 = fr.getD k 0 ∧ to.getD k 0 = fr.getD i 0)
/-- The first one whom another one meets, and the first one whom he meets; or none. -/
def ClashIs (fr to : List Int) (n : Nat) (x y : Int) : Prop :=
  (x = -1 ∧ y = -1 ∧ ∀ i k, i < k → k < n → ¬ MeetP fr to i k) ∨
  ∃ i k : Nat, x = i ∧ y = k ∧ i < k ∧ k < n ∧ MeetP fr to i k ∧ (∀ j l, j < i → j < l → l < n → ¬ MeetP fr to j l) ∧ ∀ l, i < l → l < k → ¬ MeetP fr to i l
theorem ClashIs.one {fr to : List Int} {n : Nat} {x y p q : Int} (h : ClashIs fr to n x y) (h' : ClashIs fr to n p q) : x = p ∧ y = q := by
  rcases h with ⟨rfl, rfl, h⟩ | ⟨i, k, rfl, rfl, h1, h2, h3, h4, h5⟩ <;> rcases h' with ⟨rfl, rfl, h'⟩ | ⟨i', k', rfl, rfl, h1', h2', h3', h4', h5'⟩
  · exact ⟨rfl, rfl⟩
  · exact absurd h3' (h _ _ h1' h2')
  · exact absurd h3 (h' _ _ h1 h2)
  · have e : i = i' := by
      rcases Nat.lt_trichotomy i i' with hl | hl | hl
      · exact absurd h3 (h4' _ _ hl h1 h2)
      · exact hl
      · exact absurd h3' (h4 _ _ hl h1' h2')
    subst e
    have e : k = k' := by
      rcases Nat.lt_trichotomy k k' with hl | hl | hl
      · exact absurd h3 (h5' _ h1 hl)
      · exact hl
      · exact absurd h3' (h5 _ h1' hl)
    subst e
    exact ⟨rfl, rfl⟩
theorem meets_row {fr to : List Int} {i j : Nat} (h : ∀ l, i < l → l < j → ¬ MeetP fr to i l) (hn : ¬ MeetP fr to i j) : ∀ l, i < l → l < j + 1 → ¬ MeetP fr to i l := fun l h1 h2 => by
  by_cases e : l = j
  · subst e; exact hn
  · exact h l h1 (by omega)
theorem meets_all {fr to : List Int} {i n : Nat} (h : ∀ j l, j < i → j < l → l < n → ¬ MeetP fr to j l) (hn : ∀ l, i < l → l < n → ¬ MeetP fr to i l) : ∀ j l, j < i + 1 → j < l → l < n → ¬ MeetP fr to j l := fun j l h1 h2 h3 => by
  by_cases e : j = i
  · subst e; exact hn l h2 h3
  · exact h j l (by omega) h2 h3
/-- A round, as far as robot i. -/
noncomputable def partG (cells blocked now : List Int) (i : Nat) : List Int := (List.range cells.length).map fun j => if j < i ∧ keptB cells blocked now j = true then cells.getD j 0 else now.getD j 0
theorem partG_len (cells blocked now : List Int) (i : Nat) : (partG cells blocked now i).length = cells.length := by simp [partG]
theorem partG_zero {cells blocked now : List Int} (h : now.length = cells.length) : partG cells blocked now 0 = now := by
  apply List.ext_getElem
  · rw [partG_len, h]
  · intro j h1 h2
    simp [partG, List.getD, h2]
theorem partG_full (cells blocked now : List Int) : partG cells blocked now cells.length = nextG cells blocked now := by
  apply List.ext_getElem
  · rw [partG_len, nextG_len]
  · intro j h1 h2
    have : j < cells.length := by rwa [partG_len] at h1
    simp [partG, nextG, this]
theorem partG_yes {cells blocked now : List Int} {i : Nat} (hk : keptB cells blocked now i = true) : partG cells blocked now (i + 1) = (partG cells blocked now i).set i (cells.getD i 0) := by
  apply List.ext_getElem
  · rw [List.length_set, partG_len, partG_len]
  · intro j h1 h2
    rw [List.getElem_set]
    by_cases e : i = j
    · subst e
      simp [partG, hk]
    · rw [if_neg e]
      simp only [partG, List.getElem_map, List.getElem_range, show (j < i + 1) = (j < i) from propext ⟨fun _ => by omega, fun _ => by omega⟩]
theorem partG_no {cells blocked now : List Int} {i : Nat} (hk : keptB cells blocked now i = false) : partG cells blocked now (i + 1) = partG cells blocked now i := by
  apply List.ext_getElem
  · rw [partG_len, partG_len]
  · intro j h1 h2
    by_cases e : i = j
    · subst e
      simp [partG, hk]
    · simp only [partG, List.getElem_map, List.getElem_range, show (j < i + 1) = (j < i) from propext ⟨fun _ => by omega, fun _ => by omega⟩]
noncomputable def anyK (cells blocked now : List Int) (i : Nat) : Bool := (List.range i).any (keptB cells blocked now)
theorem anyK_more (cells blocked now : List Int) (i : Nat) : anyK cells blocked now (i + 1) = (anyK cells blocked now i || keptB cells blocked now i) := by simp [anyK, List.range_succ]
theorem anyK_no {cells blocked now : List Int} {n : Nat} (h : anyK cells blocked now n = false) : ∀ i, i < n → ¬ KeptP cells blocked now i := by
  intro i hi hk
  have : anyK cells blocked now n = true := List.any_eq_true.2 ⟨i, by simpa using hi, keptB_yes hk⟩
  rw [h] at this
  cases this
theorem anyK_yes {cells blocked now : List Int} {n : Nat} (h : anyK cells blocked now n = true) : ∃ i, i < n ∧ KeptP cells blocked now i := by
  obtain ⟨i, hi, hk⟩ := List.any_eq_true.1 h
  exact ⟨i, by simpa using hi, keptB_iff.1 hk⟩
theorem nextG_same {cells blocked now : List Int} (hl : now.length = cells.length) (h : ∀ i, i < cells.length → ¬ KeptP cells blocked now i) : nextG cells blocked now = now := by
  apply List.ext_getElem
  · rw [nextG_len, hl]
  · intro j h1 h2
    have hj : j < cells.length := by rwa [nextG_len] at h1
    simp [nextG, keptB_no (h j hj), List.getD, h2]
/-- On the way from the wants: what comes of these comes of those; and where no news came, all is still. -/
def OnWay (cells blocked wants now : List Int) (news : Bool) : Prop := now.length = cells.length ∧ (∀ a, GoesTo cells blocked now a → GoesTo cells blocked wants a) ∧ (news = false → ∀ i, i < cells.length → ¬ KeptP cells blocked now i)
theorem OnWay.start {cells blocked wants : List Int} (h : wants.length = cells.length) : OnWay cells blocked wants wants true := ⟨h, fun _ => id, fun h => by cases h⟩
theorem OnWay.next {cells blocked wants now : List Int} {news : Bool} (h : OnWay cells blocked wants now news) : OnWay cells blocked wants (nextG cells blocked now) (anyK cells blocked now cells.length) := by
  cases hk : anyK cells blocked now cells.length
  · have hn := anyK_no hk
    rw [nextG_same h.1 hn]
    exact ⟨h.1, h.2.1, fun _ => hn⟩
  · exact ⟨nextG_len _ _ _, fun a ha => h.2.1 a (.round now a (anyK_yes hk) ha), fun h => by cases h⟩
theorem OnWay.less {cells blocked wants now : List Int} (h : OnWay cells blocked wants now true) : 2 * movers cells (nextG cells blocked now) + (if anyK cells blocked now cells.length = true then 1 else 0) < 2 * movers cells now + 1 := by
  cases hk : anyK cells blocked now cells.length
  · rw [nextG_same h.1 (anyK_no hk)]; simp
  · have := movers_next (anyK_yes hk)
    simp
    omega
theorem OnWay.done {cells blocked wants now : List Int} (h : OnWay cells blocked wants now false) : gateG cells wants blocked = now := gateG_of (h.2.1 _ (.done _ (h.2.2 rfl)))
/-- Does one stand where one before him stands? -/
def TwiceP (cells : List Int) : Prop := ∃ i, i < cells.length ∧ cells.getD i 0 ∈ cells.take i
/-- The document's answer: these cells, this error. -/
def GateOut (cells wants blocked out : List Int) (x : Int) : Prop :=
  (cells.length ≠ wants.length ∧ out = [] ∧ x = 1) ∨ (cells.length = wants.length ∧ TwiceP cells ∧ out = [] ∧ x = 6) ∨ (cells.length = wants.length ∧ ¬ TwiceP cells ∧ out = gateG cells wants blocked ∧ x = 0)
theorem GateOut.one {cells wants blocked out out' : List Int} {x x' : Int} (h : GateOut cells wants blocked out x) (h' : GateOut cells wants blocked out' x') : out = out' ∧ x = x' := by
  rcases h with ⟨h1, rfl, rfl⟩ | ⟨h1, h2, rfl, rfl⟩ | ⟨h1, h2, rfl, rfl⟩ <;> rcases h' with ⟨h1', rfl, rfl⟩ | ⟨h1', h2', rfl, rfl⟩ | ⟨h1', h2', rfl, rfl⟩ <;> first | exact ⟨rfl, rfl⟩ | exact absurd h1' h1 | exact absurd h1 h1' | exact absurd h2' h2 | exact absurd h2 h2'
end Go.Proofs.Ytccdblbnphmpjaa.Vm
