/- The words of gate.Clash's walk: the least of the greater ones, a map of moves as a function. -/
import Derived.Test.YtccdblbnphmpjaaGateWords
import Derived.WideKeyPair
import Derived.DeepKeys4
import Derived.ChangeKeys
namespace Go.Proofs.Ytccdblbnphmpjaa.Vm
open Go Go.RowKit Go.Maps

/-- The least from m on, below n. -/
def leastG (p : Nat → Bool) (m n : Nat) : Option Nat := (List.range' m (n - m)).find? p
theorem leastG_end (p : Nat → Bool) (n : Nat) : leastG p n n = none := by simp [leastG]
theorem leastG_step {p : Nat → Bool} {m n : Nat} (h : m < n) : leastG p m n = if p m = true then some m else leastG p (m + 1) n := by
  unfold leastG
  obtain ⟨k, rfl⟩ : ∃ k, n = m + 1 + k := ⟨n - m - 1, by omega⟩
  rw [show m + 1 + k - m = k + 1 by omega, show m + 1 + k - (m + 1) = k by omega, List.range'_succ, List.find?_cons]
  cases p m <;> rfl
theorem leastG_none {p : Nat → Bool} {m n : Nat} (h : leastG p m n = none) : ∀ j, m ≤ j → j < n → p j = false := by
  intro j h1 h2
  have := List.find?_eq_none.1 h j (by rw [List.mem_range'_1]; omega)
  simpa using this
theorem leastG_some {p : Nat → Bool} {n x : Nat} : ∀ (d m : Nat), n - m = d → leastG p m n = some x → m ≤ x ∧ x < n ∧ p x = true ∧ ∀ j, m ≤ j → j < x → p j = false
  | 0, m, hd, h => by
    unfold leastG at h
    rw [hd] at h
    cases h
  | d + 1, m, hd, h => by
    rw [leastG_step (by omega)] at h
    by_cases hp : p m = true
    · rw [if_pos hp] at h
      injection h with h
      subst h
      exact ⟨Nat.le_refl _, by omega, hp, fun j h1 h2 => by omega⟩
    · rw [if_neg hp] at h
      obtain ⟨h1, h2, h3, h4⟩ := leastG_some d (m + 1) (by omega) h
      refine ⟨by omega, h2, h3, fun j h5 h6 => ?_⟩
      by_cases e : j = m
      · subst e; simpa using hp
      · exact h4 j (by omega) h6

/-- Who arrives in a cell; who makes a move. -/
def arrF (to : List Int) (m n : Nat) (y : Int) : Option Int := (leastG (fun j => decide (to.getD j 0 = y)) m n).map fun (j : Nat) => (j : Int)
def movF (fr to : List Int) (m n : Nat) (x y : Int) : Option Int := (leastG (fun j => decide (fr.getD j 0 = x ∧ to.getD j 0 = y)) m n).map fun (j : Nat) => (j : Int)
theorem arrF_step {to : List Int} {m n : Nat} (h : m < n) (y : Int) : arrF to m n y = if y = to.getD m 0 then some (m : Int) else arrF to (m + 1) n y := by
  unfold arrF
  rw [leastG_step h]
  by_cases e : to.getD m 0 = y
  · subst e; simp
  · rw [if_neg (by simpa using e), if_neg (fun e' => e e'.symm)]
theorem movF_step {fr to : List Int} {m n : Nat} (h : m < n) (x y : Int) : movF fr to m n x y = if x = fr.getD m 0 ∧ y = to.getD m 0 then some (m : Int) else movF fr to (m + 1) n x y := by
  unfold movF
  rw [leastG_step h]
  by_cases e : fr.getD m 0 = x ∧ to.getD m 0 = y
  · obtain ⟨rfl, rfl⟩ := e
    simp
  · rw [if_neg (by simpa using e), if_neg (fun e' => e ⟨e'.1.symm, e'.2.symm⟩)]

/-- The first one of those from m on whom another one meets, and the first one whom he meets. -/
def ClashFrom (fr to : List Int) (m n : Nat) (x y : Int) : Prop :=
  (x = -1 ∧ y = -1 ∧ ∀ i k, m ≤ i → i < k → k < n → ¬ MeetP fr to i k) ∨
  ∃ i k : Nat, x = i ∧ y = k ∧ m ≤ i ∧ i < k ∧ k < n ∧ MeetP fr to i k ∧ (∀ j l, m ≤ j → j < i → j < l → l < n → ¬ MeetP fr to j l) ∧ ∀ l, i < l → l < k → ¬ MeetP fr to i l
theorem ClashFrom.start (fr to : List Int) (n : Nat) : ClashFrom fr to n n (-1) (-1) := .inl ⟨rfl, rfl, fun i k h1 h2 h3 => by omega⟩
theorem ClashFrom.done {fr to : List Int} {n : Nat} {x y : Int} (h : ClashFrom fr to 0 n x y) : ClashIs fr to n x y := by
  rcases h with ⟨h1, h2, h3⟩ | ⟨i, k, h1, h2, _, h3, h4, h5, h6, h7⟩
  · exact .inl ⟨h1, h2, fun i k => h3 i k (Nat.zero_le _)⟩
  · exact .inr ⟨i, k, h1, h2, h3, h4, h5, fun j l => h6 j l (Nat.zero_le _), h7⟩
/-- Nobody meets the next one. -/
theorem ClashFrom.on {fr to : List Int} {r n : Nat} {x y : Int} (h : ClashFrom fr to (r + 1) n x y) (hn : ∀ k, r < k → k < n → ¬ MeetP fr to r k) : ClashFrom fr to r n x y := by
  have key : ∀ j l, j < r + 1 → r ≤ j → j < l → l < n → ¬ MeetP fr to j l := fun j l h1 h2 h3 h4 => by
    obtain rfl : j = r := by omega
    exact hn l h3 h4
  rcases h with ⟨h1, h2, h3⟩ | ⟨i, k, h1, h2, h0, h3, h4, h5, h6, h7⟩
  · refine .inl ⟨h1, h2, fun i k hi hk hkn => ?_⟩
    by_cases e : i < r + 1
    · exact key i k e hi hk hkn
    · exact h3 i k (by omega) hk hkn
  · refine .inr ⟨i, k, h1, h2, by omega, h3, h4, h5, fun j l hj hji hjl hl => ?_, h7⟩
    by_cases e : j < r + 1
    · exact key j l e hj hjl hl
    · exact h6 j l (by omega) hji hjl hl
/-- The next one is met. -/
theorem ClashFrom.hit {fr to : List Int} {r k n : Nat} (h1 : r < k) (h2 : k < n) (h3 : MeetP fr to r k) (h4 : ∀ l, r < l → l < k → ¬ MeetP fr to r l) : ClashFrom fr to r n (r : Int) (k : Int) :=
  .inr ⟨r, k, rfl, rfl, Nat.le_refl _, h1, h2, h3, fun j l z1 z2 => by omega, h4⟩

theorem arrF_none {to : List Int} {m n : Nat} {y : Int} (h : arrF to m n y = none) : ∀ j, m ≤ j → j < n → to.getD j 0 ≠ y := fun j h1 h2 => by
  have := leastG_none (Option.map_eq_none_iff.1 h) j h1 h2
  simpa using this
theorem arrF_some {to : List Int} {m n : Nat} {y x : Int} (h : arrF to m n y = some x) : ∃ j : Nat, x = j ∧ m ≤ j ∧ j < n ∧ to.getD j 0 = y ∧ ∀ l, m ≤ l → l < j → to.getD l 0 ≠ y := by
  obtain ⟨j, hj, rfl⟩ := Option.map_eq_some_iff.1 h
  obtain ⟨h1, h2, h3, h4⟩ := leastG_some _ m rfl hj
  exact ⟨j, rfl, h1, h2, by simpa using h3, fun l z1 z2 => by simpa using h4 l z1 z2⟩
theorem movF_none {fr to : List Int} {m n : Nat} {x y : Int} (h : movF fr to m n x y = none) : ∀ j, m ≤ j → j < n → ¬ (fr.getD j 0 = x ∧ to.getD j 0 = y) := fun j h1 h2 => by
  have := leastG_none (Option.map_eq_none_iff.1 h) j h1 h2
  simpa using this
theorem movF_some {fr to : List Int} {m n : Nat} {x y z : Int} (h : movF fr to m n x y = some z) : ∃ j : Nat, z = j ∧ m ≤ j ∧ j < n ∧ (fr.getD j 0 = x ∧ to.getD j 0 = y) ∧ ∀ l, m ≤ l → l < j → ¬ (fr.getD l 0 = x ∧ to.getD l 0 = y) := by
  obtain ⟨j, hj, rfl⟩ := Option.map_eq_some_iff.1 h
  obtain ⟨h1, h2, h3, h4⟩ := leastG_some _ m rfl hj
  exact ⟨j, rfl, h1, h2, by simpa using h3, fun l z1 z2 => by simpa using h4 l z1 z2⟩
section
variable {fr to : List Int} {r n : Nat}
theorem meet_mov {k : Nat} (h : fr.getD k 0 = to.getD r 0 ∧ to.getD k 0 = fr.getD r 0) : MeetP fr to r k := .inr ⟨h.1.symm, h.2⟩
theorem not_meet {k : Nat} (h1 : to.getD k 0 ≠ to.getD r 0) (h2 : ¬ (fr.getD k 0 = to.getD r 0 ∧ to.getD k 0 = fr.getD r 0)) : ¬ MeetP fr to r k := by
  rintro (h | ⟨h3, h4⟩)
  · exact h1 h.symm
  · exact h2 ⟨h3.symm, h4⟩
theorem clash_nn {x y : Int} (h : ClashFrom fr to (r + 1) n x y) (ha : arrF to (r + 1) n (to.getD r 0) = none) (hm : movF fr to (r + 1) n (to.getD r 0) (fr.getD r 0) = none) : ClashFrom fr to r n x y :=
  h.on fun k h1 h2 => not_meet (arrF_none ha k h1 h2) (movF_none hm k h1 h2)
theorem clash_sn {x : Int} (ha : arrF to (r + 1) n (to.getD r 0) = some x) (hm : movF fr to (r + 1) n (to.getD r 0) (fr.getD r 0) = none) : ClashFrom fr to r n (r : Int) x := by
  obtain ⟨k, rfl, h1, h2, h3, h4⟩ := arrF_some ha
  exact .hit h1 h2 (.inl h3.symm) fun l z1 z2 => not_meet (h4 l z1 z2) (movF_none hm l z1 (by omega))
theorem clash_ns {x : Int} (ha : arrF to (r + 1) n (to.getD r 0) = none) (hm : movF fr to (r + 1) n (to.getD r 0) (fr.getD r 0) = some x) : ClashFrom fr to r n (r : Int) x := by
  obtain ⟨k, rfl, h1, h2, h3, h4⟩ := movF_some hm
  exact .hit h1 h2 (meet_mov h3) fun l z1 z2 => not_meet (arrF_none ha l z1 (by omega)) (h4 l z1 z2)
theorem clash_ss {x z : Int} (ha : arrF to (r + 1) n (to.getD r 0) = some x) (hm : movF fr to (r + 1) n (to.getD r 0) (fr.getD r 0) = some z) : ClashFrom fr to r n (r : Int) (if z < x then z else x) := by
  obtain ⟨k, rfl, h1, h2, h3, h4⟩ := arrF_some ha
  obtain ⟨k', rfl, h1', h2', h3', h4'⟩ := movF_some hm
  by_cases e : (k' : Int) < (k : Int)
  · rw [if_pos e]
    exact .hit h1' h2' (meet_mov h3') fun l z1 z2 => not_meet (h4 l z1 (by omega)) (h4' l z1 z2)
  · rw [if_neg e]
    exact .hit h1 h2 (.inl h3.symm) fun l z1 z2 => not_meet (h4 l z1 z2) (h4' l z1 (by omega))
end

/-- A move as a key. -/
def moveK (x y : Int) : Lit := .string (keyBytes [.int .i64 x, .int .i64 y])
theorem moveK_inj {x y x' y' : Int} (hx : (Lit.int .i64 x).wf = true) (hy : (Lit.int .i64 y).wf = true) (hx' : (Lit.int .i64 x').wf = true) (hy' : (Lit.int .i64 y').wf = true) (h : moveK x y = moveK x' y') : x = x' ∧ y = y' := by
  injection h with h
  have := Go.keyBytes_inj (l := [.int .i64 x, .int .i64 y]) (l' := [.int .i64 x', .int .i64 y']) ⟨rfl, rfl, trivial⟩ (by simp [Go.Lit.keyWf, hx, hy]) (by simp [Go.Lit.keyWf, hx', hy']) h
  simp at this
  exact this
theorem laidOut8 : laidOutB Try.prog = true := by kernel_rfl
theorem move_keyed : Keyed Try.prog 46 := Keyed.of_law (deep_law_laid laidOut8 (m := 2) (by omega) (of_decide_eq_true (by kernel_rfl)) (by kernel_rfl) (by rw [Try.underlying46]))
theorem keyOf_move {x y : Int} (hx : (Lit.int .i64 x).wf = true) (hy : (Lit.int .i64 y).wf = true) : keyOf Try.prog 46 (.agg #[.int .i64 x, .int .i64 y]) = some (moveK x y) := by
  have hkt : Try.prog.keyType 46 = true := by kernel_rfl
  have hcl : Try.prog.cellsOf 46 = 2 := by kernel_rfl
  have hci : Try.prog.cellsOf 3 = 1 := by kernel_rfl
  obtain ⟨m, hm⟩ : ∃ m, Try.prog.types.size = m + 1 := ⟨Try.prog.types.size - 1, by kernel_rfl⟩
  unfold keyOf
  simp only [Try.underlying46]
  rw [if_pos (by simp [hkt, Value.formed, Try.underlying46, hcl]), hm]
  unfold Program.keyLits
  simp only [Try.underlying46, Value.cells]
  rw [if_pos (by simp [hcl])]
  simp [hci, Program.keyLits, Try.underlying3, hx, hy, moveK]

theorem make_mapV (n : Nat) (w : World) : (Instr.makeMap 43 (some (.int .i64 (n : Int)))).run Try.prog w = .ok (.map (some w.heap.size)) (w.alloc (.map #[] 0)) := by
  simp [Instr.makeMap, go_sem, Result.andThen]
/-- In block mb lies a map of moves that says what f says. -/
def MovIn (w : World) (mb n : Nat) (f : Int → Int → Option Int) : Prop :=
  ∃ D : DataW Unit, w.ownsMap Try.prog 46 (plainElem Try.prog 3) mb n D ∧ IsMap D ∧
    (∀ x y, (Lit.int .i64 x).wf = true → (Lit.int .i64 y).wf = true → f x y = none → Maps.has D (moveK x y) = false) ∧
    ∀ x y z, (Lit.int .i64 x).wf = true → (Lit.int .i64 y).wf = true → f x y = some z → Maps.has D (moveK x y) = true ∧ ∀ u, D.atKey (moveK x y) u = .lit (.int .i64 z)
theorem MovIn.keep {w w' : World} {mb n : Nat} {f : Int → Int → Option Int} (h : MovIn w mb n f) (hk : w'.heap[mb]? = w.heap[mb]?) : MovIn w' mb n f := by
  obtain ⟨D, ⟨es, clock, hb, r⟩, h2⟩ := h
  exact ⟨D, ⟨es, clock, hk.trans hb, r⟩, h2⟩
theorem MovIn.lt {w : World} {mb n : Nat} {f : Int → Int → Option Int} (h : MovIn w mb n f) : mb < w.heap.size := by
  obtain ⟨D, hown, _⟩ := h
  exact World.ownsMap.lt hown
theorem movIn_new (w : World) {f : Int → Int → Option Int} (hf : ∀ x y, f x y = none) : MovIn (w.alloc (.map #[] 0)) w.heap.size 0 f :=
  ⟨.map [], World.ownsMap_made w Try.prog 46 (plainElem Try.prog 3), isMap_empty, fun _ _ _ _ _ => rfl, fun x y z _ _ hz => by rw [hf x y] at hz; cases hz⟩
theorem MovIn.to {w : World} {mb n : Nat} {f g : Int → Int → Option Int} (h : MovIn w mb n f) (hg : ∀ x y, g x y = f x y) : MovIn w mb n g := by
  obtain ⟨D, hown, hm, h0, h1⟩ := h
  exact ⟨D, hown, hm, fun x y wx wy hz => h0 x y wx wy (by rw [← hg x y]; exact hz), fun x y z wx wy hz => h1 x y z wx wy (by rw [← hg x y]; exact hz)⟩
theorem MovIn.look {w : World} {mb n : Nat} {f : Int → Int → Option Int} (h : MovIn w mb n f) {x y : Int} (hx : (Lit.int .i64 x).wf = true) (hy : (Lit.int .i64 y).wf = true) :
    (Instr.lookup 43 (.map (some mb)) (.agg #[.int .i64 x, .int .i64 y]) true).run Try.prog w = .ok (.tuple #[.int .i64 ((f x y).getD 0), .bool (f x y).isSome]) w := by
  obtain ⟨D, hown, hm, h0, h1⟩ := h
  obtain ⟨v, ps, hrun, hv⟩ := hown.look_ok move_keyed Try.underlying43 (zero_intI w) (plainElem_int Try.underlying3 (by decide)) (keyOf_move hx hy)
  obtain ⟨c, rfl, hc, _⟩ := plainElem_int_inv Try.underlying3 hv
  simp only [Prod.mk.injEq] at hc
  cases e : f x y with
  | none =>
    rw [h0 x y hx hy e, atKey_of_not_has (h0 x y hx hy e)] at *
    have hc := hc.1
    injection hc with hc
    injection hc with _ hc
    rw [hrun, ← hc]
    rfl
  | some z =>
    rw [(h1 x y z hx hy e).1, (h1 x y z hx hy e).2] at *
    have hc := hc.1
    injection hc with hc
    injection hc with _ hc
    rw [hrun, ← hc]
    rfl
theorem MovIn.put {w : World} {mb n : Nat} {f : Int → Int → Option Int} (h : MovIn w mb n f) (hn : n < 1000000000) {x y z : Int} (hx : (Lit.int .i64 x).wf = true) (hy : (Lit.int .i64 y).wf = true) (hz : (Lit.int .i64 z).wf = true) :
    ∃ w', (Instr.mapUpdate 43 (.map (some mb)) (.agg #[.int .i64 x, .int .i64 y]) (.int .i64 z)).run Try.prog w = .ok () w' ∧ MovIn w' mb (n + 1) (fun x' y' => if x' = x ∧ y' = y then some z else f x' y') ∧ w.grownBy w' (some mb) := by
  obtain ⟨D, hown, hm, h0, h1⟩ := h
  obtain ⟨w', hrun, hown', hg⟩ := hown.update move_keyed Try.underlying43 (by unfold maxLen; omega) (keyOf_move hx hy) (plainElem_int (H := Unit) Try.underlying3 hz)
  have hne : ∀ {x' y'}, (Lit.int .i64 x').wf = true → (Lit.int .i64 y').wf = true → ¬ (x' = x ∧ y' = y) → moveK x' y' ≠ moveK x y := fun wx wy e h => e (moveK_inj wx wy hx hy h)
  refine ⟨w', hrun, ⟨_, hown', hm.put _ _, fun x' y' wx wy hq => ?_, fun x' y' c wx wy hq0 => ?_⟩, hg⟩
  · have hq : (if x' = x ∧ y' = y then some z else f x' y') = none := hq
    by_cases e : x' = x ∧ y' = y
    · rw [if_pos e] at hq; cases hq
    · rw [if_neg e] at hq
      rw [has_put_other (hne wx wy e)]
      exact h0 x' y' wx wy hq
  · have hq : (if x' = x ∧ y' = y then some z else f x' y') = some c := hq0
    by_cases e : x' = x ∧ y' = y
    · rw [if_pos e] at hq
      injection hq with hq
      obtain ⟨rfl, rfl⟩ := e
      subst hq
      clear hq0
      have hkl : WideAt.IsKeyLit (moveK x' y') := trivial
      exact ⟨has_put_same hm hkl _, fun u => atKey_put_same hm hkl _ u⟩
    · rw [if_neg e] at hq
      refine ⟨?_, fun u => ?_⟩
      · rw [has_put_other (hne wx wy e)]; exact (h1 x' y' c wx wy hq).1
      · rw [atKey_put_other (hne wx wy e)]; exact (h1 x' y' c wx wy hq).2 u
end Go.Proofs.Ytccdblbnphmpjaa.Vm
