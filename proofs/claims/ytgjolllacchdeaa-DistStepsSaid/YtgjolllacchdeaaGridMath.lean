/- The plain mathematics of warehouses' maps: what a text is read as (parseS), how a grid is written (printS), and that these undo one another. No program is named here. -/
import Derived.Below
namespace Go.Proofs.Ytgjolllacchdeaa.Vm

/-- A letter of a grid: floor, wall, station, charger, and the four one-way cells. -/
def letterS (c : Nat) : Bool := c == 46 || c == 35 || c == 83 || c == 67 || c == 62 || c == 60 || c == 94 || c == 118
theorem letterS_ten : letterS 10 = false := by decide
theorem letterS_ne {c : Nat} (h : letterS c = true) : c ≠ 10 := by intro e; subst e; simp [letterS] at h

/-- A grid that may be. -/
def rightS (W H : Int) (cells : List Nat) : Bool := decide (1 ≤ W ∧ 1 ≤ H ∧ W ≤ 256 ∧ H ≤ 256 ∧ (cells.length : Int) = W * H) && cells.all letterS
/-- The rows of a grid, each with a line feed. -/
def printF (W H : Nat) (cells : List Nat) : List Nat := (List.range H).flatMap fun y => (cells.drop (y * W)).take W ++ [10]
def printS (W H : Int) (cells : List Nat) : List Nat := if rightS W H cells then printF W.toNat H.toNat cells else []

/-- The rows so far (W, H, cells), the letters of the row under way, and the rest of the text. -/
def parseF : List Nat → Nat → Nat → List Nat → List Nat → Option (Nat × Nat × List Nat)
  | [], W, H, cells, _ => some (W, H, cells)
  | c :: r, W, H, cells, row => if c ≠ 10 then (if letterS c then parseF r W H cells (row ++ [c]) else none) else
      if row = [] ∨ (0 < H ∧ row.length ≠ W) then none else parseF r row.length (H + 1) (cells ++ row) []
/-- What a text is read as: the grid, and the error (0: none; 3: no form; 4: too many). -/
def parseS (s : List Nat) : Nat × Nat × List Nat × Nat :=
  if s = [] ∨ s.getLast? ≠ some 10 then (0, 0, [], 3) else
    match parseF s 0 0 [] [] with
    | none => (0, 0, [], 3)
    | some (W, H, cells) => if 256 < W ∨ 256 < H then (0, 0, [], 4) else (W, H, cells, 0)

theorem flatMap_same {α β : Type} {l : List α} {f g : α → List β} (h : ∀ x ∈ l, f x = g x) : l.flatMap f = l.flatMap g := by
  rw [List.flatMap_def, List.flatMap_def, List.map_congr_left h]
theorem printF_snoc {W H : Nat} {cells row : List Nat} (hc : cells.length = W * H) (hr : row.length = W) : printF W (H + 1) (cells ++ row) = printF W H cells ++ row ++ [10] := by
  unfold printF
  rw [List.range_succ, List.flatMap_append]
  have h1 : (List.range H).flatMap (fun y => ((cells ++ row).drop (y * W)).take W ++ [10]) = (List.range H).flatMap fun y => (cells.drop (y * W)).take W ++ [10] := by
    refine flatMap_same fun y hy => ?_
    have hy := List.mem_range.1 hy
    have hle : (y + 1) * W ≤ cells.length := by rw [hc, Nat.mul_comm W H]; exact Nat.mul_le_mul_right W (by omega)
    rw [Nat.add_mul, Nat.one_mul] at hle
    rw [List.drop_append_of_le_length (by omega), List.take_append_of_le_length (by rw [List.length_drop]; omega)]
  rw [h1]
  have h2 : ((cells ++ row).drop (H * W)).take W = row := by
    have e : H * W = cells.length := by rw [hc, Nat.mul_comm]
    rw [e, List.drop_left, ← hr, List.take_length]
  simp [h2]

/-- What has been read so far. -/
structure Read (W H : Nat) (cells row : List Nat) : Prop where
  len : cells.length = W * H
  some' : 0 < H → 0 < W
  none' : H = 0 → W = 0
  ok : cells.all letterS = true
  row : row.all letterS = true

theorem parseF_read (r : List Nat) : ∀ (W H : Nat) (cells row : List Nat) (W' H' : Nat) (cells' : List Nat), Read W H cells row → (row ++ r = [] ∨ (row ++ r).getLast? = some 10) → parseF r W H cells row = some (W', H', cells') →
    Read W' H' cells' [] ∧ printF W' H' cells' = printF W H cells ++ row ++ r ∧ H ≤ H' := by
  induction r with
  | nil =>
    intro W H cells row W' H' cells' hR hlast hp
    simp only [parseF, Option.some.injEq, Prod.mk.injEq] at hp
    obtain ⟨rfl, rfl, rfl⟩ := hp
    have hrow : row = [] := by
      rcases hlast with h | h
      · simpa using h
      · rw [List.append_nil] at h
        have hm : (10 : Nat) ∈ row := List.mem_of_getLast? h
        have := (List.all_eq_true.1 hR.row) 10 hm
        simp [letterS_ten] at this
    subst hrow
    exact ⟨hR, by simp, Nat.le_refl _⟩
  | cons c r ih =>
    intro W H cells row W' H' cells' hR hlast hp
    by_cases hc : c = 10
    · subst hc
      simp only [parseF, ne_eq, not_true_eq_false, if_false] at hp
      by_cases hbad : row = [] ∨ (0 < H ∧ row.length ≠ W)
      · rw [if_pos hbad] at hp; cases hp
      · rw [if_neg hbad] at hp
        have hrow : row ≠ [] := fun h => hbad (.inl h)
        have hpos : 0 < row.length := List.length_pos_iff.2 hrow
        have hW : H = 0 ∨ row.length = W := by
          rcases Nat.eq_zero_or_pos H with h | h
          · exact .inl h
          · exact .inr (Decidable.byContradiction fun h2 => hbad (.inr ⟨h, h2⟩))
        have hlen : cells.length = row.length * H := by
          rcases hW with h | h
          · have := hR.len; rw [h] at this ⊢; simpa using this
          · rw [h]; exact hR.len
        have hR' : Read row.length (H + 1) (cells ++ row) [] := ⟨by rw [List.length_append, hlen, Nat.mul_add, Nat.mul_one], fun _ => hpos, fun h => absurd h (by omega), by rw [List.all_append, hR.ok, hR.row]; rfl, rfl⟩
        have hl' : ([] : List Nat) ++ r = [] ∨ (([] : List Nat) ++ r).getLast? = some 10 := by
          rcases r with _ | ⟨d, r⟩
          · exact .inl rfl
          · refine .inr ?_
            rcases hlast with h | h
            · simp at h
            · rw [List.nil_append]
              rw [List.getLast?_append] at h
              simpa using h
        obtain ⟨g1, g2, g3⟩ := ih _ _ _ _ _ _ _ hR' hl' hp
        refine ⟨g1, ?_, by omega⟩
        have e : printF row.length (H + 1) (cells ++ row) = printF W H cells ++ row ++ [10] := by
          rw [printF_snoc hlen rfl]
          rcases hW with h | h
          · subst h; simp [printF]
          · rw [h]
        rw [g2, e]
        simp
    · simp only [parseF, ne_eq, hc, not_false_eq_true, if_true] at hp
      by_cases hl : letterS c = true
      · rw [if_pos hl] at hp
        have hR' : Read W H cells (row ++ [c]) := ⟨hR.len, hR.some', hR.none', hR.ok, by rw [List.all_append, hR.row]; simp [hl]⟩
        obtain ⟨g1, g2, g3⟩ := ih _ _ _ _ _ _ _ hR' (by rwa [List.append_assoc, List.singleton_append]) hp
        exact ⟨g1, by rw [g2]; simp, g3⟩
      · rw [if_neg hl] at hp; cases hp

/-- What is read is written as it was. -/
theorem print_parse {s : List Nat} {W H : Nat} {cells : List Nat} (h : parseS s = (W, H, cells, 0)) : rightS W H cells = true ∧ printS W H cells = s := by
  unfold parseS at h
  by_cases h0 : s = [] ∨ s.getLast? ≠ some 10
  · rw [if_pos h0] at h; simp at h
  · rw [if_neg h0] at h
    have hne : s ≠ [] := fun h => h0 (.inl h)
    have hla : s.getLast? = some 10 := Decidable.byContradiction fun h => h0 (.inr h)
    cases hp : parseF s 0 0 [] [] with
    | none => rw [hp] at h; simp at h
    | some x =>
      obtain ⟨W', H', c'⟩ := x
      rw [hp] at h
      simp only [] at h
      by_cases hb : 256 < W' ∨ 256 < H'
      · rw [if_pos hb] at h; simp at h
      · rw [if_neg hb] at h
        simp only [Prod.mk.injEq, and_true] at h
        obtain ⟨rfl, rfl, rfl⟩ := h
        obtain ⟨g1, g2, _⟩ := parseF_read s 0 0 [] [] _ _ _ ⟨rfl, fun h => absurd h (by omega), fun _ => rfl, rfl, rfl⟩ (.inr (by simpa using hla)) hp
        have hpr : printF W' H' c' = s := by rw [g2]; simp [printF]
        have hH : 0 < H' := by
          rcases Nat.eq_zero_or_pos H' with h | h
          · subst h; simp [printF] at hpr; exact absurd hpr hne
          · exact h
        have hW := g1.some' hH
        have hr : rightS W' H' c' = true := by
          unfold rightS
          rw [g1.ok, Bool.and_true, decide_eq_true_eq]
          refine ⟨by omega, by omega, by omega, by omega, ?_⟩
          rw [g1.len]; push_cast; rfl
        exact ⟨hr, by unfold printS; rw [if_pos hr]; simpa using hpr⟩

/-- Letters are read into the row under way. -/
theorem parseF_row (l : List Nat) : ∀ (r : List Nat) (W H : Nat) (cells row : List Nat), l.all letterS = true → parseF (l ++ r) W H cells row = parseF r W H cells (row ++ l) := by
  induction l with
  | nil => intro r W H cells row _; simp
  | cons c l ih =>
    intro r W H cells row h
    rw [List.all_cons, Bool.and_eq_true] at h
    rw [List.cons_append, parseF, if_pos (letterS_ne h.1), if_pos h.1, ih _ _ _ _ _ h.2]
    simp
/-- A grid that is written is read, row by row. -/
theorem parseF_print (W : Nat) (hW : 0 < W) (cells : List Nat) (hok : cells.all letterS = true) : ∀ (H : Nat), W * H ≤ cells.length → ∀ r, parseF (printF W H cells ++ r) 0 0 [] [] = parseF r (if H = 0 then 0 else W) H (cells.take (W * H)) [] := by
  intro H
  induction H with
  | zero => intro _ r; simp [printF]
  | succ H ih =>
    intro hl r
    have hl' : W * H + W ≤ cells.length := by rw [Nat.mul_add, Nat.mul_one] at hl; exact hl
    have e : printF W (H + 1) cells ++ r = printF W H cells ++ ((cells.drop (H * W)).take W ++ ([10] ++ r)) := by
      unfold printF; rw [List.range_succ, List.flatMap_append]; simp
    have hlen : ((cells.drop (H * W)).take W).length = W := by rw [List.length_take, List.length_drop, Nat.mul_comm H W]; omega
    have hne : (cells.drop (H * W)).take W ≠ [] := by intro h; rw [h] at hlen; simp at hlen; omega
    rw [e, ih (by omega), parseF_row _ _ _ _ _ _ (by
      rw [List.all_eq_true] at hok ⊢
      exact fun x hx => hok x (List.mem_of_mem_drop (List.mem_of_mem_take hx)))]
    rw [List.nil_append, List.singleton_append, parseF]
    rw [if_neg (by simp), if_neg (by
      rintro (h | ⟨h1, h2⟩)
      · exact hne h
      · rw [if_neg (by omega)] at h2; exact h2 hlen)]
    rw [hlen, if_neg (by omega)]
    congr 1
    rw [Nat.mul_add, Nat.mul_one, Nat.mul_comm H W, ← List.take_add]
/-- What is written is read as it was. -/
theorem parse_print {W H : Int} {cells : List Nat} (h : rightS W H cells = true) : parseS (printS W H cells) = (W.toNat, H.toNat, cells, 0) := by
  have h0 := h
  unfold rightS at h
  rw [Bool.and_eq_true, decide_eq_true_eq] at h
  obtain ⟨⟨h1, h2, h3, h4, h5⟩, hok⟩ := h
  obtain ⟨w, rfl⟩ := Int.eq_ofNat_of_zero_le (show 0 ≤ W by omega)
  obtain ⟨k, rfl⟩ := Int.eq_ofNat_of_zero_le (show 0 ≤ H by omega)
  have hlen : cells.length = w * k := by exact_mod_cast h5
  unfold printS
  rw [if_pos h0]
  simp only [Int.toNat_natCast]
  have hp := parseF_print w (by omega) cells hok k (by omega) []
  rw [List.append_nil, parseF, if_neg (by omega), ← hlen, List.take_length] at hp
  have hlast : (printF w k cells).getLast? = some 10 := by
    obtain ⟨j, rfl⟩ : ∃ j, k = j + 1 := ⟨k - 1, by omega⟩
    unfold printF
    rw [List.range_succ, List.flatMap_append]
    simp
  have hne : printF w k cells ≠ [] := by intro h; rw [h] at hlast; simp at hlast
  unfold parseS
  rw [if_neg (fun h => h.elim hne (fun h => h hlast)), hp]
  simp only []
  rw [if_neg (by omega)]

/-- A cell that exists and is not a wall. -/
def floorS (cells : List Nat) (cell : Int) : Bool := decide (0 ≤ cell ∧ cell < (cells.length : Int)) && (cells.getD cell.toNat 0 != 35)
def dxS (way : Int) : Int := if way = 2 then 1 else if way = 4 then -1 else 0
def dyS (way : Int) : Int := if way = 1 then -1 else if way = 3 then 1 else 0
/-- A one-way cell with a different direction. -/
abbrev Barred (c : Nat) (way : Int) : Prop := (c = 94 ∧ way ≠ 1) ∨ (c = 62 ∧ way ≠ 2) ∨ (c = 118 ∧ way ≠ 3) ∨ (c = 60 ∧ way ≠ 4)
/-- Where a direction leads, and whether it is possible. -/
def goesS (W H : Int) (cells : List Nat) (cell way : Int) : Int × Bool :=
  if floorS cells cell = false ∨ way < 0 ∨ 4 < way then (0, false) else
  if way = 0 then (cell, true) else
  if Barred (cells.getD cell.toNat 0) way then (0, false) else
  if cell % W + dxS way < 0 ∨ cell / W + dyS way < 0 ∨ W ≤ cell % W + dxS way ∨ H ≤ cell / W + dyS way ∨ floorS cells ((cell / W + dyS way) * W + (cell % W + dxS way)) = false then (0, false) else
    ((cell / W + dyS way) * W + (cell % W + dxS way), true)
def waysS (W H : Int) (cells : List Nat) (cell : Int) : List Nat := (List.range 5).filter fun way => (goesS W H cells cell (way : Nat)).2
def ofS (cells : List Nat) (c : Nat) : List Nat := (List.range cells.length).filter fun i => cells.getD i 0 == c
/-- The direction back. -/
def backS (way : Int) : Int := if way = 1 then 3 else if way = 2 then 4 else if way = 3 then 1 else if way = 4 then 2 else 0
/-- No one-way cell. -/
abbrev Plain (c : Nat) : Prop := c = 46 ∨ c = 83 ∨ c = 67

theorem at_cell {x y W : Int} (h0 : 0 ≤ x) (h1 : x < W) : (y * W + x) % W = x ∧ (y * W + x) / W = y := by
  have hW : W ≠ 0 := by omega
  rw [Int.add_comm]
  refine ⟨?_, ?_⟩
  · rw [Int.add_mul_emod_self_right, Int.emod_eq_of_lt h0 h1]
  · rw [Int.add_mul_ediv_right _ _ hW, Int.ediv_eq_zero_of_lt h0 h1, Int.zero_add]
theorem of_cell (cell W : Int) : cell / W * W + cell % W = cell := by
  have := Int.mul_ediv_add_emod cell W
  rw [Int.mul_comm] at this
  exact this

theorem goesS_some {W H : Int} {cells : List Nat} {cell way to : Int} (h : goesS W H cells cell way = (to, true)) :
    floorS cells cell = true ∧ 0 ≤ way ∧ way ≤ 4 ∧ ((way = 0 ∧ to = cell) ∨ (way ≠ 0 ∧ ¬ Barred (cells.getD cell.toNat 0) way ∧ 0 ≤ cell % W + dxS way ∧ cell % W + dxS way < W ∧ 0 ≤ cell / W + dyS way ∧ cell / W + dyS way < H ∧
      floorS cells to = true ∧ to = (cell / W + dyS way) * W + (cell % W + dxS way))) := by
  unfold goesS at h
  by_cases h1 : floorS cells cell = false ∨ way < 0 ∨ 4 < way
  · rw [if_pos h1] at h; simp at h
  rw [if_neg h1] at h
  have hf : floorS cells cell = true := by
    cases hc : floorS cells cell
    · exact absurd (.inl hc) h1
    · rfl
  refine ⟨hf, by omega, by omega, ?_⟩
  by_cases h2 : way = 0
  · rw [if_pos h2] at h
    simp only [Prod.mk.injEq, and_true] at h
    exact .inl ⟨h2, h.symm⟩
  rw [if_neg h2] at h
  by_cases h3 : Barred (cells.getD cell.toNat 0) way
  · rw [if_pos h3] at h; simp at h
  rw [if_neg h3] at h
  split at h
  · simp at h
  · next h4 =>
    simp only [Prod.mk.injEq, and_true] at h
    refine .inr ⟨h2, h3, by omega, by omega, by omega, by omega, ?_, h.symm⟩
    rw [← h]
    cases hc : floorS cells ((cell / W + dyS way) * W + (cell % W + dxS way))
    · exact absurd (.inr (.inr (.inr (.inr hc)))) h4
    · rfl
/-- A step goes to a cell where one may stand, one row or column farther at most; it stays just where it says so. -/
theorem goesS_step {W H : Int} {cells : List Nat} {cell way to : Int} (h : goesS W H cells cell way = (to, true)) :
    floorS cells to = true ∧ (to % W - cell % W) * (to % W - cell % W) + (to / W - cell / W) * (to / W - cell / W) ≤ 1 ∧ (to = cell ↔ way = 0) := by
  obtain ⟨hf, hw0, hw4, hc⟩ := goesS_some h
  rcases hc with ⟨rfl, rfl⟩ | ⟨hne, _, h1, h2, h3, h4, h5, rfl⟩
  · exact ⟨hf, by simp, by simp⟩
  · obtain ⟨e1, e2⟩ := at_cell (y := cell / W + dyS way) h1 h2
    refine ⟨h5, ?_, ?_⟩
    · rw [e1, e2]
      have hd : cell % W + dxS way - cell % W = dxS way := by omega
      have hd2 : cell / W + dyS way - cell / W = dyS way := by omega
      rw [hd, hd2]
      have hcase : way = 1 ∨ way = 2 ∨ way = 3 ∨ way = 4 := by omega
      rcases hcase with rfl | rfl | rfl | rfl <;> decide
    · refine ⟨fun h => ?_, fun h => absurd h hne⟩
      rw [h] at e1 e2
      have hx : dxS way = 0 := by omega
      have hy : dyS way = 0 := by omega
      have hcase : way = 1 ∨ way = 2 ∨ way = 3 ∨ way = 4 := by omega
      rcases hcase with rfl | rfl | rfl | rfl <;> simp [dxS, dyS] at hx hy
/-- Between cells that are of no one way, a step can be taken back. -/
theorem goesS_back {W H : Int} {cells : List Nat} {cell way to : Int} (hW : 0 < W) (hlen : (cells.length : Int) = W * H) (h : goesS W H cells cell way = (to, true)) (hp : Plain (cells.getD to.toNat 0)) : goesS W H cells to (backS way) = (cell, true) := by
  obtain ⟨hf, hw0, hw4, hc⟩ := goesS_some h
  rcases hc with ⟨rfl, rfl⟩ | ⟨hne, _, h1, h2, h3, h4, h5, rfl⟩
  · exact h
  · obtain ⟨e1, e2⟩ := at_cell (y := cell / W + dyS way) h1 h2
    have hcase : way = 1 ∨ way = 2 ∨ way = 3 ∨ way = 4 := by omega
    have hb : backS way ≠ 0 ∧ 0 ≤ backS way ∧ backS way ≤ 4 ∧ dxS (backS way) = - dxS way ∧ dyS (backS way) = - dyS way := by
      rcases hcase with rfl | rfl | rfl | rfl <;> decide
    obtain ⟨b0, b1, b2, b3, b4⟩ := hb
    have hcell : 0 ≤ cell ∧ cell < (cells.length : Int) := by
      unfold floorS at hf
      rw [Bool.and_eq_true, decide_eq_true_eq] at hf
      exact hf.1
    have hx0 := Int.emod_nonneg cell (show W ≠ 0 by omega)
    have hx1 := Int.emod_lt_of_pos cell hW
    have hy0 : 0 ≤ cell / W := Int.ediv_nonneg hcell.1 (by omega)
    have hy1 : cell / W < H := by
      apply Int.ediv_lt_of_lt_mul hW
      rw [Int.mul_comm, ← hlen]
      exact hcell.2
    unfold goesS
    rw [if_neg (by rw [h5]; simp; omega), if_neg b0, if_neg (by unfold Barred; unfold Plain at hp; omega), e1, e2, b3, b4]
    have ex : cell % W + dxS way + -dxS way = cell % W := by omega
    have ey : cell / W + dyS way + -dyS way = cell / W := by omega
    rw [ex, ey, of_cell, if_neg (by rw [hf]; simp; omega)]
end Go.Proofs.Ytgjolllacchdeaa.Vm
