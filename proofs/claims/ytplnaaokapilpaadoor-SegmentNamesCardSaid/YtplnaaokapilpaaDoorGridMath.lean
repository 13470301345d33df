/- The plain mathematics of warehouses' maps: what a text is read as (parseS), how a grid is written (printS), and that these undo one another. No program is named here. The plain mathematics of a text that is measured, letter by letter. No program is named here. The plain mathematics of distances: the least number of steps, over any steps. No program is named here. The plain mathematics of distances on a map: the steps of a grid, and the distance as one number. No program is named here. The plain mathematics of going through cells nearest first: edge, next, seen. No program is named here. -/
import Derived.Below
namespace Go.Proofs.YtplnaaokapilpaaDoor.Vm

/-- A letter of a grid: floor, wall, station, charger, and the four one-way cells. -/
def letterS (c : Nat) : Bool := c == 46 || c == 35 || c == 83 || c == 67 || c == 62 || c == 60 || c == 94 || c == 118
theorem letterS_ten : letterS 10 = false := by decide
theorem letterS_ne {c : Nat} (h : letterS c = true) : c ≠ 10 := by intro e; subst e; simp [letterS] at h

/-- A grid that may be. -/
def rightS (W H : Int) (cells : List Nat) : Bool := decide (1 ≤ W ∧ 1 ≤ H ∧ W ≤ 256 ∧ H ≤ 256 ∧ (cells.length : Int) = W * H) && cells.all letterS
/-- The rows of a grid, each with a line feed. -/
def printF (W H : Nat) (cells : List Nat) : List Nat := (List.range H).flatMap fun y => (cells.drop (y * W)).take W ++ [10]
def printS (W H : Int) (cells : List Nat) : List Nat := if rightS W H cells then printF W.toNat H.toNat cells else []

/-- The rows so far (W, H, cells), the letters of the row under way, and the rest of the text. -/
def parseF : List Nat → Nat → Nat → List Nat → List Nat → Option (Nat × Nat × List Nat)
  | [], W, H, cells, _ => some (W, H, cells)
  | c :: r, W, H, cells, row => if c ≠ 10 then (if letterS c then parseF r W H cells (row ++ [c]) else none) else
      if row = [] ∨ (0 < H ∧ row.length ≠ W) then none else parseF r row.length (H + 1) (cells ++ row) []
/-- What a text is read as: the grid, and the error (0: none; 3: no form; 4: too many). -/
def parseS (s : List Nat) : Nat × Nat × List Nat × Nat :=
  if s = [] ∨ s.getLast? ≠ some 10 then (0, 0, [], 3) else
    match parseF s 0 0 [] [] with
    | none => (0, 0, [], 3)
    | some (W, H, cells) => if 256 < W ∨ 256 < H then (0, 0, [], 4) else (W, H, cells, 0)

theorem flatMap_same {α β : Type} {l : List α} {f g : α → List β} (h : ∀ x ∈ l, f x = g x) : l.flatMap f = l.flatMap g := by
  rw [List.flatMap_def, List.flatMap_def, List.map_congr_left h]
theorem printF_snoc {W H : Nat} {cells row : List Nat} (hc : cells.length = W * H) (hr : row.length = W) : printF W (H + 1) (cells ++ row) = printF W H cells ++ row ++ [10] := by
  unfold printF
  rw [List.range_succ, List.flatMap_append]
  have h1 : (List.range H).flatMap (fun y => ((cells ++ row).drop (y * W)).take W ++ [10]) = (List.range H).flatMap fun y => (cells.drop (y * W)).take W ++ [10] := by
    refine flatMap_same fun y hy => ?_
    have hy := List.mem_range.1 hy
    have hle : (y + 1) * W ≤ cells.length := by rw [hc, Nat.mul_comm W H]; exact Nat.mul_le_mul_right W (by omega)
    rw [Nat.add_mul, Nat.one_mul] at hle
    rw [List.drop_append_of_le_length (by omega), List.take_append_of_le_length (by rw [List.length_drop]; omega)]
  rw [h1]
  have h2 : ((cells ++ row).drop (H * W)).take W = row := by
    have e : H * W = cells.length := by rw [hc, Nat.mul_comm]
    rw [e, List.drop_left, ← hr, List.take_length]
  simp [h2]

/-- What has been read so far. -/
structure Read (W H : Nat) (cells row : List Nat) : Prop where
  len : cells.length = W * H
  some' : 0 < H → 0 < W
  none' : H = 0 → W = 0
  ok : cells.all letterS = true
  row : row.all letterS = true

theorem parseF_read (r : List Nat) : ∀ (W H : Nat) (cells row : List Nat) (W' H' : Nat) (cells' : List Nat), Read W H cells row → (row ++ r = [] ∨ (row ++ r).getLast? = some 10) → parseF r W H cells row = some (W', H', cells') →
    Read W' H' cells' [] ∧ printF W' H' cells' = printF W H cells ++ row ++ r ∧ H ≤ H' := by
  induction r with
  | nil =>
    intro W H cells row W' H' cells' hR hlast hp
    simp only [parseF, Option.some.injEq, Prod.mk.injEq] at hp
    obtain ⟨rfl, rfl, rfl⟩ := hp
    have hrow : row = [] := by
      rcases hlast with h | h
      · simpa using h
      · rw [List.append_nil] at h
        have hm : (10 : Nat) ∈ row := List.mem_of_getLast? h
        have := (List.all_eq_true.1 hR.row) 10 hm
        simp [letterS_ten] at this
    subst hrow
    exact ⟨hR, by simp, Nat.le_refl _⟩
  | cons c r ih =>
    intro W H cells row W' H' cells' hR hlast hp
    by_cases hc : c = 10
    · subst hc
      simp only [parseF, ne_eq, not_true_eq_false, if_false] at hp
      by_cases hbad : row = [] ∨ (0 < H ∧ row.length ≠ W)
      · rw [if_pos hbad] at hp; cases hp
      · rw [if_neg hbad] at hp
        have hrow : row ≠ [] := fun h => hbad (.inl h)
        have hpos : 0 < row.length := List.length_pos_iff.2 hrow
        have hW : H = 0 ∨ row.length = W := by
          rcases Nat.eq_zero_or_pos H with h | h
          · exact .inl h
          · exact .inr (Decidable.byContradiction fun h2 => hbad (.inr ⟨h, h2⟩))
        have hlen : cells.length = row.length * H := by
          rcases hW with h | h
          · have := hR.len; rw [h] at this ⊢; simpa using this
          · rw [h]; exact hR.len
        have hR' : Read row.length (H + 1) (cells ++ row) [] := ⟨by rw [List.length_append, hlen, Nat.mul_add, Nat.mul_one], fun _ => hpos, fun h => absurd h (by omega), by rw [List.all_append, hR.ok, hR.row]; rfl, rfl⟩
        have hl' : ([] : List Nat) ++ r = [] ∨ (([] : List Nat) ++ r).getLast? = some 10 := by
          rcases r with _ | ⟨d, r⟩
          · exact .inl rfl
          · refine .inr ?_
            rcases hlast with h | h
            · simp at h
            · rw [List.nil_append]
              rw [List.getLast?_append] at h
              simpa using h
        obtain ⟨g1, g2, g3⟩ := ih _ _ _ _ _ _ _ hR' hl' hp
        refine ⟨g1, ?_, by omega⟩
        have e : printF row.length (H + 1) (cells ++ row) = printF W H cells ++ row ++ [10] := by
          rw [printF_snoc hlen rfl]
          rcases hW with h | h
          · subst h; simp [printF]
          · rw [h]
        rw [g2, e]
        simp
    · simp only [parseF, ne_eq, hc, not_false_eq_true, if_true] at hp
      by_cases hl : letterS c = true
      · rw [if_pos hl] at hp
        have hR' : Read W H cells (row ++ [c]) := ⟨hR.len, hR.some', hR.none', hR.ok, by rw [List.all_append, hR.row]; simp [hl]⟩
        obtain ⟨g1, g2, g3⟩ := ih _ _ _ _ _ _ _ hR' (by rwa [List.append_assoc, List.singleton_append]) hp
        exact ⟨g1, by rw [g2]; simp, g3⟩
      · rw [if_neg hl] at hp; cases hp

/-- What is read is written as it was. -/
theorem print_parse {s : List Nat} {W H : Nat} {cells : List Nat} (h : parseS s = (W, H, cells, 0)) : rightS W H cells = true ∧ printS W H cells = s := by
  unfold parseS at h
  by_cases h0 : s = [] ∨ s.getLast? ≠ some 10
  · rw [if_pos h0] at h; simp at h
  · rw [if_neg h0] at h
    have hne : s ≠ [] := fun h => h0 (.inl h)
    have hla : s.getLast? = some 10 := Decidable.byContradiction fun h => h0 (.inr h)
    cases hp : parseF s 0 0 [] [] with
    | none => rw [hp] at h; simp at h
    | some x =>
      obtain ⟨W', H', c'⟩ := x
      rw [hp] at h
      simp only [] at h
      by_cases hb : 256 < W' ∨ 256 < H'
      · rw [if_pos hb] at h; simp at h
      · rw [if_neg hb] at h
        simp only [Prod.mk.injEq, and_true] at h
        obtain ⟨rfl, rfl, rfl⟩ := h
        obtain ⟨g1, g2, _⟩ := parseF_read s 0 0 [] [] _ _ _ ⟨rfl, fun h => absurd h (by omega), fun _ => rfl, rfl, rfl⟩ (.inr (by simpa using hla)) hp
        have hpr : printF W' H' c' = s := by rw [g2]; simp [printF]
        have hH : 0 < H' := by
          rcases Nat.eq_zero_or_pos H' with h | h
          · subst h; simp [printF] at hpr; exact absurd hpr hne
          · exact h
        have hW := g1.some' hH
        have hr : rightS W' H' c' = true := by
          unfold rightS
          rw [g1.ok, Bool.and_true, decide_eq_true_eq]
          refine ⟨by omega, by omega, by omega, by omega, ?_⟩
          rw [g1.len]; push_cast; rfl
        exact ⟨hr, by unfold printS; rw [if_pos hr]; simpa using hpr⟩

/-- Letters are read into the row under way. -/
theorem parseF_row (l : List Nat) : ∀ (r : List Nat) (W H : Nat) (cells row : List Nat), l.all letterS = true → parseF (l ++ r) W H cells row = parseF r W H cells (row ++ l) := by
  induction l with
  | nil => intro r W H cells row _; simp
  | cons c l ih =>
    intro r W H cells row h
    rw [List.all_cons, Bool.and_eq_true] at h
    rw [List.cons_append, parseF, if_pos (letterS_ne h.1), if_pos h.1, ih _ _ _ _ _ h.2]
    simp
/-- A grid that is written is read, row by row. -/
theorem parseF_print (W : Nat) (hW : 0 < W) (cells : List Nat) (hok : cells.all letterS = true) : ∀ (H : Nat), W * H ≤ cells.length → ∀ r, parseF (printF W H cells ++ r) 0 0 [] [] = parseF r (if H = 0 then 0 else W) H (cells.take (W * H)) [] := by
  intro H
  induction H with
  | zero => intro _ r; simp [printF]
  | succ H ih =>
    intro hl r
    have hl' : W * H + W ≤ cells.length := by rw [Nat.mul_add, Nat.mul_one] at hl; exact hl
    have e : printF W (H + 1) cells ++ r = printF W H cells ++ ((cells.drop (H * W)).take W ++ ([10] ++ r)) := by
      unfold printF; rw [List.range_succ, List.flatMap_append]; simp
    have hlen : ((cells.drop (H * W)).take W).length = W := by rw [List.length_take, List.length_drop, Nat.mul_comm H W]; omega
    have hne : (cells.drop (H * W)).take W ≠ [] := by intro h; rw [h] at hlen; simp at hlen; omega
    rw [e, ih (by omega), parseF_row _ _ _ _ _ _ (by
      rw [List.all_eq_true] at hok ⊢
      exact fun x hx => hok x (List.mem_of_mem_drop (List.mem_of_mem_take hx)))]
    rw [List.nil_append, List.singleton_append, parseF]
    rw [if_neg (by simp), if_neg (by
      rintro (h | ⟨h1, h2⟩)
      · exact hne h
      · rw [if_neg (by omega)] at h2; exact h2 hlen)]
    rw [hlen, if_neg (by omega)]
    congr 1
    rw [Nat.mul_add, Nat.mul_one, Nat.mul_comm H W, ← List.take_add]
/-- What is written is read as it was. -/
theorem parse_print {W H : Int} {cells : List Nat} (h : rightS W H cells = true) : parseS (printS W H cells) = (W.toNat, H.toNat, cells, 0) := by
  have h0 := h
  unfold rightS at h
  rw [Bool.and_eq_true, decide_eq_true_eq] at h
  obtain ⟨⟨h1, h2, h3, h4, h5⟩, hok⟩ := h
  obtain ⟨w, rfl⟩ := Int.eq_ofNat_of_zero_le (show 0 ≤ W by omega)
  obtain ⟨k, rfl⟩ := Int.eq_ofNat_of_zero_le (show 0 ≤ H by omega)
  have hlen : cells.length = w * k := by exact_mod_cast h5
  unfold printS
  rw [if_pos h0]
  simp only [Int.toNat_natCast]
  have hp := parseF_print w (by omega) cells hok k (by omega) []
  rw [List.append_nil, parseF, if_neg (by omega), ← hlen, List.take_length] at hp
  have hlast : (printF w k cells).getLast? = some 10 := by
    obtain ⟨j, rfl⟩ : ∃ j, k = j + 1 := ⟨k - 1, by omega⟩
    unfold printF
    rw [List.range_succ, List.flatMap_append]
    simp
  have hne : printF w k cells ≠ [] := by intro h; rw [h] at hlast; simp at hlast
  unfold parseS
  rw [if_neg (fun h => h.elim hne (fun h => h hlast)), hp]
  simp only []
  rw [if_neg (by omega)]

/-- A cell that exists and is not a wall. -/
def floorS (cells : List Nat) (cell : Int) : Bool := decide (0 ≤ cell ∧ cell < (cells.length : Int)) && (cells.getD cell.toNat 0 != 35)
def dxS (way : Int) : Int := if way = 2 then 1 else if way = 4 then -1 else 0
def dyS (way : Int) : Int := if way = 1 then -1 else if way = 3 then 1 else 0
/-- A one-way cell with a different direction. -/
abbrev Barred (c : Nat) (way : Int) : Prop := (c = 94 ∧ way ≠ 1) ∨ (c = 62 ∧ way ≠ 2) ∨ (c = 118 ∧ way ≠ 3) ∨ (c = 60 ∧ way ≠ 4)
/-- Where a direction leads, and whether it is possible. -/
def goesS (W H : Int) (cells : List Nat) (cell way : Int) : Int × Bool :=
  if floorS cells cell = false ∨ way < 0 ∨ 4 < way then (0, false) else
  if way = 0 then (cell, true) else
  if Barred (cells.getD cell.toNat 0) way then (0, false) else
  if cell % W + dxS way < 0 ∨ cell / W + dyS way < 0 ∨ W ≤ cell % W + dxS way ∨ H ≤ cell / W + dyS way ∨ floorS cells ((cell / W + dyS way) * W + (cell % W + dxS way)) = false then (0, false) else
    ((cell / W + dyS way) * W + (cell % W + dxS way), true)
def waysS (W H : Int) (cells : List Nat) (cell : Int) : List Nat := (List.range 5).filter fun way => (goesS W H cells cell (way : Nat)).2
def ofS (cells : List Nat) (c : Nat) : List Nat := (List.range cells.length).filter fun i => cells.getD i 0 == c
/-- The direction back. -/
def backS (way : Int) : Int := if way = 1 then 3 else if way = 2 then 4 else if way = 3 then 1 else if way = 4 then 2 else 0
/-- No one-way cell. -/
abbrev Plain (c : Nat) : Prop := c = 46 ∨ c = 83 ∨ c = 67

theorem at_cell {x y W : Int} (h0 : 0 ≤ x) (h1 : x < W) : (y * W + x) % W = x ∧ (y * W + x) / W = y := by
  have hW : W ≠ 0 := by omega
  rw [Int.add_comm]
  refine ⟨?_, ?_⟩
  · rw [Int.add_mul_emod_self_right, Int.emod_eq_of_lt h0 h1]
  · rw [Int.add_mul_ediv_right _ _ hW, Int.ediv_eq_zero_of_lt h0 h1, Int.zero_add]
theorem of_cell (cell W : Int) : cell / W * W + cell % W = cell := by
  have := Int.mul_ediv_add_emod cell W
  rw [Int.mul_comm] at this
  exact this

theorem goesS_some {W H : Int} {cells : List Nat} {cell way to : Int} (h : goesS W H cells cell way = (to, true)) :
    floorS cells cell = true ∧ 0 ≤ way ∧ way ≤ 4 ∧ ((way = 0 ∧ to = cell) ∨ (way ≠ 0 ∧ ¬ Barred (cells.getD cell.toNat 0) way ∧ 0 ≤ cell % W + dxS way ∧ cell % W + dxS way < W ∧ 0 ≤ cell / W + dyS way ∧ cell / W + dyS way < H ∧
      floorS cells to = true ∧ to = (cell / W + dyS way) * W + (cell % W + dxS way))) := by
  unfold goesS at h
  by_cases h1 : floorS cells cell = false ∨ way < 0 ∨ 4 < way
  · rw [if_pos h1] at h; simp at h
  rw [if_neg h1] at h
  have hf : floorS cells cell = true := by
    cases hc : floorS cells cell
    · exact absurd (.inl hc) h1
    · rfl
  refine ⟨hf, by omega, by omega, ?_⟩
  by_cases h2 : way = 0
  · rw [if_pos h2] at h
    simp only [Prod.mk.injEq, and_true] at h
    exact .inl ⟨h2, h.symm⟩
  rw [if_neg h2] at h
  by_cases h3 : Barred (cells.getD cell.toNat 0) way
  · rw [if_pos h3] at h; simp at h
  rw [if_neg h3] at h
  split at h
  · simp at h
  · next h4 =>
    simp only [Prod.mk.injEq, and_true] at h
    refine .inr ⟨h2, h3, by omega, by omega, by omega, by omega, ?_, h.symm⟩
    rw [← h]
    cases hc : floorS cells ((cell / W + dyS way) * W + (cell % W + dxS way))
    · exact absurd (.inr (.inr (.inr (.inr hc)))) h4
    · rfl
/-- A step goes to a cell where one may stand, one row or column farther at most; it stays just where it says so. -/
theorem goesS_step {W H : Int} {cells : List Nat} {cell way to : Int} (h : goesS W H cells cell way = (to, true)) :
    floorS cells to = true ∧ (to % W - cell % W) * (to % W - cell % W) + (to / W - cell / W) * (to / W - cell / W) ≤ 1 ∧ (to = cell ↔ way = 0) := by
  obtain ⟨hf, hw0, hw4, hc⟩ := goesS_some h
  rcases hc with ⟨rfl, rfl⟩ | ⟨hne, _, h1, h2, h3, h4, h5, rfl⟩
  · exact ⟨hf, by simp, by simp⟩
  · obtain ⟨e1, e2⟩ := at_cell (y := cell / W + dyS way) h1 h2
    refine ⟨h5, ?_, ?_⟩
    · rw [e1, e2]
      have hd : cell % W + dxS way - cell % W = dxS way := by omega
      have hd2 : cell / W + dyS way - cell / W = dyS way := by omega
      rw [hd, hd2]
      have hcase : way = 1 ∨ way = 2 ∨ way = 3 ∨ way = 4 := by omega
      rcases hcase with rfl | rfl | rfl | rfl <;> decide
    · refine ⟨fun h => ?_, fun h => absurd h hne⟩
      rw [h] at e1 e2
      have hx : dxS way = 0 := by omega
      have hy : dyS way = 0 := by omega
      have hcase : way = 1 ∨ way = 2 ∨ way = 3 ∨ way = 4 := by omega
      rcases hcase with rfl | rfl | rfl | rfl <;> simp [dxS, dyS] at hx hy
/-- Between cells that are of no one way, a step can be taken back. -/
theorem goesS_back {W H : Int} {cells : List Nat} {cell way to : Int} (hW : 0 < W) (hlen : (cells.length : Int) = W * H) (h : goesS W H cells cell way = (to, true)) (hp : Plain (cells.getD to.toNat 0)) : goesS W H cells to (backS way) = (cell, true) := by
  obtain ⟨hf, hw0, hw4, hc⟩ := goesS_some h
  rcases hc with ⟨rfl, rfl⟩ | ⟨hne, _, h1, h2, h3, h4, h5, rfl⟩
  · exact h
  · obtain ⟨e1, e2⟩ := at_cell (y := cell / W + dyS way) h1 h2
    have hcase : way = 1 ∨ way = 2 ∨ way = 3 ∨ way = 4 := by omega
    have hb : backS way ≠ 0 ∧ 0 ≤ backS way ∧ backS way ≤ 4 ∧ dxS (backS way) = - dxS way ∧ dyS (backS way) = - dyS way := by
      rcases hcase with rfl | rfl | rfl | rfl <;> decide
    obtain ⟨b0, b1, b2, b3, b4⟩ := hb
    have hcell : 0 ≤ cell ∧ cell < (cells.length : Int) := by
      unfold floorS at hf
      rw [Bool.and_eq_true, decide_eq_true_eq] at hf
      exact hf.1
    have hx0 := Int.emod_nonneg cell (show W ≠ 0 by omega)
    have hx1 := Int.emod_lt_of_pos cell hW
    have hy0 : 0 ≤ cell / W := Int.ediv_nonneg hcell.1 (by omega)
    have hy1 : cell / W < H := by
      apply Int.ediv_lt_of_lt_mul hW
      rw [Int.mul_comm, ← hlen]
      exact hcell.2
    unfold goesS
    rw [if_neg (by rw [h5]; simp; omega), if_neg b0, if_neg (by unfold Barred; unfold Plain at hp; omega), e1, e2, b3, b4]
    have ex : cell % W + dxS way + -dxS way = cell % W := by omega
    have ey : cell / W + dyS way + -dyS way = cell / W := by omega
    rw [ex, ey, of_cell, if_neg (by rw [hf]; simp; omega)]
end Go.Proofs.YtplnaaokapilpaaDoor.Vm

namespace Go.Proofs.YtplnaaokapilpaaDoor.Vm

/-- The rows of a text, of whatever size, if it has the form of one. -/
def measS (l : List Nat) : Option (Nat × Nat × List Nat) := if l = [] ∨ l.getLast? ≠ some 10 then none else parseF l 0 0 [] []

theorem parseS_none {l : List Nat} (h : measS l = none) : parseS l = (0, 0, [], 3) := by
  unfold measS at h
  unfold parseS
  by_cases h0 : l = [] ∨ l.getLast? ≠ some 10
  · rw [if_pos h0]
  · rw [if_neg h0] at h ⊢
    rw [h]
theorem parseS_some {l : List Nat} {W H : Nat} {cells : List Nat} (h : measS l = some (W, H, cells)) : parseS l = if 256 < W ∨ 256 < H then (0, 0, [], 4) else (W, H, cells, 0) := by
  unfold measS at h
  unfold parseS
  by_cases h0 : l = [] ∨ l.getLast? ≠ some 10
  · rw [if_pos h0] at h; cases h
  · rw [if_neg h0] at h ⊢
    rw [h]

/-- What has been measured, up to the letter k. -/
structure Meas (l : List Nat) (k W H : Nat) (cells row : List Nat) : Prop where
  eq : parseF l 0 0 [] [] = parseF (l.drop k) W H cells row
  rk : row.length ≤ k
  hk : H ≤ k
  wk : W ≤ k
  read : Read W H cells row
  last : row = [] ↔ (l.take k).getLast?.getD 10 = 10
  zero : H = 0 → row = [] → k = 0

theorem Meas.start (l : List Nat) : Meas l 0 0 0 [] [] :=
  ⟨rfl, Nat.le_refl _, Nat.le_refl _, Nat.le_refl _, ⟨rfl, fun h => absurd h (by omega), fun _ => rfl, rfl, rfl⟩, by simp, fun _ _ => rfl⟩

theorem drop_at {l : List Nat} {k : Nat} (hk : k < l.length) : l.drop k = l.getD k 0 :: l.drop (k + 1) := by
  rw [List.drop_eq_getElem_cons hk]; simp [List.getD, hk]
theorem take_at {l : List Nat} {k : Nat} (hk : k < l.length) : l.take (k + 1) = l.take k ++ [l.getD k 0] := by
  rw [List.take_succ_eq_append_getElem hk]; simp [List.getD, hk]

theorem Meas.letter {l : List Nat} {k W H c : Nat} {cells row : List Nat} (h : Meas l k W H cells row) (hk : k < l.length) (hc : l.getD k 0 = c) (hl : letterS c = true) : Meas l (k + 1) W H cells (row ++ [c]) := by
  have hne := letterS_ne hl
  refine ⟨?_, by have := h.rk; simp; omega, by have := h.hk; omega, by have := h.wk; omega, ⟨h.read.len, h.read.some', h.read.none', h.read.ok, by rw [List.all_append, h.read.row]; simp [hl]⟩, ?_, fun _ h2 => by simp at h2⟩
  · rw [h.eq, drop_at hk, hc, parseF, if_pos hne, if_pos hl]
  · rw [take_at hk, hc]; simp [hne]
theorem Meas.line {l : List Nat} {k W H : Nat} {cells row : List Nat} (h : Meas l k W H cells row) (hk : k < l.length) (hc : l.getD k 0 = 10) (hg : ¬ (row = [] ∨ (0 < H ∧ row.length ≠ W))) : Meas l (k + 1) row.length (H + 1) (cells ++ row) [] := by
  have hW : H = 0 ∨ row.length = W := by
    rcases Nat.eq_zero_or_pos H with h | h
    · exact .inl h
    · exact .inr (Decidable.byContradiction fun h2 => hg (.inr ⟨h, h2⟩))
  have hlen : cells.length = row.length * H := by
    rcases hW with h2 | h2
    · have := h.read.len; rw [h2] at this ⊢; simpa using this
    · rw [h2]; exact h.read.len
  refine ⟨?_, by simp, by have := h.hk; omega, by have := h.rk; omega, ⟨by rw [List.length_append, hlen, Nat.mul_add, Nat.mul_one], fun _ => ?_, fun h => absurd h (by omega), by rw [List.all_append, h.read.ok, h.read.row]; rfl, rfl⟩, ?_, fun h => absurd h (by omega)⟩
  · rw [h.eq, drop_at hk, hc, parseF, if_neg (by simp), if_neg hg]
  · exact List.length_pos_iff.2 fun h => hg (.inl h)
  · rw [take_at hk, hc]; simp
theorem Meas.bad {l : List Nat} {k W H c : Nat} {cells row : List Nat} (h : Meas l k W H cells row) (hk : k < l.length) (hc : l.getD k 0 = c) (hne : c ≠ 10) (hl : letterS c = false) : measS l = none := by
  unfold measS
  by_cases h0 : l = [] ∨ l.getLast? ≠ some 10
  · rw [if_pos h0]
  · rw [if_neg h0, h.eq, drop_at hk, hc, parseF, if_pos hne, if_neg (by simp [hl])]
theorem Meas.uneven {l : List Nat} {k W H : Nat} {cells row : List Nat} (h : Meas l k W H cells row) (hk : k < l.length) (hc : l.getD k 0 = 10) (hg : row = [] ∨ (0 < H ∧ row.length ≠ W)) : measS l = none := by
  unfold measS
  by_cases h0 : l = [] ∨ l.getLast? ≠ some 10
  · rw [if_pos h0]
  · rw [if_neg h0, h.eq, drop_at hk, hc, parseF, if_neg (by simp), if_pos hg]
theorem Meas.done {l : List Nat} {W H : Nat} {cells row : List Nat} (h : Meas l l.length W H cells row) : measS l = if 0 < H ∧ row = [] then some (W, H, cells) else none := by
  have hlast := h.last
  rw [List.take_length] at hlast
  unfold measS
  by_cases h0 : l = [] ∨ l.getLast? ≠ some 10
  · rw [if_pos h0, if_neg]
    rintro ⟨h1, h2⟩
    rcases h0 with rfl | h0
    · have := h.hk; simp at this; omega
    · have h3 := hlast.1 h2
      cases hl : l.getLast? with
      | none =>
        rw [List.getLast?_eq_none_iff] at hl
        subst hl
        have := h.hk; simp at this; omega
      | some x => rw [hl] at h3 h0; simp at h3 h0; exact h0 h3
  · rw [if_neg h0, h.eq, List.drop_length, parseF, if_pos]
    have hl : l.getLast? = some 10 := Decidable.byContradiction fun h => h0 (.inr h)
    have hrow : row = [] := hlast.2 (by rw [hl]; rfl)
    refine ⟨?_, hrow⟩
    rcases Nat.eq_zero_or_pos H with h1 | h1
    · have := h.zero h1 hrow
      exact absurd (List.length_eq_zero_iff.1 this) (fun h => h0 (.inl h))
    · exact h1
theorem measS_read {l : List Nat} {W H : Nat} {cells : List Nat} (h : measS l = some (W, H, cells)) : cells.length = W * H ∧ cells.all letterS = true := by
  unfold measS at h
  by_cases h0 : l = [] ∨ l.getLast? ≠ some 10
  · rw [if_pos h0] at h; cases h
  · rw [if_neg h0] at h
    have hla : l.getLast? = some 10 := Decidable.byContradiction fun h => h0 (.inr h)
    have := (parseF_read l 0 0 [] [] _ _ _ ⟨rfl, fun h => absurd h (by omega), fun _ => rfl, rfl, rfl⟩ (.inr (by simpa using hla)) h).1
    exact ⟨this.len, this.ok⟩

/-- All letters but the line feeds, in their order. -/
def flatS (l : List Nat) : List Nat := l.filter fun c => c != 10
theorem parseF_flat (r : List Nat) : ∀ (W H : Nat) (cells row : List Nat) (W' H' : Nat) (cells' : List Nat), parseF r W H cells row = some (W', H', cells') →
    (∀ c ∈ r, c = 10 ∨ letterS c = true) ∧ ((row ++ r = [] ∨ (row ++ r).getLast? = some 10) → (∀ x ∈ row, x ≠ 10) → cells' = cells ++ row ++ flatS r) := by
  induction r with
  | nil =>
    intro W H cells row W' H' cells' hp
    simp only [parseF, Option.some.injEq, Prod.mk.injEq] at hp
    obtain ⟨rfl, rfl, rfl⟩ := hp
    refine ⟨by simp, fun hlast hrow => ?_⟩
    have : row = [] := by
      rcases hlast with h | h
      · simpa using h
      · rw [List.append_nil] at h
        exact absurd rfl (hrow 10 (List.mem_of_getLast? h))
    subst this
    simp [flatS]
  | cons c r ih =>
    intro W H cells row W' H' cells' hp
    by_cases hc : c = 10
    · subst hc
      simp only [parseF, ne_eq, not_true_eq_false, if_false] at hp
      by_cases hbad : row = [] ∨ (0 < H ∧ row.length ≠ W)
      · rw [if_pos hbad] at hp; cases hp
      · rw [if_neg hbad] at hp
        obtain ⟨g1, g2⟩ := ih _ _ _ _ _ _ _ hp
        refine ⟨fun c hc => ?_, fun hlast hrow => ?_⟩
        · rcases List.mem_cons.1 hc with rfl | hc
          · exact .inl rfl
          · exact g1 c hc
        · have := g2 (by
            rcases r with _ | ⟨d, r⟩
            · exact .inl rfl
            · refine .inr ?_
              rcases hlast with h | h
              · simp at h
              · rw [List.nil_append]
                rw [List.getLast?_append] at h
                simpa using h) (by simp)
          rw [this]
          simp [flatS]
    · simp only [parseF, ne_eq, hc, not_false_eq_true, if_true] at hp
      by_cases hl : letterS c = true
      · rw [if_pos hl] at hp
        obtain ⟨g1, g2⟩ := ih _ _ _ _ _ _ _ hp
        refine ⟨fun d hd => ?_, fun hlast hrow => ?_⟩
        · rcases List.mem_cons.1 hd with rfl | hd
          · exact .inr hl
          · exact g1 d hd
        · have := g2 (by rwa [List.append_assoc, List.singleton_append]) (by
            intro x hx
            rcases List.mem_append.1 hx with hx | hx
            · exact hrow x hx
            · simp at hx; rw [hx]; exact hc)
          rw [this]
          simp [flatS, hc]
      · rw [if_neg hl] at hp; cases hp
theorem measS_flat {l : List Nat} {W H : Nat} {cells : List Nat} (h : measS l = some (W, H, cells)) : (∀ c ∈ l, c = 10 ∨ letterS c = true) ∧ cells = flatS l := by
  unfold measS at h
  by_cases h0 : l = [] ∨ l.getLast? ≠ some 10
  · rw [if_pos h0] at h; cases h
  · rw [if_neg h0] at h
    have hla : l.getLast? = some 10 := Decidable.byContradiction fun h => h0 (.inr h)
    obtain ⟨g1, g2⟩ := parseF_flat l 0 0 [] [] _ _ _ h
    exact ⟨g1, by simpa using g2 (.inr (by simpa using hla)) (by simp)⟩
theorem flatS_snoc {l : List Nat} {k c : Nat} (hk : k < l.length) (hc : l.getD k 0 = c) : flatS (l.take (k + 1)) = flatS (l.take k) ++ (if c = 10 then [] else [c]) := by
  unfold flatS
  rw [take_at hk, hc, List.filter_append]
  by_cases h : c = 10 <;> simp [h]
theorem flatS_len (l : List Nat) (k : Nat) : (flatS (l.take k)).length ≤ (flatS l).length := by
  unfold flatS
  conv => rhs; rw [← List.take_append_drop k l, List.filter_append, List.length_append]
  omega
end Go.Proofs.YtplnaaokapilpaaDoor.Vm

namespace Go.Proofs.YtplnaaokapilpaaDoor.Vm

/-- From c one comes to 'to' by n steps. -/
def Reach (S : Nat → List Nat) (to : Nat) : Nat → Nat → Prop
  | 0, c => c = to
  | n + 1, c => ∃ x ∈ S c, Reach S to n x
/-- The distance is n. -/
def FarS (S : Nat → List Nat) (to c n : Nat) : Prop := Reach S to n c ∧ ∀ m, m < n → ¬ Reach S to m c
/-- There is no way. -/
def NoWay (S : Nat → List Nat) (to c : Nat) : Prop := ∀ n, ¬ Reach S to n c

section
variable {S S' : Nat → List Nat} {to c x n m : Nat}
theorem least_of {P : Nat → Prop} : ∀ n, P n → ∃ k, k ≤ n ∧ P k ∧ ∀ m, m < k → ¬ P m := by
  intro n
  induction n using Nat.strongRecOn with
  | ind n ih =>
    intro hn
    by_cases h : ∃ m, m < n ∧ P m
    · obtain ⟨m, hm, hp⟩ := h
      obtain ⟨k, h1, h2, h3⟩ := ih m hm hp
      exact ⟨k, by omega, h2, h3⟩
    · exact ⟨n, Nat.le_refl _, hn, fun m hm hp => h ⟨m, hm, hp⟩⟩
theorem Reach.far (h : Reach S to n c) : ∃ k, k ≤ n ∧ FarS S to c k := by
  obtain ⟨k, h1, h2, h3⟩ := least_of (P := fun n => Reach S to n c) n h
  exact ⟨k, h1, h2, h3⟩
theorem FarS.only (h1 : FarS S to c n) (h2 : FarS S to c m) : n = m := by
  rcases Nat.lt_trichotomy n m with h | h | h
  · exact absurd h1.1 (h2.2 n h)
  · exact h
  · exact absurd h2.1 (h1.2 m h)
theorem FarS.not (h1 : FarS S to c n) (h2 : NoWay S to c) : False := h2 n h1.1
theorem far_or (S : Nat → List Nat) (to c : Nat) : (∃ n, FarS S to c n) ∨ NoWay S to c := by
  by_cases h : ∃ n, Reach S to n c
  · obtain ⟨n, hn⟩ := h
    obtain ⟨k, _, hk⟩ := hn.far
    exact .inl ⟨k, hk⟩
  · exact .inr fun n hn => h ⟨n, hn⟩
theorem far_zero : FarS S to c 0 ↔ c = to := ⟨fun h => h.1, fun h => ⟨h, fun _ hm => absurd hm (by omega)⟩⟩
/-- From where it is far some step leads nearer by just one. -/
theorem FarS.step (h : FarS S to c (n + 1)) : ∃ x ∈ S c, FarS S to x n := by
  obtain ⟨x, hx, hr⟩ := h.1
  refine ⟨x, hx, hr, fun m hm hr' => ?_⟩
  exact h.2 (m + 1) (by omega) ⟨x, hx, hr'⟩
/-- A step leads nearer by one at most. -/
theorem FarS.near (h : FarS S to x n) (hx : x ∈ S c) : ∃ k, k ≤ n + 1 ∧ FarS S to c k := Reach.far (n := n + 1) ⟨x, hx, h.1⟩
/-- How the next distance is told by the last. -/
theorem far_next : FarS S to c (n + 1) ↔ (∀ m, m ≤ n → ¬ FarS S to c m) ∧ ∃ x ∈ S c, FarS S to x n := by
  refine ⟨fun h => ⟨fun m hm h2 => by have := h.only h2; omega, h.step⟩, fun ⟨h1, x, hx, h2⟩ => ?_⟩
  obtain ⟨k, hk, h3⟩ := h2.near hx
  have : k = n + 1 := by
    rcases Nat.lt_or_ge k (n + 1) with h | h
    · exact absurd h3 (h1 k (by omega))
    · omega
  subst this
  exact h3
/-- Where no cell is at a distance, none is farther. -/
theorem far_end (h : ∀ c, ¬ FarS S to c n) : ∀ m, n ≤ m → ∀ c, ¬ FarS S to c m := by
  intro m
  induction m with
  | zero =>
    intro hm c
    obtain rfl : n = 0 := by omega
    exact h c
  | succ m ih =>
    intro hm c hc
    rcases Nat.lt_or_ge m n with h2 | h2
    · obtain rfl : n = m + 1 := by omega
      exact h c hc
    · obtain ⟨x, _, hx⟩ := hc.step
      exact ih h2 x hx
/-- Fewer steps let nothing be nearer. -/
theorem Reach.more (hs : ∀ c x, x ∈ S' c → x ∈ S c) : ∀ n c, Reach S' to n c → Reach S to n c := by
  intro n
  induction n with
  | zero => intro c h; exact h
  | succ n ih => intro c ⟨x, hx, hr⟩; exact ⟨x, hs c x hx, ih x hr⟩
/-- There, and on from there. -/
theorem Reach.on {b : Nat} (h2 : Reach S to m b) : ∀ n c, Reach S b n c → Reach S to (n + m) c := by
  intro n
  induction n with
  | zero => intro c h; rw [Nat.zero_add]; have : c = b := h; rw [this]; exact h2
  | succ n ih => intro c ⟨x, hx, hr⟩; rw [show n + 1 + m = (n + m) + 1 by omega]; exact ⟨x, hx, ih x hr⟩
end

/-- A list that holds the distances: -1 where there is no way. -/
def IsField (S : Nat → List Nat) (to N : Nat) (l : List Int) : Prop := l.length = N ∧ ∀ c, c < N → (∃ n : Nat, l.getD c 0 = n ∧ FarS S to c n) ∨ (l.getD c 0 = -1 ∧ NoWay S to c)
theorem IsField.only {S : Nat → List Nat} {to N : Nat} {l l' : List Int} (h : IsField S to N l) (h' : IsField S to N l') : l = l' := by
  apply List.ext_getElem (by rw [h.1, h'.1])
  intro i h1 h2
  have hi : i < N := by rw [← h.1]; exact h1
  have e1 : l.getD i 0 = l[i] := by simp [List.getD, h1]
  have e2 : l'.getD i 0 = l'[i] := by simp [List.getD, h2]
  rw [← e1, ← e2]
  rcases h.2 i hi with ⟨n, g1, g2⟩ | ⟨g1, g2⟩ <;> rcases h'.2 i hi with ⟨m, k1, k2⟩ | ⟨k1, k2⟩
  · rw [g1, k1, g2.only k2]
  · exact absurd k2 (fun hn => g2.not hn)
  · exact absurd g2 (fun hn => k2.not hn)
  · rw [g1, k1]

/-- The distances up to n are told; what is farther is -1. -/
def UpTo (S : Nat → List Nat) (to N n : Nat) (l : List Int) : Prop := l.length = N ∧ ∀ c, c < N → (∃ d : Nat, d ≤ n ∧ l.getD c 0 = d ∧ FarS S to c d) ∨ (l.getD c 0 = -1 ∧ ∀ d, d ≤ n → ¬ FarS S to c d)
theorem UpTo.done {S : Nat → List Nat} {to N n : Nat} {l : List Int} (h : UpTo S to N n l) (hno : ∀ c, c < N → ¬ FarS S to c (n + 1)) (hS : ∀ c, N ≤ c → ¬ FarS S to c (n + 1)) : IsField S to N l := by
  refine ⟨h.1, fun c hc => ?_⟩
  rcases h.2 c hc with ⟨d, _, h1, h2⟩ | ⟨h1, h2⟩
  · exact .inl ⟨d, h1, h2⟩
  · refine .inr ⟨h1, fun k hk => ?_⟩
    obtain ⟨j, _, hj⟩ := hk.far
    have hall : ∀ c, ¬ FarS S to c (n + 1) := fun c => by
      rcases Nat.lt_or_ge c N with h | h
      · exact hno c h
      · exact hS c h
    rcases Nat.lt_or_ge n j with h3 | h3
    · exact far_end hall j (by omega) c hj
    · exact h2 j h3 hj

/-- How many cells are not told yet. -/
def untold (l : List Int) : Nat := l.countP fun x => x == -1
theorem untold_set : ∀ (l : List Int) (c : Nat) (v : Int), c < l.length → l.getD c 0 = -1 → v ≠ -1 → untold (l.set c v) + 1 = untold l := by
  intro l
  induction l with
  | nil => intro c v h; simp at h
  | cons a l ih =>
    intro c v h h1 h2
    cases c with
    | zero =>
      simp at h1
      subst h1
      simp [untold, h2]
    | succ c =>
      simp only [List.set_cons_succ, untold, List.countP_cons]
      have := ih c v (by simpa using h) (by simpa using h1) h2
      simp only [untold] at this
      omega

/-- The cells below c are told up to n + 1, the others up to n. -/
def Mid (S : Nat → List Nat) (to N n c : Nat) (l : List Int) : Prop := l.length = N ∧ ∀ d, d < N →
  (∃ e : Nat, e ≤ (if d < c then n + 1 else n) ∧ l.getD d 0 = e ∧ FarS S to d e) ∨ (l.getD d 0 = -1 ∧ ∀ e, e ≤ (if d < c then n + 1 else n) → ¬ FarS S to d e)
section
variable {S : Nat → List Nat} {to N n c x : Nat} {l : List Int}
theorem Mid.start (h : UpTo S to N n l) : Mid S to N n 0 l := ⟨h.1, fun d hd => by rw [if_neg (by omega)]; exact h.2 d hd⟩
theorem Mid.done (h : Mid S to N n N l) : UpTo S to N (n + 1) l := ⟨h.1, fun d hd => by have := h.2 d hd; rwa [if_pos hd] at this⟩
theorem Mid.is (h : Mid S to N n c l) (hx : x < N) : l.getD x 0 = (n : Int) ↔ FarS S to x n := by
  rcases h.2 x hx with ⟨e, h1, h2, h3⟩ | ⟨h1, h2⟩
  · rw [h2]
    refine ⟨fun h => ?_, fun h => by rw [h3.only h]⟩
    obtain rfl : e = n := by omega
    exact h3
  · rw [h1]
    refine ⟨fun h => absurd h (by omega), fun h => absurd h (h2 n (by split <;> omega))⟩
theorem Mid.told (h : Mid S to N n c l) (hc : c < N) (hl : l.getD c 0 ≠ -1) : Mid S to N n (c + 1) l := by
  refine ⟨h.1, fun d hd => ?_⟩
  by_cases hdc : d = c
  · subst hdc
    rw [if_pos (by omega)]
    rcases h.2 d hd with ⟨e, h1, h2, h3⟩ | ⟨h1, _⟩
    · rw [if_neg (by omega)] at h1
      exact .inl ⟨e, by omega, h2, h3⟩
    · exact absurd h1 hl
  · have := h.2 d hd
    by_cases h1 : d < c
    · rw [if_pos h1] at this; rw [if_pos (by omega)]; exact this
    · rw [if_neg h1] at this; rw [if_neg (by omega)]; exact this
theorem Mid.none (h : Mid S to N n c l) (hc : c < N) (hl : l.getD c 0 = -1) (hS : ∀ x ∈ S c, x < N) (hno : ∀ x ∈ S c, l.getD x 0 ≠ (n : Int)) : Mid S to N n (c + 1) l ∧ ¬ FarS S to c (n + 1) := by
  have hnf : ¬ FarS S to c (n + 1) := fun hf => by
    obtain ⟨x, hx, hxf⟩ := hf.step
    exact hno x hx ((h.is (hS x hx)).2 hxf)
  refine ⟨⟨h.1, fun d hd => ?_⟩, hnf⟩
  by_cases hdc : d = c
  · subst hdc
    rw [if_pos (by omega)]
    refine .inr ⟨hl, fun e he => ?_⟩
    rcases h.2 d hd with ⟨e', _, h2, _⟩ | ⟨_, h2⟩
    · rw [hl] at h2; omega
    · rw [if_neg (by omega)] at h2
      by_cases h3 : e = n + 1
      · subst h3; exact hnf
      · exact h2 e (by omega)
  · have := h.2 d hd
    by_cases h1 : d < c
    · rw [if_pos h1] at this; rw [if_pos (by omega)]; exact this
    · rw [if_neg h1] at this; rw [if_neg (by omega)]; exact this
theorem Mid.some (h : Mid S to N n c l) (hc : c < N) (hl : l.getD c 0 = -1) (hx : x ∈ S c) (hxN : x < N) (hn : l.getD x 0 = (n : Int)) : Mid S to N n (c + 1) (l.set c ((n + 1 : Nat) : Int)) ∧ FarS S to c (n + 1) := by
  have hf : FarS S to c (n + 1) := by
    refine far_next.2 ⟨fun m hm => ?_, x, hx, (h.is hxN).1 hn⟩
    rcases h.2 c hc with ⟨e, _, h2, _⟩ | ⟨_, h2⟩
    · rw [hl] at h2; omega
    · exact h2 m (by rw [if_neg (by omega)]; exact hm)
  refine ⟨⟨by rw [List.length_set]; exact h.1, fun d hd => ?_⟩, hf⟩
  by_cases hdc : d = c
  · subst hdc
    rw [if_pos (by omega)]
    refine .inl ⟨n + 1, Nat.le_refl _, ?_, hf⟩
    simp [List.getD, h.1, hd]
  · have e : (l.set c ((n + 1 : Nat) : Int)).getD d 0 = l.getD d 0 := by simp [List.getD, Ne.symm hdc]
    rw [e]
    have := h.2 d hd
    by_cases h1 : d < c
    · rw [if_pos h1] at this; rw [if_pos (by omega)]; exact this
    · rw [if_neg h1] at this; rw [if_neg (by omega)]; exact this
/-- The list that tells the goal alone. -/
theorem UpTo.first (hto : to < N) : UpTo S to N 0 ((List.replicate N (-1 : Int)).set to 0) := by
  refine ⟨by simp, fun c hc => ?_⟩
  by_cases h : c = to
  · subst h
    exact .inl ⟨0, Nat.le_refl _, by simp [List.getD, hc], far_zero.2 rfl⟩
  · refine .inr ⟨by simp [List.getD, Ne.symm h, hc], fun d hd hf => ?_⟩
    obtain rfl : d = 0 := by omega
    exact h (far_zero.1 hf)
/-- Where no step leads to the goal, the goal alone is told. -/
theorem field_shut (hto : to < N) (hno : ∀ c, to ∉ S c) : IsField S to N ((List.replicate N (-1 : Int)).set to 0) := by
  have h1 : ∀ c, ¬ FarS S to c 1 := fun c hf => by
    obtain ⟨x, hx, hxf⟩ := hf.step
    have : x = to := far_zero.1 hxf
    subst this
    exact hno c hx
  exact (UpTo.first hto).done (fun c _ => h1 c) (fun c _ => h1 c)
end
end Go.Proofs.YtplnaaokapilpaaDoor.Vm

namespace Go.Proofs.YtplnaaokapilpaaDoor.Vm

open Classical in
/-- The distance, or -1. -/
noncomputable def farI (S : Nat → List Nat) (to c : Nat) : Int := if h : ∃ n, FarS S to c n then (h.choose : Int) else -1
section
variable {S S' : Nat → List Nat} {to c x n m N : Nat} {l : List Int}
theorem farI_far (h : FarS S to c n) : farI S to c = n := by
  unfold farI
  rw [dif_pos ⟨n, h⟩]
  have hs := Exists.choose_spec (p := fun n => FarS S to c n) ⟨n, h⟩
  rw [hs.only h]
theorem farI_no (h : NoWay S to c) : farI S to c = -1 := by
  unfold farI
  rw [dif_neg (fun ⟨n, hn⟩ => hn.not h)]
theorem farI_case (S : Nat → List Nat) (to c : Nat) : (∃ n : Nat, farI S to c = n ∧ FarS S to c n) ∨ (farI S to c = -1 ∧ NoWay S to c) := by
  rcases far_or S to c with ⟨n, h⟩ | h
  · exact .inl ⟨n, farI_far h, h⟩
  · exact .inr ⟨farI_no h, h⟩
theorem farI_self : farI S to to = 0 := farI_far (far_zero.2 rfl)
theorem farI_zero : farI S to c = 0 ↔ c = to := by
  refine ⟨fun h => ?_, fun h => by subst h; exact farI_self⟩
  rcases farI_case S to c with ⟨n, h1, h2⟩ | ⟨h1, _⟩
  · obtain rfl : n = 0 := by omega
    exact far_zero.1 h2
  · omega
theorem farI_ge (S : Nat → List Nat) (to c : Nat) : -1 ≤ farI S to c := by
  rcases farI_case S to c with ⟨n, h, _⟩ | ⟨h, _⟩ <;> omega
theorem IsField.at (h : IsField S to N l) (hc : c < N) : l.getD c 0 = farI S to c := by
  rcases h.2 c hc with ⟨n, h1, h2⟩ | ⟨h1, h2⟩
  · rw [h1, farI_far h2]
  · rw [h1, farI_no h2]
/-- A step leads nearer by one at most. -/
theorem farI_near (hx : x ∈ S c) (h : 0 ≤ farI S to x) : 0 ≤ farI S to c ∧ farI S to c ≤ farI S to x + 1 := by
  rcases farI_case S to x with ⟨n, h1, h2⟩ | ⟨h1, _⟩
  · obtain ⟨k, hk, h3⟩ := h2.near hx
    rw [h1, farI_far h3]
    omega
  · omega
/-- From where it is far some step leads nearer by just one. -/
theorem farI_step (h : 0 < farI S to c) : ∃ x ∈ S c, 0 ≤ farI S to x ∧ farI S to x = farI S to c - 1 := by
  rcases farI_case S to c with ⟨n, h1, h2⟩ | ⟨h1, _⟩
  · obtain ⟨k, rfl⟩ : ∃ k, n = k + 1 := ⟨n - 1, by omega⟩
    obtain ⟨x, hx, h3⟩ := h2.step
    refine ⟨x, hx, ?_⟩
    rw [farI_far h3, h1]
    omega
  · omega
/-- Fewer steps let nothing be nearer. -/
theorem farI_more (hs : ∀ c x, x ∈ S' c → x ∈ S c) (h : 0 ≤ farI S' to c) : 0 ≤ farI S to c ∧ farI S to c ≤ farI S' to c := by
  rcases farI_case S' to c with ⟨n, h1, h2⟩ | ⟨h1, _⟩
  · obtain ⟨k, hk, h3⟩ := (Reach.more hs n c h2.1).far
    rw [h1, farI_far h3]
    omega
  · omega
/-- There, and on from there. -/
theorem farI_on {b : Nat} (h1 : 0 ≤ farI S b c) (h2 : 0 ≤ farI S to b) : 0 ≤ farI S to c ∧ farI S to c ≤ farI S b c + farI S to b := by
  rcases farI_case S b c with ⟨n, e1, f1⟩ | ⟨e1, _⟩
  · rcases farI_case S to b with ⟨m, e2, f2⟩ | ⟨e2, _⟩
    · obtain ⟨k, hk, h3⟩ := (Reach.on f2.1 n c f1.1).far
      rw [e1, e2, farI_far h3]
      omega
    · omega
  · omega
end

/-- The cells to which a step leads, none of them blocked. -/
def stepsS (W H : Int) (l : List Nat) (bl : List Int) (c : Nat) : List Nat :=
  [1, 2, 3, 4].filterMap fun way : Nat => if (goesS W H l c way).2 = true ∧ (goesS W H l c way).1 ∉ bl then some (goesS W H l c way).1.toNat else none
section
variable {W H : Int} {l : List Nat} {bl bl' : List Int} {c x : Nat}
theorem goesS_nat {cell way to : Int} (h : goesS W H l cell way = (to, true)) : 0 ≤ to ∧ to < (l.length : Int) := by
  have := (goesS_step h).1
  unfold floorS at this
  rw [Bool.and_eq_true, decide_eq_true_eq] at this
  exact this.1
theorem steps_mem : x ∈ stepsS W H l bl c ↔ ∃ way : Nat, (1 ≤ way ∧ way ≤ 4) ∧ goesS W H l c way = ((x : Int), true) ∧ (x : Int) ∉ bl := by
  unfold stepsS
  rw [List.mem_filterMap]
  refine ⟨fun ⟨way, hw, h⟩ => ?_, fun ⟨way, hw, h1, h2⟩ => ?_⟩
  · have hw4 : 1 ≤ way ∧ way ≤ 4 := by simp at hw; omega
    by_cases hc : (goesS W H l c way).2 = true ∧ (goesS W H l c way).1 ∉ bl
    · rw [if_pos hc] at h
      have hx : (goesS W H l c way).1.toNat = x := Option.some.inj h
      have hg : goesS W H l c way = ((goesS W H l c way).1, true) := Prod.ext rfl hc.1
      have h0 := (goesS_nat hg).1
      have hx2 : (goesS W H l c way).1 = (x : Int) := by omega
      exact ⟨way, hw4, by rw [hg, hx2], by rw [← hx2]; exact hc.2⟩
    · rw [if_neg hc] at h; cases h
  · refine ⟨way, by simp; omega, ?_⟩
    rw [h1, if_pos ⟨rfl, h2⟩]
    simp
theorem steps_in (h : x ∈ stepsS W H l bl c) : x < l.length := by
  obtain ⟨way, _, h1, _⟩ := steps_mem.1 h
  have := goesS_nat h1
  omega
theorem steps_more (h : ∀ b ∈ bl, b ∈ bl') : ∀ c x, x ∈ stepsS W H l bl' c → x ∈ stepsS W H l bl c := fun c x hx => by
  obtain ⟨way, h1, h2, h3⟩ := steps_mem.1 hx
  exact steps_mem.2 ⟨way, h1, h2, fun h4 => h3 (h _ h4)⟩
theorem steps_shut (h : (x : Int) ∈ bl) (c : Nat) : x ∉ stepsS W H l bl c := fun hx => by
  obtain ⟨_, _, _, h3⟩ := steps_mem.1 hx
  exact h3 h
end

/-- The distance from a cell to another one, as the chapter has it. -/
noncomputable def farG (W H : Int) (l : List Nat) (bl : List Int) (a b : Int) : Int := if floorS l a = true ∧ floorS l b = true then farI (stepsS W H l bl) b.toNat a.toNat else -1
theorem farG_ge (W H : Int) (l : List Nat) (bl : List Int) (a b : Int) : -1 ≤ farG W H l bl a b := by
  unfold farG
  split
  · exact farI_ge _ _ _
  · omega
theorem farG_floor {W H : Int} {l : List Nat} {bl : List Int} {a b : Int} (h : 0 ≤ farG W H l bl a b) : floorS l a = true ∧ floorS l b = true := by
  unfold farG at h
  by_cases hc : floorS l a = true ∧ floorS l b = true
  · exact hc
  · rw [if_neg hc] at h; omega
/-- What is blocked more lets nothing be nearer. -/
theorem farG_more {W H : Int} {l : List Nat} {bl bl' : List Int} {a b : Int} (hs : ∀ x ∈ bl, x ∈ bl') (h : 0 ≤ farG W H l bl' a b) : 0 ≤ farG W H l bl a b ∧ farG W H l bl a b ≤ farG W H l bl' a b := by
  have hf := farG_floor h
  unfold farG at h ⊢
  rw [if_pos hf] at h ⊢
  rw [if_pos hf]
  exact farI_more (steps_more hs) h
theorem farG_on {W H : Int} {l : List Nat} {bl : List Int} {a b c : Int} (h1 : 0 ≤ farG W H l bl a b) (h2 : 0 ≤ farG W H l bl b c) : 0 ≤ farG W H l bl a c ∧ farG W H l bl a c ≤ farG W H l bl a b + farG W H l bl b c := by
  have f1 := farG_floor h1
  have f2 := farG_floor h2
  unfold farG at h1 h2 ⊢
  rw [if_pos f1] at h1 ⊢
  rw [if_pos f2] at h2 ⊢
  rw [if_pos ⟨f1.1, f2.2⟩]
  exact farI_on h1 h2

/-- The nearest so far, the least cell of several: the cell and its distance (-1, -1: none). -/
def nearStep (d : Int → Int) (R : Int × Int) (x : Int) : Int × Int := if 0 ≤ d x ∧ (R.2 < 0 ∨ d x < R.2 ∨ (d x = R.2 ∧ x < R.1)) then (x, d x) else R
def nearS (d : Int → Int) (of : List Int) : Int × Int := of.foldl (nearStep d) (-1, -1)
theorem nearS_snoc (d : Int → Int) (l : List Int) (x : Int) : nearS d (l ++ [x]) = nearStep d (nearS d l) x := by
  unfold nearS
  rw [List.foldl_append]
  rfl
end Go.Proofs.YtplnaaokapilpaaDoor.Vm

namespace Go.Proofs.YtplnaaokapilpaaDoor.Vm

/-- What the walk goes by: from b the ways 1 to 4 lead to just the cells c with b among S c. -/
structure Graph (S : Nat → List Nat) (st : Nat → Nat → Int × Bool) (N : Nat) : Prop where
  edge : ∀ b c : Nat, b < N → (b ∈ S c ↔ ∃ way : Nat, 1 ≤ way ∧ way ≤ 4 ∧ st b way = ((c : Int), true))
  into : ∀ b c : Nat, b ∈ S c → c < N ∧ b < N
  to : ∀ (b way : Nat) (o : Int), b < N → st b way = (o, true) → 0 ≤ o ∧ o < (N : Int)

/-- x may come next behind p: its distance is told, and all that is nearer has come. -/
def Good (S : Nat → List Nat) (s N : Nat) (p : List (Nat × Nat)) (x : Nat × Nat) : Prop :=
  x.1 < N ∧ x.2 < N ∧ FarS S s x.1 x.2 ∧ ∀ c e, FarS S s c e → e < x.2 → (c, e) ∈ p
/-- A beginning. -/
def Begun (S : Nat → List Nat) (s N : Nat) (l : List (Nat × Nat)) : Prop := ∀ p x q, l = p ++ x :: q → Good S s N p x
/-- All have come. -/
def AllCome (S : Nat → List Nat) (s N : Nat) (l : List (Nat × Nat)) : Prop := Begun S s N l ∧ ∀ c e, FarS S s c e → (c, e) ∈ l

theorem Begun.nil {S : Nat → List Nat} {s N : Nat} : Begun S s N [] := fun p x q h => by simp at h
theorem Begun.snoc {S : Nat → List Nat} {s N : Nat} {l : List (Nat × Nat)} {x : Nat × Nat} (h : Begun S s N l) (hx : Good S s N l x) : Begun S s N (l ++ [x]) := by
  intro p y q he
  rcases List.eq_nil_or_concat q with rfl | ⟨q', z, rfl⟩
  · obtain ⟨rfl, h2⟩ := List.append_inj' he rfl
    have h3 : x = y := by simpa using h2
    subst h3
    exact hx
  · have he' : l ++ [x] = (p ++ y :: q') ++ [z] := by rw [he]; simp
    obtain ⟨h1, _⟩ := List.append_inj' he' rfl
    exact h p y q' h1
theorem Begun.last {S : Nat → List Nat} {s N : Nat} {l : List (Nat × Nat)} {x : Nat × Nat} (h : Begun S s N (l ++ [x])) : Good S s N l x := h l x [] rfl
theorem Begun.at {S : Nat → List Nat} {s N c e : Nat} {l : List (Nat × Nat)} (h : Begun S s N l) (hx : (c, e) ∈ l) : c < N ∧ e < N ∧ FarS S s c e := by
  obtain ⟨p, q, rfl⟩ := List.append_of_mem hx
  have := h p (c, e) q rfl
  exact ⟨this.1, this.2.1, this.2.2.1⟩

/-- How many have been seen. -/
def seenN (l : List Bool) : Nat := l.countP id
theorem seenN_set : ∀ (l : List Bool) (c : Nat), c < l.length → l.getD c false = false → seenN (l.set c true) = seenN l + 1 := by
  intro l
  induction l with
  | nil => intro c h; simp at h
  | cons a l ih =>
    intro c h h1
    cases c with
    | zero =>
      simp at h1
      subst h1
      simp [seenN]
    | succ c =>
      simp only [List.set_cons_succ, seenN, List.countP_cons]
      have := ih c (by simpa using h) (by simpa using h1)
      simp only [seenN] at this
      omega
theorem seenN_le (l : List Bool) : seenN l ≤ l.length := List.countP_le_length
theorem seenN_none (N : Nat) : seenN (List.replicate N false) = 0 := by
  rw [seenN, List.countP_eq_zero]
  intro x hx
  rw [(List.mem_replicate.1 hx).2]
  simp
theorem getD_set_ne {l : List Bool} {c o : Nat} (h : c ≠ o) : (l.set o true).getD c false = l.getD c false := by simp [List.getD, Ne.symm h]
theorem getD_set_eq {l : List Bool} {o : Nat} (h : o < l.length) : (l.set o true).getD o false = true := by simp [List.getD, h]

/-- The state: at distance d; i of that distance have come; rest: those that are still to come; next: the cells at distance d + 1 that are found; X: what is still to be looked at. -/
structure Bfs (S : Nat → List Nat) (s N d i : Nat) (pre : List (Nat × Nat)) (rest next : List Nat) (seen : List Bool) (X : Nat → Nat → Prop) : Prop where
  len : seen.length = N
  cnt : pre.length + rest.length + next.length = seenN seen
  mem : ∀ c, seen.getD c false = true ↔ (∃ e, (c, e) ∈ pre) ∨ c ∈ rest ∨ c ∈ next
  beg : Begun S s N pre
  lvl : ∀ c e, (c, e) ∈ pre → e ≤ d ∧ (i = 0 → e < d)
  rst : ∀ c, c ∈ rest → c < N ∧ FarS S s c d
  nxt : ∀ c, c ∈ next → c < N ∧ FarS S s c (d + 1)
  all : ∀ c e, FarS S s c e → e ≤ d → (c, e) ∈ pre ∨ (e = d ∧ c ∈ rest)
  dle : d + i ≤ pre.length
  come : ∀ b c, (b, d) ∈ pre → b ∈ S c → seen.getD c false = true ∨ X b c

/-- What is still to be looked at from b: the ways from k on. -/
def Left (st : Nat → Nat → Int × Bool) (b k : Nat) (b' c : Nat) : Prop := b' = b ∧ ∃ way : Nat, k ≤ way ∧ way ≤ 4 ∧ st b way = ((c : Int), true)
def NoneLeft (_ _ : Nat) : Prop := False

section
variable {S : Nat → List Nat} {st : Nat → Nat → Int × Bool} {s N d i b k : Nat} {pre : List (Nat × Nat)} {rest next : List Nat} {seen : List Bool} {X : Nat → Nat → Prop}

theorem Bfs.start (hs : s < N) : Bfs S s N 0 0 [] [s] [] ((List.replicate N false).set s true) NoneLeft where
  len := by simp
  cnt := by rw [seenN_set _ _ (by simpa using hs) (by simp [List.getD, hs]), seenN_none]; simp
  mem := fun c => by
    by_cases h : c = s
    · subst h
      rw [getD_set_eq (by simpa using hs)]
      simp
    · rw [getD_set_ne h]
      simp [List.getD, h, List.getElem?_replicate]
      split <;> rfl
  beg := .nil
  lvl := fun c e h => by simp at h
  rst := fun c h => by
    obtain rfl : c = s := by simpa using h
    exact ⟨hs, far_zero.2 rfl⟩
  nxt := fun c h => by simp at h
  all := fun c e h he => by
    obtain rfl : e = 0 := by omega
    exact .inr ⟨rfl, by rw [far_zero.1 h]; simp⟩
  dle := by simp
  come := fun b c h => by simp at h

theorem Bfs.few (h : Bfs S s N d i pre rest next seen X) : pre.length + rest.length + next.length ≤ N := by
  rw [h.cnt, ← h.len]; exact seenN_le _
/-- One of this distance comes. -/
theorem Bfs.good (h : Bfs S s N d i pre (b :: rest) next seen X) : Good S s N pre (b, d) := by
  obtain ⟨h1, h2⟩ := h.rst b (by simp)
  have hf := h.few
  have hd := h.dle
  refine ⟨h1, ?_, h2, fun c e hc he => ?_⟩
  · simp at hf; show d < N; omega
  · rcases h.all c e hc (by simp at he; omega) with h3 | ⟨h3, _⟩
    · exact h3
    · simp at he; omega
theorem Bfs.pop (G : Graph S st N) (h : Bfs S s N d i pre (b :: rest) next seen NoneLeft) : Bfs S s N d (i + 1) (pre ++ [(b, d)]) rest next seen (Left st b 1) where
  len := h.len
  cnt := by have := h.cnt; simp at this ⊢; omega
  mem := fun c => by
    rw [h.mem c]
    simp only [List.mem_append, List.mem_cons, List.mem_nil_iff, or_false, Prod.mk.injEq]
    constructor
    · rintro (⟨e, h1⟩ | (rfl | h1) | h1)
      · exact .inl ⟨e, .inl h1⟩
      · exact .inl ⟨d, .inr ⟨rfl, rfl⟩⟩
      · exact .inr (.inl h1)
      · exact .inr (.inr h1)
    · rintro (⟨e, h1 | ⟨h1, _⟩⟩ | h1 | h1)
      · exact .inl ⟨e, h1⟩
      · exact .inr (.inl (.inl h1))
      · exact .inr (.inl (.inr h1))
      · exact .inr (.inr h1)
  beg := h.beg.snoc h.good
  lvl := fun c e he => by
    rcases List.mem_append.1 he with h1 | h1
    · exact ⟨(h.lvl c e h1).1, by omega⟩
    · simp at h1; exact ⟨by omega, by omega⟩
  rst := fun c hc => h.rst c (by simp [hc])
  nxt := h.nxt
  all := fun c e hc he => by
    rcases h.all c e hc he with h1 | ⟨rfl, h1⟩
    · exact .inl (List.mem_append.2 (.inl h1))
    · rcases List.mem_cons.1 h1 with rfl | h2
      · exact .inl (by simp)
      · exact .inr ⟨rfl, h2⟩
  dle := by have := h.dle; simp; omega
  come := fun b' c hb hc => by
    rcases List.mem_append.1 hb with h1 | h1
    · rcases h.come b' c h1 hc with h2 | h2
      · exact .inl h2
      · exact h2.elim
    · obtain rfl : b' = b := by simpa using h1
      exact .inr ⟨rfl, by
        obtain ⟨w, h2, h3, h4⟩ := (G.edge b' c (G.into b' c hc).2).1 hc
        exact ⟨w, h2, h3, h4⟩⟩
/-- A way that does not lead on. -/
theorem Bfs.no (h : Bfs S s N d i pre rest next seen (Left st b k)) (hk : (st b k).2 = false) : Bfs S s N d i pre rest next seen (Left st b (k + 1)) :=
  { h with come := fun b' c hb hc => (h.come b' c hb hc).imp id fun ⟨e, w, h1, h2, h3⟩ => ⟨e, w, by
      by_cases hw : w = k
      · subst hw; rw [h3] at hk; cases hk
      · omega, h2, h3⟩ }
/-- A way to a cell that has been seen. -/
theorem Bfs.old {o : Nat} (h : Bfs S s N d i pre rest next seen (Left st b k)) (hk : st b k = ((o : Int), true)) (ho : seen.getD o false = true) : Bfs S s N d i pre rest next seen (Left st b (k + 1)) :=
  ⟨h.len, h.cnt, h.mem, h.beg, h.lvl, h.rst, h.nxt, h.all, h.dle, fun b' c hb hc => by
      rcases h.come b' c hb hc with h1 | ⟨e, w, h1, h2, h3⟩
      · exact .inl h1
      · by_cases hw : w = k
        · subst hw
          rw [hk] at h3
          have h4 : (o : Int) = c := congrArg Prod.fst h3
          obtain rfl : o = c := by omega
          exact .inl ho
        · exact .inr ⟨e, w, by omega, h2, h3⟩⟩
/-- A way to a new cell. -/
theorem Bfs.new {o : Nat} (G : Graph S st N) (h : Bfs S s N d i pre rest next seen (Left st b k)) (hb : b < N) (hbp : (b, d) ∈ pre) (hk1 : 1 ≤ k) (hk4 : k ≤ 4) (hk : st b k = ((o : Int), true)) (ho : seen.getD o false = false) :
    Bfs S s N d i pre rest (next ++ [o]) (seen.set o true) (Left st b (k + 1)) := by
  have hoN : o < N := by have := (G.to b k o hb hk).2; omega
  have hbo : b ∈ S o := (G.edge b o hb).2 ⟨k, hk1, hk4, hk⟩
  have hfar : FarS S s o (d + 1) := by
    refine far_next.2 ⟨fun m hm hf => ?_, b, hbo, (h.beg.at hbp).2.2⟩
    have : seen.getD o false = true := (h.mem o).2 (by
      rcases h.all o m hf hm with h1 | ⟨_, h1⟩
      · exact .inl ⟨m, h1⟩
      · exact .inr (.inl h1))
    rw [ho] at this; cases this
  have hmono : ∀ c, seen.getD c false = true → (seen.set o true).getD c false = true := fun c hc => by
    by_cases e : c = o
    · subst e; exact getD_set_eq (by rw [h.len]; exact hoN)
    · rw [getD_set_ne e]; exact hc
  refine ⟨by rw [List.length_set]; exact h.len, ?_, fun c => ?_, h.beg, h.lvl, h.rst, fun c hc => ?_, h.all, h.dle, fun b' c hb' hc => ?_⟩
  · rw [seenN_set _ _ (by rw [h.len]; exact hoN) ho, ← h.cnt]; simp; omega
  · by_cases e : c = o
    · subst e
      rw [getD_set_eq (by rw [h.len]; exact hoN)]
      simp
    · rw [getD_set_ne e, h.mem c]
      simp [e]
  · rcases List.mem_append.1 hc with h1 | h1
    · exact h.nxt c h1
    · obtain rfl : c = o := by simpa using h1
      exact ⟨hoN, hfar⟩
  · rcases h.come b' c hb' hc with h1 | ⟨e, w, h1, h2, h3⟩
    · exact .inl (hmono c h1)
    · by_cases hw : w = k
      · subst hw
        rw [hk] at h3
        have h4 : (o : Int) = c := congrArg Prod.fst h3
        obtain rfl : o = c := by omega
        exact .inl (getD_set_eq (by rw [h.len]; exact hoN))
      · exact .inr ⟨e, w, by omega, h2, h3⟩
/-- All ways have been looked at. -/
theorem Bfs.looked (h : Bfs S s N d i pre rest next seen (Left st b 5)) : Bfs S s N d i pre rest next seen NoneLeft :=
  { h with come := fun b' c hb hc => (h.come b' c hb hc).imp id fun ⟨_, w, h1, h2, _⟩ => by omega }
/-- All of this distance have come. -/
theorem Bfs.level (h : Bfs S s N d i pre [] next seen NoneLeft) (hi : 0 < i) : Bfs S s N (d + 1) 0 pre next [] seen NoneLeft where
  len := h.len
  cnt := by have := h.cnt; simp at this ⊢; omega
  mem := fun c => by rw [h.mem c]; simp
  beg := h.beg
  lvl := fun c e he => by have := (h.lvl c e he).1; omega
  rst := h.nxt
  nxt := fun c hc => by simp at hc
  all := fun c e hc he => by
    by_cases h1 : e ≤ d
    · rcases h.all c e hc h1 with h2 | ⟨_, h2⟩
      · exact .inl h2
      · simp at h2
    · obtain rfl : e = d + 1 := by omega
      obtain ⟨x, hx, hf⟩ := hc.step
      have hp : (x, d) ∈ pre := by
        rcases h.all x d hf (Nat.le_refl _) with h2 | ⟨_, h2⟩
        · exact h2
        · simp at h2
      rcases h.come x c hp hx with h2 | h2
      · rcases (h.mem c).1 h2 with ⟨e, h3⟩ | h3 | h3
        · have h4 := (h.beg.at h3).2.2.only hc
          have h5 := (h.lvl c e h3).1
          omega
        · simp at h3
        · exact .inr ⟨rfl, h3⟩
      · exact h2.elim
  dle := by have := h.dle; omega
  come := fun b c hb => by have := (h.lvl b (d + 1) hb).1; omega
/-- Nothing is at this distance: all have come. -/
theorem Bfs.ended (h : Bfs S s N d 0 pre [] [] seen NoneLeft) : AllCome S s N pre := by
  refine ⟨h.beg, fun c e hc => ?_⟩
  have hno : ∀ c, ¬ FarS S s c d := fun c hf => by
    rcases h.all c d hf (Nat.le_refl _) with h2 | ⟨_, h2⟩
    · have := (h.lvl c d h2).2 rfl
      omega
    · simp at h2
  rcases Nat.lt_or_ge e d with h1 | h1
  · rcases h.all c e hc (by omega) with h2 | ⟨h2, _⟩
    · exact h2
    · omega
  · exact absurd hc (far_end hno e h1 c)
end
end Go.Proofs.YtplnaaokapilpaaDoor.Vm
