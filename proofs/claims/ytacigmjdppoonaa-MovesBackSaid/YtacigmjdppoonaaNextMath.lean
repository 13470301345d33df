/- The plain mathematics of robots that stand next to one another: the cells beside a cell, the robots in a cell, which pairs are told, and in what order. No program is named here. -/
import Derived.Test.YtacigmjdppoonaaInMath
namespace Go.Proofs.Ytacigmjdppoonaa.Vm

/-- The cells beside c: above, below, left, right. -/
def besideL (W c : Int) : List Int := [c - W, c + W] ++ (if 0 < c % W then [c - 1] else []) ++ (if c % W < W - 1 then [c + 1] else [])
def InG (S : Nat) (c : Int) : Prop := 0 ≤ c ∧ c < S
instance (S : Nat) (c : Int) : Decidable (InG S c) := by unfold InG; infer_instance
/-- Both are there, in the same row and in columns next to one another, or the other way round. -/
def NextTo (W : Int) (S : Nat) (a b : Int) : Prop := InG S a ∧ InG S b ∧ (a % W - b % W) * (a % W - b % W) + (a / W - b / W) * (a / W - b / W) = 1
instance (W : Int) (S : Nat) (a b : Int) : Decidable (NextTo W S a b) := by unfold NextTo; infer_instance

theorem sq_one {x y : Int} (h : x * x + y * y = 1) : (y = 0 ∧ (x = 1 ∨ x = -1)) ∨ (x = 0 ∧ (y = 1 ∨ y = -1)) := by
  have nn : ∀ z : Int, 0 ≤ z * z := fun z => by rw [← Int.natAbs_mul_self]; omega
  have hx := nn x
  have hy := nn y
  have big : ∀ z : Int, z ≠ 0 → z ≠ 1 → z ≠ -1 → 4 ≤ z * z := fun z h0 h1 h2 => by
    have h3 : 2 ≤ z.natAbs := by omega
    have h4 : z.natAbs * z.natAbs = (z * z).natAbs := (Int.natAbs_mul z z).symm
    have h5 : 2 * 2 ≤ z.natAbs * z.natAbs := Nat.mul_le_mul h3 h3
    have h6 := nn z
    omega
  have fx := big x
  have fy := big y
  by_cases x0 : x = 0
  · subst x0
    refine .inr ⟨rfl, ?_⟩
    by_cases y1 : y = 1
    · exact .inl y1
    · by_cases y2 : y = -1
      · exact .inr y2
      · by_cases y0 : y = 0
        · subst y0; simp at h
        · have := fy y0 y1 y2; omega
  · by_cases x1 : x = 1
    · subst x1
      refine .inl ⟨?_, .inl rfl⟩
      by_cases y0 : y = 0
      · exact y0
      · by_cases y1 : y = 1
        · subst y1; simp at h
        · by_cases y2 : y = -1
          · subst y2; simp at h
          · have := fy y0 y1 y2; omega
    · by_cases x2 : x = -1
      · subst x2
        refine .inl ⟨?_, .inr rfl⟩
        by_cases y0 : y = 0
        · exact y0
        · by_cases y1 : y = 1
          · subst y1; simp at h
          · by_cases y2 : y = -1
            · subst y2; simp at h
            · have := fy y0 y1 y2; omega
      · have := fx x0 x1 x2; omega
theorem divs {W a q r : Int} (hW : 0 < W) (h : a = q * W + r) (h0 : 0 ≤ r) (h1 : r < W) : a % W = r ∧ a / W = q := by
  have := (Int.ediv_emod_unique hW (a := a) (q := q) (r := r)).2 ⟨by rw [h, Int.mul_comm W q]; omega, h0, h1⟩
  exact ⟨this.2, this.1⟩
theorem mem_beside {W a b : Int} : b ∈ besideL W a ↔ b = a - W ∨ b = a + W ∨ (0 < a % W ∧ b = a - 1) ∨ (a % W < W - 1 ∧ b = a + 1) := by
  unfold besideL
  by_cases h1 : 0 < a % W <;> by_cases h2 : a % W < W - 1 <;> simp [h1, h2]
theorem next_beside {W : Int} {S : Nat} {a b : Int} (hW : 1 ≤ W) (ha : InG S a) (hb : InG S b) : NextTo W S a b ↔ b ∈ besideL W a := by
  rw [mem_beside]
  have ra0 := Int.emod_nonneg a (show W ≠ 0 by omega)
  have ra1 := Int.emod_lt_of_pos a (show 0 < W by omega)
  have rb0 := Int.emod_nonneg b (show W ≠ 0 by omega)
  have rb1 := Int.emod_lt_of_pos b (show 0 < W by omega)
  have ea : a = a / W * W + a % W := by have := Int.emod_add_mul_ediv a W; rw [Int.mul_comm] at this; omega
  have eb : b = b / W * W + b % W := by have := Int.emod_add_mul_ediv b W; rw [Int.mul_comm] at this; omega
  constructor
  · rintro ⟨_, _, h⟩
    rcases sq_one h with ⟨hy, hx⟩ | ⟨hx, hy⟩
    · have e : a / W = b / W := by omega
      rw [e] at ea
      rcases hx with hx | hx
      · exact .inr (.inr (.inl ⟨by omega, by omega⟩))
      · exact .inr (.inr (.inr ⟨by omega, by omega⟩))
    · rcases hy with hy | hy
      · have e : a / W = b / W + 1 := by omega
        rw [e, Int.add_mul] at ea
        exact .inl (by omega)
      · have e : b / W = a / W + 1 := by omega
        rw [e, Int.add_mul] at eb
        exact .inr (.inl (by omega))
  · intro h
    refine ⟨ha, hb, ?_⟩
    rcases h with h | h | ⟨h1, h⟩ | ⟨h1, h⟩
    · obtain ⟨e1, e2⟩ := divs (W := W) (a := b) (q := a / W - 1) (r := a % W) (by omega) (by rw [Int.sub_mul]; omega) ra0 ra1
      rw [e1, e2]
      have : a / W - (a / W - 1) = 1 := by omega
      rw [this, Int.sub_self]; rfl
    · obtain ⟨e1, e2⟩ := divs (W := W) (a := b) (q := a / W + 1) (r := a % W) (by omega) (by rw [Int.add_mul]; omega) ra0 ra1
      rw [e1, e2]
      have : a / W - (a / W + 1) = -1 := by omega
      rw [this, Int.sub_self]; rfl
    · obtain ⟨e1, e2⟩ := divs (W := W) (a := b) (q := a / W) (r := a % W - 1) (by omega) (by omega) (by omega) (by omega)
      rw [e1, e2]
      have : a % W - (a % W - 1) = 1 := by omega
      rw [this, Int.sub_self]; rfl
    · obtain ⟨e1, e2⟩ := divs (W := W) (a := b) (q := a / W) (r := a % W + 1) (by omega) (by omega) (by omega) (by omega)
      rw [e1, e2]
      have : a % W - (a % W + 1) = -1 := by omega
      rw [this, Int.sub_self]; rfl
theorem beside_nodup {W a : Int} (hW : 1 ≤ W) : (besideL W a).Pairwise (· ≠ ·) := by
  have ra0 := Int.emod_nonneg a (show W ≠ 0 by omega)
  have ra1 := Int.emod_lt_of_pos a (show 0 < W by omega)
  unfold besideL
  by_cases h1 : 0 < a % W <;> by_cases h2 : a % W < W - 1 <;> simp only [h1, h2, if_true, if_false, List.append_nil, List.cons_append, List.nil_append, List.pairwise_cons, List.mem_cons, List.not_mem_nil, or_false, forall_eq_or_imp, forall_eq, List.Pairwise.nil, and_true, false_imp_iff, implies_true] <;> omega
theorem next_sym {W : Int} {S : Nat} {a b : Int} (h : NextTo W S a b) : NextTo W S b a := by
  obtain ⟨h1, h2, h3⟩ := h
  refine ⟨h2, h1, ?_⟩
  have e1 : b % W - a % W = -(a % W - b % W) := by omega
  have e2 : b / W - a / W = -(a / W - b / W) := by omega
  rw [e1, e2, Int.neg_mul_neg, Int.neg_mul_neg]
  exact h3

/-- The robots of the first k in a cell that is there. -/
def inC (S : Nat) (cells : List Int) (k : Nat) (z : Int) : List Nat := if InG S z then (List.range k).filter (fun j => cells.getD j 0 = z) else []
/-- Those behind robot i in the first t of some cells. -/
def othC (S : Nat) (cells : List Int) (n i : Nat) (l : List Int) : List Nat := l.flatMap fun z => (inC S cells n z).filter (fun j => i < j)
/-- Those next to robot i, of k, behind it. -/
def nextC (W : Int) (S : Nat) (cells : List Int) (i k : Nat) : List Nat := (List.range k).filter fun j => i < j ∧ NextTo W S (cells.getD i 0) (cells.getD j 0)
/-- The pairs of the first k robots with any. -/
def nearC (W : Int) (S : Nat) (cells : List Int) (n k : Nat) : List (Nat × Nat) := (List.range k).flatMap fun i => (nextC W S cells i n).map fun j => (i, j)
def toZ (l : List Nat) : List Int := l.map fun (j : Nat) => (j : Int)
section
variable {W : Int} {S : Nat} {cells : List Int} {n k i : Nat} {z : Int} {l : List Nat}
theorem toZ_len : (toZ l).length = l.length := by simp [toZ]
theorem toZ_append (l m : List Nat) : toZ (l ++ m) = toZ l ++ toZ m := by simp [toZ]
theorem toZ_at {j : Nat} (h : j < l.length) : (toZ l).getD j 0 = ((l.getD j 0 : Nat) : Int) := by simp [toZ, List.getD, h]
theorem inC_zero (z : Int) : inC S cells 0 z = [] := by unfold inC; split <;> rfl
theorem inC_no (h : ¬ InG S z) : inC S cells k z = [] := if_neg h
theorem inC_succ (h : InG S (cells.getD k 0)) (z : Int) : inC S cells (k + 1) z = if z = cells.getD k 0 then inC S cells k z ++ [k] else inC S cells k z := by
  by_cases e : z = cells.getD k 0
  · subst e
    unfold inC
    rw [if_pos h, if_pos rfl, if_pos h, List.range_succ, List.filter_append]
    simp
  · rw [if_neg e]
    unfold inC
    by_cases hz : InG S z
    · rw [if_pos hz, if_pos hz, List.range_succ, List.filter_append]
      rw [List.filter_cons_of_neg (by simpa using fun h => e h.symm)]; simp
    · rw [if_neg hz, if_neg hz]
theorem inC_skip (h : ¬ InG S (cells.getD k 0)) (z : Int) : inC S cells (k + 1) z = inC S cells k z := by
  unfold inC
  by_cases hz : InG S z
  · rw [if_pos hz, if_pos hz, List.range_succ, List.filter_append]
    rw [List.filter_cons_of_neg (by simpa using fun e => h (by simpa [e] using hz))]; simp
  · rw [if_neg hz, if_neg hz]
theorem inC_up : (inC S cells k z).Pairwise (· < ·) := by
  unfold inC
  split
  · exact List.Pairwise.filter _ List.pairwise_lt_range
  · exact .nil
theorem inC_mem {j : Nat} : j ∈ inC S cells k z ↔ InG S z ∧ j < k ∧ cells.getD j 0 = z := by
  unfold inC
  split
  · rename_i h; simp [h]
  · rename_i h; simp [h]
theorem inC_len : (inC S cells k z).length ≤ k := by
  unfold inC
  split
  · exact Nat.le_trans (List.length_filter_le _ _) (by simp)
  · simp
/-- What a search for the first one behind i leaves. -/
theorem low_drop : ∀ {l : List Nat}, l.Pairwise (· < ·) → ∀ x : Nat, (toZ l).drop (lowZ (toZ l) (x : Int)) = toZ (l.filter fun j => x ≤ j)
  | [], _, x => by simp [toZ]
  | c :: l, hp, x => by
    have h1 := List.pairwise_cons.1 hp
    show (((c : Int)) :: toZ l).drop (lowZ ((c : Int) :: toZ l) x) = _
    rw [low_cons]
    by_cases hc : c < x
    · rw [if_pos (by omega), List.drop_succ_cons, low_drop h1.2 x]
      simp [show ¬ x ≤ c by omega]
    · rw [if_neg (by omega)]
      have h0 : lowZ (toZ l) (x : Int) = 0 := low_none fun y hy => by
        obtain ⟨j, hj, rfl⟩ := List.mem_map.1 hy
        have := h1.1 j hj
        omega
      rw [h0, List.drop_zero]
      have : (c :: l).filter (fun j => x ≤ j) = c :: l := by
        rw [List.filter_eq_self]
        intro j hj
        rcases List.mem_cons.1 hj with rfl | hj
        · simp; omega
        · have := h1.1 j hj; simp; omega
      rw [this]; rfl
theorem othC_snoc (l : List Int) (z : Int) : othC S cells n i (l ++ [z]) = othC S cells n i l ++ (inC S cells n z).filter (fun j => i + 1 ≤ j) := by
  unfold othC
  rw [List.flatMap_append]
  simp [Nat.succ_le_iff]
theorem nextC_up : (nextC W S cells i k).Pairwise (· < ·) := List.Pairwise.filter _ List.pairwise_lt_range
theorem nextC_len : (nextC W S cells i k).length ≤ k := Nat.le_trans (List.length_filter_le _ _) (by simp)
theorem othC_perm (hW : 1 ≤ W) (hi : InG S (cells.getD i 0)) : (othC S cells n i (besideL W (cells.getD i 0))).Perm (nextC W S cells i n) := by
  refine (List.perm_ext_iff_of_nodup ?_ ?_).2 fun j => ?_
  · unfold othC List.Nodup
    rw [List.pairwise_flatMap]
    refine ⟨fun z _ => (List.Pairwise.filter _ (inC_up.imp fun h => Nat.ne_of_lt h)), (beside_nodup hW).imp fun {a b} hne x hx y hy e => ?_⟩
    subst e
    have h1 := (inC_mem.1 ((List.mem_filter.1 hx).1)).2.2
    have h2 := (inC_mem.1 ((List.mem_filter.1 hy).1)).2.2
    exact hne (h1.symm.trans h2)
  · exact nextC_up.imp fun h => Nat.ne_of_lt h
  · unfold othC nextC
    simp only [List.mem_flatMap, List.mem_filter, List.mem_range, decide_eq_true_eq, inC_mem]
    constructor
    · rintro ⟨z, hz, ⟨h1, h2, rfl⟩, h3⟩
      exact ⟨h2, h3, (next_beside hW hi h1).2 hz⟩
    · rintro ⟨h2, h3, h4⟩
      exact ⟨_, (next_beside hW hi h4.2.1).1 h4, ⟨h4.2.1, h2, rfl⟩, h3⟩
theorem nextC_none (hi : ¬ InG S (cells.getD i 0)) : nextC W S cells i n = [] := by
  unfold nextC
  rw [List.filter_eq_nil_iff]
  intro j _ h
  exact hi (of_decide_eq_true h).2.1
/-- What is sorted, of a permutation of what rises. -/
theorem sort_is {l m : List Nat} (hp : l.Perm m) (hm : m.Pairwise (· < ·)) : ((toZ l).mergeSort fun x y => decide (x ≤ y)) = toZ m := by
  have h1 : ((toZ l).mergeSort fun x y => decide (x ≤ y)).Perm (toZ m) := (List.mergeSort_perm _ _).trans (hp.map _)
  have h2 : List.Pairwise (fun a b : Int => decide (a ≤ b) = true) ((toZ l).mergeSort fun x y => decide (x ≤ y)) :=
    List.pairwise_mergeSort (fun a b c hab hbc => by simp at *; omega) (fun a b => by simp; omega) _
  have h3 : List.Pairwise (fun a b : Int => decide (a ≤ b) = true) (toZ m) := by
    unfold toZ
    rw [List.pairwise_map]
    exact hm.imp fun h => by simp; omega
  exact List.Perm.eq_of_pairwise (fun a b _ _ hab hba => by simp at hab hba; omega) h2 h3 h1
theorem nearC_succ : nearC W S cells n (k + 1) = nearC W S cells n k ++ (nextC W S cells k n).map fun j => (k, j) := by
  unfold nearC
  rw [List.range_succ, List.flatMap_append]
  simp
theorem nextC_succ : nextC W S cells i (k + 1) = nextC W S cells i k ++ if i < k ∧ NextTo W S (cells.getD i 0) (cells.getD k 0) then [k] else [] := by
  unfold nextC
  rw [List.range_succ, List.filter_append]
  by_cases h : i < k ∧ NextTo W S (cells.getD i 0) (cells.getD k 0)
  · rw [if_pos h, List.filter_cons_of_pos (by simpa using h)]; rfl
  · rw [if_neg h]
    congr 1
    rw [List.filter_eq_nil_iff]
    intro j hj hd
    obtain rfl := List.mem_singleton.1 hj
    exact h (of_decide_eq_true hd)
theorem nextC_start : nextC W S cells i (i + 1) = [] := by
  unfold nextC
  rw [List.filter_eq_nil_iff]
  intro j hj hd
  have := (of_decide_eq_true hd).1
  have := List.mem_range.1 hj
  omega
theorem nearC_len : ∀ k, (nearC W S cells n k).length ≤ k * n
  | 0 => by simp [nearC]
  | k + 1 => by
    rw [nearC_succ, List.length_append, List.length_map, Nat.add_mul]
    have := nearC_len k
    have := nextC_len (W := W) (S := S) (cells := cells) (i := k) (k := n)
    omega
end
end Go.Proofs.Ytacigmjdppoonaa.Vm
