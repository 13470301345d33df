/- The plain mathematics of paths: which steps are permitted, the path of the least cost (searched place by place), that each of its steps is permitted, and that it comes nearer where nobody is in the way. No program is named here. -/
import Derived.Test.YtacigmjdppoonaaGridMath
namespace Go.Proofs.Ytacigmjdppoonaa.Vm

/-- A step is permitted, as far as what is blocked and the other paths go. -/
def MayP (bl : List Int) (oth : List (List Int)) (place : Nat) (f t : Int) : Prop :=
  (t ∈ bl → f = t) ∧ ∀ q ∈ oth, place + 1 < q.length → q.getD (place + 1) 0 ≠ t ∧ ¬ (q.getD (place + 1) 0 = f ∧ q.getD place 0 = t)
instance mayDec (bl : List Int) (oth : List (List Int)) (place : Nat) (f t : Int) : Decidable (MayP bl oth place f t) := by unfold MayP; infer_instance
/-- What a step costs. -/
def costP (far : List Int) (t : Int) : Int := if far.getD t.toNat 0 < 0 then 1000000 else far.getD t.toNat 0
/-- The better one of two paths: the first one where they cost the same. -/
def betterP (cur cand : Option (List Int × Int)) : Option (List Int × Int) :=
  match cand with
  | none => cur
  | some y => match cur with
    | none => some y
    | some x => if y.2 < x.2 then some y else some x
/-- The best of the first m. -/
def bestP (f : Nat → Option (List Int × Int)) : Nat → Option (List Int × Int)
  | 0 => none
  | m + 1 => betterP (bestP f m) (f m)
/-- The best path of k more steps. -/
def pathS (W H : Int) (cells : List Nat) (far bl : List Int) (oth : List (List Int)) : Nat → Int → Option (List Int × Int)
  | 0, _ => some ([], 0)
  | k + 1, c => bestP (fun way => if (goesS W H cells c (way : Nat)).2 = true ∧ MayP bl oth (5 - k) c (goesS W H cells c (way : Nat)).1 then
      (pathS W H cells far bl oth k (goesS W H cells c (way : Nat)).1).map fun x => ((goesS W H cells c (way : Nat)).1 :: x.1, x.2 + costP far (goesS W H cells c (way : Nat)).1) else none) 5
/-- The candidate of a direction. -/
def candP (W H : Int) (cells : List Nat) (far bl : List Int) (oth : List (List Int)) (k : Nat) (c : Int) (way : Nat) : Option (List Int × Int) :=
  if (goesS W H cells c (way : Nat)).2 = true ∧ MayP bl oth (5 - k) c (goesS W H cells c (way : Nat)).1 then
      (pathS W H cells far bl oth k (goesS W H cells c (way : Nat)).1).map fun x => ((goesS W H cells c (way : Nat)).1 :: x.1, x.2 + costP far (goesS W H cells c (way : Nat)).1) else none
theorem pathS_succ (W H : Int) (cells : List Nat) (far bl : List Int) (oth : List (List Int)) (k : Nat) (c : Int) :
    pathS W H cells far bl oth (k + 1) c = bestP (candP W H cells far bl oth k c) 5 := rfl
theorem bestP_none {f : Nat → Option (List Int × Int)} : ∀ {m : Nat}, bestP f m = none → ∀ i, i < m → f i = none
  | 0, _ => fun i hi => by omega
  | m + 1, h => by
    rw [bestP] at h
    cases hf : f m with
    | some y =>
      rw [hf] at h
      cases hb : bestP f m with
      | none =>
        rw [hb] at h
        have h : some y = none := h
        cases h
      | some x =>
        rw [hb] at h
        have h : (if y.2 < x.2 then some y else some x) = none := h
        split at h <;> cases h
    | none =>
      rw [hf] at h
      have h' : bestP f m = none := h
      intro i hi
      by_cases e : i = m
      · subst e; exact hf
      · exact bestP_none h' i (by omega)
theorem bestP_some {f : Nat → Option (List Int × Int)} : ∀ {m : Nat} {y : List Int × Int}, bestP f m = some y → (∃ i, i < m ∧ f i = some y) ∧ ∀ i, i < m → ∀ z, f i = some z → y.2 ≤ z.2
  | 0, _, h => by cases h
  | m + 1, y, h => by
    rw [bestP] at h
    cases hf : f m with
    | none =>
      rw [hf] at h
      have h' : bestP f m = some y := h
      obtain ⟨⟨i, hi, e⟩, h2⟩ := bestP_some h'
      refine ⟨⟨i, by omega, e⟩, fun j hj z hz => ?_⟩
      by_cases ej : j = m
      · subst ej; rw [hf] at hz; cases hz
      · exact h2 j (by omega) z hz
    | some z =>
      rw [hf] at h
      cases hb : bestP f m with
      | none =>
        rw [hb] at h
        have h' : some z = some y := h
        injection h' with h'
        subst h'
        refine ⟨⟨m, by omega, hf⟩, fun j hj z' hz => ?_⟩
        by_cases ej : j = m
        · subst ej; rw [hf] at hz; injection hz with hz; subst hz; exact Int.le_refl _
        · rw [bestP_none hb j (by omega)] at hz; cases hz
      | some x =>
        rw [hb] at h
        have h' : (if z.2 < x.2 then some z else some x) = some y := h
        obtain ⟨⟨i, hi, e⟩, h2⟩ := bestP_some hb
        by_cases hc : z.2 < x.2
        · rw [if_pos hc] at h'
          injection h' with h'
          subst h'
          refine ⟨⟨m, by omega, hf⟩, fun j hj z' hz => ?_⟩
          by_cases ej : j = m
          · subst ej; rw [hf] at hz; injection hz with hz; subst hz; exact Int.le_refl _
          · have := h2 j (by omega) z' hz; omega
        · rw [if_neg hc] at h'
          injection h' with h'
          subst h'
          refine ⟨⟨i, by omega, e⟩, fun j hj z' hz => ?_⟩
          by_cases ej : j = m
          · subst ej; rw [hf] at hz; injection hz with hz; subst hz; omega
          · exact h2 j (by omega) z' hz
theorem candP_some {W H : Int} {cells : List Nat} {far bl : List Int} {oth : List (List Int)} {k way : Nat} {c : Int} {y : List Int × Int} (h : candP W H cells far bl oth k c way = some y) :
    ∃ t x, goesS W H cells c (way : Nat) = (t, true) ∧ MayP bl oth (5 - k) c t ∧ pathS W H cells far bl oth k t = some x ∧ y = (t :: x.1, x.2 + costP far t) := by
  unfold candP at h
  by_cases hc : (goesS W H cells c (way : Nat)).2 = true ∧ MayP bl oth (5 - k) c (goesS W H cells c (way : Nat)).1
  · rw [if_pos hc] at h
    obtain ⟨x, hx, rfl⟩ := Option.map_eq_some_iff.1 h
    exact ⟨_, x, Prod.ext rfl hc.1, hc.2, hx, rfl⟩
  · rw [if_neg hc] at h; cases h
/-- The cells of a path of k steps on from c are reached by steps that are permitted. -/
def StepsP (W H : Int) (cells : List Nat) (bl : List Int) (oth : List (List Int)) : Nat → Int → List Int → Prop
  | 0, _, l => l = []
  | k + 1, c, l => ∃ t r, l = t :: r ∧ (∃ way : Nat, way ≤ 4 ∧ goesS W H cells c (way : Nat) = (t, true)) ∧ MayP bl oth (5 - k) c t ∧ StepsP W H cells bl oth k t r
theorem pathS_steps {W H : Int} {cells : List Nat} {far bl : List Int} {oth : List (List Int)} : ∀ {k : Nat} {c : Int} {x : List Int × Int}, pathS W H cells far bl oth k c = some x → StepsP W H cells bl oth k c x.1
  | 0, _, x, h => by
    have h : some ([], 0) = some x := h
    injection h with h
    subst h
    rfl
  | k + 1, c, y, h => by
    rw [pathS_succ] at h
    obtain ⟨⟨way, hw, hc⟩, _⟩ := bestP_some h
    obtain ⟨t, x, h1, h2, h3, rfl⟩ := candP_some hc
    exact ⟨t, x.1, rfl, ⟨way, by omega, h1⟩, h2, pathS_steps h3⟩
theorem StepsP.len {W H : Int} {cells : List Nat} {bl : List Int} {oth : List (List Int)} : ∀ {k : Nat} {c : Int} {l : List Int}, StepsP W H cells bl oth k c l → l.length = k
  | 0, _, l, h => by
    have h : l = [] := h
    subst h; rfl
  | k + 1, c, l, ⟨t, r, e, _, _, hr⟩ => by subst e; simp [hr.len]
/-- One step of such a path. -/
theorem StepsP.at {W H : Int} {cells : List Nat} {bl : List Int} {oth : List (List Int)} : ∀ {k : Nat} {c : Int} {l : List Int}, StepsP W H cells bl oth k c l → ∀ j, j < k → k ≤ 6 →
    (∃ way : Nat, way ≤ 4 ∧ goesS W H cells ((c :: l).getD j 0) (way : Nat) = (l.getD j 0, true)) ∧ MayP bl oth (6 - k + j) ((c :: l).getD j 0) (l.getD j 0)
  | 0, _, _, _ => fun j hj => by omega
  | k + 1, c, l, ⟨t, r, e, h1, h2, hr⟩ => by
    subst e
    intro j hj hk
    cases j with
    | zero =>
      refine ⟨h1, ?_⟩
      have e : 6 - (k + 1) + 0 = 5 - k := by omega
      rw [e]
      exact h2
    | succ j =>
      have := hr.at j (by omega) (by omega)
      have e : 6 - (k + 1) + (j + 1) = 6 - k + j := by omega
      rw [e]
      exact this
/-- What is paid on a way that comes nearer each time. -/
def sumD : Nat → Int → Int
  | 0, _ => 0
  | k + 1, d => (if d ≤ 0 then 0 else d - 1) + sumD k (if d ≤ 0 then 0 else d - 1)
theorem sumD_mono : ∀ (k : Nat) {d e : Int}, d ≤ e → sumD k d ≤ sumD k e
  | 0, _, _, _ => Int.le_refl _
  | k + 1, d, e, h => by
    have h1 : (if d ≤ 0 then 0 else d - 1) ≤ (if e ≤ 0 then 0 else e - 1) := by split <;> split <;> omega
    have := sumD_mono k h1
    simp only [sumD]
    omega
theorem sumD_ge : ∀ (k : Nat) (d : Int), 0 ≤ sumD k d
  | 0, _ => Int.le_refl _
  | k + 1, d => by
    have h1 : (0 : Int) ≤ (if d ≤ 0 then 0 else d - 1) := by split <;> omega
    have := sumD_ge k (if d ≤ 0 then 0 else d - 1)
    simp only [sumD]
    omega
theorem sumD_le : ∀ (k : Nat) {d M : Int}, d ≤ M → 0 ≤ M → sumD k d ≤ k * M
  | 0, _, _, _, _ => by simp [sumD]
  | k + 1, d, M, h, h0 => by
    have h1 : (if d ≤ 0 then 0 else d - 1) ≤ M := by split <;> omega
    have := sumD_le k h1 h0
    have e : ((k + 1 : Nat) : Int) * M = k * M + M := by rw [Int.natCast_add, Int.add_mul]; simp
    simp only [sumD]
    omega
/-- The costs are not negative, and at most so much. -/
theorem pathS_cost {W H : Int} {cells : List Nat} {far bl : List Int} {oth : List (List Int)} (hf : ∀ i, far.getD i 0 ≤ 1000000) : ∀ {k : Nat} {c : Int} {x : List Int × Int}, pathS W H cells far bl oth k c = some x → 0 ≤ x.2 ∧ x.2 ≤ k * 1000000
  | 0, _, x, h => by
    have h : some ([], 0) = some x := h
    injection h with h
    subst h
    simp
  | k + 1, c, y, h => by
    rw [pathS_succ] at h
    obtain ⟨⟨way, hw, hc⟩, _⟩ := bestP_some h
    obtain ⟨t, x, h1, h2, h3, rfl⟩ := candP_some hc
    have := pathS_cost hf h3
    have h4 : 0 ≤ costP far t ∧ costP far t ≤ 1000000 := by
      unfold costP
      have := hf t.toNat
      split <;> omega
    simp only []
    omega
/-- A path that comes nearer each time, from this far. -/
def ComesP (far : List Int) : Int → List Int → Prop
  | _, [] => True
  | d, t :: r => far.getD t.toNat 0 = (if d ≤ 0 then 0 else d - 1) ∧ ComesP far (if d ≤ 0 then 0 else d - 1) r
theorem MayP.free {bl : List Int} {place : Nat} {f t : Int} : MayP bl [] place f t ↔ (t ∈ bl → f = t) := ⟨fun h => h.1, fun h => ⟨h, fun q hq => by cases hq⟩⟩
theorem goesS_stay {W H : Int} {cells : List Nat} {c : Int} (h : floorS cells c = true) : goesS W H cells c ((0 : Nat) : Int) = (c, true) := by
  unfold goesS
  rw [if_neg (by rw [h]; simp), if_pos (by simp)]
/-- Where nobody is in the way, the path comes nearer each time, and costs what such a way costs. -/
theorem pathS_near {W H : Int} {cells : List Nat} {far bl : List Int} {to : Nat} (hfl : IsField (stepsS W H cells bl) to cells.length far) (hN : cells.length ≤ 65536) (hd : ∀ i, i < cells.length → far.getD i 0 ≤ 65536) :
    ∀ {k : Nat} {c : Nat}, k ≤ 6 → floorS cells (c : Int) = true → 0 ≤ far.getD c 0 → ∃ x, pathS W H cells far bl [] k (c : Int) = some x ∧ x.2 = sumD k (far.getD c 0) ∧ ComesP far (far.getD c 0) x.1
  | 0, c, _, _, _ => ⟨([], 0), rfl, rfl, trivial⟩
  | k + 1, c, hk, hc, h0 => by
    have hcl : c < cells.length := by
      unfold floorS at hc
      rw [Bool.and_eq_true, decide_eq_true_eq] at hc
      omega
    have hfe : ∀ i, i < cells.length → far.getD i 0 = farI (stepsS W H cells bl) to i := fun i hi => hfl.at hi
    have hfge : ∀ i, i < cells.length → -1 ≤ far.getD i 0 := fun i hi => by rw [hfe i hi]; exact farI_ge _ _ _
    have hall : ∀ i, far.getD i 0 ≤ 1000000 := fun i => by
      by_cases hi : i < cells.length
      · have := hd i hi; omega
      · have : far.length ≤ i := by rw [hfl.1]; omega
        simp [List.getD, this]
    obtain ⟨d, hdd⟩ : ∃ d, far.getD c 0 = d := ⟨_, rfl⟩
    obtain ⟨e, hee⟩ : ∃ e, (if d ≤ 0 then 0 else d - 1) = e := ⟨_, rfl⟩
    have he0 : 0 ≤ e := by rw [← hee]; split <;> omega
    have hed : e ≤ 65536 := by have := hd c hcl; rw [hdd] at this; rw [← hee]; split <;> omega
    -- what any candidate costs
    have hcand : ∀ way, way < 5 → ∀ z, candP W H cells far bl [] k (c : Int) way = some z → e + sumD k e ≤ z.2 ∧ (z.2 = e + sumD k e → ∃ t r, z.1 = t :: r ∧ far.getD t.toNat 0 = e ∧ ComesP far e r) := by
      intro way hw z hz
      obtain ⟨t, x, g1, g2, g3, rfl⟩ := candP_some hz
      have hb := goesS_nat g1
      obtain ⟨t', rfl⟩ := Int.eq_ofNat_of_zero_le hb.1
      have htl : t' < cells.length := by omega
      have hft : floorS cells (t' : Int) = true := (goesS_step g1).1
      have hge := hfge t' htl
      have hx0 := pathS_cost hall g3
      have hsb := sumD_le k hed (by omega)
      have hsb6 : (k : Int) * 65536 ≤ 6 * 65536 := by omega
      simp only [Int.toNat_natCast]
      by_cases hneg : far.getD t' 0 < 0
      · have hcst : costP far (t' : Int) = 1000000 := by unfold costP; rw [Int.toNat_natCast, if_pos hneg]
        rw [hcst]
        refine ⟨by omega, fun hq => by omega⟩
      · have hcst : costP far (t' : Int) = far.getD t' 0 := by unfold costP; rw [Int.toNat_natCast, if_neg hneg]
        rw [hcst]
        obtain ⟨x', hx', hcx, hnx⟩ := pathS_near hfl hN hd (k := k) (c := t') (by omega) hft (by omega)
        rw [hx'] at g3
        injection g3 with g3
        subst g3
        -- a step leads nearer by one at most
        have hnear : d ≤ far.getD t' 0 + 1 := by
          by_cases hsame : (c : Int) = (t' : Int)
          · obtain rfl : c = t' := by omega
            omega
          · have hnb : (t' : Int) ∉ bl := fun hb => hsame (MayP.free.1 g2 hb)
            have hw1 : 1 ≤ way := by
              rcases Nat.eq_zero_or_pos way with h0 | h0
              · subst h0
                rw [goesS_stay hc] at g1
                injection g1 with g1
                exact absurd g1 hsame
              · exact h0
            have hm : t' ∈ stepsS W H cells bl c := steps_mem.2 ⟨way, by omega, g1, hnb⟩
            have := (farI_near hm (by rw [← hfe t' htl]; omega)).2
            rw [← hfe t' htl, ← hfe c hcl, hdd] at this
            exact this
        have hee2 : e ≤ far.getD t' 0 := by rw [← hee]; split <;> omega
        have hmono := sumD_mono k hee2
        rw [hcx]
        refine ⟨by omega, fun hq => ⟨_, _, rfl, ?_, ?_⟩⟩
        · rw [Int.toNat_natCast]; omega
        · have : far.getD t' 0 = e := by omega
          rw [this] at hnx
          exact hnx
    -- one costs just that
    have hex : ∃ way, way < 5 ∧ ∃ z, candP W H cells far bl [] k (c : Int) way = some z ∧ z.2 = e + sumD k e := by
      have key : ∀ (t' way : Nat), way < 5 → goesS W H cells (c : Int) (way : Nat) = ((t' : Int), true) → ((t' : Int) ∈ bl → (c : Int) = (t' : Int)) → far.getD t' 0 = e → ∃ way, way < 5 ∧ ∃ z, candP W H cells far bl [] k (c : Int) way = some z ∧ z.2 = e + sumD k e := by
        intro t' way hw g1 g2 g3
        have hft : floorS cells (t' : Int) = true := (goesS_step g1).1
        obtain ⟨x', hx', hcx, hnx⟩ := pathS_near hfl hN hd (k := k) (c := t') (by omega) hft (by omega)
        refine ⟨way, hw, _, by unfold candP; rw [g1, if_pos ⟨rfl, MayP.free.2 g2⟩, hx']; rfl, ?_⟩
        simp only []
        rw [hcx, g3]
        unfold costP
        rw [Int.toNat_natCast, if_neg (by omega), g3]
        omega
      by_cases hd0 : d ≤ 0
      · have : e = 0 := by rw [← hee, if_pos hd0]
        exact key c 0 (by omega) (goesS_stay hc) (fun _ => rfl) (by omega)
      · have hstep := farI_step (S := stepsS W H cells bl) (to := to) (c := c) (by rw [← hfe c hcl]; omega)
        obtain ⟨t', hm, _, h2⟩ := hstep
        obtain ⟨way, hw, g1, g2⟩ := steps_mem.1 hm
        have htl := steps_in hm
        refine key t' way (by omega) g1 (fun hb => absurd hb g2) ?_
        rw [hfe t' htl, h2, ← hfe c hcl, hdd, ← hee, if_neg hd0]
    rw [pathS_succ]
    cases hb : bestP (candP W H cells far bl [] k (c : Int)) 5 with
    | none =>
      obtain ⟨way, hw, z, hz, _⟩ := hex
      rw [bestP_none hb way hw] at hz
      cases hz
    | some y =>
      obtain ⟨⟨way, hw, hy⟩, hmin⟩ := bestP_some hb
      obtain ⟨way', hw', z, hz, hze⟩ := hex
      have h1 := hcand way hw y hy
      have h2 := hmin way' hw' z hz
      have hye : y.2 = e + sumD k e := by omega
      obtain ⟨t, r, hyr, ht, hr⟩ := h1.2 hye
      refine ⟨y, rfl, ?_, ?_⟩
      · rw [hye, hdd]
        simp only [sumD, hee]
      · rw [hyr, hdd]
        simp only [ComesP, hee]
        exact ⟨ht, hr⟩
end Go.Proofs.Ytacigmjdppoonaa.Vm
