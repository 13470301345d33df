/- The plain mathematics of the paths of all robots: who has a goal, the paths found before one's own. -/
import Derived.Test.YtiejinphofkjaaaRefPaths
import Derived.Test.YtiejinphofkjaaaStGoals
namespace Go.Proofs.Ytiejinphofkjaaa.Vm
open Go Go.RowKit

/-- A cell all the time. -/
def restL (x : Int) : List Int := List.replicate 7 x
/-- The robots' cells. -/
def cellR (s : St) (i : Nat) : Int := (s.rs.getD i zr).a
section
variable (W H : Int) (l : List Nat) (s : St)
/-- The paths of those of the first k who have no goal. -/
noncomputable def oth1 (k : Nat) : List (List Int) := ((List.range k).filter fun i : Nat => !(goalG W H l s (i : Int)).2).map fun i => restL (cellR s i)
/-- One's path. -/
noncomputable def pthG (oth : List (List Int)) (i : Nat) : List Int := (pathG W H l s.bl oth (cellR s i) (goalG W H l s (i : Int)).1).getD (restL (cellR s i))
/-- The paths that are kept clear of, behind the first k who have a goal. -/
noncomputable def othG (n : Nat) : Nat → List (List Int)
  | 0 => oth1 W H l s n
  | k + 1 => if (goalG W H l s (k : Int)).2 = true then othG n k ++ [pthG W H l s (othG n k) k] else othG n k
/-- The path of a robot. -/
noncomputable def planG (n i : Nat) : List Int := if (goalG W H l s (i : Int)).2 = true then pthG W H l s (othG W H l s n i) i else restL (cellR s i)
noncomputable def plansG (n : Nat) : List (List Int) := (List.range n).map (planG W H l s n)
end
section
variable {W H : Int} {l : List Nat} {s : St}
theorem restL_len (x : Int) : (restL x).length = 7 := by simp [restL]
theorem restL_wf {x : Int} (h : (Lit.int .i64 x).wf = true) : WfZ (restL x) := fun z hz => by
  obtain rfl := (List.mem_replicate.1 hz).2
  exact h
theorem oth1_no {k : Nat} (h : (goalG W H l s (k : Int)).2 = false) : oth1 W H l s (k + 1) = oth1 W H l s k ++ [restL (cellR s k)] := by
  unfold oth1
  rw [List.range_succ, List.filter_append, List.map_append]
  simp [h]
theorem oth1_yes {k : Nat} (h : (goalG W H l s (k : Int)).2 = true) : oth1 W H l s (k + 1) = oth1 W H l s k := by
  unfold oth1
  rw [List.range_succ, List.filter_append, List.map_append]
  simp [h]
theorem oth1_len (k : Nat) : (oth1 W H l s k).length ≤ k := by
  unfold oth1
  rw [List.length_map]
  have := List.length_filter_le (fun i : Nat => !(goalG W H l s (i : Int)).2) (List.range k)
  rw [List.length_range] at this
  exact this
theorem oth1_mem {k : Nat} {q : List Int} (h : q ∈ oth1 W H l s k) : ∃ i, i < k ∧ q = restL (cellR s i) := by
  unfold oth1 at h
  obtain ⟨i, hi, rfl⟩ := List.mem_map.1 h
  exact ⟨i, List.mem_range.1 (List.mem_filter.1 hi).1, rfl⟩
theorem pathG_len {bl : List Int} {oth : List (List Int)} {fr to : Int} {p : List Int} (h : pathG W H l bl oth fr to = some p) : p.length = 7 ∧ ∀ z ∈ p, 0 ≤ z ∧ z < (l.length : Int) := by
  unfold pathG at h
  by_cases hc : floorS l to = true ∧ floorS l fr = true
  · rw [if_pos hc] at h
    obtain ⟨x, hx, rfl⟩ := Option.map_eq_some_iff.1 h
    have hst := pathS_steps hx
    have hl := hst.len
    refine ⟨by rw [List.length_cons, hl], fun z hz => ?_⟩
    rcases List.mem_cons.1 hz with rfl | hz
    · exact floorS_in hc.2
    · obtain ⟨j, hj, e⟩ := List.getElem_of_mem hz
      obtain ⟨⟨way, _, hg⟩, _⟩ := hst.at j (by omega) (by omega)
      have hb := goesS_nat hg
      have e' : x.1.getD j 0 = z := by simp [List.getD, hj, e]
      rw [e'] at hb
      exact hb
  · rw [if_neg hc] at h; cases h
theorem pthG_len {oth : List (List Int)} {i : Nat} : (pthG W H l s oth i).length = 7 := by
  unfold pthG
  cases h : pathG W H l s.bl oth (cellR s i) (goalG W H l s (i : Int)).1 with
  | none => exact restL_len _
  | some p => exact (pathG_len h).1
theorem pthG_wf {oth : List (List Int)} {i : Nat} (hl : l.length ≤ 65536) (hc : (Lit.int .i64 (cellR s i)).wf = true) : WfZ (pthG W H l s oth i) := by
  unfold pthG
  cases h : pathG W H l s.bl oth (cellR s i) (goalG W H l s (i : Int)).1 with
  | none => exact restL_wf hc
  | some p =>
    intro z hz
    have := (pathG_len h).2 z hz
    exact WalkArith.wf_i64 (by omega)
theorem othG_len (n : Nat) : ∀ k, (othG W H l s n k).length ≤ n + k
  | 0 => oth1_len n
  | k + 1 => by
    rw [othG]
    have := othG_len n k
    split
    · rw [List.length_append, List.length_singleton]; omega
    · omega
theorem othG_mem (hl : l.length ≤ 65536) {n : Nat} (hc : ∀ i, i < n → (Lit.int .i64 (cellR s i)).wf = true) : ∀ k, k ≤ n → ∀ q ∈ othG W H l s n k, q.length = 7 ∧ WfZ q
  | 0, _, q, hq => by
    obtain ⟨i, hi, rfl⟩ := oth1_mem hq
    exact ⟨restL_len _, restL_wf (hc i hi)⟩
  | k + 1, hk, q, hq => by
    rw [othG] at hq
    split at hq
    · rcases List.mem_append.1 hq with hq | hq
      · exact othG_mem hl hc k (by omega) q hq
      · obtain rfl := List.mem_singleton.1 hq
        exact ⟨pthG_len, pthG_wf hl (hc k (by omega))⟩
    · exact othG_mem hl hc k (by omega) q hq
theorem planG_len (n i : Nat) : (planG W H l s n i).length = 7 := by
  unfold planG
  split
  · exact pthG_len
  · exact restL_len _
theorem plansG_len (n : Nat) : (plansG W H l s n).length = n := by simp [plansG]
theorem plansG_at {n i : Nat} (hi : i < n) : (plansG W H l s n).getD i [] = planG W H l s n i := by simp [plansG, List.getD, hi]

theorem ofZ_in {l : List Nat} {x : Int} (h : x ∈ ofZ l) : 0 ≤ x ∧ x < l.length := by
  unfold ofZ ofS at h
  obtain ⟨i, hi, rfl⟩ := List.mem_map.1 h
  have := List.mem_range.1 (List.mem_filter.1 hi).1
  omega
theorem goal_bounds (hr : RightP (floorS l) s) {i : Nat} (hi : i < s.rs.length) (h : (goalG W H l s (i : Int)).2 = true) : 0 ≤ (goalG W H l s (i : Int)).1 ∧ (goalG W H l s (i : Int)).1 < l.length := by
  rw [goal_in hi rfl] at h ⊢
  generalize s.rs.getD i zr = r at h ⊢
  by_cases h1 : 0 < r.e ∨ r.d = 0
  · rw [if_pos h1] at h; cases h
  · rw [if_neg h1] at h ⊢
    by_cases h2 : r.b = 1 ∨ r.b = 2
    · rw [if_pos h2] at h ⊢
      unfold errandS at h ⊢
      by_cases h3 : findS s.ts r.c < 0
      · rw [if_pos h3] at h; cases h
      · rw [if_neg h3] at h ⊢
        rcases findS_cases s.ts r.c with ⟨e, _⟩ | ⟨k, hk, e, _⟩
        · omega
        · rw [e, Int.toNat_natCast] at h ⊢
          obtain ⟨_, _, _, f1, f2⟩ := hr.job k hk
          by_cases h4 : r.b = 1
          · rw [if_pos h4]; exact floorS_in f1
          · rw [if_neg h4]; exact floorS_in f2
    · rw [if_neg h2] at h ⊢
      by_cases h5 : r.b = 3
      · rw [if_pos h5] at h ⊢
        by_cases h6 : (nearG W H l s.bl (ofZ l) r.a).2 < 0
        · rw [if_pos h6] at h; cases h
        · rw [if_neg h6]
          rcases nearS_is (fun x => farG W H l s.bl r.a x) (ofZ l) with ⟨e, _⟩ | ⟨hm, _⟩
          · unfold nearG at h6
            rw [e] at h6
            exact absurd (by decide) h6
          · exact ofZ_in hm
      · rw [if_neg h5] at h; cases h
theorem right_cell (hr : RightP (floorS l) s) (hl : l.length ≤ 65536) {i : Nat} (hi : i < s.rs.length) : (Lit.int .i64 (cellR s i)).wf = true := by
  have := floorS_in (hr.rest i hi).1
  exact WalkArith.wf_i64 (by unfold cellR; omega)
theorem right_bl (hr : RightP (floorS l) s) (hl : l.length ≤ 65536) : WfZ s.bl := fun z hz => by
  obtain ⟨j, hj, e⟩ := List.getElem_of_mem hz
  have := floorS_in (hr.shut j hj).1
  rw [show s.bl.getD j 0 = z by simp [List.getD, hj, e]] at this
  exact WalkArith.wf_i64 (by omega)
end
end Go.Proofs.Ytiejinphofkjaaa.Vm
