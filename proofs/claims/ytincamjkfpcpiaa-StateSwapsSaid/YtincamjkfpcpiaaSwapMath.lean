/- The mathematics of robots changed for one another. No function of the program is named here. -/
import Derived.Test.YtincamjkfpcpiaaStMath
import Derived.Test.YtincamjkfpcpiaaOwnRs
import Derived.Test.YtincamjkfpcpiaaStWords
namespace Go.Proofs.Ytincamjkfpcpiaa.Vm
open Go Go.RowKit

/-- The i-th robot, in another cell. -/
def setA (rs : List Rec) (i : Nat) (x : Int) : List Rec := rs.set i ⟨x, (rs.getD i zr).b, (rs.getD i zr).c, (rs.getD i zr).d, (rs.getD i zr).e⟩
theorem setA_len (rs : List Rec) (i : Nat) (x : Int) : (setA rs i x).length = rs.length := by simp [setA]
theorem setA_at {rs : List Rec} {i : Nat} (hi : i < rs.length) (x : Int) : (setA rs i x).getD i zr = ⟨x, (rs.getD i zr).b, (rs.getD i zr).c, (rs.getD i zr).d, (rs.getD i zr).e⟩ := by
  unfold setA
  generalize rs.getD i zr = r
  simp [List.getD, hi]
theorem setA_ne {rs : List Rec} {i k : Nat} (h : k ≠ i) (x : Int) : (setA rs i x).getD k zr = rs.getD k zr := by
  unfold setA
  generalize rs.getD i zr = r
  simp [List.getD, List.getElem?_set_ne (Ne.symm h)]
theorem setA_rest {rs : List Rec} {i k : Nat} (hi : i < rs.length) (x : Int) : ((setA rs i x).getD k zr).b = (rs.getD k zr).b ∧ ((setA rs i x).getD k zr).c = (rs.getD k zr).c ∧ ((setA rs i x).getD k zr).d = (rs.getD k zr).d ∧ ((setA rs i x).getD k zr).e = (rs.getD k zr).e := by
  by_cases h : k = i
  · subst h; rw [setA_at hi]; exact ⟨rfl, rfl, rfl, rfl⟩
  · rw [setA_ne h]; exact ⟨rfl, rfl, rfl, rfl⟩
theorem recs_setA {rs : List Rec} {i : Nat} (hi : i < rs.length) (x : Int) : (recs rs).set (i * 5) (.int .i64 x) = recs (setA rs i x) := by
  have hlr := recs_len rs
  apply List.ext_getElem?
  intro j
  by_cases hj : j < rs.length * 5
  · rw [recs_get (setA rs i x) j]
    by_cases hji : j / 5 = i
    · have hm : j % 5 < 5 := Nat.mod_lt _ (by omega)
      have hj5 : j = i * 5 + j % 5 := by omega
      have hgi : rs[i]? = some (rs.getD i zr) := by simp [List.getD, hi]
      rw [hji, show (setA rs i x)[i]? = some ⟨x, (rs.getD i zr).b, (rs.getD i zr).c, (rs.getD i zr).d, (rs.getD i zr).e⟩ by unfold setA; rw [List.getElem?_set_self hi]]
      generalize j % 5 = q at hm hj5
      subst hj5
      match q, hm with
      | 0, _ => simp [recL, List.getElem?_set, hlr]; omega
      | 1, _ => rw [List.getElem?_set_ne (by omega), recs_get, show (i * 5 + 1) / 5 = i by omega, show (i * 5 + 1) % 5 = 1 by omega, hgi]; rfl
      | 2, _ => rw [List.getElem?_set_ne (by omega), recs_get, show (i * 5 + 2) / 5 = i by omega, show (i * 5 + 2) % 5 = 2 by omega, hgi]; rfl
      | 3, _ => rw [List.getElem?_set_ne (by omega), recs_get, show (i * 5 + 3) / 5 = i by omega, show (i * 5 + 3) % 5 = 3 by omega, hgi]; rfl
      | 4, _ => rw [List.getElem?_set_ne (by omega), recs_get, show (i * 5 + 4) / 5 = i by omega, show (i * 5 + 4) % 5 = 4 by omega, hgi]; rfl
    · rw [List.getElem?_set_ne (by omega), recs_get]
      unfold setA
      rw [List.getElem?_set_ne (fun e => hji e.symm)]
  · rw [List.getElem?_eq_none (by simp [hlr]; omega), List.getElem?_eq_none (by rw [recs_len, setA_len]; omega)]
theorem OwnR.setA {w : World} {B lb c n : Nat} {ty : TypeId} {rs : List Rec} (h : OwnR w B ty (.slice (some ⟨lb, 0, none⟩) n c) rs) {i : Nat} (hi : i < rs.length) (x : Int) :
    OwnR (w.setCell ⟨lb, i * 5, none⟩ (.int .i64 x)) B ty (.slice (some ⟨lb, 0, none⟩) n c) (setA rs i x) := by
  have hn : n = rs.length := by
    obtain ⟨a', c', e⟩ := h.slice
    injection e
  subst hn
  have h1 := (World.ownsRow.stored h (i * 5) (.int .i64 x)).1
  unfold OwnR
  rw [setA_len, ← recs_setA hi x]
  exact h1

/-- Robots in other cells: a state that may be still may be, where these cells are floor and differ. -/
theorem right_cells {fl : Int → Bool} {s : St} {rs' : List Rec} (h : RightP fl s) (hl : rs'.length = s.rs.length)
    (he : ∀ k, (rs'.getD k zr).b = (s.rs.getD k zr).b ∧ (rs'.getD k zr).c = (s.rs.getD k zr).c ∧ (rs'.getD k zr).d = (s.rs.getD k zr).d ∧ (rs'.getD k zr).e = (s.rs.getD k zr).e)
    (hf : ∀ k, k < s.rs.length → fl (rs'.getD k zr).a = true) (hd : ∀ k, k < s.rs.length → ∀ m, m < k → (rs'.getD m zr).a ≠ (rs'.getD k zr).a) : RightP fl ⟨s.tick, rs', s.ts, s.bl⟩ where
  tick := h.tick
  rn := by show rs'.length ≤ 1024; rw [hl]; exact h.rn
  tn := h.tn
  rest := fun k hk => by
    have hk' : k < s.rs.length := by rw [← hl]; exact hk
    obtain ⟨_, _, h3, h4⟩ := h.rest k hk'
    obtain ⟨_, _, e3, e4⟩ := he k
    exact ⟨hf k hk', hd k hk', by show 0 ≤ (rs'.getD k zr).d ∧ (rs'.getD k zr).d ≤ 1000; rw [e3]; exact h3, by show 0 ≤ (rs'.getD k zr).e ∧ (rs'.getD k zr).e ≤ 1000; rw [e4]; exact h4⟩
  job := h.job
  shut := h.shut
  role := fun i hi => by
    have h1 := h.role i hi
    unfold RoleP at h1 ⊢
    simp only [] at h1 ⊢
    rw [hl, (he _).2.1]
    exact h1
  mode := fun k hk => by
    have hk' : k < s.rs.length := by rw [← hl]; exact hk
    have h1 := h.mode k hk'
    unfold ModeP at h1 ⊢
    simp only [] at h1 ⊢
    rw [(he k).1, (he k).2.1]
    exact h1

theorem cells_differ {fl : Int → Bool} {s : St} (h : RightP fl s) {k m : Nat} (hk : k < s.rs.length) (hm : m < s.rs.length) (hne : k ≠ m) : (s.rs.getD k zr).a ≠ (s.rs.getD m zr).a := by
  by_cases hlt : m < k
  · exact fun e => (h.rest k hk).2.1 m hlt e.symm
  · exact (h.rest m hm).2.1 k (by omega)

/-- Two robots changed for one another. -/
def swapS (rs : List Rec) (i j : Nat) : List Rec := setA (setA rs i (rs.getD j zr).a) j (rs.getD i zr).a
theorem swap_cell {rs : List Rec} {i j k : Nat} (hi : i < rs.length) (hj : j < rs.length) : ((swapS rs i j).getD k zr).a = (rs.getD (if k = j then i else if k = i then j else k) zr).a := by
  unfold swapS
  by_cases h1 : k = j
  · subst h1
    rw [setA_at (by rw [setA_len]; exact hj), if_pos rfl]
  · rw [setA_ne h1, if_neg h1]
    by_cases h2 : k = i
    · subst h2
      rw [setA_at hi, if_pos rfl]
    · rw [setA_ne h2, if_neg h2]
theorem swap_right {fl : Int → Bool} {s : St} {i j : Nat} (h : RightP fl s) (hi : i < s.rs.length) (hj : j < s.rs.length) : RightP fl ⟨s.tick, swapS s.rs i j, s.ts, s.bl⟩ := by
  have hs : ∀ k, k < s.rs.length → (if k = j then i else if k = i then j else k) < s.rs.length := fun k hk => by
    by_cases h1 : k = j
    · rw [if_pos h1]; exact hi
    · rw [if_neg h1]
      by_cases h2 : k = i
      · rw [if_pos h2]; exact hj
      · rw [if_neg h2]; exact hk
  refine right_cells h (by unfold swapS; rw [setA_len, setA_len]) (fun k => ?_) (fun k hk => ?_) (fun k hk m hm => ?_)
  · unfold swapS
    have h1 := setA_rest (rs := setA s.rs i (s.rs.getD j zr).a) (i := j) (k := k) (by rw [setA_len]; exact hj) (s.rs.getD i zr).a
    have h2 := setA_rest (rs := s.rs) (i := i) (k := k) hi (s.rs.getD j zr).a
    exact ⟨h1.1.trans h2.1, h1.2.1.trans h2.2.1, h1.2.2.1.trans h2.2.2.1, h1.2.2.2.trans h2.2.2.2⟩
  · rw [swap_cell hi hj]
    exact (h.rest _ (hs k hk)).1
  · rw [swap_cell hi hj, swap_cell hi hj]
    refine cells_differ h (hs m (by omega)) (hs k hk) ?_
    split <;> split <;> (try split) <;> (try split) <;> omega
theorem setA_same {rs : List Rec} {i : Nat} (hi : i < rs.length) : setA rs i (rs.getD i zr).a = rs := by
  unfold setA
  apply List.ext_getElem?
  intro k
  by_cases h : k = i
  · subst h
    rw [List.getElem?_set_self hi]
    simp [List.getD, hi]
  · rw [List.getElem?_set_ne (Ne.symm h)]
/-- One robot where another one stands. -/
theorem move_right {fl : Int → Bool} {s : St} {i j : Nat} (h : RightP fl s) (hi : i < s.rs.length) (hj : j < s.rs.length) : yes (RightP fl ⟨s.tick, setA s.rs i (s.rs.getD j zr).a, s.ts, s.bl⟩) = ((i : Int) == (j : Int)) := by
  by_cases e : i = j
  · subst e
    rw [setA_same hi, yes_true h]
    simp
  · rw [beq_eq_false_iff_ne.2 (by omega)]
    refine yes_false fun hh => ?_
    have h1 := cells_differ hh (k := i) (m := j) (by simp only []; rw [setA_len]; exact hi) (by simp only []; rw [setA_len]; exact hj) e
    simp only [] at h1
    rw [setA_at hi, setA_ne (fun x => e x.symm)] at h1
    exact h1 rfl
theorem setA_wf {s : St} {i : Nat} {x : Int} {rs : List Rec} (hr : rs = s.rs) (h : WfC s) (hi : i < s.rs.length) : WfC ⟨s.tick, setA rs i x, s.ts, s.bl⟩ := fun k hk => by
  subst hr
  have hk' : k < s.rs.length := by rw [← setA_len s.rs i x]; exact hk
  show (Lit.int .i64 ((setA s.rs i x).getD k zr).c).wf = true
  rw [(setA_rest hi x).2.1]
  exact h k hk'
end Go.Proofs.Ytincamjkfpcpiaa.Vm
