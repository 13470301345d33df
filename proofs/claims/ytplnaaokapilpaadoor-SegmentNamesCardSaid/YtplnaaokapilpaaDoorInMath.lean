/- The mathematics of inputs: which error one is, and what it makes of a state; a state that may be stays one that may be. No function of the program is named here. -/
import Derived.Test.YtplnaaokapilpaaDoorStWords
namespace Go.Proofs.YtplnaaokapilpaaDoor.Vm
open Go Go.RowKit

/-- An input. -/
structure Inp where
  k : Int
  a : Int
  b : Int
  c : Int
abbrev inpV (x : Inp) : Value := .agg #[.int .i64 x.k, .int .i64 x.a, .int .i64 x.b, .int .i64 x.c]
abbrev inpO (x : Inp) (t : TypeId) : Obj := .cells #[.int .i64 x.k, .int .i64 x.a, .int .i64 x.b, .int .i64 x.c] t

/-- The errors, kind by kind. -/
noncomputable def codeO (fl : Int → Bool) (s : St) (x : Inp) : Int :=
  if ¬ (1 ≤ x.a ∧ x.a ≤ 2147483647) ∨ x.b = x.c then 1 else if fl x.b = false ∨ fl x.c = false then 5 else if 0 ≤ findS s.ts x.a then 6 else if 1000 ≤ s.ts.length then 4 else 0
/-- A robot that there is. -/
def IsR (s : St) (a : Int) : Prop := 0 ≤ a ∧ a < s.rs.length
noncomputable def codeF (s : St) (x : Inp) : Int := @ite _ (¬ IsR s x.a) (Classical.propDecidable _) 5 (if (s.rs.getD x.a.toNat zr).b = 4 then 10 else 0)
noncomputable def codeR (s : St) (x : Inp) : Int := @ite _ (¬ IsR s x.a) (Classical.propDecidable _) 5 (if (s.rs.getD x.a.toNat zr).b = 4 then 0 else 10)
noncomputable def codeH (s : St) (x : Inp) : Int := @ite _ (¬ IsR s x.a) (Classical.propDecidable _) 5 (if 1 ≤ x.b ∧ x.b ≤ 1000 then 0 else 1)
noncomputable def codeB (fl : Int → Bool) (s : St) (x : Inp) : Int := if fl x.a = false then 5 else if x.a ∈ s.bl then 6 else 0
noncomputable def codeC (fl : Int → Bool) (s : St) (x : Inp) : Int := if fl x.a = false then 5 else if x.a ∈ s.bl then 0 else 10
/-- The error of an input; 0: none. -/
noncomputable def codeS (fl : Int → Bool) (s : St) (x : Inp) : Int :=
  if x.k = 1 then codeO fl s x else if x.k = 2 then codeF s x else if x.k = 3 then codeR s x else if x.k = 4 then codeH s x else if x.k = 5 then codeB fl s x else if x.k = 6 then codeC fl s x else 3

/-- A task waits again. -/
def waitT (t : Rec) : Rec := ⟨t.a, t.b, t.c, 1, -1⟩
/-- The tasks behind a release. -/
def freeT (ts : List Rec) (id : Int) : List Rec := if findS ts id < 0 then ts else ts.set (findS ts id).toNat (waitT (ts.getD (findS ts id).toNat zr))
/-- What each kind makes of a state. -/
def turnO (s : St) (x : Inp) : St := ⟨s.tick, s.rs, s.ts ++ [⟨x.a, x.b, x.c, 1, -1⟩], s.bl⟩
def faultR (r : Rec) : Rec := ⟨r.a, 4, if r.b = 1 then 0 else r.c, r.d, r.e⟩
def turnF (s : St) (x : Inp) : St :=
  ⟨s.tick, s.rs.set x.a.toNat (faultR (s.rs.getD x.a.toNat zr)), if (s.rs.getD x.a.toNat zr).b = 1 then freeT s.ts (s.rs.getD x.a.toNat zr).c else s.ts, s.bl⟩
def repairR (r : Rec) : Rec := ⟨r.a, if r.c = 0 then 0 else 2, r.c, r.d, r.e⟩
def turnR (s : St) (x : Inp) : St := ⟨s.tick, s.rs.set x.a.toNat (repairR (s.rs.getD x.a.toNat zr)), s.ts, s.bl⟩
def holdR (r : Rec) (n : Int) : Rec := ⟨r.a, r.b, r.c, r.d, n⟩
def turnH (s : St) (x : Inp) : St := ⟨s.tick, s.rs.set x.a.toNat (holdR (s.rs.getD x.a.toNat zr) x.b), s.ts, s.bl⟩
/-- How many cells come ahead of one. -/
def lowZ (bl : List Int) (a : Int) : Nat := bl.countP (· < a)
def insZ (bl : List Int) (a : Int) : List Int := bl.take (lowZ bl a) ++ a :: bl.drop (lowZ bl a)
def delZ (bl : List Int) (a : Int) : List Int := bl.take (lowZ bl a) ++ bl.drop (lowZ bl a + 1)
def turnB (s : St) (x : Inp) : St := ⟨s.tick, s.rs, s.ts, insZ s.bl x.a⟩
def turnC (s : St) (x : Inp) : St := ⟨s.tick, s.rs, s.ts, delZ s.bl x.a⟩
def turnS (s : St) (x : Inp) : St :=
  if x.k = 1 then turnO s x else if x.k = 2 then turnF s x else if x.k = 3 then turnR s x else if x.k = 4 then turnH s x else if x.k = 5 then turnB s x else turnC s x
/-- A state after an input. -/
noncomputable def applyS (fl : Int → Bool) (s : St) (x : Inp) : St := if codeS fl s x = 0 then turnS s x else s
/-- .. and after some. -/
noncomputable def allS (fl : Int → Bool) (s : St) : List Inp → St
  | [] => s
  | x :: l => allS fl (applyS fl s x) l
noncomputable def codesS (fl : Int → Bool) (s : St) : List Inp → List Int
  | [] => []
  | x :: l => codeS fl s x :: codesS fl (applyS fl s x) l

theorem codeF_no {s : St} {x : Inp} (h : ¬ IsR s x.a) : codeF s x = 5 := by unfold codeF; rw [if_pos h]
theorem codeR_no {s : St} {x : Inp} (h : ¬ IsR s x.a) : codeR s x = 5 := by unfold codeR; rw [if_pos h]
theorem codeH_no {s : St} {x : Inp} (h : ¬ IsR s x.a) : codeH s x = 5 := by unfold codeH; rw [if_pos h]
theorem codeF_yes {s : St} {x : Inp} (h : IsR s x.a) : codeF s x = if (s.rs.getD x.a.toNat zr).b = 4 then 10 else 0 := by unfold codeF; rw [if_neg (fun n => n h)]
theorem codeR_yes {s : St} {x : Inp} (h : IsR s x.a) : codeR s x = if (s.rs.getD x.a.toNat zr).b = 4 then 0 else 10 := by unfold codeR; rw [if_neg (fun n => n h)]
theorem codeH_yes {s : St} {x : Inp} (h : IsR s x.a) : codeH s x = if 1 ≤ x.b ∧ x.b ≤ 1000 then 0 else 1 := by unfold codeH; rw [if_neg (fun n => n h)]

/-! Cells in their order. -/
/-- Ascending. -/
def Up (bl : List Int) : Prop := ∀ i, i < bl.length → 0 < i → bl.getD (i - 1) 0 < bl.getD i 0
theorem Up.lt {bl : List Int} (h : Up bl) : ∀ (j i : Nat), i < j → j < bl.length → bl.getD i 0 < bl.getD j 0 := by
  intro j
  induction j with
  | zero => intro i hi _; omega
  | succ j ih =>
    intro i hi hj
    have h1 := h (j + 1) hj (by omega)
    simp only [Nat.add_sub_cancel] at h1
    by_cases e : i = j
    · subst e; exact h1
    · have := ih i (by omega) (by omega); omega
theorem up_right {fl : Int → Bool} {s : St} (h : RightP fl s) : Up s.bl := fun i hi h0 => (h.shut i hi).2 h0
theorem Up.pairs {bl : List Int} (h : Up bl) : bl.Pairwise (· < ·) := by
  rw [List.pairwise_iff_getElem]
  intro i j hi hj hij
  have := h.lt j i hij hj
  simpa [List.getD, hi, hj] using this
theorem up_of {bl : List Int} (h : bl.Pairwise (· < ·)) : Up bl := fun i hi h0 => by
  rw [List.pairwise_iff_getElem] at h
  have := h (i - 1) i (by omega) hi (by omega)
  simpa [List.getD, hi, show i - 1 < bl.length by omega] using this
theorem low_cons (c : Int) (l : List Int) (a : Int) : lowZ (c :: l) a = if c < a then lowZ l a + 1 else lowZ l a := by
  unfold lowZ
  rw [List.countP_cons]
  by_cases h : c < a <;> simp [h]
theorem low_le (bl : List Int) (a : Int) : lowZ bl a ≤ bl.length := List.countP_le_length
theorem low_none {l : List Int} {a : Int} (h : ∀ y ∈ l, a ≤ y) : lowZ l a = 0 := by
  unfold lowZ
  rw [List.countP_eq_zero]
  intro y hy
  have := h y hy
  simp
  omega
/-- What comes ahead of the place is less, what comes behind isn't. -/
theorem ins_cons_lt {c a : Int} {l : List Int} (h : c < a) : insZ (c :: l) a = c :: insZ l a := by
  unfold insZ
  rw [low_cons, if_pos h]
  rfl
theorem del_cons_lt {c a : Int} {l : List Int} (h : c < a) : delZ (c :: l) a = c :: delZ l a := by
  unfold delZ
  rw [low_cons, if_pos h]
  rfl
theorem ins_cons_ge {c a : Int} {l : List Int} (h : a < c) (hp : ∀ y ∈ l, c < y) : insZ (c :: l) a = a :: c :: l := by
  have h0 : lowZ (c :: l) a = 0 := low_none fun y hy => by
    rcases List.mem_cons.1 hy with e | e
    · omega
    · have := hp y e; omega
  unfold insZ
  rw [h0]
  rfl
theorem del_cons_eq {a : Int} {l : List Int} (hp : ∀ y ∈ l, a < y) : delZ (a :: l) a = l := by
  have h0 : lowZ (a :: l) a = 0 := low_none fun y hy => by
    rcases List.mem_cons.1 hy with e | e
    · omega
    · have := hp y e; omega
  unfold delZ
  rw [h0]
  rfl
theorem mem_ins {a y : Int} (bl : List Int) : y ∈ insZ bl a ↔ y = a ∨ y ∈ bl := by
  have h := List.take_append_drop (lowZ bl a) bl
  have hm : y ∈ bl ↔ y ∈ bl.take (lowZ bl a) ∨ y ∈ bl.drop (lowZ bl a) := by rw [← List.mem_append, h]
  unfold insZ
  rw [List.mem_append, List.mem_cons, hm]
  constructor
  · rintro (h | h | h)
    · exact .inr (.inl h)
    · exact .inl h
    · exact .inr (.inr h)
  · rintro (h | h | h)
    · exact .inr (.inl h)
    · exact .inl h
    · exact .inr (.inr h)
theorem ins_up : ∀ {bl : List Int} {a : Int}, bl.Pairwise (· < ·) → a ∉ bl → (insZ bl a).Pairwise (· < ·)
  | [], a, _, _ => by simp [insZ, lowZ]
  | c :: l, a, hp, hn => by
    obtain ⟨h1, h2⟩ := List.pairwise_cons.1 hp
    have hca : a ≠ c := fun e => hn (by rw [e]; exact List.mem_cons_self ..)
    by_cases h : c < a
    · rw [ins_cons_lt h, List.pairwise_cons]
      refine ⟨fun y hy => ?_, ins_up h2 (fun e => hn (List.mem_cons_of_mem _ e))⟩
      rcases (mem_ins l).1 hy with e | e
      · omega
      · exact h1 y e
    · rw [ins_cons_ge (by omega) h1, List.pairwise_cons]
      refine ⟨fun y hy => ?_, hp⟩
      rcases List.mem_cons.1 hy with e | e
      · omega
      · have := h1 y e; omega
theorem del_sub (bl : List Int) (a : Int) : (delZ bl a).Sublist bl := by
  unfold delZ
  conv => rhs; rw [← List.take_append_drop (lowZ bl a) bl]
  refine List.Sublist.append (List.Sublist.refl _) ?_
  rw [← List.drop_drop]
  exact List.drop_sublist _ _
/-- What is put in and taken out again. -/
theorem del_ins : ∀ {bl : List Int} {a : Int}, bl.Pairwise (· < ·) → a ∉ bl → delZ (insZ bl a) a = bl
  | [], a, _, _ => by simp [insZ, delZ, lowZ]
  | c :: l, a, hp, hn => by
    obtain ⟨h1, h2⟩ := List.pairwise_cons.1 hp
    have hca : a ≠ c := fun e => hn (by rw [e]; exact List.mem_cons_self ..)
    by_cases h : c < a
    · rw [ins_cons_lt h, del_cons_lt h, del_ins h2 (fun e => hn (List.mem_cons_of_mem _ e))]
    · rw [ins_cons_ge (by omega) h1]
      exact del_cons_eq fun y hy => by
        rcases List.mem_cons.1 hy with e | e
        · omega
        · have := h1 y e; omega
/-- .. taken out: all the others. -/
theorem del_filter : ∀ {bl : List Int} {a : Int}, bl.Pairwise (· < ·) → a ∈ bl → delZ bl a = bl.filter (fun y => decide (y ≠ a))
  | [], a, _, h => by simp at h
  | c :: l, a, hp, hm => by
    obtain ⟨h1, h2⟩ := List.pairwise_cons.1 hp
    by_cases e : c = a
    · subst e
      rw [del_cons_eq h1, List.filter_cons_of_neg (by simp)]
      refine (List.filter_eq_self.2 fun y hy => ?_).symm
      have := h1 y hy
      simp
      omega
    · have hl : a ∈ l := by
        rcases List.mem_cons.1 hm with h | h
        · exact absurd h.symm e
        · exact h
      rw [del_cons_lt (h1 a hl), List.filter_cons_of_pos (by simpa using e), del_filter h2 hl]
theorem low_place {bl : List Int} {a : Int} (hp : bl.Pairwise (· < ·)) (hm : a ∈ bl) : lowZ bl a < bl.length ∧ bl.getD (lowZ bl a) 0 = a := by
  induction bl with
  | nil => simp at hm
  | cons c l ih =>
    obtain ⟨h1, h2⟩ := List.pairwise_cons.1 hp
    by_cases e : c = a
    · subst e
      have h0 : lowZ (c :: l) c = 0 := low_none fun y hy => by
        rcases List.mem_cons.1 hy with e | e
        · omega
        · have := h1 y e; omega
      rw [h0]
      exact ⟨by simp, rfl⟩
    · have hl : a ∈ l := by
        rcases List.mem_cons.1 hm with h | h
        · exact absurd h.symm e
        · exact h
      rw [low_cons, if_pos (h1 a hl)]
      obtain ⟨p1, p2⟩ := ih h2 hl
      exact ⟨by simp; omega, by simpa using p2⟩

/-! One robot, or one task, turned. -/
theorem set_at {rs : List Rec} {i : Nat} (hi : i < rs.length) (r : Rec) : (rs.set i r).getD i zr = r := by simp [List.getD, hi]
theorem set_off {rs : List Rec} {i k : Nat} (h : k ≠ i) (r : Rec) : (rs.set i r).getD k zr = rs.getD k zr := by
  simp [List.getD, List.getElem?_set_ne (Ne.symm h)]
theorem getD_app_lt {rs : List Rec} {k : Nat} (h : k < rs.length) (r : Rec) : (rs ++ [r]).getD k zr = rs.getD k zr := by
  simp [List.getD, List.getElem?_append_left h]
theorem getD_app_eq (rs : List Rec) (r : Rec) : (rs ++ [r]).getD rs.length zr = r := by
  simp [List.getD]
/-- Ids alone say which task is the first. -/
theorem findS_ids {ts ts' : List Rec} (hl : ts'.length = ts.length) (h : ∀ k, (ts'.getD k zr).a = (ts.getD k zr).a) (id : Int) : findS ts' id = findS ts id := by
  rcases findS_cases ts id with ⟨e, hn⟩ | ⟨k, hk, e, ha, hb⟩
  · rw [e]
    exact findS_no fun j hj => by rw [h]; exact hn j (by omega)
  · rw [e]
    exact findS_at (by omega) (fun j hj => by rw [h]; exact hb j hj) (by rw [h]; exact ha)
theorem findS_more {ts : List Rec} {t : Rec} {id : Int} (h : 0 ≤ findS ts id) : findS (ts ++ [t]) id = findS ts id := by
  rcases findS_cases ts id with ⟨e, hn⟩ | ⟨k, hk, e, ha, hb⟩
  · omega
  · rw [e]
    exact findS_at (by simp; omega) (fun j hj => by rw [getD_app_lt (by omega)]; exact hb j hj) (by rw [getD_app_lt hk]; exact ha)

theorem turnO_right {fl : Int → Bool} {s : St} {x : Inp} (h : RightP fl s) (hc : codeO fl s x = 0) : RightP fl (turnO s x) := by
  unfold codeO at hc
  by_cases h1 : ¬ (1 ≤ x.a ∧ x.a ≤ 2147483647) ∨ x.b = x.c
  · rw [if_pos h1] at hc; omega
  rw [if_neg h1] at hc
  by_cases h2 : fl x.b = false ∨ fl x.c = false
  · rw [if_pos h2] at hc; omega
  rw [if_neg h2] at hc
  by_cases h3 : 0 ≤ findS s.ts x.a
  · rw [if_pos h3] at hc; omega
  rw [if_neg h3] at hc
  by_cases h4 : 1000 ≤ s.ts.length
  · rw [if_pos h4] at hc; omega
  have hno : ∀ j, j < s.ts.length → (s.ts.getD j zr).a ≠ x.a := by
    rcases findS_cases s.ts x.a with ⟨_, hn⟩ | ⟨k, _, e, _⟩
    · exact hn
    · omega
  have hown : ∀ id i st, OwnP s.ts id i st → OwnP (s.ts ++ [⟨x.a, x.b, x.c, 1, -1⟩]) id i st := fun id i st ⟨k, hk, e, hd, he⟩ =>
    ⟨k, by simp; omega, by rw [findS_more (by omega)]; exact e, by rw [getD_app_lt hk]; exact hd, by rw [getD_app_lt hk]; exact he⟩
  refine ⟨h.tick, h.rn, by show (s.ts ++ [_]).length ≤ 1000; simp; omega, h.rest, fun i hi => ?_, h.shut, fun i hi => ?_, fun i hi => ?_⟩
  · have hi' : i < (s.ts ++ [(⟨x.a, x.b, x.c, 1, -1⟩ : Rec)]).length := hi
    rw [List.length_append, List.length_singleton] at hi'
    show JobP fl (s.ts ++ [⟨x.a, x.b, x.c, 1, -1⟩]) i
    by_cases e : i = s.ts.length
    · subst e
      unfold JobP
      rw [getD_app_eq]
      refine ⟨⟨?_, ?_⟩, fun k hk => ?_, ?_, ?_, ?_⟩
      · show 1 ≤ x.a; omega
      · show x.a ≤ 2147483647; omega
      · rw [getD_app_lt hk]; exact hno k hk
      · show x.b ≠ x.c; omega
      · show fl x.b = true
        cases hb : fl x.b
        · exact absurd (.inl hb) h2
        · rfl
      · show fl x.c = true
        cases hb : fl x.c
        · exact absurd (.inr hb) h2
        · rfl
    · have h5 := h.job i (by omega)
      unfold JobP at h5 ⊢
      rw [getD_app_lt (show i < s.ts.length by omega)]
      exact ⟨h5.1, fun k hk => by rw [getD_app_lt (by omega)]; exact h5.2.1 k hk, h5.2.2⟩
  · have hi' : i < (s.ts ++ [(⟨x.a, x.b, x.c, 1, -1⟩ : Rec)]).length := hi
    rw [List.length_append, List.length_singleton] at hi'
    show RoleP s.rs ((s.ts ++ [(⟨x.a, x.b, x.c, 1, -1⟩ : Rec)]).getD i zr)
    by_cases e : i = s.ts.length
    · subst e
      rw [getD_app_eq]
      exact .inl ⟨rfl, rfl⟩
    · rw [getD_app_lt (show i < s.ts.length by omega)]
      exact h.role i (by omega)
  · show ModeP (s.ts ++ [⟨x.a, x.b, x.c, 1, -1⟩]) (s.rs.getD i zr) i
    have h5 := h.mode i hi
    unfold ModeP at h5 ⊢
    rcases h5 with h5 | ⟨h5, h6⟩ | ⟨h5, h6⟩ | ⟨h5, h6⟩
    · exact .inl h5
    · exact .inr (.inl ⟨h5, hown _ _ _ h6⟩)
    · exact .inr (.inr (.inl ⟨h5, hown _ _ _ h6⟩))
    · exact .inr (.inr (.inr ⟨h5, h6.imp id (hown _ _ _)⟩))

/-- A robot turned in its mode, its task, its hold. -/
theorem set_right {fl : Int → Bool} {s : St} {i : Nat} {r : Rec} (h : RightP fl s) (hi : i < s.rs.length) (ha : r.a = (s.rs.getD i zr).a) (hc : r.c = (s.rs.getD i zr).c) (hd : r.d = (s.rs.getD i zr).d) (he : 0 ≤ r.e ∧ r.e ≤ 1000) (hm : ModeP s.ts r i) :
    RightP fl ⟨s.tick, s.rs.set i r, s.ts, s.bl⟩ := by
  have hA : ∀ k, ((s.rs.set i r).getD k zr).a = (s.rs.getD k zr).a := fun k => by
    by_cases e : k = i
    · subst e; rw [set_at hi, ha]
    · rw [set_off e]
  have hC : ∀ k, ((s.rs.set i r).getD k zr).c = (s.rs.getD k zr).c := fun k => by
    by_cases e : k = i
    · subst e; rw [set_at hi, hc]
    · rw [set_off e]
  have hl : (s.rs.set i r).length = s.rs.length := List.length_set
  refine ⟨h.tick, by show (s.rs.set i r).length ≤ 1024; rw [hl]; exact h.rn, h.tn, fun k hk => ?_, h.job, h.shut, fun k hk => ?_, fun k hk => ?_⟩
  · have hk' : k < s.rs.length := by have : k < (s.rs.set i r).length := hk; omega
    obtain ⟨h1, h2, h3, h4⟩ := h.rest k hk'
    show RestP fl (s.rs.set i r) k
    unfold RestP
    refine ⟨by rw [hA]; exact h1, fun m hm => by rw [hA, hA]; exact h2 m hm, ?_, ?_⟩
    · by_cases e : k = i
      · subst e; rw [set_at hi, hd]; exact h3
      · rw [set_off e]; exact h3
    · by_cases e : k = i
      · subst e; rw [set_at hi]; exact he
      · rw [set_off e]; exact h4
  · have h1 := h.role k hk
    show RoleP (s.rs.set i r) (s.ts.getD k zr)
    unfold RoleP at h1 ⊢
    rw [hl, hC]
    exact h1
  · have hk' : k < s.rs.length := by have : k < (s.rs.set i r).length := hk; omega
    show ModeP s.ts ((s.rs.set i r).getD k zr) k
    by_cases e : k = i
    · subst e; rw [set_at hi]; exact hm
    · rw [set_off e]; exact h.mode k hk'

theorem isR_nat {s : St} {a : Int} (h : IsR s a) : a.toNat < s.rs.length := by unfold IsR at h; omega
theorem turnR_right {fl : Int → Bool} {s : St} {x : Inp} (h : RightP fl s) (hr : IsR s x.a) (hb : (s.rs.getD x.a.toNat zr).b = 4) : RightP fl (turnR s x) := by
  have hi := isR_nat hr
  unfold turnR
  have h4 := (h.rest _ hi).2.2.2
  have hm := h.mode _ hi
  generalize hrr : s.rs.getD x.a.toNat zr = r at hb h4 hm ⊢
  refine set_right h hi (by rw [hrr]; rfl) (by rw [hrr]; rfl) (by rw [hrr]; rfl) h4 ?_
  unfold ModeP at hm ⊢
  have hm4 : r.c = 0 ∨ OwnP s.ts r.c x.a.toNat 3 := by
    rcases hm with ⟨h1, _⟩ | ⟨h1, _⟩ | ⟨h1, _⟩ | ⟨_, h1⟩
    · omega
    · omega
    · omega
    · exact h1
  by_cases hc : r.c = 0
  · exact .inl ⟨.inl (by show (if r.c = 0 then (0 : Int) else 2) = 0; rw [if_pos hc]), hc⟩
  · refine .inr (.inr (.inl ⟨by show (if r.c = 0 then (0 : Int) else 2) = 2; rw [if_neg hc], ?_⟩))
    rcases hm4 with h1 | h1
    · exact absurd h1 hc
    · exact h1
theorem turnH_right {fl : Int → Bool} {s : St} {x : Inp} (h : RightP fl s) (hr : IsR s x.a) (hb : 1 ≤ x.b ∧ x.b ≤ 1000) : RightP fl (turnH s x) := by
  have hi := isR_nat hr
  exact set_right h hi rfl rfl rfl ⟨by show 0 ≤ x.b; omega, hb.2⟩ (h.mode _ hi)

theorem OwnP.id_pos {fl : Int → Bool} {s : St} (h : RightP fl s) {id : Int} {i : Nat} {st : Int} (ho : OwnP s.ts id i st) : 1 ≤ id := by
  obtain ⟨k, hk, e, _⟩ := ho
  rcases findS_cases s.ts id with ⟨e2, _⟩ | ⟨m, hm, e2, ha, _⟩
  · omega
  · obtain rfl : k = m := by omega
    have := (h.job k hk).1.1
    omega
theorem freeT_len (ts : List Rec) (id : Int) : (freeT ts id).length = ts.length := by
  unfold freeT
  split
  · rfl
  · simp
theorem freeT_at (ts : List Rec) (id : Int) (k : Nat) : ((freeT ts id).getD k zr).a = (ts.getD k zr).a ∧ ((freeT ts id).getD k zr).b = (ts.getD k zr).b ∧ ((freeT ts id).getD k zr).c = (ts.getD k zr).c := by
  unfold freeT
  split
  · exact ⟨rfl, rfl, rfl⟩
  · next h =>
    rcases findS_cases ts id with ⟨e, _⟩ | ⟨m, hm, e, _, _⟩
    · omega
    · rw [e]
      simp only [Int.toNat_natCast]
      by_cases e2 : k = m
      · subst e2; rw [set_at hm]; exact ⟨rfl, rfl, rfl⟩
      · rw [set_off e2]; exact ⟨rfl, rfl, rfl⟩

theorem turnF_right {fl : Int → Bool} {s : St} {x : Inp} (h : RightP fl s) (hr : IsR s x.a) (hb : (s.rs.getD x.a.toNat zr).b ≠ 4) : RightP fl (turnF s x) := by
  have hi := isR_nat hr
  unfold turnF
  have h4 := (h.rest _ hi).2.2.2
  have hm := h.mode _ hi
  generalize hii : x.a.toNat = i at hi hb h4 hm ⊢
  generalize hrr : s.rs.getD i zr = r at hb h4 hm ⊢
  by_cases h1 : r.b = 1
  · rw [if_pos h1]
    have hown : OwnP s.ts r.c i 2 := by
      unfold ModeP at hm
      rcases hm with ⟨h2, _⟩ | ⟨_, h2⟩ | ⟨h2, _⟩ | ⟨h2, _⟩
      · omega
      · exact h2
      · omega
      · omega
    have hpos := hown.id_pos h
    obtain ⟨k, hk, hf, hkd, hke⟩ := hown
    have hka : (s.ts.getD k zr).a = r.c := by
      rcases findS_cases s.ts r.c with ⟨e2, _⟩ | ⟨m, hm2, e2, ha, _⟩
      · omega
      · obtain rfl : k = m := by omega
        exact ha
    have hfr : freeT s.ts r.c = s.ts.set k (waitT (s.ts.getD k zr)) := by
      unfold freeT
      rw [hf, if_neg (by omega), Int.toNat_natCast]
    have hfa : ∀ m, ((freeT s.ts r.c).getD m zr).a = (s.ts.getD m zr).a := fun m => (freeT_at s.ts r.c m).1
    have hfl := freeT_len s.ts r.c
    have hfoff : ∀ m, m ≠ k → (freeT s.ts r.c).getD m zr = s.ts.getD m zr := fun m hm2 => by rw [hfr, set_off hm2]
    have hfat : (freeT s.ts r.c).getD k zr = waitT (s.ts.getD k zr) := by rw [hfr, set_at hk]
    have hA : ∀ m, ((s.rs.set i (faultR r)).getD m zr).a = (s.rs.getD m zr).a := fun m => by
      by_cases e : m = i
      · subst e; rw [set_at hi, hrr]; rfl
      · rw [set_off e]
    have hl : (s.rs.set i (faultR r)).length = s.rs.length := List.length_set
    -- no other task is this robot's Task
    have hother : ∀ m, m < s.ts.length → m ≠ k → (s.ts.getD m zr).a ≠ r.c := fun m hm2 hne e => by
      have e1 := findS_own hm2 (h.job m hm2).2.1
      rw [e, hf] at e1
      omega
    refine ⟨h.tick, by show (s.rs.set i (faultR r)).length ≤ 1024; rw [hl]; exact h.rn, by show (freeT s.ts r.c).length ≤ 1000; rw [hfl]; exact h.tn, fun m hm2 => ?_, fun m hm2 => ?_, h.shut, fun m hm2 => ?_, fun m hm2 => ?_⟩
    · have hm' : m < s.rs.length := by have : m < (s.rs.set i (faultR r)).length := hm2; omega
      obtain ⟨q1, q2, q3, q4⟩ := h.rest m hm'
      show RestP fl (s.rs.set i (faultR r)) m
      unfold RestP
      refine ⟨by rw [hA]; exact q1, fun n hn => by rw [hA, hA]; exact q2 n hn, ?_, ?_⟩
      · by_cases e : m = i
        · subst e; rw [set_at hi]; rw [hrr] at q3; exact q3
        · rw [set_off e]; exact q3
      · by_cases e : m = i
        · subst e; rw [set_at hi]; exact h4
        · rw [set_off e]; exact q4
    · have hm' : m < s.ts.length := by have : m < (freeT s.ts r.c).length := hm2; omega
      have q := h.job m hm'
      show JobP fl (freeT s.ts r.c) m
      unfold JobP at q ⊢
      obtain ⟨f1, f2, f3⟩ := freeT_at s.ts r.c m
      rw [f1, f2, f3]
      exact ⟨q.1, fun n hn => by rw [hfa]; exact q.2.1 n hn, q.2.2⟩
    · have hm' : m < s.ts.length := by have : m < (freeT s.ts r.c).length := hm2; omega
      show RoleP (s.rs.set i (faultR r)) ((freeT s.ts r.c).getD m zr)
      by_cases e : m = k
      · subst e
        rw [hfat]
        exact .inl ⟨rfl, rfl⟩
      · rw [hfoff m e]
        have q := h.role m hm'
        unfold RoleP at q ⊢
        rw [hl]
        rcases q with q | ⟨q1, q2, q3⟩ | q
        · exact .inl q
        · refine .inr (.inl ⟨q1, q2, ?_⟩)
          by_cases e2 : (s.ts.getD m zr).e.toNat = i
          · rw [e2, hrr] at q3
            exact absurd q3.symm (hother m hm' e)
          · rw [set_off e2]; exact q3
        · exact .inr (.inr q)
    · have hm' : m < s.rs.length := by have : m < (s.rs.set i (faultR r)).length := hm2; omega
      show ModeP (freeT s.ts r.c) ((s.rs.set i (faultR r)).getD m zr) m
      by_cases e : m = i
      · subst e
        rw [set_at hi]
        exact .inr (.inr (.inr ⟨rfl, .inl (by show (if r.b = 1 then (0 : Int) else r.c) = 0; rw [if_pos h1])⟩))
      · rw [set_off e]
        have q := h.mode m hm'
        have hown2 : ∀ id st, OwnP s.ts id m st → OwnP (freeT s.ts r.c) id m st := fun id st ⟨n, hn, e3, hd3, he3⟩ => by
          have hnk : n ≠ k := fun e4 => by subst e4; rw [hke] at he3; omega
          exact ⟨n, by omega, by rw [findS_ids hfl hfa]; exact e3, by rw [hfoff n hnk]; exact hd3, by rw [hfoff n hnk]; exact he3⟩
        unfold ModeP at q ⊢
        rcases q with q | ⟨q, q2⟩ | ⟨q, q2⟩ | ⟨q, q2⟩
        · exact .inl q
        · exact .inr (.inl ⟨q, hown2 _ _ q2⟩)
        · exact .inr (.inr (.inl ⟨q, hown2 _ _ q2⟩))
        · exact .inr (.inr (.inr ⟨q, q2.imp id (hown2 _ _)⟩))
  · rw [if_neg h1]
    refine set_right h hi (by rw [hrr]; rfl) (by rw [hrr]; show (if r.b = 1 then (0 : Int) else r.c) = r.c; rw [if_neg h1]) (by rw [hrr]; rfl) h4 ?_
    unfold ModeP at hm ⊢
    refine .inr (.inr (.inr ⟨rfl, ?_⟩))
    show (if r.b = 1 then (0 : Int) else r.c) = 0 ∨ OwnP s.ts (if r.b = 1 then (0 : Int) else r.c) i 3
    rw [if_neg h1]
    rcases hm with ⟨_, h2⟩ | ⟨h2, _⟩ | ⟨_, h2⟩ | ⟨h2, _⟩
    · exact .inl h2
    · omega
    · exact .inr h2
    · omega

theorem mem_getD {bl : List Int} {i : Nat} (hi : i < bl.length) : bl.getD i 0 ∈ bl := by
  simp [List.getD, hi]
theorem bl_right {fl : Int → Bool} {s : St} {bl : List Int} (h : RightP fl s) (hf : ∀ y ∈ bl, fl y = true) (hu : bl.Pairwise (· < ·)) : RightP fl ⟨s.tick, s.rs, s.ts, bl⟩ :=
  ⟨h.tick, h.rn, h.tn, h.rest, h.job, fun i hi => ⟨hf _ (mem_getD hi), fun h0 => up_of hu i hi h0⟩, h.role, h.mode⟩
theorem floor_bl {fl : Int → Bool} {s : St} (h : RightP fl s) {y : Int} (hy : y ∈ s.bl) : fl y = true := by
  obtain ⟨i, hi, e⟩ := List.mem_iff_getElem.1 hy
  have := (h.shut i hi).1
  simp [List.getD, hi, e] at this
  exact this
theorem turnB_right {fl : Int → Bool} {s : St} {x : Inp} (h : RightP fl s) (hf : fl x.a = true) (hn : x.a ∉ s.bl) : RightP fl (turnB s x) :=
  bl_right h (fun y hy => by
    rcases (mem_ins s.bl).1 hy with e | e
    · rw [e]; exact hf
    · exact floor_bl h e) (ins_up (up_right h).pairs hn)
theorem turnC_right {fl : Int → Bool} {s : St} {x : Inp} (h : RightP fl s) : RightP fl (turnC s x) :=
  bl_right h (fun y hy => floor_bl h ((del_sub s.bl x.a).subset hy)) ((up_right h).pairs.sublist (del_sub s.bl x.a))

theorem codeF_zero {s : St} {x : Inp} (h : codeF s x = 0) : IsR s x.a ∧ (s.rs.getD x.a.toNat zr).b ≠ 4 := by
  by_cases hr : IsR s x.a
  · refine ⟨hr, fun e => ?_⟩
    rw [codeF_yes hr, if_pos e] at h
    omega
  · rw [codeF_no hr] at h; omega
theorem codeR_zero {s : St} {x : Inp} (h : codeR s x = 0) : IsR s x.a ∧ (s.rs.getD x.a.toNat zr).b = 4 := by
  by_cases hr : IsR s x.a
  · refine ⟨hr, ?_⟩
    by_cases e : (s.rs.getD x.a.toNat zr).b = 4
    · exact e
    · rw [codeR_yes hr, if_neg e] at h; omega
  · rw [codeR_no hr] at h; omega
theorem codeH_zero {s : St} {x : Inp} (h : codeH s x = 0) : IsR s x.a ∧ (1 ≤ x.b ∧ x.b ≤ 1000) := by
  by_cases hr : IsR s x.a
  · refine ⟨hr, ?_⟩
    by_cases e : 1 ≤ x.b ∧ x.b ≤ 1000
    · exact e
    · rw [codeH_yes hr, if_neg e] at h; omega
  · rw [codeH_no hr] at h; omega
theorem codeB_zero {fl : Int → Bool} {s : St} {x : Inp} (h : codeB fl s x = 0) : fl x.a = true ∧ x.a ∉ s.bl := by
  unfold codeB at h
  cases hf : fl x.a
  · rw [if_pos hf] at h; omega
  · rw [if_neg (by rw [hf]; simp)] at h
    by_cases e : x.a ∈ s.bl
    · rw [if_pos e] at h; omega
    · exact ⟨rfl, e⟩
theorem codeC_zero {fl : Int → Bool} {s : St} {x : Inp} (h : codeC fl s x = 0) : x.a ∈ s.bl := by
  unfold codeC at h
  cases hf : fl x.a
  · rw [if_pos hf] at h; omega
  · rw [if_neg (by rw [hf]; simp)] at h
    by_cases e : x.a ∈ s.bl
    · exact e
    · rw [if_neg e] at h; omega
theorem turn_right {fl : Int → Bool} {s : St} {x : Inp} (h : RightP fl s) (hc : codeS fl s x = 0) : RightP fl (turnS s x) := by
  unfold codeS at hc
  unfold turnS
  by_cases h1 : x.k = 1
  · rw [if_pos h1] at hc ⊢; exact turnO_right h hc
  rw [if_neg h1] at hc ⊢
  by_cases h2 : x.k = 2
  · rw [if_pos h2] at hc ⊢; exact turnF_right h (codeF_zero hc).1 (codeF_zero hc).2
  rw [if_neg h2] at hc ⊢
  by_cases h3 : x.k = 3
  · rw [if_pos h3] at hc ⊢; exact turnR_right h (codeR_zero hc).1 (codeR_zero hc).2
  rw [if_neg h3] at hc ⊢
  by_cases h4 : x.k = 4
  · rw [if_pos h4] at hc ⊢; exact turnH_right h (codeH_zero hc).1 (codeH_zero hc).2
  rw [if_neg h4] at hc ⊢
  by_cases h5 : x.k = 5
  · rw [if_pos h5] at hc ⊢; exact turnB_right h (codeB_zero hc).1 (codeB_zero hc).2
  rw [if_neg h5] at hc ⊢
  exact turnC_right h
theorem apply_right {fl : Int → Bool} {s : St} {x : Inp} (h : RightP fl s) : RightP fl (applyS fl s x) := by
  unfold applyS
  split
  · next hc => exact turn_right h hc
  · exact h

/-- An int that is an int. -/
abbrev wf64 (x : Int) : Prop := (Lit.int .i64 x).wf = true
theorem set_wf {s : St} {i : Nat} {r : Rec} {ts : List Rec} {bl : List Int} (h : ∀ i, i < s.rs.length → wf64 (s.rs.getD i zr).c) (hr : wf64 r.c) : ∀ k, k < (s.rs.set i r).length → wf64 ((s.rs.set i r).getD k zr).c := fun k hk => by
  have hk' : k < s.rs.length := by simpa using hk
  by_cases e : k = i
  · subst e; rw [set_at hk']; exact hr
  · rw [set_off e]; exact h k hk'
theorem turn_wf {s : St} {x : Inp} (h : ∀ i, i < s.rs.length → wf64 (s.rs.getD i zr).c) : ∀ i, i < (turnS s x).rs.length → wf64 ((turnS s x).rs.getD i zr).c := by
  have hz : wf64 zr.c := by decide
  have hc : ∀ i, wf64 (s.rs.getD i zr).c := fun i => by
    by_cases hi : i < s.rs.length
    · exact h i hi
    · rw [List.getD, List.getElem?_eq_none (by omega)]; exact hz
  unfold turnS
  by_cases h1 : x.k = 1
  · rw [if_pos h1]; exact h
  rw [if_neg h1]
  by_cases h2 : x.k = 2
  · rw [if_pos h2]
    refine set_wf (ts := s.ts) (bl := s.bl) h ?_
    show wf64 (if _ then (0 : Int) else _)
    split
    · decide
    · exact hc _
  rw [if_neg h2]
  by_cases h3 : x.k = 3
  · rw [if_pos h3]; exact set_wf (ts := s.ts) (bl := s.bl) h (hc _)
  rw [if_neg h3]
  by_cases h4 : x.k = 4
  · rw [if_pos h4]; exact set_wf (ts := s.ts) (bl := s.bl) h (hc _)
  rw [if_neg h4]
  by_cases h5 : x.k = 5
  · rw [if_pos h5]; exact h
  rw [if_neg h5]; exact h
theorem apply_wf {fl : Int → Bool} {s : St} {x : Inp} (h : ∀ i, i < s.rs.length → wf64 (s.rs.getD i zr).c) : ∀ i, i < (applyS fl s x).rs.length → wf64 ((applyS fl s x).rs.getD i zr).c := by
  unfold applyS
  split
  · exact turn_wf h
  · exact h
end Go.Proofs.YtplnaaokapilpaaDoor.Vm

namespace Go.Proofs.YtplnaaokapilpaaDoor.Vm
open Go Go.RowKit
def zx : Inp := ⟨0, 0, 0, 0⟩
theorem take_x {l : List Inp} {k : Nat} (h : k < l.length) : l.take (k + 1) = l.take k ++ [l.getD k zx] := by
  rw [List.take_succ_eq_append_getElem h]
  simp [List.getD, h]

/-- The slice '.slice a n c' holds these inputs, in a block below B. -/
def RowI (w : World) (B : Nat) (a : Option Addr) (n c : Nat) (l : List Inp) : Prop :=
  l.length = n ∧ n ≤ c ∧ c ≤ maxLen ∧
  (0 < n → ∃ b off, a = some ⟨b, off, none⟩ ∧ b < B ∧ ∀ i, i < n → w.cell? ⟨b, off + i * 4, none⟩ = some (.int .i64 (l.getD i zx).k) ∧ w.cell? ⟨b, off + i * 4 + 1, none⟩ = some (.int .i64 (l.getD i zx).a) ∧ w.cell? ⟨b, off + i * 4 + 2, none⟩ = some (.int .i64 (l.getD i zx).b) ∧ w.cell? ⟨b, off + i * 4 + 3, none⟩ = some (.int .i64 (l.getD i zx).c))
theorem RowI.below {w w' : World} {B n c : Nat} {a : Option Addr} {l : List Inp} (h : RowI w B a n c l) (hb : Below B w w') : RowI w' B a n c l :=
  ⟨h.1, h.2.1, h.2.2.1, fun hn => by
    obtain ⟨b, off, e, hB, hc⟩ := h.2.2.2 hn
    refine ⟨b, off, e, hB, fun i hi => ?_⟩
    obtain ⟨p1, p2, p3, p4⟩ := hc i hi
    exact ⟨(hb.cell (p := ⟨b, off + i * 4, none⟩) hB).trans p1, (hb.cell (p := ⟨b, off + i * 4 + 1, none⟩) hB).trans p2, (hb.cell (p := ⟨b, off + i * 4 + 2, none⟩) hB).trans p3, (hb.cell (p := ⟨b, off + i * 4 + 3, none⟩) hB).trans p4⟩⟩
theorem RowI.mono {w : World} {B B' n c : Nat} {a : Option Addr} {l : List Inp} (h : RowI w B a n c l) (hB : B ≤ B') : RowI w B' a n c l :=
  ⟨h.1, h.2.1, h.2.2.1, fun hn => by
    obtain ⟨b, off, e, hb, hc⟩ := h.2.2.2 hn
    exact ⟨b, off, e, by omega, hc⟩⟩

end Go.Proofs.YtplnaaokapilpaaDoor.Vm
