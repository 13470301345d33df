/- The plain mathematics of dispatch: the best robot for a task, who gets what, who is sent to be charged; that what comes of it may be, and that behind it nothing more is given. No program is named here. -/
import Derived.Test.YtopgboepkckkjaaInMath
import Derived.Test.YtopgboepkckkjaaGridMath
namespace Go.Proofs.Ytopgboepkckkjaa.Vm

section
variable (W H : Int) (l : List Nat)
/-- How far the i-th robot is from the j-th task. -/
noncomputable def farD (s : St) (j i : Nat) : Int := farG W H l s.bl (s.rs.getD i zr).a (s.ts.getD j zr).b
/-- The i-th robot may have the j-th task. -/
def FitD (s : St) (j i : Nat) : Prop := (s.rs.getD i zr).b = 0 ∧ 100 ≤ (s.rs.getD i zr).d ∧ 0 ≤ farD W H l s j i
/-- The best one of the first m robots, and how far it is. -/
noncomputable def bestN (s : St) (j : Nat) : Nat → Int × Int
  | 0 => (-1, 0)
  | i + 1 => @ite _ (FitD W H l s j i ∧ ((bestN s j i).1 < 0 ∨ farD W H l s j i < (bestN s j i).2)) (Classical.propDecidable _) ((i : Int), farD W H l s j i) (bestN s j i)
/-- The robot for a task. -/
noncomputable def bestG (s : St) (x : Int) : Int := if 0 ≤ x ∧ x < (s.ts.length : Int) ∧ (s.ts.getD x.toNat zr).d = 1 then (bestN W H l s x.toNat s.rs.length).1 else -1
end
/-- A robot gets a task. -/
def giveT (t : Rec) (k : Int) : Rec := ⟨t.a, t.b, t.c, 2, k⟩
def giveR (r : Rec) (id : Int) : Rec := ⟨r.a, 1, id, r.d, r.e⟩
def giveS (s : St) (i k : Nat) : St := ⟨s.tick, s.rs.set k (giveR (s.rs.getD k zr) (s.ts.getD i zr).a), s.ts.set i (giveT (s.ts.getD i zr) k), s.bl⟩
/-- Behind the first m tasks: the state, who got what. -/
noncomputable def dispN (W H : Int) (l : List Nat) (s : St) : Nat → St × List (Nat × Nat)
  | 0 => (s, [])
  | i + 1 => if bestG W H l (dispN W H l s i).1 (i : Int) < 0 then dispN W H l s i else
      (giveS (dispN W H l s i).1 i (bestG W H l (dispN W H l s i).1 (i : Int)).toNat, (dispN W H l s i).2 ++ [(i, (bestG W H l (dispN W H l s i).1 (i : Int)).toNat)])
/-- Who is sent to be charged. -/
def chargeR (r : Rec) : Rec := if r.b = 0 ∧ r.d < 100 then ⟨r.a, 3, r.c, r.d, r.e⟩ else r
def chargeS (s : St) : St := ⟨s.tick, s.rs.map chargeR, s.ts, s.bl⟩
noncomputable def dispG (W H : Int) (l : List Nat) (s : St) : St × List (Nat × Nat) := (chargeS (dispN W H l s s.ts.length).1, (dispN W H l s s.ts.length).2)

section
variable {W H : Int} {l : List Nat} {s s' : St}
theorem bestN_yes {j i : Nat} (h : FitD W H l s j i) (h2 : (bestN W H l s j i).1 < 0 ∨ farD W H l s j i < (bestN W H l s j i).2) : bestN W H l s j (i + 1) = ((i : Int), farD W H l s j i) := by
  rw [bestN]
  exact if_pos ⟨h, h2⟩
theorem bestN_no {j i : Nat} (h : ¬ (FitD W H l s j i ∧ ((bestN W H l s j i).1 < 0 ∨ farD W H l s j i < (bestN W H l s j i).2))) : bestN W H l s j (i + 1) = bestN W H l s j i := by
  rw [bestN]
  exact if_neg h
/-- What the best one is. -/
theorem bestN_is (j : Nat) : ∀ m, ((bestN W H l s j m).1 = -1 ∧ ∀ k, k < m → ¬ FitD W H l s j k) ∨
    ∃ k : Nat, k < m ∧ bestN W H l s j m = ((k : Int), farD W H l s j k) ∧ FitD W H l s j k ∧ ∀ i, i < m → FitD W H l s j i → farD W H l s j k < farD W H l s j i ∨ farD W H l s j k = farD W H l s j i ∧ k ≤ i
  | 0 => .inl ⟨rfl, fun k hk => by omega⟩
  | m + 1 => by
    rcases bestN_is j m with ⟨h1, h2⟩ | ⟨k, hk, h1, h2, h3⟩
    · by_cases hf : FitD W H l s j m
      · rw [bestN_yes hf (.inl (by omega))]
        exact .inr ⟨m, by omega, rfl, hf, fun i hi hfi => by
          by_cases e : i = m
          · subst e; exact .inr ⟨rfl, Nat.le_refl _⟩
          · exact absurd hfi (h2 i (by omega))⟩
      · rw [bestN_no (fun h => hf h.1)]
        exact .inl ⟨h1, fun k hk => by
          by_cases e : k = m
          · subst e; exact hf
          · exact h2 k (by omega)⟩
    · by_cases hf : FitD W H l s j m ∧ farD W H l s j m < farD W H l s j k
      · rw [bestN_yes hf.1 (.inr (by rw [h1]; exact hf.2))]
        exact .inr ⟨m, by omega, rfl, hf.1, fun i hi hfi => by
          by_cases e : i = m
          · subst e; exact .inr ⟨rfl, Nat.le_refl _⟩
          · have := h3 i (by omega) hfi
            have := hf.2
            omega⟩
      · rw [bestN_no (fun h => by
          rw [h1] at h
          rcases h.2 with h4 | h4
          · have h4 : (k : Int) < 0 := h4
            omega
          · exact hf ⟨h.1, h4⟩)]
        exact .inr ⟨k, by omega, h1, h2, fun i hi hfi => by
          by_cases e : i = m
          · subst e
            have : ¬ farD W H l s j i < farD W H l s j k := fun h => hf ⟨hfi, h⟩
            omega
          · exact h3 i (by omega) hfi⟩
theorem bestG_is (x : Int) : (bestG W H l s x = -1 ∧ (0 ≤ x → x < (s.ts.length : Int) → (s.ts.getD x.toNat zr).d = 1 → ∀ k, k < s.rs.length → ¬ FitD W H l s x.toNat k)) ∨
    (0 ≤ x ∧ x < (s.ts.length : Int) ∧ (s.ts.getD x.toNat zr).d = 1 ∧ ∃ k : Nat, k < s.rs.length ∧ bestG W H l s x = k ∧ FitD W H l s x.toNat k) := by
  unfold bestG
  by_cases h : 0 ≤ x ∧ x < (s.ts.length : Int) ∧ (s.ts.getD x.toNat zr).d = 1
  · rw [if_pos h]
    rcases bestN_is (W := W) (H := H) (l := l) (s := s) x.toNat s.rs.length with ⟨h1, h2⟩ | ⟨k, hk, h1, h2, _⟩
    · exact .inl ⟨h1, fun _ _ _ => h2⟩
    · exact .inr ⟨h.1, h.2.1, h.2.2, k, hk, by rw [h1], h2⟩
  · rw [if_neg h]
    exact .inl ⟨rfl, fun h1 h2 h3 => absurd ⟨h1, h2, h3⟩ h⟩
theorem bestG_none {x : Int} (h : (s.ts.getD x.toNat zr).d = 1 → ∀ k, k < s.rs.length → ¬ FitD W H l s x.toNat k) : bestG W H l s x = -1 := by
  rcases bestG_is (W := W) (H := H) (l := l) (s := s) x with ⟨h1, _⟩ | ⟨_, _, h3, k, hk, _, hf⟩
  · exact h1
  · exact absurd hf (h h3 k hk)

/-- A state in which an idle robot has got a task that waits may be. -/
theorem give_right {fl : Int → Bool} {i k : Nat} (h : RightP fl s) (hi : i < s.ts.length) (hd : (s.ts.getD i zr).d = 1) (hk : k < s.rs.length) (hb : (s.rs.getD k zr).b = 0) : RightP fl (giveS s i k) := by
  unfold giveS
  have hm := h.mode k hk
  have hkr := h.rest k hk
  generalize hr : s.rs.getD k zr = r at hb hm hkr ⊢
  generalize ht : s.ts.getD i zr = t at hd ⊢
  have hA : ∀ m, ((s.rs.set k (giveR r t.a)).getD m zr).a = (s.rs.getD m zr).a := fun m => by
    by_cases e : m = k
    · subst e; rw [set_at hk, hr]; rfl
    · rw [set_off e]
  have hl : (s.rs.set k (giveR r t.a)).length = s.rs.length := List.length_set
  have hlt : (s.ts.set i (giveT t k)).length = s.ts.length := List.length_set
  have hT : ∀ m, ((s.ts.set i (giveT t k)).getD m zr).a = (s.ts.getD m zr).a ∧ ((s.ts.set i (giveT t k)).getD m zr).b = (s.ts.getD m zr).b ∧ ((s.ts.set i (giveT t k)).getD m zr).c = (s.ts.getD m zr).c := fun m => by
    by_cases e : m = i
    · subst e; rw [set_at hi, ht]; exact ⟨rfl, rfl, rfl⟩
    · rw [set_off e]; exact ⟨rfl, rfl, rfl⟩
  have hc : r.c = 0 := by
    unfold ModeP at hm
    rcases hm with ⟨_, h2⟩ | ⟨h2, _⟩ | ⟨h2, _⟩ | ⟨h2, _⟩
    · exact h2
    all_goals omega
  have hff := findS_own hi (h.job i hi).2.1
  rw [ht] at hff
  refine ⟨h.tick, by show (s.rs.set k (giveR r t.a)).length ≤ 1024; rw [hl]; exact h.rn, by show (s.ts.set i (giveT t k)).length ≤ 1000; rw [hlt]; exact h.tn, fun m hm2 => ?_, fun m hm2 => ?_, h.shut, fun m hm2 => ?_, fun m hm2 => ?_⟩
  · have hm' : m < s.rs.length := by have : m < (s.rs.set k (giveR r t.a)).length := hm2; omega
    obtain ⟨q1, q2, q3, q4⟩ := h.rest m hm'
    show RestP fl (s.rs.set k (giveR r t.a)) m
    unfold RestP
    refine ⟨by rw [hA]; exact q1, fun n hn => by rw [hA, hA]; exact q2 n hn, ?_, ?_⟩
    · by_cases e : m = k
      · subst e; rw [set_at hk]; rw [hr] at q3; exact q3
      · rw [set_off e]; exact q3
    · by_cases e : m = k
      · subst e; rw [set_at hk]; rw [hr] at q4; exact q4
      · rw [set_off e]; exact q4
  · have hm' : m < s.ts.length := by have : m < (s.ts.set i (giveT t k)).length := hm2; omega
    have q := h.job m hm'
    show JobP fl (s.ts.set i (giveT t k)) m
    unfold JobP at q ⊢
    obtain ⟨f1, f2, f3⟩ := hT m
    rw [f1, f2, f3]
    exact ⟨q.1, fun n hn => by rw [(hT n).1]; exact q.2.1 n hn, q.2.2⟩
  · have hm' : m < s.ts.length := by have : m < (s.ts.set i (giveT t k)).length := hm2; omega
    show RoleP (s.rs.set k (giveR r t.a)) ((s.ts.set i (giveT t k)).getD m zr)
    by_cases e : m = i
    · subst e
      rw [set_at hi]
      refine .inr (.inl ⟨.inl rfl, ⟨by show 0 ≤ (k : Int); omega, by show (k : Int) < ((s.rs.set k (giveR r t.a)).length : Int); rw [hl]; omega⟩, ?_⟩)
      show ((s.rs.set k (giveR r t.a)).getD (k : Int).toNat zr).c = t.a
      rw [Int.toNat_natCast, set_at hk]
      rfl
    · rw [set_off e]
      have q := h.role m hm'
      have hj := (h.job m hm').1.1
      unfold RoleP at q ⊢
      rw [hl]
      rcases q with q | ⟨q1, q2, q3⟩ | q
      · exact .inl q
      · refine .inr (.inl ⟨q1, q2, ?_⟩)
        by_cases e2 : (s.ts.getD m zr).e.toNat = k
        · rw [e2, hr, hc] at q3
          omega
        · rw [set_off e2]; exact q3
      · exact .inr (.inr q)
  · have hm' : m < s.rs.length := by have : m < (s.rs.set k (giveR r t.a)).length := hm2; omega
    show ModeP (s.ts.set i (giveT t k)) ((s.rs.set k (giveR r t.a)).getD m zr) m
    by_cases e : m = k
    · subst e
      rw [set_at hk]
      refine .inr (.inl ⟨rfl, i, by rw [hlt]; exact hi, ?_, by rw [set_at hi]; rfl, by rw [set_at hi]; rfl⟩)
      rw [findS_ids hlt (fun n => (hT n).1)]
      exact hff
    · rw [set_off e]
      have q := h.mode m hm'
      have hown2 : ∀ id st, 2 ≤ st → OwnP s.ts id m st → OwnP (s.ts.set i (giveT t k)) id m st := fun id st hst ⟨n, hn, e3, hd3, he3⟩ => by
        have hnk : n ≠ i := fun e4 => by subst e4; rw [ht] at hd3; omega
        exact ⟨n, by omega, by rw [findS_ids hlt (fun n => (hT n).1)]; exact e3, by rw [set_off hnk]; exact hd3, by rw [set_off hnk]; exact he3⟩
      unfold ModeP at q ⊢
      rcases q with q | ⟨q, q2⟩ | ⟨q, q2⟩ | ⟨q, q2⟩
      · exact .inl q
      · exact .inr (.inl ⟨q, hown2 _ _ (by omega) q2⟩)
      · exact .inr (.inr (.inl ⟨q, hown2 _ _ (by omega) q2⟩))
      · exact .inr (.inr (.inr ⟨q, q2.imp id (hown2 _ _ (by omega))⟩))
theorem chargeR_a (r : Rec) : (chargeR r).a = r.a ∧ (chargeR r).c = r.c ∧ (chargeR r).d = r.d ∧ (chargeR r).e = r.e := by
  unfold chargeR
  split <;> exact ⟨rfl, rfl, rfl, rfl⟩
theorem charge_at {rs : List Rec} {m : Nat} (h : m < rs.length) : (rs.map chargeR).getD m zr = chargeR (rs.getD m zr) := by simp [List.getD, h]
theorem charge_right {fl : Int → Bool} (h : RightP fl s) : RightP fl (chargeS s) := by
  have hl : (s.rs.map chargeR).length = s.rs.length := List.length_map _
  have hA : ∀ m, m < s.rs.length → ((s.rs.map chargeR).getD m zr).a = (s.rs.getD m zr).a := fun m hm => by rw [charge_at hm]; exact (chargeR_a _).1
  refine ⟨h.tick, by show (s.rs.map chargeR).length ≤ 1024; rw [hl]; exact h.rn, h.tn, fun m hm2 => ?_, h.job, h.shut, fun m hm2 => ?_, fun m hm2 => ?_⟩
  · have hm' : m < s.rs.length := by have : m < (s.rs.map chargeR).length := hm2; omega
    obtain ⟨q1, q2, q3, q4⟩ := h.rest m hm'
    show RestP fl (s.rs.map chargeR) m
    unfold RestP
    obtain ⟨c1, c2, c3, c4⟩ := chargeR_a (s.rs.getD m zr)
    refine ⟨by rw [hA m hm']; exact q1, fun n hn => by rw [hA m hm', hA n (by omega)]; exact q2 n hn, by rw [charge_at hm', c3]; exact q3, by rw [charge_at hm', c4]; exact q4⟩
  · have q := h.role m hm2
    show RoleP (s.rs.map chargeR) (s.ts.getD m zr)
    unfold RoleP at q ⊢
    rw [hl]
    rcases q with q | ⟨q1, q2, q3⟩ | q
    · exact .inl q
    · exact .inr (.inl ⟨q1, q2, by rw [charge_at (by omega), (chargeR_a _).2.1]; exact q3⟩)
    · exact .inr (.inr q)
  · have hm' : m < s.rs.length := by have : m < (s.rs.map chargeR).length := hm2; omega
    have q := h.mode m hm'
    show ModeP s.ts ((s.rs.map chargeR).getD m zr) m
    rw [charge_at hm']
    unfold chargeR
    split
    · next hc =>
      unfold ModeP at q ⊢
      rcases q with ⟨_, q⟩ | ⟨q, _⟩ | ⟨q, _⟩ | ⟨q, _⟩
      · exact .inl ⟨.inr rfl, q⟩
      all_goals omega
    · exact q

/-- What holds behind the first i tasks. -/
structure Disp (W H : Int) (l : List Nat) (s : St) (i : Nat) (s' : St) (ps : List (Nat × Nat)) : Prop where
  tick : s'.tick = s.tick
  bl : s'.bl = s.bl
  rl : s'.rs.length = s.rs.length
  tl : s'.ts.length = s.ts.length
  same : ∀ k, (s'.rs.getD k zr).a = (s.rs.getD k zr).a ∧ (s'.rs.getD k zr).d = (s.rs.getD k zr).d ∧ (s'.rs.getD k zr).e = (s.rs.getD k zr).e
  idle : ∀ k, (s'.rs.getD k zr).b = 0 → s'.rs.getD k zr = s.rs.getD k zr
  off : ∀ k, k ∉ ps.map Prod.snd → s'.rs.getD k zr = s.rs.getD k zr
  on : ∀ p ∈ ps, p.1 < i ∧ p.2 < s.rs.length ∧ (s.rs.getD p.2 zr).b = 0 ∧ 100 ≤ (s.rs.getD p.2 zr).d ∧ (s'.rs.getD p.2 zr).b = 1
  one : (ps.map Prod.snd).Nodup
  from_ : ∀ j, (s'.ts.getD j zr).b = (s.ts.getD j zr).b
  later : ∀ j, i ≤ j → s'.ts.getD j zr = s.ts.getD j zr
  done : ∀ j, j < i → (s'.ts.getD j zr).d = 1 → ∀ k, k < s.rs.length → ¬ FitD W H l s' j k
theorem Disp.zero : Disp W H l s 0 s [] := ⟨rfl, rfl, rfl, rfl, fun _ => ⟨rfl, rfl, rfl⟩, fun _ _ => rfl, fun _ _ => rfl, fun p hp => (by cases hp), by simp, fun _ => rfl, fun _ _ => rfl, fun j hj => by omega⟩
theorem Disp.skip {i : Nat} {ps : List (Nat × Nat)} (h : Disp W H l s i s' ps) (hi : i < s.ts.length) (hb : bestG W H l s' (i : Int) < 0) : Disp W H l s (i + 1) s' ps :=
  { h with
    on := fun p hp => by obtain ⟨h1, h2⟩ := h.on p hp; exact ⟨by omega, h2⟩
    later := fun j hj => h.later j (by omega)
    done := fun j hj hd k hk => by
      by_cases e : j = i
      · subst e
        rcases bestG_is (W := W) (H := H) (l := l) (s := s') (j : Int) with ⟨_, h2⟩ | ⟨_, _, _, k', _, h3, _⟩
        · have := h2 (by omega) (by rw [h.tl]; omega) (by rw [Int.toNat_natCast]; exact hd) k (by rw [h.rl]; exact hk)
          rwa [Int.toNat_natCast] at this
        · omega
      · exact h.done j (by omega) hd k hk }
theorem Disp.give {i k : Nat} {ps : List (Nat × Nat)} (h : Disp W H l s i s' ps) (hi : i < s.ts.length) (hk : k < s.rs.length) (hf : FitD W H l s' i k) : Disp W H l s (i + 1) (giveS s' i k) (ps ++ [(i, k)]) := by
  have hk' : k < s'.rs.length := by rw [h.rl]; exact hk
  have hi' : i < s'.ts.length := by rw [h.tl]; exact hi
  have hid := h.idle k hf.1
  have hkn : k ∉ ps.map Prod.snd := fun hm => by
    obtain ⟨p, hp, e⟩ := List.mem_map.1 hm
    have := (h.on p hp).2.2.2.2
    rw [e, hf.1] at this
    omega
  have hR : ∀ m, m ≠ k → (giveS s' i k).rs.getD m zr = s'.rs.getD m zr := fun m hm => set_off hm _
  have hRk : (giveS s' i k).rs.getD k zr = giveR (s'.rs.getD k zr) (s'.ts.getD i zr).a := set_at hk' _
  have hT : ∀ m, m ≠ i → (giveS s' i k).ts.getD m zr = s'.ts.getD m zr := fun m hm => set_off hm _
  have hTi : (giveS s' i k).ts.getD i zr = giveT (s'.ts.getD i zr) k := set_at hi' _
  refine ⟨h.tick, h.bl, by show (s'.rs.set _ _).length = _; rw [List.length_set]; exact h.rl, by show (s'.ts.set _ _).length = _; rw [List.length_set]; exact h.tl, fun m => ?_, fun m hm => ?_, fun m hm => ?_, fun p hp => ?_, ?_, fun m => ?_, fun m hm => ?_, fun j hj hd m hm hfm => ?_⟩
  · by_cases e : m = k
    · subst e; rw [hRk]; exact h.same m
    · rw [hR m e]; exact h.same m
  · by_cases e : m = k
    · subst e
      rw [hRk] at hm
      exact absurd (show (1 : Int) = 0 from hm) (by omega)
    · rw [hR m e] at hm ⊢
      exact h.idle m hm
  · rw [List.map_append, List.mem_append] at hm
    have h1 : m ≠ k := fun e => hm (.inr (by simp [e]))
    rw [hR m h1]
    exact h.off m (fun h2 => hm (.inl h2))
  · rcases List.mem_append.1 hp with hp | hp
    · obtain ⟨h1, h2, h3, h4, h5⟩ := h.on p hp
      refine ⟨by omega, h2, h3, h4, ?_⟩
      have e : p.2 ≠ k := fun e => hkn (List.mem_map.2 ⟨p, hp, e⟩)
      rw [hR _ e]
      exact h5
    · obtain rfl := List.mem_singleton.1 hp
      refine ⟨by show i < i + 1; omega, hk, ?_, ?_, ?_⟩
      · show (s.rs.getD k zr).b = 0
        rw [← hid]; exact hf.1
      · show 100 ≤ (s.rs.getD k zr).d
        rw [← hid]; exact hf.2.1
      · show ((giveS s' i k).rs.getD k zr).b = 1
        rw [hRk]; rfl
  · rw [List.map_append]
    refine List.nodup_append.2 ⟨h.one, by simp, fun a ha b hb e => ?_⟩
    have : b = k := by simpa using hb
    exact hkn (by rw [← this, ← e]; exact ha)
  · by_cases e : m = i
    · subst e; rw [hTi]; exact h.from_ m
    · rw [hT m e]; exact h.from_ m
  · rw [hT m (by omega)]
    exact h.later m (by omega)
  · have hji : j ≠ i := fun e => by
      subst e
      rw [hTi] at hd
      exact absurd (show (2 : Int) = 1 from hd) (by omega)
    rw [hT j hji] at hd
    obtain ⟨f1, f2, f3⟩ := hfm
    by_cases e : m = k
    · subst e
      rw [hRk] at f1
      exact absurd (show (1 : Int) = 0 from f1) (by omega)
    · rw [hR m e] at f1 f2
      unfold farD at f3
      rw [hR m e, hT j hji] at f3
      exact h.done j (by omega) hd m hm ⟨f1, f2, f3⟩
/-- Behind the first i tasks the state may be, and all the above holds. -/
theorem dispN_is {fl : Int → Bool} (hr : RightP fl s) : ∀ i, i ≤ s.ts.length → RightP fl (dispN W H l s i).1 ∧ Disp W H l s i (dispN W H l s i).1 (dispN W H l s i).2
  | 0, _ => ⟨hr, .zero⟩
  | i + 1, hi => by
    obtain ⟨h1, h2⟩ := dispN_is hr i (by omega)
    rw [dispN]
    by_cases hb : bestG W H l (dispN W H l s i).1 (i : Int) < 0
    · rw [if_pos hb]
      exact ⟨h1, h2.skip (by omega) hb⟩
    · rw [if_neg hb]
      rcases bestG_is (W := W) (H := H) (l := l) (s := (dispN W H l s i).1) (i : Int) with ⟨h3, _⟩ | ⟨_, _, h3, k, hk, h4, hf⟩
      · omega
      · rw [h4]
        rw [Int.toNat_natCast] at h3 hf
        rw [Int.toNat_natCast]
        exact ⟨give_right h1 (by rw [h2.tl]; omega) h3 hk hf.1, h2.give (by omega) (by rw [← h2.rl]; exact hk) hf⟩

/-- What comes of it. -/
structure Dispd (W H : Int) (l : List Nat) (fl : Int → Bool) (s a : St) (ps : List (Nat × Nat)) : Prop where
  right : RightP fl a
  rl : a.rs.length = s.rs.length
  tl : a.ts.length = s.ts.length
  bl : a.bl = s.bl
  cell : ∀ k, k < s.rs.length → (a.rs.getD k zr).a = (s.rs.getD k zr).a
  off : ∀ k, k < s.rs.length → k ∉ ps.map Prod.snd → a.rs.getD k zr = s.rs.getD k zr ∨ (s.rs.getD k zr).b = 0 ∧ (a.rs.getD k zr).b = 3
  on : ∀ p ∈ ps, p.2 < s.rs.length ∧ (s.rs.getD p.2 zr).b = 0 ∧ 100 ≤ (s.rs.getD p.2 zr).d ∧ (a.rs.getD p.2 zr).b = 1
  one : (ps.map Prod.snd).Nodup
  low : ∀ k, k < s.rs.length → (a.rs.getD k zr).b = 0 → 100 ≤ (a.rs.getD k zr).d
  best : ∀ x, bestG W H l a x = -1
theorem dispG_is {fl : Int → Bool} (hr : RightP fl s) : Dispd W H l fl s (dispG W H l s).1 (dispG W H l s).2 := by
  obtain ⟨h1, h2⟩ := dispN_is (W := W) (H := H) (l := l) hr s.ts.length (Nat.le_refl _)
  unfold dispG
  generalize dispN W H l s s.ts.length = D at h1 h2 ⊢
  obtain ⟨s', ps⟩ := D
  simp only [] at h1 h2 ⊢
  have hat : ∀ k, k < s.rs.length → (chargeS s').rs.getD k zr = chargeR (s'.rs.getD k zr) := fun k hk => charge_at (by rw [h2.rl]; exact hk)
  refine ⟨charge_right h1, by show (s'.rs.map chargeR).length = _; rw [List.length_map]; exact h2.rl, h2.tl, h2.bl, fun k hk => ?_, fun k hk hn => ?_, fun p hp => ?_, h2.one, fun k hk hb => ?_, fun x => ?_⟩
  · rw [hat k hk, (chargeR_a _).1]; exact (h2.same k).1
  · rw [hat k hk, h2.off k hn]
    unfold chargeR
    split
    · next hc => exact .inr ⟨hc.1, rfl⟩
    · exact .inl rfl
  · obtain ⟨_, q2, q3, q4, q5⟩ := h2.on p hp
    refine ⟨q2, q3, q4, ?_⟩
    rw [hat _ q2]
    unfold chargeR
    rw [if_neg (by omega)]
    exact q5
  · rw [hat k hk] at hb ⊢
    unfold chargeR at hb ⊢
    split at hb
    · exact absurd (show (3 : Int) = 0 from hb) (by omega)
    · next hc => rw [if_neg hc]; omega
  · refine bestG_none fun hd k hk hf => ?_
    have hk' : k < s.rs.length := by have : k < (s'.rs.map chargeR).length := hk; rw [List.length_map, h2.rl] at this; exact this
    obtain ⟨f1, f2, f3⟩ := hf
    have hck : (chargeS s').rs.getD k zr = s'.rs.getD k zr := by
      rw [hat k hk'] at f1 ⊢
      unfold chargeR at f1 ⊢
      split at f1
      · exact absurd (show (3 : Int) = 0 from f1) (by omega)
      · next hc => rw [if_neg hc]
    unfold farD at f3
    rw [hck] at f1 f2 f3
    by_cases hx : x.toNat < s.ts.length
    · exact h2.done _ hx hd k hk' ⟨f1, f2, f3⟩
    · have hz : s'.ts.getD x.toNat zr = zr := by simp [List.getD, show ¬ x.toNat < s'.ts.length by rw [h2.tl]; exact hx]
      have hd : (s'.ts.getD x.toNat zr).d = 1 := hd
      rw [hz] at hd
      exact absurd (show (0 : Int) = 1 from hd) (by omega)
/-- Behind it nothing more is given. -/
theorem dispN_none (h : ∀ x, bestG W H l s x = -1) : ∀ i, dispN W H l s i = (s, [])
  | 0 => rfl
  | i + 1 => by
    rw [dispN, dispN_none h i]
    exact if_pos (by rw [h]; decide)
theorem charge_none (h : ∀ k, k < s.rs.length → (s.rs.getD k zr).b = 0 → 100 ≤ (s.rs.getD k zr).d) : chargeS s = s := by
  unfold chargeS
  have : s.rs.map chargeR = s.rs := by
    refine List.ext_getElem (List.length_map _) fun k hk1 hk2 => ?_
    have h1 := h k hk2
    rw [show s.rs.getD k zr = s.rs[k] by simp [List.getD, hk2]] at h1
    rw [List.getElem_map]
    unfold chargeR
    rw [if_neg (fun hc => by have := h1 hc.1; omega)]
  rw [this]
theorem dispG_again {fl : Int → Bool} (hr : RightP fl s) : dispG W H l (dispG W H l s).1 = ((dispG W H l s).1, []) := by
  have h := dispG_is (W := W) (H := H) (l := l) hr
  generalize (dispG W H l s).1 = a at h
  unfold dispG
  rw [dispN_none h.best]
  have : chargeS a = a := charge_none fun k hk => h.low k (by rw [← h.rl]; exact hk)
  simp only [this]
end
end Go.Proofs.Ytopgboepkckkjaa.Vm
