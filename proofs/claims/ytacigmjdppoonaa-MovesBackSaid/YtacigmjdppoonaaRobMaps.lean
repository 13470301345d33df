/- The program's exists, beside, notBelow, robotsIn: the robots of each cell, in a map of slices of the call's own. -/
import Derived.Test.YtacigmjdppoonaaNextMath
import Derived.Test.YtacigmjdppoonaaTraffic
import Derived.Test.YtacigmjdppoonaaSearches
import Derived.Test.YtacigmjdppoonaaGoes
import Derived.Test.YtacigmjdppoonaaStWords
import Derived.Test.YtacigmjdppoonaaHopsC
import Derived.Maps.AppendAt
namespace Go.Proofs.Ytacigmjdppoonaa.Vm
open Go Go.RowKit Go.Maps
set_option maxRecDepth 100000

/-- A slice at the head of a block, as an element of a map. -/
abbrev rowV (r : Nat × Nat × Nat) : Value := .slice (some ⟨r.1, 0, none⟩) r.2.1 r.2.2
def rowRd : Value → Option (DataW Unit × List MemPlace)
  | .slice (some ⟨b, 0, none⟩) n c => some (.agg [.lit (.int .i64 b), .lit (.int .i64 n), .lit (.int .i64 c)], [])
  | .slice none 0 0 => some (.agg [], [])
  | _ => none
theorem rowRd_inv {v : Value} {r : Nat × Nat × Nat} {ps : List MemPlace} (h : rowRd v = some (.agg [.lit (.int .i64 r.1), .lit (.int .i64 r.2.1), .lit (.int .i64 r.2.2)], ps)) : v = rowV r := by
  unfold rowRd at h
  split at h
  · rename_i b n c
    simp at h
    obtain ⟨⟨h1, h2, h3⟩, _⟩ := h
    obtain rfl : b = r.1 := by omega
    obtain rfl : n = r.2.1 := by omega
    obtain rfl : c = r.2.2 := by omega
    rfl
  · simp at h
  · cases h
theorem rowRd_invz {v : Value} {ps : List MemPlace} (h : rowRd v = some (.agg [], ps)) : v = .slice none 0 0 := by
  unfold rowRd at h
  split at h
  · simp at h
  · rfl
  · cases h
def rowM : MapKind Int (Nat × Nat × Nat) where
  t := 49
  k := 3
  e := 27
  kv a := .int .i64 a
  kl a := .int .i64 a
  okK a := wfI a
  ev := rowV
  okE _ := True
  z := .slice none 0 0
  R := rowRd
  d r := .agg [.lit (.int .i64 r.1), .lit (.int .i64 r.2.1), .lit (.int .i64 r.2.2)]
  dz := .agg []
theorem rowMl : MapLaw rowM where
  keyed := key_law
  ht := Try.underlying49
  hz w := by kernel_rfl
  key a h := keyOf_int_mk Try.underlying3 h
  inj a b ha hb h := by injection h
  isKey _ := trivial
  reads b _ := rfl
  inv v b ps h := rowRd_inv h
  readsz := rfl
  invz v ps h := rowRd_invz h
/-- A look-up without 'ok'. -/
theorem KIn.look1 {α β : Type} {M : MapKind α β} {w : World} {mb n : Nat} {f : α → Option β} (h : KIn M w mb n f) (L : MapLaw M) {a : α} (ha : M.okK a) :
    (Instr.lookup M.t (.map (some mb)) (M.kv a) false).run Try.prog w = .ok (M.at (f a)) w := by
  obtain ⟨D, hown, hm, h0, h1⟩ := h
  obtain ⟨v, ps, hrun, hv⟩ := hown.lookup L.keyed L.ht (L.hz w) L.readsz (L.key a ha)
  rw [hrun]
  cases e : f a with
  | none =>
    rw [atKey_of_not_has (h0 a ha e)] at hv
    rw [L.invz _ _ hv]
    rfl
  | some x =>
    obtain ⟨e1, e2⟩ := h1 a x ha e
    rw [e2] at hv
    rw [L.inv _ _ _ hv]
    rfl
theorem make_mapQ (t : TypeId) (w : World) : (Instr.makeMap t none).run Try.prog w = .ok (.map (some w.heap.size)) (w.alloc (.map #[] 0)) := by
  kernel_rfl

/-- In block mb lies a map that has the robots of the first k in each cell, each slice in new memory of its own. -/
structure RobMap (w : World) (mb B S : Nat) (cells : List Int) (k : Nat) (f : Int → Option (Nat × Nat × Nat)) : Prop where
  kin : KIn rowM w mb k f
  no : ∀ z, f z = none → inC S cells k z = []
  yes : ∀ z r, f z = some r → OwnZ w B (rowV r) (toZ (inC S cells k z)) ∧ (inC S cells k z).length = r.2.1
  apart : ∀ z z' r r', f z = some r → f z' = some r' → z ≠ z' → r.1 ≠ r'.1
section
variable {w w' : World} {mb B S k : Nat} {cells : List Int} {f : Int → Option (Nat × Nat × Nat)}
theorem RobMap.calls (h : RobMap w mb B S cells k f) (hb : Below w.heap.size w w') : RobMap w' mb B S cells k f :=
  ⟨h.kin.keep (hb.block mb h.kin.lt), h.no, fun z r e => ⟨(h.yes z r e).1.calls hb, (h.yes z r e).2⟩, h.apart⟩
theorem rowV_own {r : Nat × Nat × Nat} : (rowV r).ownBlock = some r.1 := rfl
/-- What a look-up gives is the call's own. -/
theorem RobMap.at (h : RobMap w mb B S cells k f) (z : Int) : OwnZ w B (rowM.at (f z)) (toZ (inC S cells k z)) := by
  cases e : f z with
  | none => rw [h.no z e]; exact World.ownsRow_nil _ _ _ _
  | some r => exact (h.yes z r e).1
theorem RobMap.row (h : RobMap w mb B S cells k f) (z : Int) : ∃ a c, rowM.at (f z) = .slice a (inC S cells k z).length c ∧ RowZ .i64 w w.heap.size a (inC S cells k z).length c (toZ (inC S cells k z)) := by
  obtain ⟨a, c, e, hr⟩ := (h.at z).row
  rw [toZ_len] at e hr
  exact ⟨a, c, e, hr⟩
theorem RobMap.skip (h : RobMap w mb B S cells k f) (hk : ¬ InG S (cells.getD k 0)) : RobMap w mb B S cells (k + 1) f :=
  ⟨h.kin.less (Nat.le_succ k), fun z e => by rw [inC_skip hk]; exact h.no z e, fun z r e => by rw [inC_skip hk]; exact h.yes z r e, h.apart⟩
/-- One more robot: its cell's slice has grown, and is put back. -/
theorem RobMap.put (h : RobMap w mb B S cells k f) (hk : InG S (cells.getD k 0)) (hS : S ≤ 1000000) (hk1 : k < 1000000) {o : Obj} {V : World} {v' : Value} (hB : B ≤ w.heap.size)
    (hown : V.ownsRow B 3 1 v' ((inC S cells k (cells.getD k 0)).length + 1) (intsZ (toZ (inC S cells k (cells.getD k 0))) ++ [.int .i64 (k : Int)]))
    (hg : (w.alloc o).grownBy V (rowM.at (f (cells.getD k 0))).ownBlock) (hat : v'.ownBlock = (rowM.at (f (cells.getD k 0))).ownBlock ∨ v'.ownBlock = some (w.heap.size + 1)) :
    ∃ r w', v' = rowV r ∧ (Instr.mapUpdate 49 (.map (some mb)) (.int .i64 (cells.getD k 0)) (rowV r)).run Try.prog V = .ok () w' ∧ RobMap w' mb B S cells (k + 1) (fun y => if y = cells.getD k 0 then some r else f y) ∧ V.grownBy w' (some mb) ∧ w'.heap.size = V.heap.size := by
  generalize hz0 : cells.getD k 0 = z0 at *
  have hmw := h.kin.isMap
  have hml := h.kin.lt
  -- whatever is owned there is not the map
  have hne : (rowM.at (f z0)).ownBlock ≠ some mb := fun e => by
    obtain ⟨es, clock, hb⟩ := hmw
    rcases (h.at z0).2 with ⟨hv, _⟩ | ⟨g, cap, cur, hv, _, hh, _⟩
    · rw [hv] at e; cases e
    · rw [hv] at e
      injection e with e
      have e : g = mb := e
      subst e
      rw [hb] at hh; cases hh
  have hmV : V.heap[mb]? = w.heap[mb]? := (hg.block mb (by simp; omega) (fun e => hne e.symm)).trans (Below.heap_alloc w o mb hml)
  have hkV : KIn rowM V mb k f := h.kin.keep hmV
  rcases hown.2 with ⟨_, hn0⟩ | ⟨g, cap, cur, rfl, hBg, hh, hnc, hcm, hcs, htk⟩
  · omega
  obtain ⟨w', hrun, hk', hgr, hsz⟩ := hkV.put rowMl (a := z0) (b := (g, (inC S cells k z0).length + 1, cap)) (by omega) (WalkArith.wf_i64 (by have := hk.1; have := hk.2; omega)) trivial
  have hmbV : mb < V.heap.size := by have := hg.size; simp at this; omega
  refine ⟨(g, (inC S cells k z0).length + 1, cap), w', rfl, hrun, ⟨hk', fun z e => ?_, fun z r e => ?_, fun z z' r r' e e' hzz => ?_⟩, hgr, hsz⟩
  · by_cases hz : z = z0
    · rw [if_pos hz] at e; cases e
    · rw [if_neg hz] at e
      rw [inC_succ (by rw [hz0]; exact hk), hz0, if_neg hz]
      exact h.no z e
  · by_cases hz : z = z0
    · rw [if_pos hz] at e
      injection e with e
      subst e
      rw [inC_succ (by rw [hz0]; exact hk), hz0, if_pos hz]
      subst hz
      refine ⟨?_, by simp⟩
      have hk2 : OwnZ V B (rowV (g, (inC S cells k z).length + 1, cap)) (toZ (inC S cells k z ++ [k])) := by
        unfold OwnZ
        rw [toZ_len, List.length_append, toZ_append]
        have e2 : intsZ (toZ (inC S cells k z) ++ toZ [k]) = intsZ (toZ (inC S cells k z)) ++ [.int .i64 (k : Int)] := by simp [intsZ, toZ]
        rw [e2]
        exact hown
      refine World.ownsRow.kept hk2 hgr (.inr ?_)
      intro e
      have e : some g = some mb := e
      injection e with e
      subst e
      obtain ⟨es, clock, hb⟩ := hmw
      rw [hmV, hb] at hh
      cases hh
    · rw [if_neg hz] at e
      rw [inC_succ (by rw [hz0]; exact hk), hz0, if_neg hz]
      obtain ⟨h1, h2⟩ := h.yes z r e
      have hne2 : (rowM.at (f z0)).ownBlock ≠ some r.1 := fun e2 => by
        cases hf : f z0 with
        | none => rw [hf] at e2; cases e2
        | some r0 =>
          rw [hf] at e2
          injection e2 with e2
          exact h.apart z z0 r r0 e hf hz e2.symm
      have h3 : OwnZ V B (rowV r) (toZ (inC S cells k z)) := World.ownsRow.kept (World.ownsRow.alloc h1 o) hg (.inr (fun e3 => hne2 (e3.symm.trans rowV_own)))
      refine ⟨World.ownsRow.kept h3 hgr (.inr ?_), h2⟩
      intro e3
      have e3 : some r.1 = some mb := e3
      injection e3 with e3
      obtain ⟨es, clock, hb⟩ := hmw
      rcases h1.2 with ⟨hv, _⟩ | ⟨g2, cap2, cur2, hv, _, hh2, _⟩
      · cases hv
      · injection hv with hv
        injection hv with hv
        injection hv with hv
        rw [← hv, e3, hb] at hh2
        cases hh2
  · by_cases hz : z = z0
    · rw [if_pos hz] at e
      rw [if_neg (fun h2 => hzz (hz.trans h2.symm))] at e'
      injection e with e
      subst e
      have hlt : r'.1 < w.heap.size := (World.ownsRow.lt (h.yes z' r' e').1 r'.1 rfl).2
      rcases hat with hat | hat
      · cases hf : f z0 with
        | none => rw [hf] at hat; cases hat
        | some r0 =>
          rw [hf] at hat
          injection hat with hat
          have hat : g = r0.1 := hat
          show g ≠ r'.1
          rw [hat]
          exact h.apart z0 z' r0 r' hf e' (fun h2 => hzz (hz.trans h2))
      · injection hat with hat
        have hat : g = w.heap.size + 1 := hat
        show g ≠ r'.1
        omega
    · rw [if_neg hz] at e
      by_cases hz' : z' = z0
      · rw [if_pos hz'] at e'
        injection e' with e'
        subst e'
        have hlt : r.1 < w.heap.size := (World.ownsRow.lt (h.yes z r e).1 r.1 rfl).2
        rcases hat with hat | hat
        · cases hf : f z0 with
          | none => rw [hf] at hat; cases hat
          | some r0 =>
            rw [hf] at hat
            injection hat with hat
            have hat : g = r0.1 := hat
            show r.1 ≠ g
            rw [hat]
            exact h.apart z z0 r r0 e hf hz
        · injection hat with hat
          have hat : g = w.heap.size + 1 := hat
          show r.1 ≠ g
          omega
      · rw [if_neg hz'] at e'
        exact h.apart z z' r r' e e' hzz
end
theorem robMap_new (w : World) (S B : Nat) (cells : List Int) : RobMap (w.alloc (.map #[] 0)) w.heap.size B S cells 0 (fun _ => none) :=
  ⟨kIn_new rowM w (fun _ => rfl), fun z _ => inC_zero z, (fun z r e => (by cases e)), (fun z z' r r' e => (by cases e))⟩
end Go.Proofs.Ytacigmjdppoonaa.Vm
