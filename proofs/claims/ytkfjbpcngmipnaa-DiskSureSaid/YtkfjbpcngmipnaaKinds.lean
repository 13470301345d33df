/- Maps of the call's own, of any kind, said as a function. No function of the program is named here. -/
import Derived.Test.YtkfjbpcngmipnaaOwns
import Derived.Maps.OwnSet
import Derived.Maps.OwnOps
import Derived.WalkLawsBesides
namespace Go.Proofs.Ytkfjbpcngmipnaa.Vm
open Go Go.RowKit Go.Maps Go.ChangeMaps Go.MapKept
set_option maxRecDepth 100000

/-- A kind of map: its types, keys and elements. -/
structure MapKind (α β : Type) where
  t : TypeId
  k : TypeId
  e : TypeId
  kv : α → Value
  kl : α → Lit
  okK : α → Prop
  ev : β → Value
  okE : β → Prop
  z : Value
  R : Value → Option (DataW Unit × List MemPlace)
  d : β → DataW Unit
  dz : DataW Unit
structure MapLaw {α β : Type} (M : MapKind α β) : Prop where
  keyed : Keyed Try.prog M.k
  ht : Try.prog.underlying M.t = some (.map M.k M.e)
  hz : ∀ w, (zeroValue M.e).run Try.prog w = .ok M.z w
  key : ∀ a, M.okK a → keyOf Try.prog M.k (M.kv a) = some (M.kl a)
  inj : ∀ a b, M.okK a → M.okK b → M.kl a = M.kl b → a = b
  isKey : ∀ a, WideAt.IsKeyLit (M.kl a)
  reads : ∀ b, M.okE b → M.R (M.ev b) = some (M.d b, [])
  inv : ∀ v b ps, M.R v = some (M.d b, ps) → v = M.ev b
  readsz : M.R M.z = some (M.dz, [])
  invz : ∀ v ps, M.R v = some (M.dz, ps) → v = M.z

/-- In block mb lies a map that says what f says. -/
def KIn {α β : Type} (M : MapKind α β) (w : World) (mb n : Nat) (f : α → Option β) : Prop :=
  ∃ D : DataW Unit, w.ownsMap Try.prog M.k M.R mb n D ∧ IsMap D ∧ (∀ a, M.okK a → f a = none → Maps.has D (M.kl a) = false) ∧
    ∀ a b, M.okK a → f a = some b → Maps.has D (M.kl a) = true ∧ ∀ u, D.atKey (M.kl a) u = M.d b
section
variable {α β : Type} {M : MapKind α β} {w w' : World} {mb n : Nat} {f g : α → Option β}
theorem KIn.keep (h : KIn M w mb n f) (hk : w'.heap[mb]? = w.heap[mb]?) : KIn M w' mb n f := by
  obtain ⟨D, ⟨es, clock, hb, r⟩, h2⟩ := h
  exact ⟨D, ⟨es, clock, hk.trans hb, r⟩, h2⟩
theorem KIn.lt (h : KIn M w mb n f) : mb < w.heap.size := by
  obtain ⟨D, hown, _⟩ := h
  exact World.ownsMap.lt hown
theorem KIn.isMap (h : KIn M w mb n f) : ∃ es clock, w.heap[mb]? = some (.map es clock) := by
  obtain ⟨D, ⟨es, clock, hb, r⟩, h2⟩ := h
  exact ⟨es, clock, hb⟩
theorem KIn.less {m : Nat} (h : KIn M w mb n f) (hm : n ≤ m) : KIn M w mb m f := by
  obtain ⟨D, ⟨es, clock, hb, r1, r2, r3⟩, r⟩ := h
  exact ⟨D, ⟨es, clock, hb, r1, Nat.le_trans r2 hm, r3⟩, r⟩
theorem kIn_new (M : MapKind α β) (w : World) {f : α → Option β} (hf : ∀ z, f z = none) : KIn M (w.alloc (.map #[] 0)) w.heap.size 0 f :=
  ⟨.map [], World.ownsMap_made w Try.prog M.k M.R, isMap_empty, fun _ _ _ => rfl, fun a x _ hz => by rw [hf a] at hz; cases hz⟩
theorem KIn.to (h : KIn M w mb n f) (hg : ∀ a, M.okK a → g a = f a) : KIn M w mb n g := by
  obtain ⟨D, hown, hm, h0, h1⟩ := h
  exact ⟨D, hown, hm, fun a ha hz => h0 a ha (by rw [← hg a ha]; exact hz), fun a x ha hz => h1 a x ha (by rw [← hg a ha]; exact hz)⟩
/-- What a look-up gives. -/
def MapKind.at {α β : Type} (M : MapKind α β) (o : Option β) : Value := match o with | some b => M.ev b | none => M.z
theorem KIn.look (h : KIn M w mb n f) (L : MapLaw M) {a : α} (ha : M.okK a) :
    (Instr.lookup M.t (.map (some mb)) (M.kv a) true).run Try.prog w = .ok (.tuple #[M.at (f a), .bool (f a).isSome]) w := by
  obtain ⟨D, hown, hm, h0, h1⟩ := h
  obtain ⟨v, ps, hrun, hv⟩ := hown.look_ok L.keyed L.ht (L.hz w) L.readsz (L.key a ha)
  rw [hrun]
  cases e : f a with
  | none =>
    rw [atKey_of_not_has (h0 a ha e)] at hv
    rw [h0 a ha e, L.invz _ _ hv]
    rfl
  | some x =>
    obtain ⟨e1, e2⟩ := h1 a x ha e
    rw [e2] at hv
    rw [e1, L.inv _ _ _ hv]
    rfl
theorem KIn.put [DecidableEq α] (h : KIn M w mb n f) (L : MapLaw M) (hn : n < 1000000000) {a : α} {b : β} (ha : M.okK a) (hb : M.okE b) :
    ∃ w', (Instr.mapUpdate M.t (.map (some mb)) (M.kv a) (M.ev b)).run Try.prog w = .ok () w' ∧ KIn M w' mb (n + 1) (fun y => if y = a then some b else f y) ∧ w.grownBy w' (some mb) ∧ w'.heap.size = w.heap.size := by
  obtain ⟨D, hown, hm, h0, h1⟩ := h
  obtain ⟨w', hrun, hown', hg⟩ := hown.store L.keyed L.ht (by unfold maxLen; omega) (L.key a ha) (L.reads b hb)
  have hsz : w'.heap.size = w.heap.size := by
    obtain ⟨es, clock, es', clock', _, rfl⟩ := hg
    simp [setBlock]
  refine ⟨w', hrun, ⟨_, hown', hm.put _ _, fun y hy hq => ?_, fun y c hy hq => ?_⟩, hg.grown, hsz⟩
  · by_cases e : y = a
    · simp only [e, if_true] at hq; cases hq
    · simp only [e, if_false] at hq
      rw [has_put_other (fun h => e (L.inj y a hy ha h))]
      exact h0 y hy hq
  · by_cases e : y = a
    · simp only [e, if_true] at hq
      injection hq with hq
      subst hq e
      exact ⟨has_put_same hm (L.isKey _) _, fun u => atKey_put_same hm (L.isKey _) _ u⟩
    · simp only [e, if_false] at hq
      refine ⟨?_, fun u => ?_⟩
      · rw [has_put_other (fun h => e (L.inj y a hy ha h))]; exact (h1 y c hy hq).1
      · rw [atKey_put_other (fun h => e (L.inj y a hy ha h))]; exact (h1 y c hy hq).2 u
theorem KIn.drop [DecidableEq α] (h : KIn M w mb n f) (L : MapLaw M) (ty : TypeId) {a : α} (ha : M.okK a) :
    ∃ w', (Builtin.delete_ #[M.t, M.k] ty #[.map (some mb), M.kv a]).run Try.prog w = .ok (.tuple #[]) w' ∧ KIn M w' mb n (fun y => if y = a then none else f y) ∧ w.grownBy w' (some mb) ∧ w'.heap.size = w.heap.size := by
  obtain ⟨D, hown, hm, h0, h1⟩ := h
  obtain ⟨w', hrun, hown', hg⟩ := hown.drop L.keyed L.ht (L.key a ha) ty
  have hsz : w'.heap.size = w.heap.size := by
    obtain ⟨es, clock, es', clock', _, rfl⟩ := hg
    simp [setBlock]
  refine ⟨w', hrun, ⟨_, hown', hown'.isMap, fun y hy hq => ?_, fun y c hy hq => ?_⟩, hg.grown, hsz⟩
  · by_cases e : y = a
    · subst e; exact has_del_same
    · simp only [e, if_false] at hq
      rw [has_del_other (fun h => e (L.inj y a hy ha h))]
      exact h0 y hy hq
  · by_cases e : y = a
    · simp only [e, if_true] at hq; cases hq
    · simp only [e, if_false] at hq
      refine ⟨?_, fun u => ?_⟩
      · rw [has_del_other (fun h => e (L.inj y a hy ha h))]; exact (h1 y c hy hq).1
      · rw [atKey_del_other (fun h => e (L.inj y a hy ha h))]; exact (h1 y c hy hq).2 u
end
/-- A look-up without 'ok'. -/
theorem KIn.look1 {α β : Type} {M : MapKind α β} {w : World} {mb n : Nat} {f : α → Option β} (h : KIn M w mb n f) (L : MapLaw M) {a : α} (ha : M.okK a) :
    (Instr.lookup M.t (.map (some mb)) (M.kv a) false).run Try.prog w = .ok (M.at (f a)) w := by
  obtain ⟨D, hown, hm, h0, h1⟩ := h
  obtain ⟨v, ps, hrun, hv⟩ := hown.lookup L.keyed L.ht (L.hz w) L.readsz (L.key a ha)
  rw [hrun]
  cases e : f a with
  | none =>
    rw [atKey_of_not_has (h0 a ha e)] at hv
    rw [L.invz _ _ hv]
    rfl
  | some x =>
    obtain ⟨e1, e2⟩ := h1 a x ha e
    rw [e2] at hv
    rw [L.inv _ _ _ hv]
    rfl
end Go.Proofs.Ytkfjbpcngmipnaa.Vm
