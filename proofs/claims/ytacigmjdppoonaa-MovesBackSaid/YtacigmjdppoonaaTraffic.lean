/- Maps of the call's own, of any kind, said as a function; the kinds of package plan: sets of places and of moves, what is known of a place, the fields of goals. Worlds that are alike but for some maps; the places and moves of paths; the contracts of plan's traffic: add, lets. The contract of plan's traffic.add. -/
import Derived.Test.YtacigmjdppoonaaGateWords
import Derived.Test.YtacigmjdppoonaaIntRows
import Derived.WideKeyPair
import Derived.DeepKeys4
import Derived.ChangeKeys
import Derived.StillTailTactics
namespace Go.Proofs.Ytacigmjdppoonaa.Vm
open Go Go.RowKit Go.Maps Go.ChangeMaps Go.MapKept
set_option maxRecDepth 100000

/-- A kind of map: its types, keys and elements. -/
structure MapKind (α β : Type) where
  t : TypeId
  k : TypeId
  e : TypeId
  kv : α → Value
  kl : α → Lit
  okK : α → Prop
  ev : β → Value
  okE : β → Prop
  z : Value
  R : Value → Option (DataW Unit × List MemPlace)
  d : β → DataW Unit
  dz : DataW Unit
structure MapLaw {α β : Type} (M : MapKind α β) : Prop where
  keyed : Keyed Try.prog M.k
  ht : Try.prog.underlying M.t = some (.map M.k M.e)
  hz : ∀ w, (zeroValue M.e).run Try.prog w = .ok M.z w
  key : ∀ a, M.okK a → keyOf Try.prog M.k (M.kv a) = some (M.kl a)
  inj : ∀ a b, M.okK a → M.okK b → M.kl a = M.kl b → a = b
  isKey : ∀ a, WideAt.IsKeyLit (M.kl a)
  reads : ∀ b, M.okE b → M.R (M.ev b) = some (M.d b, [])
  inv : ∀ v b ps, M.R v = some (M.d b, ps) → v = M.ev b
  readsz : M.R M.z = some (M.dz, [])
  invz : ∀ v ps, M.R v = some (M.dz, ps) → v = M.z

/-- In block mb lies a map that says what f says. -/
def KIn {α β : Type} (M : MapKind α β) (w : World) (mb n : Nat) (f : α → Option β) : Prop :=
  ∃ D : DataW Unit, w.ownsMap Try.prog M.k M.R mb n D ∧ IsMap D ∧ (∀ a, M.okK a → f a = none → Maps.has D (M.kl a) = false) ∧
    ∀ a b, M.okK a → f a = some b → Maps.has D (M.kl a) = true ∧ ∀ u, D.atKey (M.kl a) u = M.d b
section
variable {α β : Type} {M : MapKind α β} {w w' : World} {mb n : Nat} {f g : α → Option β}
theorem KIn.keep (h : KIn M w mb n f) (hk : w'.heap[mb]? = w.heap[mb]?) : KIn M w' mb n f := by
  obtain ⟨D, ⟨es, clock, hb, r⟩, h2⟩ := h
  exact ⟨D, ⟨es, clock, hk.trans hb, r⟩, h2⟩
theorem KIn.lt (h : KIn M w mb n f) : mb < w.heap.size := by
  obtain ⟨D, hown, _⟩ := h
  exact World.ownsMap.lt hown
theorem KIn.isMap (h : KIn M w mb n f) : ∃ es clock, w.heap[mb]? = some (.map es clock) := by
  obtain ⟨D, ⟨es, clock, hb, r⟩, h2⟩ := h
  exact ⟨es, clock, hb⟩
theorem KIn.less {m : Nat} (h : KIn M w mb n f) (hm : n ≤ m) : KIn M w mb m f := by
  obtain ⟨D, ⟨es, clock, hb, r1, r2, r3⟩, r⟩ := h
  exact ⟨D, ⟨es, clock, hb, r1, Nat.le_trans r2 hm, r3⟩, r⟩
theorem kIn_new (M : MapKind α β) (w : World) {f : α → Option β} (hf : ∀ z, f z = none) : KIn M (w.alloc (.map #[] 0)) w.heap.size 0 f :=
  ⟨.map [], World.ownsMap_made w Try.prog M.k M.R, isMap_empty, fun _ _ _ => rfl, fun a x _ hz => by rw [hf a] at hz; cases hz⟩
theorem KIn.to (h : KIn M w mb n f) (hg : ∀ a, M.okK a → g a = f a) : KIn M w mb n g := by
  obtain ⟨D, hown, hm, h0, h1⟩ := h
  exact ⟨D, hown, hm, fun a ha hz => h0 a ha (by rw [← hg a ha]; exact hz), fun a x ha hz => h1 a x ha (by rw [← hg a ha]; exact hz)⟩
/-- What a look-up gives. -/
def MapKind.at {α β : Type} (M : MapKind α β) (o : Option β) : Value := match o with | some b => M.ev b | none => M.z
theorem KIn.look (h : KIn M w mb n f) (L : MapLaw M) {a : α} (ha : M.okK a) :
    (Instr.lookup M.t (.map (some mb)) (M.kv a) true).run Try.prog w = .ok (.tuple #[M.at (f a), .bool (f a).isSome]) w := by
  obtain ⟨D, hown, hm, h0, h1⟩ := h
  obtain ⟨v, ps, hrun, hv⟩ := hown.look_ok L.keyed L.ht (L.hz w) L.readsz (L.key a ha)
  rw [hrun]
  cases e : f a with
  | none =>
    rw [atKey_of_not_has (h0 a ha e)] at hv
    rw [h0 a ha e, L.invz _ _ hv]
    rfl
  | some x =>
    obtain ⟨e1, e2⟩ := h1 a x ha e
    rw [e2] at hv
    rw [e1, L.inv _ _ _ hv]
    rfl
theorem KIn.put [DecidableEq α] (h : KIn M w mb n f) (L : MapLaw M) (hn : n < 1000000000) {a : α} {b : β} (ha : M.okK a) (hb : M.okE b) :
    ∃ w', (Instr.mapUpdate M.t (.map (some mb)) (M.kv a) (M.ev b)).run Try.prog w = .ok () w' ∧ KIn M w' mb (n + 1) (fun y => if y = a then some b else f y) ∧ w.grownBy w' (some mb) ∧ w'.heap.size = w.heap.size := by
  obtain ⟨D, hown, hm, h0, h1⟩ := h
  obtain ⟨w', hrun, hown', hg⟩ := hown.store L.keyed L.ht (by unfold maxLen; omega) (L.key a ha) (L.reads b hb)
  have hsz : w'.heap.size = w.heap.size := by
    obtain ⟨es, clock, es', clock', _, rfl⟩ := hg
    simp [setBlock]
  refine ⟨w', hrun, ⟨_, hown', hm.put _ _, fun y hy hq => ?_, fun y c hy hq => ?_⟩, hg.grown, hsz⟩
  · by_cases e : y = a
    · simp only [e, if_true] at hq; cases hq
    · simp only [e, if_false] at hq
      rw [has_put_other (fun h => e (L.inj y a hy ha h))]
      exact h0 y hy hq
  · by_cases e : y = a
    · simp only [e, if_true] at hq
      injection hq with hq
      subst hq e
      exact ⟨has_put_same hm (L.isKey _) _, fun u => atKey_put_same hm (L.isKey _) _ u⟩
    · simp only [e, if_false] at hq
      refine ⟨?_, fun u => ?_⟩
      · rw [has_put_other (fun h => e (L.inj y a hy ha h))]; exact (h1 y c hy hq).1
      · rw [atKey_put_other (fun h => e (L.inj y a hy ha h))]; exact (h1 y c hy hq).2 u
theorem KIn.drop [DecidableEq α] (h : KIn M w mb n f) (L : MapLaw M) (ty : TypeId) {a : α} (ha : M.okK a) :
    ∃ w', (Builtin.delete_ #[M.t, M.k] ty #[.map (some mb), M.kv a]).run Try.prog w = .ok (.tuple #[]) w' ∧ KIn M w' mb n (fun y => if y = a then none else f y) ∧ w.grownBy w' (some mb) ∧ w'.heap.size = w.heap.size := by
  obtain ⟨D, hown, hm, h0, h1⟩ := h
  obtain ⟨w', hrun, hown', hg⟩ := hown.drop L.keyed L.ht (L.key a ha) ty
  have hsz : w'.heap.size = w.heap.size := by
    obtain ⟨es, clock, es', clock', _, rfl⟩ := hg
    simp [setBlock]
  refine ⟨w', hrun, ⟨_, hown', hown'.isMap, fun y hy hq => ?_, fun y c hy hq => ?_⟩, hg.grown, hsz⟩
  · by_cases e : y = a
    · subst e; exact has_del_same
    · simp only [e, if_false] at hq
      rw [has_del_other (fun h => e (L.inj y a hy ha h))]
      exact h0 y hy hq
  · by_cases e : y = a
    · simp only [e, if_true] at hq; cases hq
    · simp only [e, if_false] at hq
      refine ⟨?_, fun u => ?_⟩
      · rw [has_del_other (fun h => e (L.inj y a hy ha h))]; exact (h1 y c hy hq).1
      · rw [atKey_del_other (fun h => e (L.inj y a hy ha h))]; exact (h1 y c hy hq).2 u
end

/-- An int that a machine has. -/
abbrev wfI (x : Int) : Prop := (Lit.int .i64 x).wf = true
theorem laidOut9 : laidOutB Try.prog = true := by kernel_rfl
def placeK (a : Int × Int) : Lit := .string (keyBytes [.int .i64 a.1, .int .i64 a.2])
def stepK (a : Int × Int × Int) : Lit := .string (keyBytes [.int .i64 a.1, .int .i64 a.2.1, .int .i64 a.2.2])
theorem placeK_inj {a b : Int × Int} (ha : wfI a.1 ∧ wfI a.2) (hb : wfI b.1 ∧ wfI b.2) (h : placeK a = placeK b) : a = b := by
  injection h with h
  have := Go.keyBytes_inj (l := [.int .i64 a.1, .int .i64 a.2]) (l' := [.int .i64 b.1, .int .i64 b.2]) ⟨rfl, rfl, trivial⟩ (by simp [Go.Lit.keyWf, ha.1, ha.2]) (by simp [Go.Lit.keyWf, hb.1, hb.2]) h
  simp at this
  exact Prod.ext this.1 this.2
theorem stepK_inj {a b : Int × Int × Int} (ha : wfI a.1 ∧ wfI a.2.1 ∧ wfI a.2.2) (hb : wfI b.1 ∧ wfI b.2.1 ∧ wfI b.2.2) (h : stepK a = stepK b) : a = b := by
  injection h with h
  have := Go.keyBytes_inj (l := [.int .i64 a.1, .int .i64 a.2.1, .int .i64 a.2.2]) (l' := [.int .i64 b.1, .int .i64 b.2.1, .int .i64 b.2.2]) ⟨rfl, rfl, rfl, trivial⟩ (by simp [Go.Lit.keyWf, ha.1, ha.2.1, ha.2.2]) (by simp [Go.Lit.keyWf, hb.1, hb.2.1, hb.2.2]) h
  simp at this
  exact Prod.ext this.1 (Prod.ext this.2.1 this.2.2)


/-- How a path goes on, as a value. -/
abbrev rstV (r : Bool × Int × Int) : Value := .agg #[.bool r.1, .int .i64 r.2.1, .int .i64 r.2.2]
def rstR : Value → Option (DataW Unit × List MemPlace)
  | .agg cs => match cs.toList with
    | [.bool b, .int .i64 x, .int .i64 y] => some (.agg [.lit (.bool b), .lit (.int .i64 x), .lit (.int .i64 y)], [])
    | _ => none
  | _ => none
theorem rstR_inv {v : Value} {r : Bool × Int × Int} {ps : List MemPlace} (h : rstR v = some (.agg [.lit (.bool r.1), .lit (.int .i64 r.2.1), .lit (.int .i64 r.2.2)], ps)) : v = rstV r := by
  unfold rstR at h
  split at h
  · rename_i cs
    split at h
    · rename_i b x y e
      simp at h
      obtain ⟨⟨h1, h2, h3⟩, _⟩ := h
      subst h1 h2 h3
      obtain ⟨l⟩ := cs
      simp only at e
      rw [e]
    · cases h
  · cases h

/-- A field's slice, as a value. -/
abbrev fldV (r : Nat × Nat) : Value := .slice (some ⟨r.1, 0, none⟩) r.2 r.2
def fldR : Value → Option (DataW Unit × List MemPlace)
  | .slice (some ⟨b, 0, none⟩) n c => if n = c then some (.agg [.lit (.int .i64 b), .lit (.int .i64 n)], []) else none
  | .slice none 0 0 => some (.agg [], [])
  | _ => none
theorem fldR_inv {v : Value} {r : Nat × Nat} {ps : List MemPlace} (h : fldR v = some (.agg [.lit (.int .i64 r.1), .lit (.int .i64 r.2)], ps)) : v = fldV r := by
  unfold fldR at h
  split at h
  · rename_i b n c
    split at h
    · rename_i e
      subst e
      simp at h
      obtain ⟨⟨h1, h2⟩, _⟩ := h
      obtain rfl : b = r.1 := by omega
      obtain rfl : n = r.2 := by omega
      rfl
    · cases h
  · simp at h
  · cases h
theorem fldR_invz {v : Value} {ps : List MemPlace} (h : fldR v = some (.agg [], ps)) : v = .slice none 0 0 := by
  unfold fldR at h
  split at h
  · split at h
    · simp at h
    · cases h
  · rfl
  · cases h
def fieldM : MapKind Int (Nat × Nat) where
  t := 49
  k := 3
  e := 27
  kv a := .int .i64 a
  kl a := .int .i64 a
  okK a := wfI a
  ev := fldV
  okE _ := True
  z := .slice none 0 0
  R := fldR
  d r := .agg [.lit (.int .i64 r.1), .lit (.int .i64 r.2)]
  dz := .agg []
theorem fieldL : MapLaw fieldM where
  keyed := key_law
  ht := Try.underlying49
  hz w := by kernel_rfl
  key a h := keyOf_int_mk Try.underlying3 h
  inj a b ha hb h := by injection h
  isKey _ := trivial
  reads b _ := by simp [fieldM, fldR]
  inv v b ps h := fldR_inv h
  readsz := rfl
  invz v ps h := fldR_invz h
end Go.Proofs.Ytacigmjdppoonaa.Vm

namespace Go.Proofs.Ytacigmjdppoonaa.Vm
open Go Go.RowKit Go.Maps
set_option maxRecDepth 100000

/-- All but the blocks of S lies as at A. -/
structure Alt (S : Nat → Prop) (A V : World) : Prop where
  os : V.os = A.os
  tape : V.tape = A.tape
  output : V.output = A.output
  size : A.heap.size ≤ V.heap.size
  block : ∀ k, k < A.heap.size → ¬ S k → V.heap[k]? = A.heap[k]?
section
variable {S S' : Nat → Prop} {A V V' : World}
theorem Alt.refl (S : Nat → Prop) (A : World) : Alt S A A := ⟨rfl, rfl, rfl, Nat.le_refl _, fun _ _ _ => rfl⟩
theorem Alt.trans (h : Alt S A V) (h' : Alt S' V V') (hs : ∀ k, S' k → k < A.heap.size → S k) : Alt S A V' :=
  ⟨h'.os.trans h.os, h'.tape.trans h.tape, h'.output.trans h.output, Nat.le_trans h.size h'.size, fun k hk hn => (h'.block k (Nat.lt_of_lt_of_le hk h.size) (fun e => hn (hs k e hk))).trans (h.block k hk hn)⟩
theorem Alt.mono (h : Alt S A V) (hs : ∀ k, S k → k < A.heap.size → S' k) : Alt S' A V := ⟨h.os, h.tape, h.output, h.size, fun k hk hn => h.block k hk (fun e => hn (hs k e hk))⟩
theorem Alt.ofBelow (h : Below A.heap.size A V) : Alt S A V := ⟨h.os, h.tape, h.output, h.size, fun k hk _ => h.block k hk⟩
theorem Alt.calls (h : Alt S A V) (h' : Below A.heap.size V V') : Alt S A V' :=
  ⟨h'.os.trans h.os, h'.tape.trans h.tape, h'.output.trans h.output, Nat.le_trans h.size h'.size, fun k hk hn => (h'.block k hk).trans (h.block k hk hn)⟩
theorem Alt.drew (h : Alt S A V) : Alt S A V.drew := ⟨h.os, h.tape, h.output, h.size, h.block⟩
theorem Alt.drewN (h : Alt S A V) (n : Nat) : Alt S A (V.drewN n) := h.calls (below_drewN (Below.refl _ _) n)
theorem Alt.alloc (h : Alt S A V) (o : Obj) : Alt S A (V.alloc o) := h.calls ((Below.refl _ _).alloc h.size o)
theorem Alt.grown {mb : Nat} (h : Alt S A V) (hg : V.grownBy V' (some mb)) (hm : mb < A.heap.size → S mb) : Alt S A V' :=
  ⟨hg.os.trans h.os, hg.tape.trans h.tape, hg.output.trans h.output, Nat.le_trans h.size hg.size, fun k hk hn => (hg.block k (Nat.lt_of_lt_of_le hk h.size) (fun e => by injection e with e; subst e; exact hn (hm hk))).trans (h.block k hk hn)⟩
theorem Alt.cell (h : Alt S A V) {p : Addr} (hp : p.block < A.heap.size) (hn : ¬ S p.block) : V.cell? p = A.cell? p := World.cell?_of_block (h.block p.block hp hn)
theorem Alt.frozen (h : Alt S A V) {p : Addr} (hp : p.block < A.heap.size) (hn : ¬ S p.block) : V.frozen? p = A.frozen? p := World.frozen?_of_block (h.block p.block hp hn)
theorem Alt.below {B : Nat} (h : Alt S A V) (hs : ∀ k, S k → B ≤ k) (hA : B ≤ A.heap.size) : Below B A V :=
  ⟨h.os, h.tape, h.output, h.size, fun k hk => h.block k (by omega) (fun e => by have := hs k e; omega)⟩
/-- A block that holds a map. -/
def MapAt (A : World) (k : Nat) : Prop := ∃ es clock, A.heap[k]? = some (.map es clock)
theorem MapAt.cell {k : Nat} (h : MapAt A k) (o : Nat) : A.cell? ⟨k, o, none⟩ = none := by
  obtain ⟨es, clock, e⟩ := h
  simp [World.cell?, e]
/-- A cell that is there lies in no map. -/
theorem Alt.keep (h : Alt S A V) (hS : ∀ k, S k → MapAt A k) {b o : Nat} {v : Value} (hc : A.cell? ⟨b, o, none⟩ = some v) : V.cell? ⟨b, o, none⟩ = some v := by
  have hlt := World.block_lt_of_cell? A _ hc
  rw [h.cell (p := ⟨b, o, none⟩) hlt (fun e => by rw [(hS b e).cell o] at hc; cases hc)]
  exact hc
theorem Alt.rowZ {k : IntKind} {B : Nat} {a : Option Addr} {n c : Nat} {zs : List Int} (h : Alt S A V) (hS : ∀ k, S k → MapAt A k) (hr : RowZ k A B a n c zs) : RowZ k V B a n c zs :=
  ⟨hr.1, hr.2.1, hr.2.2.1, fun hn => by
    obtain ⟨b, off, e, hb, hc⟩ := hr.2.2.2 hn
    exact ⟨b, off, e, hb, fun i hi => h.keep hS (hc i hi)⟩⟩
theorem Alt.rowL {B : Nat} {a : Option Addr} {n c : Nat} {ls : List (List Int)} (h : Alt S A V) (hS : ∀ k, S k → MapAt A k) (hr : RowL A B a n c ls) : RowL V B a n c ls := by
  obtain ⟨h1, h2, h3, h4⟩ := hr
  refine ⟨h1, h2, h3, fun hn => ?_⟩
  obtain ⟨b, off, e, hB, hc⟩ := h4 hn
  refine ⟨b, off, e, hB, fun i hi => ?_⟩
  obtain ⟨ai, ni, ci, h5, h6⟩ := hc i hi
  exact ⟨ai, ni, ci, h.keep hS h5, h.rowZ hS h6⟩
end

/-- The places, and the moves, of paths. -/
def plF (oth : List (List Int)) (a : Int × Int) : Option Unit := if ∃ q ∈ oth, 0 ≤ a.1 ∧ a.1 < 7 ∧ a.1 < q.length ∧ q.getD a.1.toNat 0 = a.2 then some () else none
def mvF (oth : List (List Int)) (a : Int × Int × Int) : Option Unit := if ∃ q ∈ oth, 0 ≤ a.1 ∧ a.1 < 6 ∧ a.1 + 1 < q.length ∧ q.getD a.1.toNat 0 = a.2.1 ∧ q.getD (a.1.toNat + 1) 0 = a.2.2 then some () else none
section
variable {oth : List (List Int)} {q : List Int}
theorem plF_nil (a : Int × Int) : plF [] a = none := by unfold plF; rw [if_neg]; rintro ⟨q, hq, _⟩; cases hq
theorem mvF_nil (a : Int × Int × Int) : mvF [] a = none := by unfold mvF; rw [if_neg]; rintro ⟨q, hq, _⟩; cases hq
theorem plF_start (a : Int × Int) : plF (oth ++ [q.take 0]) a = plF oth a := by
  unfold plF
  congr 1
  refine propext ⟨?_, ?_⟩
  · rintro ⟨q', hq, h⟩
    rcases List.mem_append.1 hq with hq | hq
    · exact ⟨q', hq, h⟩
    · obtain rfl := List.mem_singleton.1 hq
      simp at h
      omega
  · rintro ⟨q', hq, h⟩; exact ⟨q', List.mem_append_left _ hq, h⟩
theorem mvF_start {k : Nat} (hk : k ≤ 1) (a : Int × Int × Int) : mvF (oth ++ [q.take k]) a = mvF oth a := by
  unfold mvF
  congr 1
  refine propext ⟨?_, ?_⟩
  · rintro ⟨q', hq, h⟩
    rcases List.mem_append.1 hq with hq | hq
    · exact ⟨q', hq, h⟩
    · obtain rfl := List.mem_singleton.1 hq
      have := h.2.2.1
      rw [List.length_take] at this
      omega
  · rintro ⟨q', hq, h⟩; exact ⟨q', List.mem_append_left _ hq, h⟩
theorem takeZ_at {k i : Nat} (h : i < k) : (q.take k).getD i 0 = q.getD i 0 := by simp [List.getD, List.getElem?_take, h]
theorem plF_push {k : Nat} (hk : k < q.length) (h7 : k < 7) (a : Int × Int) : plF (oth ++ [q.take (k + 1)]) a = if a = ((k : Int), q.getD k 0) then some () else plF (oth ++ [q.take k]) a := by
  by_cases e : a = ((k : Int), q.getD k 0)
  · subst e
    rw [if_pos rfl]
    unfold plF
    rw [if_pos]
    refine ⟨q.take (k + 1), by simp, by omega, by simp; omega, by simp; omega, ?_⟩
    simp only [Int.toNat_natCast]
    exact takeZ_at (by omega)
  · rw [if_neg e]
    unfold plF
    congr 1
    refine propext ⟨?_, ?_⟩
    · rintro ⟨q', hq, h⟩
      rcases List.mem_append.1 hq with hq | hq
      · exact ⟨q', List.mem_append_left _ hq, h⟩
      · obtain rfl := List.mem_singleton.1 hq
        obtain ⟨h1, h2, h3, h4⟩ := h
        rw [List.length_take] at h3
        have hne : a.1.toNat ≠ k := fun e' => e (Prod.ext (by simp only []; omega) (by simp only []; rw [← h4, takeZ_at (by omega), e']))
        refine ⟨q.take k, by simp, h1, h2, by rw [List.length_take]; omega, ?_⟩
        rw [← h4, takeZ_at (by omega), takeZ_at (by omega)]
    · rintro ⟨q', hq, h⟩
      rcases List.mem_append.1 hq with hq | hq
      · exact ⟨q', List.mem_append_left _ hq, h⟩
      · obtain rfl := List.mem_singleton.1 hq
        obtain ⟨h1, h2, h3, h4⟩ := h
        rw [List.length_take] at h3
        refine ⟨q.take (k + 1), by simp, h1, h2, by rw [List.length_take]; omega, ?_⟩
        rw [← h4, takeZ_at (by omega), takeZ_at (by omega)]
theorem mvF_push {k : Nat} (hk : k + 1 < q.length) (h7 : k < 6) (a : Int × Int × Int) : mvF (oth ++ [q.take (k + 1 + 1)]) a = if a = ((k : Int), q.getD k 0, q.getD (k + 1) 0) then some () else mvF (oth ++ [q.take (k + 1)]) a := by
  by_cases e : a = ((k : Int), q.getD k 0, q.getD (k + 1) 0)
  · subst e
    rw [if_pos rfl]
    unfold mvF
    rw [if_pos]
    refine ⟨q.take (k + 1 + 1), by simp, by omega, by simp; omega, by simp; omega, ?_⟩
    simp only [Int.toNat_natCast]
    exact ⟨takeZ_at (by omega), takeZ_at (by omega)⟩
  · rw [if_neg e]
    unfold mvF
    congr 1
    refine propext ⟨?_, ?_⟩
    · rintro ⟨q', hq, h⟩
      rcases List.mem_append.1 hq with hq | hq
      · exact ⟨q', List.mem_append_left _ hq, h⟩
      · obtain rfl := List.mem_singleton.1 hq
        obtain ⟨h1, h2, h3, h4, h5⟩ := h
        rw [List.length_take] at h3
        have hne : a.1.toNat ≠ k := fun e' => e (Prod.ext (by simp only []; omega) (Prod.ext (by simp only []; rw [← h4, takeZ_at (by omega), e']) (by simp only []; rw [← h5, takeZ_at (by omega), e'])))
        refine ⟨q.take (k + 1), by simp, h1, h2, by rw [List.length_take]; omega, ?_⟩
        rw [← h4, ← h5, takeZ_at (by omega), takeZ_at (by omega), takeZ_at (by omega), takeZ_at (by omega)]
        exact ⟨rfl, rfl⟩
    · rintro ⟨q', hq, h⟩
      rcases List.mem_append.1 hq with hq | hq
      · exact ⟨q', List.mem_append_left _ hq, h⟩
      · obtain rfl := List.mem_singleton.1 hq
        obtain ⟨h1, h2, h3, h4, h5⟩ := h
        rw [List.length_take] at h3
        refine ⟨q.take (k + 1 + 1), by simp, h1, h2, by rw [List.length_take]; omega, ?_⟩
        rw [← h4, ← h5, takeZ_at (by omega), takeZ_at (by omega), takeZ_at (by omega), takeZ_at (by omega)]
        exact ⟨rfl, rfl⟩
theorem plF_end {m : Nat} (hm : m = q.length ∨ 7 ≤ m) (a : Int × Int) : plF (oth ++ [q]) a = plF (oth ++ [q.take m]) a := by
  unfold plF
  congr 1
  refine propext ⟨?_, ?_⟩
  · rintro ⟨q', hq, h⟩
    rcases List.mem_append.1 hq with hq | hq
    · exact ⟨q', List.mem_append_left _ hq, h⟩
    · obtain rfl := List.mem_singleton.1 hq
      obtain ⟨h1, h2, h3, h4⟩ := h
      refine ⟨q'.take m, by simp, h1, h2, by rw [List.length_take]; omega, ?_⟩
      rw [takeZ_at (by omega)]; exact h4
  · rintro ⟨q', hq, h⟩
    rcases List.mem_append.1 hq with hq | hq
    · exact ⟨q', List.mem_append_left _ hq, h⟩
    · obtain rfl := List.mem_singleton.1 hq
      obtain ⟨h1, h2, h3, h4⟩ := h
      rw [List.length_take] at h3
      refine ⟨q, by simp, h1, h2, by omega, ?_⟩
      rw [← h4, takeZ_at (by omega)]
theorem mvF_end {m : Nat} (hm : m = q.length ∨ 7 ≤ m) (a : Int × Int × Int) : mvF (oth ++ [q]) a = mvF (oth ++ [q.take m]) a := by
  unfold mvF
  congr 1
  refine propext ⟨?_, ?_⟩
  · rintro ⟨q', hq, h⟩
    rcases List.mem_append.1 hq with hq | hq
    · exact ⟨q', List.mem_append_left _ hq, h⟩
    · obtain rfl := List.mem_singleton.1 hq
      obtain ⟨h1, h2, h3, h4, h5⟩ := h
      refine ⟨q'.take m, by simp, h1, h2, by rw [List.length_take]; omega, ?_⟩
      rw [takeZ_at (by omega), takeZ_at (by omega)]; exact ⟨h4, h5⟩
  · rintro ⟨q', hq, h⟩
    rcases List.mem_append.1 hq with hq | hq
    · exact ⟨q', List.mem_append_left _ hq, h⟩
    · obtain rfl := List.mem_singleton.1 hq
      obtain ⟨h1, h2, h3, h4, h5⟩ := h
      rw [List.length_take] at h3
      refine ⟨q, by simp, h1, h2, by omega, ?_⟩
      rw [← h4, ← h5, takeZ_at (by omega), takeZ_at (by omega)]
      exact ⟨rfl, rfl⟩
/-- What traffic lets. -/
def letsP (oth : List (List Int)) (p : Nat) (f t : Int) : Bool := !(plF oth ((p : Int) + 1, t)).isSome && !(mvF oth ((p : Int), t, f)).isSome
theorem lets_may {oth : List (List Int)} {p : Nat} (hp : p ≤ 5) (f t : Int) : letsP oth p f t = true ↔ ∀ q ∈ oth, p + 1 < q.length → q.getD (p + 1) 0 ≠ t ∧ ¬ (q.getD (p + 1) 0 = f ∧ q.getD p 0 = t) := by
  have e1 : ((p : Int) + 1).toNat = p + 1 := by omega
  unfold letsP plF mvF
  simp only [Bool.and_eq_true, Bool.not_eq_true', e1, Int.toNat_natCast]
  constructor
  · rintro ⟨h1, h2⟩ q hq hl
    refine ⟨fun e => ?_, fun ⟨e1, e2⟩ => ?_⟩
    · rw [if_pos ⟨q, hq, by omega, by omega, by omega, e⟩] at h1
      cases h1
    · rw [if_pos ⟨q, hq, by omega, by omega, by omega, e2, e1⟩] at h2
      cases h2
  · intro h
    refine ⟨?_, ?_⟩
    · rw [if_neg]
      · rfl
      · rintro ⟨q, hq, _, _, hl, e⟩
        exact (h q hq (by omega)).1 e
    · rw [if_neg]
      · rfl
      · rintro ⟨q, hq, _, _, hl, e2, e1⟩
        exact (h q hq (by omega)).2 ⟨e1, e2⟩
end

abbrev trV (pb mb : Nat) : Value := .agg #[.map (some pb), .map (some mb)]
section
variable {w w' : World} {pb mb n : Nat} {oth : List (List Int)}
end

end Go.Proofs.Ytacigmjdppoonaa.Vm

namespace Go.Proofs.Ytacigmjdppoonaa.Vm
open Go Go.RowKit Go.Maps
set_option maxRecDepth 100000



end Go.Proofs.Ytacigmjdppoonaa.Vm
