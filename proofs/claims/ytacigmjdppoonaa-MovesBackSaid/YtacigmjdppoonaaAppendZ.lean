/- Ints appended to ints that the call owns, whatever slice they come of: as one step of a region that draws its order. -/
import Derived.Test.YtacigmjdppoonaaIntsZ
import Derived.Test.YtacigmjdppoonaaWords
import Derived.ArgAppend
import Derived.Deep.RegionHeld3
namespace Go.Proofs.Ytacigmjdppoonaa.Vm
open Go Go.RowKit

/-- The call owns these ints. -/
def OwnZ (w : World) (B : Nat) (v : Value) (l : List Int) : Prop := w.ownsRow B 3 1 v l.length (intsZ l)
theorem ownZ_empty (w : World) {B : Nat} (hB : B ≤ w.heap.size) : OwnZ (w.alloc (.cells #[] 3)) B (.slice (some ⟨w.heap.size, 0, none⟩) 0 0) [] := by
  have := World.ownsRow_lit (base := B) (e := 3) (size := 1) w #[] 0 hB (by unfold maxLen; omega) rfl
  exact this
theorem OwnZ.row {w : World} {B : Nat} {v : Value} {l : List Int} (h : OwnZ w B v l) : ∃ a c, v = .slice a l.length c ∧ RowZ .i64 w w.heap.size a l.length c l := by
  rcases h.2 with ⟨rfl, hn⟩ | ⟨g, cap, cur, rfl, hb, hg, hnc, hm, hcs, htk⟩
  · have hn' : l.length = 0 := hn
    obtain rfl := List.eq_nil_of_length_eq_zero hn'
    exact ⟨none, 0, rfl, rfl, Nat.le_refl _, by simp [maxLen], fun h => absurd h (by simp)⟩
  · refine ⟨_, cap, rfl, rfl, hnc, hm, fun _ => ⟨g, 0, rfl, (Array.getElem?_eq_some_iff.1 hg).1, fun i hi => ?_⟩⟩
    have := World.ownsRow.cells h (g := g) rfl i (.int .i64 (l.getD i 0)) (by simp [intsZ, List.getD, hi])
    rwa [Row.add] at this
theorem cells_rowZ {w : World} {B : Nat} {ad : Addr} {n c : Nat} {l : List Int} (h : RowZ .i64 w B (some ad) n c l) : ∀ j u, (intsZ l)[j]? = some u → w.cell? (ad.add j) = some u := by
  intro j u hu
  have hj : j < l.length := by
    have := (List.getElem?_eq_some_iff.1 hu).1
    simpa [intsZ] using this
  obtain ⟨b, off, e1, _, hc⟩ := h.cells (by have := h.1; omega)
  injection e1 with e1
  subst e1
  rw [Row.add, hc j (by have := h.1; omega)]
  simp [intsZ, hj] at hu
  rw [← hu]
  simp [List.getD, hj]
theorem run_append_noneZ {P : Program} {w : World} (base : Nat) (t ty e : TypeId) (i : TypeInfo) (size : Nat) (ht : P.underlying t = some (.slice e)) (hi : P.info? e = some i)
    (v : Value) (n c : Nat) (xs : List Value) (hown : w.ownsRow base e size v n xs) : (Builtin.append_ #[t, t] ty #[v, .slice none 0 c]).run P w = .ok v w := by
  rcases hown.2 with ⟨rfl, rfl⟩ | ⟨g, cap, cur, rfl, _, _, hnc, _⟩
  · simp [Builtin.append_, run_underlying ht, sizeOf, typeInfo, hi, Builtin.lenOf, Builtin.firstCells]
  · simp [Builtin.append_, run_underlying ht, sizeOf, typeInfo, hi, Builtin.lenOf, Builtin.firstCells, hnc, storeCells]

/-- What an append leaves. -/
theorem run_append_z {w : World} (ty : TypeId) {B : Nat} {v : Value} {out : List Int} (hown : OwnZ w B v out) {ao : Option Addr} {m c B2 : Nat} {l : List Int} (hr : RowZ .i64 w B2 ao m c l) (hlen : out.length + m ≤ 1000000) (hB : B ≤ w.heap.size) :
    ∃ v' w', (Builtin.append_ #[27, 27] ty #[v, .slice ao m c]).run Try.prog w = .ok v' w' ∧ OwnZ w' B v' (out ++ l) ∧ Below B w w' := by
  obtain ⟨i0, hi0, hz0, hz1, hz2⟩ := info_parts info_int
  have hlm : l.length = m := hr.1
  cases ao with
  | none =>
    have hm0 : m = 0 := by
      rcases Nat.eq_zero_or_pos m with h0 | h0
      · exact h0
      · obtain ⟨b, off, e, _⟩ := hr.cells h0; cases e
    subst hm0
    obtain rfl := List.eq_nil_of_length_eq_zero hlm
    exact ⟨v, w, run_append_noneZ B 27 ty 3 i0 1 Try.underlying27 hi0 v out.length c (intsZ out) hown, by rw [List.append_nil]; exact hown, Below.refl _ _⟩
  | some ad =>
    obtain ⟨v', w', hrun, hown', hg, _⟩ := run_append_own (P := Try.prog) w B 27 ty 3 i0 (.int .i64 0) 1 8 Try.underlying27 hi0 hz0 hz1 hz2 rfl (by decide) v out.length (intsZ out) hown ad m c (intsZ l) (by rw [intsZ_len]; omega) (cells_rowZ hr)
      (fun u hu => by obtain ⟨_, _, rfl⟩ := List.mem_map.1 hu; rfl) (by unfold maxLen; omega) (by omega) hB
    refine ⟨v', w', hrun, ?_, (Below.refl _ _).grown hg hB (fun k hk => (World.ownsRow.lt hown k hk).1)⟩
    unfold OwnZ
    rw [List.length_append, hlm]
    simpa [intsZ] using hown'

theorem step_append_z {ops : Array Oper} {o : Oper} {a : Act} {w : World} {K : Act → World → Prop} {Q : Exit → Act → World → Prop} {E : Prop} (hgd : o.guard = none) (s x : Operand)
    (ho : o.op = .call { callee := .builtin .append, args := #[s, x], argTypes := #[27, 27] })
    {B : Nat} {v : Value} {out : List Int} (hs : a.eval s = v) (hown : OwnZ w B v out) {ao : Option Addr} {m c B2 : Nat} {l : List Int} (hx : a.eval x = .slice ao m c) (hr : RowZ .i64 w B2 ao m c l)
    (hlen : out.length + m ≤ 1000000) (hB : B ≤ w.heap.size) (h : ∀ v' w', OwnZ w' B v' (out ++ l) → Below B w w' → K (a.put o.dst v') w') :
    if Region.wanted o (yielded ops a.tmps) = true then Oper.wp Try.prog o a w K Q else E := by
  have hw : Region.wanted o (yielded ops a.tmps) = true := by simp [Region.wanted, hgd]
  rw [if_pos hw]
  obtain ⟨v', w', hrun, h1, h2⟩ := run_append_z o.type hown hr hlen hB
  unfold Oper.wp
  simp [execOp, ho, resolve, invoke, builtin, hs, hx, hrun, Result.andThen]
  exact h v' w' h1 h2
/-- The same, where what lay at A is held. -/
theorem step_append_kept {ops : Array Oper} {o : Oper} {a : Act} {w A : World} {K : Act → World → Prop} {Q : Exit → Act → World → Prop} {E : Prop} (hgd : o.guard = none) (s x : Operand)
    (ho : o.op = .call { callee := .builtin .append, args := #[s, x], argTypes := #[27, 27] })
    {v : Value} {out : List Int} (hs : a.eval s = v) (hown : OwnZ w A.heap.size v out) {ao : Option Addr} {m c B2 : Nat} {l : List Int} (hx : a.eval x = .slice ao m c) (hr : RowZ .i64 w B2 ao m c l)
    (hlen : out.length + m ≤ 1000000) (hk : Kept A w) (h : ∀ v' w', OwnZ w' A.heap.size v' (out ++ l) → Kept A w' → K (a.put o.dst v') w') :
    if Region.wanted o (yielded ops a.tmps) = true then Oper.wp Try.prog o a w K Q else E :=
  step_append_z hgd s x ho hs hown hx hr hlen hk.size fun v' w' h1 h2 => h v' w' h1 (hk.trans h2)
theorem OwnZ.drew {w : World} {B : Nat} {v : Value} {l : List Int} (h : OwnZ w B v l) : OwnZ w.drew B v l := World.ownsRow.drew h
theorem RowZ.takes {k : IntKind} {w : World} {B : Nat} {a : Option Addr} {n c : Nat} {zs : List Int} (h : RowZ k w B a n c zs) {i : Nat} (hi : i ≤ n) : RowZ k w B a i c (zs.take i) := by
  refine ⟨by have := h.1; simp; omega, by have := h.2.1; omega, h.2.2.1, fun hp => ?_⟩
  obtain ⟨b, off, e, hb, hc⟩ := h.cells (by omega)
  refine ⟨b, off, e, hb, fun j hj => ?_⟩
  rw [hc j (by omega)]
  simp [List.getD, hj]
theorem OwnZ.sliced {w : World} {B : Nat} {v : Value} {l : List Int} (h : OwnZ w B v l) {n : Nat} (hn : l.length = n) : ∃ a c, v = .slice a n c ∧ RowZ .i64 w w.heap.size a n c l := by
  subst hn
  exact h.row
theorem OwnZ.rowAt {w : World} {B n c : Nat} {a : Option Addr} {l : List Int} (h : OwnZ w B (.slice a n c) l) (hn : l.length = n) : RowZ .i64 w w.heap.size a n c l := by
  obtain ⟨a', c', e, hr⟩ := h.sliced hn
  injection e with e1 _ e3
  subst e1 e3
  exact hr
theorem OwnZ.at {w : World} {B n c i : Nat} {a : Option Addr} {l : List Int} (h : OwnZ w B (.slice a n c) l) (hn : l.length = n) (hi : i < n) (z : Int) :
    ∃ g, a = some ⟨g, 0, none⟩ ∧ B ≤ g ∧ w.frozen? ⟨g, i, none⟩ = false ∧ w.cell? ⟨g, i, none⟩ = some (.int .i64 (l.getD i 0)) ∧ OwnZ (w.setCell ⟨g, i, none⟩ (.int .i64 z)) B (.slice a n c) (l.set i z) := by
  subst hn
  have hs := h
  rcases h.2 with ⟨hv, h0⟩ | ⟨g, cap, cur, hv, hb, hg, hnc, hm, hcs, htk⟩
  · exact absurd h0 (by omega)
  · injection hv with h1 h2 h3
    subst h1 h3
    refine ⟨g, rfl, hb, World.ownsRow.frozenAt hs i, (World.ownsRow.cellAt hs i (by omega)).trans (by simp [intsZ, List.getD, hi]), ?_⟩
    have := (World.ownsRow.stored hs i (.int .i64 z)).1
    unfold OwnZ
    rw [List.length_set, ← intsZ_set]
    exact this
theorem OwnZ.calls {w w' : World} {B : Nat} {v : Value} {l : List Int} (h : OwnZ w B v l) (hb : Below w.heap.size w w') : OwnZ w' B v l := own_upto h hb (fun k hk => (World.ownsRow.lt h k hk).2)
theorem OwnZ.lower {w : World} {B B' : Nat} {v : Value} {l : List Int} (h : OwnZ w B v l) (hB : B' ≤ B) : OwnZ w B' v l := by
  refine ⟨h.1, ?_⟩
  rcases h.2 with h2 | ⟨g, cap, cur, hv, hb, r⟩
  · exact .inl h2
  · exact .inr ⟨g, cap, cur, hv, by omega, r⟩
theorem wpList_append_z {ops : Array Oper} {rest : List Oper} {o : Oper} {a : Act} {Q : Exit → Act → World → Prop} {w : World} (hgd : o.guard = none) (s x : Operand)
    (ho : o.op = .call { callee := .builtin .append, args := #[s, x], argTypes := #[27, 27] })
    {B : Nat} {v : Value} {out : List Int} (hs : a.eval s = v) (hown : OwnZ w B v out) {ao : Option Addr} {m c B2 : Nat} {l : List Int} (hx : a.eval x = .slice ao m c) (hr : RowZ .i64 w B2 ao m c l)
    (hlen : out.length + m ≤ 1000000) (hB : B ≤ w.heap.size)
    (h : ∀ v' w', OwnZ w' B v' (out ++ l) → Below B w w' → wpList Try.prog ops Q rest (a.put o.dst v') w') : wpList Try.prog ops Q (o :: rest) a w := by
  refine wpList_plain hgd fun K hK' => ?_
  obtain ⟨v', w', hrun, h1, h2⟩ := run_append_z o.type hown hr hlen hB
  unfold Oper.wp
  simp [execOp, ho, resolve, invoke, builtin, hs, hx, hrun, Result.andThen]
  exact hK' _ _ (h v' w' h1 h2)
/-- All these are ints that a machine has. -/
def WfZ (l : List Int) : Prop := ∀ z ∈ l, (Lit.int .i64 z).wf = true
theorem WfZ.at {l : List Int} (h : WfZ l) (k : Nat) (hk : k < l.length) : (Lit.int .i64 (l.getD k 0)).wf = true := h _ (by simp [List.getD, hk])
end Go.Proofs.Ytacigmjdppoonaa.Vm
