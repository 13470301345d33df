/- Copies whose slices are owned, or none; the contract of tuggerref05.Copy. -/
import Derived.Test.YtopgboepkckkjaaSetFs
import Derived.Test.YtopgboepkckkjaaInMath
import Derived.Test.YtopgboepkckkjaaAppendZ
import Derived.Deep.RegionHeld3
namespace Go.Proofs.Ytopgboepkckkjaa.Vm
open Go Go.RowKit

/-- The call owns these records, or there are none. -/
def OwnR0 (w : World) (B : Nat) (ty : TypeId) (v : Value) (rs : List Rec) : Prop := OwnR w B ty v rs ∨ (rs = [] ∧ ∃ a, v = .slice a 0 0)
def OwnZ0 (w : World) (B : Nat) (v : Value) (l : List Int) : Prop := OwnZ w B v l ∨ (l = [] ∧ ∃ a, v = .slice a 0 0)
section
variable {w w' : World} {B B' : Nat} {ty : TypeId} {v : Value} {rs : List Rec} {l : List Int}
theorem OwnR0.calls (h : OwnR0 w B ty v rs) (hb : Below w.heap.size w w') : OwnR0 w' B ty v rs := h.imp (fun h => h.calls hb) id
theorem OwnZ0.calls (h : OwnZ0 w B v l) (hb : Below w.heap.size w w') : OwnZ0 w' B v l := h.imp (fun h => own_upto h hb (fun k hk => (World.ownsRow.lt h k hk).2)) id
theorem OwnR0.mono (h : OwnR0 w B ty v rs) (hB : B' ≤ B) : OwnR0 w B' ty v rs := h.imp (fun h => h.mono hB) id
theorem OwnZ0.mono (h : OwnZ0 w B v l) (hB : B' ≤ B) : OwnZ0 w B' v l := h.imp (fun h => OwnZ.mono h hB) id
theorem OwnR0.slice (h : OwnR0 w B ty v rs) : ∃ a c, v = .slice a rs.length c := by
  rcases h with h | ⟨rfl, a, rfl⟩
  · exact h.slice
  · exact ⟨a, 0, rfl⟩
theorem OwnZ0.slice (h : OwnZ0 w B v l) : ∃ a c, v = .slice a l.length c := by
  rcases h with h | ⟨rfl, a, rfl⟩
  · obtain ⟨a, c, e, _⟩ := OwnZ.row h
    exact ⟨a, c, e⟩
  · exact ⟨a, 0, rfl⟩
theorem OwnR0.row {a : Option Addr} {n c : Nat} (h : OwnR0 w B ty (.slice a n c) rs) : RowR w w.heap.size a n c rs := by
  rcases h with h | ⟨rfl, a', e⟩
  · exact h.row
  · injection e with e1 e2 e3
    subst e2 e3
    exact ⟨rfl, Nat.le_refl _, by simp [maxLen], fun h => absurd h (by omega)⟩
theorem OwnZ0.row {a : Option Addr} {n c : Nat} (h : OwnZ0 w B (.slice a n c) l) : RowZ .i64 w w.heap.size a n c l := by
  rcases h with h | ⟨rfl, a', e⟩
  · exact OwnZ.rowZ h
  · injection e with e1 e2 e3
    subst e2 e3
    exact ⟨rfl, Nat.le_refl _, by simp [maxLen], fun h => absurd h (by omega)⟩
end

theorem run_append0_none {P : Program} {w : World} (t ty e : TypeId) (i : TypeInfo) (ht : P.underlying t = some (.slice e)) (hi : P.info? e = some i) (ad : Option Addr) (ao : Option Addr) (c : Nat) :
    (Builtin.append_ #[t, t] ty #[.slice ad 0 0, .slice ao 0 c]).run P w = .ok (.slice ad 0 0) w := by
  cases ad <;> cases ao <;> simp [Builtin.append_, run_underlying ht, sizeOf, typeInfo, hi, Builtin.lenOf, Builtin.firstCells, storeCells, loadCells, loadCellsFrom, Result.andThen]
/-- What an append of robots to nothing leaves. -/
theorem run_append0_r {w : World} (ty : TypeId) {ad : Addr} {ao : Option Addr} {m c B2 : Nat} {l : List Rec} (hr : RowR w B2 ao m c l) (hm : m ≤ 100000) :
    ∃ v' w', (Builtin.append_ #[24, 24] ty #[.slice (some ad) 0 0, .slice ao m c]).run Try.prog w = .ok v' w' ∧ OwnR0 w' w.heap.size 45 v' l ∧ Below w.heap.size w w' := by
  obtain ⟨i0, hi0, hz0, hz1, hz2⟩ := info_parts info_robot
  have hl := hr.1
  by_cases h0 : m = 0
  · subst h0
    obtain rfl := List.eq_nil_of_length_eq_zero hl
    exact ⟨_, _, run_append0_none _ ty _ i0 Try.underlying24 hi0 (some ad) ao c, .inr ⟨rfl, _, rfl⟩, Below.refl _ _⟩
  · obtain ⟨b, off, rfl, _⟩ := hr.cells (by omega)
    have hrun := run_append_grow (P := Try.prog) (w := w) 24 ty 45 i0 _ Try.underlying24 hi0 hz0 ad 0 0 [] (by simp) (by simp) ⟨b, off, none⟩ m c (recs l) (by rw [recs_len, hl, hz1]) (cells_rowR hr) (by omega) (by omega) (growslice_fits (by omega) (by rw [hz2]; omega))
    rw [Nat.zero_add] at hrun
    refine ⟨_, _, hrun, .inl ?_, ((Below.refl _ _).drew).alloc (Nat.le_refl _) _⟩
    refine ⟨recs_len l, .inr ⟨w.heap.size, _, _, by rw [hl], Nat.le_refl _, heap_alloc_new w.drew _, by rw [hl]; exact grownCap_ge w m 0 _, grownCap_le_maxLen w m 0 _ (by unfold maxLen; omega), ?_, ?_⟩⟩
    · have := grownCap_ge w m 0 45
      simp [Builtin.zeroCells, Value.cells, recs_len, hl]
      omega
    · rw [← recs_len]
      simp only [Array.toList_append]
      exact List.take_left' (by simp)
theorem run_append0_t {w : World} (ty : TypeId) {ad : Addr} {ao : Option Addr} {m c B2 : Nat} {l : List Rec} (hr : RowR w B2 ao m c l) (hm : m ≤ 100000) :
    ∃ v' w', (Builtin.append_ #[25, 25] ty #[.slice (some ad) 0 0, .slice ao m c]).run Try.prog w = .ok v' w' ∧ OwnR0 w' w.heap.size 47 v' l ∧ Below w.heap.size w w' := by
  obtain ⟨i0, hi0, hz0, hz1, hz2⟩ := info_parts info_task
  have hl := hr.1
  by_cases h0 : m = 0
  · subst h0
    obtain rfl := List.eq_nil_of_length_eq_zero hl
    exact ⟨_, _, run_append0_none _ ty _ i0 Try.underlying25 hi0 (some ad) ao c, .inr ⟨rfl, _, rfl⟩, Below.refl _ _⟩
  · obtain ⟨b, off, rfl, _⟩ := hr.cells (by omega)
    have hrun := run_append_grow (P := Try.prog) (w := w) 25 ty 47 i0 _ Try.underlying25 hi0 hz0 ad 0 0 [] (by simp) (by simp) ⟨b, off, none⟩ m c (recs l) (by rw [recs_len, hl, hz1]) (cells_rowR hr) (by omega) (by omega) (growslice_fits (by omega) (by rw [hz2]; omega))
    rw [Nat.zero_add] at hrun
    refine ⟨_, _, hrun, .inl ?_, ((Below.refl _ _).drew).alloc (Nat.le_refl _) _⟩
    refine ⟨recs_len l, .inr ⟨w.heap.size, _, _, by rw [hl], Nat.le_refl _, heap_alloc_new w.drew _, by rw [hl]; exact grownCap_ge w m 0 _, grownCap_le_maxLen w m 0 _ (by unfold maxLen; omega), ?_, ?_⟩⟩
    · have := grownCap_ge w m 0 47
      simp [Builtin.zeroCells, Value.cells, recs_len, hl]
      omega
    · rw [← recs_len]
      simp only [Array.toList_append]
      exact List.take_left' (by simp)
theorem run_append0_z {w : World} (ty : TypeId) {ad : Addr} {ao : Option Addr} {m c B2 : Nat} {l : List Int} (hr : RowZ .i64 w B2 ao m c l) (hm : m ≤ 100000) :
    ∃ v' w', (Builtin.append_ #[26, 26] ty #[.slice (some ad) 0 0, .slice ao m c]).run Try.prog w = .ok v' w' ∧ OwnZ0 w' w.heap.size v' l ∧ Below w.heap.size w w' := by
  obtain ⟨i0, hi0, hz0, hz1, hz2⟩ := info_parts info_int
  have hl := hr.1
  by_cases h0 : m = 0
  · subst h0
    obtain rfl := List.eq_nil_of_length_eq_zero hl
    exact ⟨_, _, run_append0_none _ ty _ i0 Try.underlying26 hi0 (some ad) ao c, .inr ⟨rfl, _, rfl⟩, Below.refl _ _⟩
  · obtain ⟨b, off, rfl, _⟩ := hr.cells (by omega)
    have hrun := run_append_grow (P := Try.prog) (w := w) 26 ty 3 i0 _ Try.underlying26 hi0 hz0 ad 0 0 [] (by simp) (by simp) ⟨b, off, none⟩ m c (intsZ l) (by rw [intsZ_len, hl, hz1]; omega) (cells_rowZ hr) (by omega) (by omega) (growslice_fits (by omega) (by rw [hz2]; omega))
    rw [Nat.zero_add] at hrun
    refine ⟨_, _, hrun, .inl ?_, ((Below.refl _ _).drew).alloc (Nat.le_refl _) _⟩
    refine ⟨by rw [intsZ_len, Nat.mul_one], .inr ⟨w.heap.size, _, _, by rw [hl], Nat.le_refl _, heap_alloc_new w.drew _, by rw [hl]; exact grownCap_ge w m 0 _, grownCap_le_maxLen w m 0 _ (by unfold maxLen; omega), ?_, ?_⟩⟩
    · have := grownCap_ge w m 0 3
      simp [Builtin.zeroCells, Value.cells, intsZ_len, hl]
      omega
    · rw [Nat.mul_one, ← intsZ_len]
      simp only [Array.toList_append]
      exact List.take_left' (by simp)
theorem step_append0_r {ops : Array Oper} {o : Oper} {a : Act} {w : World} {K : Act → World → Prop} {Q : Exit → Act → World → Prop} {E : Prop} (hgd : o.guard = none) (s x : Operand)
    (ho : o.op = .call { callee := .builtin .append, args := #[s, x], argTypes := #[24, 24] })
    {ad : Addr} (hs : a.eval s = .slice (some ad) 0 0) {ao : Option Addr} {m c B2 : Nat} {l : List Rec} (hx : a.eval x = .slice ao m c) (hr : RowR w B2 ao m c l) (hm : m ≤ 100000)
    (h : ∀ v' w', OwnR0 w' w.heap.size 45 v' l → Below w.heap.size w w' → K (a.put o.dst v') w') :
    if Region.wanted o (yielded ops a.tmps) = true then Oper.wp Try.prog o a w K Q else E := by
  have hw : Region.wanted o (yielded ops a.tmps) = true := by simp [Region.wanted, hgd]
  rw [if_pos hw]
  obtain ⟨v', w', hrun, h1, h2⟩ := run_append0_r (ad := ad) o.type hr hm
  unfold Oper.wp
  simp [execOp, ho, resolve, invoke, builtin, hs, hx, hrun, Result.andThen]
  exact h v' w' h1 h2
theorem step_append0_t {ops : Array Oper} {o : Oper} {a : Act} {w : World} {K : Act → World → Prop} {Q : Exit → Act → World → Prop} {E : Prop} (hgd : o.guard = none) (s x : Operand)
    (ho : o.op = .call { callee := .builtin .append, args := #[s, x], argTypes := #[25, 25] })
    {ad : Addr} (hs : a.eval s = .slice (some ad) 0 0) {ao : Option Addr} {m c B2 : Nat} {l : List Rec} (hx : a.eval x = .slice ao m c) (hr : RowR w B2 ao m c l) (hm : m ≤ 100000)
    (h : ∀ v' w', OwnR0 w' w.heap.size 47 v' l → Below w.heap.size w w' → K (a.put o.dst v') w') :
    if Region.wanted o (yielded ops a.tmps) = true then Oper.wp Try.prog o a w K Q else E := by
  have hw : Region.wanted o (yielded ops a.tmps) = true := by simp [Region.wanted, hgd]
  rw [if_pos hw]
  obtain ⟨v', w', hrun, h1, h2⟩ := run_append0_t (ad := ad) o.type hr hm
  unfold Oper.wp
  simp [execOp, ho, resolve, invoke, builtin, hs, hx, hrun, Result.andThen]
  exact h v' w' h1 h2
theorem step_append0_z {ops : Array Oper} {o : Oper} {a : Act} {w : World} {K : Act → World → Prop} {Q : Exit → Act → World → Prop} {E : Prop} (hgd : o.guard = none) (s x : Operand)
    (ho : o.op = .call { callee := .builtin .append, args := #[s, x], argTypes := #[26, 26] })
    {ad : Addr} (hs : a.eval s = .slice (some ad) 0 0) {ao : Option Addr} {m c B2 : Nat} {l : List Int} (hx : a.eval x = .slice ao m c) (hr : RowZ .i64 w B2 ao m c l) (hm : m ≤ 100000)
    (h : ∀ v' w', OwnZ0 w' w.heap.size v' l → Below w.heap.size w w' → K (a.put o.dst v') w') :
    if Region.wanted o (yielded ops a.tmps) = true then Oper.wp Try.prog o a w K Q else E := by
  have hw : Region.wanted o (yielded ops a.tmps) = true := by simp [Region.wanted, hgd]
  rw [if_pos hw]
  obtain ⟨v', w', hrun, h1, h2⟩ := run_append0_z (ad := ad) o.type hr hm
  unfold Oper.wp
  simp [execOp, ho, resolve, invoke, builtin, hs, hx, hrun, Result.andThen]
  exact h v' w' h1 h2
theorem kept_alloc6 {a w : World} (h : Kept a w) (o : Obj) : Kept a (w.alloc o) := Below.alloc h h.size o
theorem kept_size {a b : World} (h : Kept a b) : a.heap.size ≤ b.heap.size := Below.size h
theorem kept_trans {a b c : World} (h : Kept a b) (h2 : Kept b c) : Kept a c := Below.trans h (h2.mono h.size)
theorem kept_step {a X V : World} (h : Kept a X) (hb : Below X.heap.size X V) : Kept a V := Below.trans h (hb.mono h.size)
/-- What the document's Copy hands back. -/
structure Copy0 (w : World) (B : Nat) (h : Sh) (s : St) : Prop where
  tick : h.t = s.tick
  rs : OwnR0 w B 45 (.slice h.a1 h.n1 h.c1) s.rs
  ts : OwnR0 w B 47 (.slice h.a2 h.n2 h.c2) s.ts
  bl : OwnZ0 w B (.slice h.a3 h.n3 h.c3) s.bl
  n1 : h.n1 = s.rs.length
  n2 : h.n2 = s.ts.length
  n3 : h.n3 = s.bl.length
theorem Copy0.stIn {w : World} {B : Nat} {h : Sh} {s : St} (hc : Copy0 w B h s) : StIn w w.heap.size h s := ⟨hc.tick, hc.rs.row, hc.ts.row, hc.bl.row⟩
theorem Copy0.calls {w w' : World} {B : Nat} {h : Sh} {s : St} (hc : Copy0 w B h s) (hb : Below w.heap.size w w') : Copy0 w' B h s := ⟨hc.tick, hc.rs.calls hb, hc.ts.calls hb, hc.bl.calls hb, hc.n1, hc.n2, hc.n3⟩
theorem own0_set4 {B b : Nat} {ty : TypeId} {v : Value} {rs : List Rec} {V : World} (h : OwnR0 V B ty v rs) (hb : b < B) (v0 v1 v2 v3 : Value) : OwnR0 ((((V.setCell ⟨b, 0, none⟩ v0).setCell ⟨b, 1, none⟩ v1).setCell ⟨b, 2, none⟩ v2).setCell ⟨b, 3, none⟩ v3) B ty v rs := h.imp (fun h => own_set4 h hb v0 v1 v2 v3) id
theorem own0z_set4 {B b : Nat} {v : Value} {rs : List Int} {V : World} (h : OwnZ0 V B v rs) (hb : b < B) (v0 v1 v2 v3 : Value) : OwnZ0 ((((V.setCell ⟨b, 0, none⟩ v0).setCell ⟨b, 1, none⟩ v1).setCell ⟨b, 2, none⟩ v2).setCell ⟨b, 3, none⟩ v3) B v rs := h.imp (fun h => own_set4 h hb v0 v1 v2 v3) id

set_option maxRecDepth 100000 in
set_option maxHeartbeats 4000000 in
theorem rcopy_any (h : Sh) (s : St) (B : Nat) (w : World) (hin : StIn w B h s) (hB : B ≤ w.heap.size) (hn1 : h.n1 ≤ 100000) (hn2 : h.n2 ≤ 100000) (hn3 : h.n3 ≤ 100000) :
    Calls Try.prog 20 #[shV h] w fun e w' => ∃ h' : Sh, e = .returned (shV h') ∧ Copy0 w' w.heap.size h' s ∧ Below w.heap.size w w' := by
  obtain ⟨w2, hw2, hB2, hz2, hs2, hs2'⟩ := ss_head w h ⟨0, none, 0, 0, none, 0, 0, none, 0, 0⟩
  have hf0 : ∀ i, w2.frozen? ⟨w.heap.size + 1, i, none⟩ = false := fun i => by rw [hw2]; simp
  have HW2 := Lib.hid hw2
  have HT := Lib.hid hin.tick
  have HIN : Hid (∀ V, Kept w2 V → StIn V w.heap.size h s) := fun V hV => ((hin.mono hB).below hB2).below (Below.mono hV (by omega))
  obtain ⟨t, a1, n1, c1, a2, n2, c2, a3, n3, c3⟩ := h
  simp only [] at HT hn1 hn2 hn3
  have HQ : Hid (∀ V, Kept w2 V → StAt V (w.heap.size + 1) ⟨0, none, 0, 0, none, 0, 0, none, 0, 0⟩) := fun V hV => hs2'.below hV (by omega)
  have HQF : Hid (∀ V, Kept w2 V → ∀ i, V.frozen? ⟨w.heap.size + 1, i, none⟩ = false) := fun V hV i => (Below.frozen hV (p := ⟨w.heap.size + 1, i, none⟩) (show w.heap.size + 1 < w2.heap.size by omega)).trans (hf0 i)
  have HB2 := Lib.hid hB2
  obtain ⟨s0, s1, s2, s3⟩ := hs2
  simp only [] at s0 s1 s2 s3
  have HKT : Hid (∀ V, Below (w.heap.size + 1) w2 V → (Below (w.heap.size + 1) w2 V ∧ V.cell? ⟨w.heap.size, 0, none⟩ = some (.int .i64 t) ∧ V.cell? ⟨w.heap.size, 1, none⟩ = some (.slice a1 n1 c1) ∧ V.cell? ⟨w.heap.size, 2, none⟩ = some (.slice a2 n2 c2) ∧ V.cell? ⟨w.heap.size, 3, none⟩ = some (.slice a3 n3 c3))) := fun V hV =>
    ⟨hV, (hV.cell (p := ⟨w.heap.size, 0, none⟩) (show w.heap.size < w.heap.size + 1 by omega)).trans s0, (hV.cell (p := ⟨w.heap.size, 1, none⟩) (show w.heap.size < w.heap.size + 1 by omega)).trans s1, (hV.cell (p := ⟨w.heap.size, 2, none⟩) (show w.heap.size < w.heap.size + 1 by omega)).trans s2, (hV.cell (p := ⟨w.heap.size, 3, none⟩) (show w.heap.size < w.heap.size + 1 by omega)).trans s3⟩
  have hzz : w.heap.size + 1 ≤ w2.heap.size := by omega
  have HKS : Hid (∀ V, Kept w2 V → (Below (w.heap.size + 1) w2 V ∧ V.cell? ⟨w.heap.size, 0, none⟩ = some (.int .i64 t) ∧ V.cell? ⟨w.heap.size, 1, none⟩ = some (.slice a1 n1 c1) ∧ V.cell? ⟨w.heap.size, 2, none⟩ = some (.slice a2 n2 c2) ∧ V.cell? ⟨w.heap.size, 3, none⟩ = some (.slice a3 n3 c3))) := fun V hV => HKT.out V (Below.mono hV hzz)
  have HKQ : Hid (∀ V, Kept w2 V → ∀ v0 v1 v2 v3, (fun V => Below (w.heap.size + 1) w2 V ∧ V.cell? ⟨w.heap.size, 0, none⟩ = some (.int .i64 t) ∧ V.cell? ⟨w.heap.size, 1, none⟩ = some (.slice a1 n1 c1) ∧ V.cell? ⟨w.heap.size, 2, none⟩ = some (.slice a2 n2 c2) ∧ V.cell? ⟨w.heap.size, 3, none⟩ = some (.slice a3 n3 c3)) ((((V.setCell ⟨w.heap.size + 1, 0, none⟩ v0).setCell ⟨w.heap.size + 1, 1, none⟩ v1).setCell ⟨w.heap.size + 1, 2, none⟩ v2).setCell ⟨w.heap.size + 1, 3, none⟩ v3)) := fun V hV v0 v1 v2 v3 => HKT.out _ (below_set4 (Below.mono hV hzz) (Nat.le_refl _) v0 v1 v2 v3)
  have hltq : w.heap.size + 1 < w2.heap.size := by omega
  clear hin hw2 hs2' hf0 hB2
  go_enter Try.func20, Try.ntmps20
  go_wp2_with fail
  rw [← HW2.out]
  go_region_held3 (fun V => Below (w.heap.size + 1) w2 V ∧ V.cell? ⟨w.heap.size, 0, none⟩ = some (.int .i64 t) ∧ V.cell? ⟨w.heap.size, 1, none⟩ = some (.slice a1 n1 c1) ∧ V.cell? ⟨w.heap.size, 2, none⟩ = some (.slice a2 n2 c2) ∧ V.cell? ⟨w.heap.size, 3, none⟩ = some (.slice a3 n3 c3))
    (first | exact HKS.out _ (by with_reducible first | exact Kept.refl _ | exact Kept.drew (Kept.refl _) | exact kept_alloc6 (Kept.refl _) _ | exact Kept.drew (kept_alloc6 (Kept.refl _) _) | exact kept_alloc6 (kept_alloc6 (Kept.refl _) _) _ | exact Kept.drew (kept_alloc6 (kept_alloc6 (Kept.refl _) _) _) | exact kept_alloc6 (kept_alloc6 (kept_alloc6 (Kept.refl _) _) _) _ | exact Kept.drew (kept_alloc6 (kept_alloc6 (kept_alloc6 (Kept.refl _) _) _) _)) | exact HKS.out _ (kept_trans (by assumption) (by with_reducible first | exact Kept.refl _ | exact Kept.drew (Kept.refl _) | exact kept_alloc6 (Kept.refl _) _ | exact Kept.drew (kept_alloc6 (Kept.refl _) _) | exact kept_alloc6 (kept_alloc6 (Kept.refl _) _) _ | exact Kept.drew (kept_alloc6 (kept_alloc6 (Kept.refl _) _) _) | exact kept_alloc6 (kept_alloc6 (kept_alloc6 (Kept.refl _) _) _) _ | exact Kept.drew (kept_alloc6 (kept_alloc6 (kept_alloc6 (Kept.refl _) _) _) _))) | exact HKQ.out _ (by assumption) _ _ _ _)
    (first
      | (refine step_append0_r rfl _ _ rfl rfl rfl (HIN.out _ (by with_reducible first | exact Kept.refl _ | exact Kept.drew (Kept.refl _) | exact kept_alloc6 (Kept.refl _) _ | exact Kept.drew (kept_alloc6 (Kept.refl _) _) | exact kept_alloc6 (kept_alloc6 (Kept.refl _) _) _ | exact Kept.drew (kept_alloc6 (kept_alloc6 (Kept.refl _) _) _) | exact kept_alloc6 (kept_alloc6 (kept_alloc6 (Kept.refl _) _) _) _ | exact Kept.drew (kept_alloc6 (kept_alloc6 (kept_alloc6 (Kept.refl _) _) _) _))).rs hn1 ?_; intro v1 V1 own1 kb1; obtain ⟨x1, y1, rfl⟩ := own1.slice
         replace own1 : OwnR0 V1 w2.heap.size 45 (.slice x1 s.rs.length y1) s.rs := own1.mono (kept_size (by with_reducible first | exact Kept.refl _ | exact Kept.drew (Kept.refl _) | exact kept_alloc6 (Kept.refl _) _ | exact Kept.drew (kept_alloc6 (Kept.refl _) _) | exact kept_alloc6 (kept_alloc6 (Kept.refl _) _) _ | exact Kept.drew (kept_alloc6 (kept_alloc6 (Kept.refl _) _) _) | exact kept_alloc6 (kept_alloc6 (kept_alloc6 (Kept.refl _) _) _) _ | exact Kept.drew (kept_alloc6 (kept_alloc6 (kept_alloc6 (Kept.refl _) _) _) _)))
         have kv1 : Kept w2 V1 := kept_step (by with_reducible first | exact Kept.refl _ | exact Kept.drew (Kept.refl _) | exact kept_alloc6 (Kept.refl _) _ | exact Kept.drew (kept_alloc6 (Kept.refl _) _) | exact kept_alloc6 (kept_alloc6 (Kept.refl _) _) _ | exact Kept.drew (kept_alloc6 (kept_alloc6 (Kept.refl _) _) _) | exact kept_alloc6 (kept_alloc6 (kept_alloc6 (Kept.refl _) _) _) _ | exact Kept.drew (kept_alloc6 (kept_alloc6 (kept_alloc6 (Kept.refl _) _) _) _)) kb1)
      | (refine step_append0_t rfl _ _ rfl rfl rfl (HIN.out _ (kept_trans kv1 (by with_reducible first | exact Kept.refl _ | exact Kept.drew (Kept.refl _) | exact kept_alloc6 (Kept.refl _) _ | exact Kept.drew (kept_alloc6 (Kept.refl _) _) | exact kept_alloc6 (kept_alloc6 (Kept.refl _) _) _ | exact Kept.drew (kept_alloc6 (kept_alloc6 (Kept.refl _) _) _) | exact kept_alloc6 (kept_alloc6 (kept_alloc6 (Kept.refl _) _) _) _ | exact Kept.drew (kept_alloc6 (kept_alloc6 (kept_alloc6 (Kept.refl _) _) _) _)))).ts hn2 ?_; intro v2 V2 own2 kb2; obtain ⟨x2, y2, rfl⟩ := own2.slice
         replace own2 : OwnR0 V2 w2.heap.size 47 (.slice x2 s.ts.length y2) s.ts := own2.mono (kept_size (kept_trans kv1 (by with_reducible first | exact Kept.refl _ | exact Kept.drew (Kept.refl _) | exact kept_alloc6 (Kept.refl _) _ | exact Kept.drew (kept_alloc6 (Kept.refl _) _) | exact kept_alloc6 (kept_alloc6 (Kept.refl _) _) _ | exact Kept.drew (kept_alloc6 (kept_alloc6 (Kept.refl _) _) _) | exact kept_alloc6 (kept_alloc6 (kept_alloc6 (Kept.refl _) _) _) _ | exact Kept.drew (kept_alloc6 (kept_alloc6 (kept_alloc6 (Kept.refl _) _) _) _))))
         have k12 : Kept V1 V2 := kept_step (by with_reducible first | exact Kept.refl _ | exact Kept.drew (Kept.refl _) | exact kept_alloc6 (Kept.refl _) _ | exact Kept.drew (kept_alloc6 (Kept.refl _) _) | exact kept_alloc6 (kept_alloc6 (Kept.refl _) _) _ | exact Kept.drew (kept_alloc6 (kept_alloc6 (Kept.refl _) _) _) | exact kept_alloc6 (kept_alloc6 (kept_alloc6 (Kept.refl _) _) _) _ | exact Kept.drew (kept_alloc6 (kept_alloc6 (kept_alloc6 (Kept.refl _) _) _) _)) kb2
         have kv2 : Kept w2 V2 := kept_trans kv1 k12)
      | (refine step_append0_z rfl _ _ rfl rfl rfl (HIN.out _ (kept_trans kv2 (by with_reducible first | exact Kept.refl _ | exact Kept.drew (Kept.refl _) | exact kept_alloc6 (Kept.refl _) _ | exact Kept.drew (kept_alloc6 (Kept.refl _) _) | exact kept_alloc6 (kept_alloc6 (Kept.refl _) _) _ | exact Kept.drew (kept_alloc6 (kept_alloc6 (Kept.refl _) _) _) | exact kept_alloc6 (kept_alloc6 (kept_alloc6 (Kept.refl _) _) _) _ | exact Kept.drew (kept_alloc6 (kept_alloc6 (kept_alloc6 (Kept.refl _) _) _) _)))).bl hn3 ?_; intro v3 V3 own3 kb3; obtain ⟨x3, y3, rfl⟩ := own3.slice
         replace own3 : OwnZ0 V3 w2.heap.size (.slice x3 s.bl.length y3) s.bl := own3.mono (kept_size (kept_trans kv2 (by with_reducible first | exact Kept.refl _ | exact Kept.drew (Kept.refl _) | exact kept_alloc6 (Kept.refl _) _ | exact Kept.drew (kept_alloc6 (Kept.refl _) _) | exact kept_alloc6 (kept_alloc6 (Kept.refl _) _) _ | exact Kept.drew (kept_alloc6 (kept_alloc6 (Kept.refl _) _) _) | exact kept_alloc6 (kept_alloc6 (kept_alloc6 (Kept.refl _) _) _) _ | exact Kept.drew (kept_alloc6 (kept_alloc6 (kept_alloc6 (Kept.refl _) _) _) _))))
         have k23 : Kept V2 V3 := kept_step (by with_reducible first | exact Kept.refl _ | exact Kept.drew (Kept.refl _) | exact kept_alloc6 (Kept.refl _) _ | exact Kept.drew (kept_alloc6 (Kept.refl _) _) | exact kept_alloc6 (kept_alloc6 (Kept.refl _) _) _ | exact Kept.drew (kept_alloc6 (kept_alloc6 (Kept.refl _) _) _) | exact kept_alloc6 (kept_alloc6 (kept_alloc6 (Kept.refl _) _) _) _ | exact Kept.drew (kept_alloc6 (kept_alloc6 (kept_alloc6 (Kept.refl _) _) _) _)) kb3
         have kv3 : Kept w2 V3 := kept_trans kv2 k23
         obtain ⟨q0, q1, q2, q3⟩ := HQ.out V3 kv3
         have f0 := HQF.out V3 kv3 0
         have f1 := HQF.out V3 kv3 1
         have f2 := HQF.out V3 kv3 2
         have f3 := HQF.out V3 kv3 3))
  all_goals
    have hst := stAt_set4 q0 q1 q2 q3 ⟨t, x1, s.rs.length, y1, x2, s.ts.length, y2, x3, s.bl.length, y3⟩
    have HO1 := Lib.hid (own0_set4 (own1.calls (kept_trans k12 k23)) hltq (.int .i64 t) (.slice x1 s.rs.length y1) (.slice x2 s.ts.length y2) (.slice x3 s.bl.length y3))
    have HO2 := Lib.hid (own0_set4 (own2.calls k23) hltq (.int .i64 t) (.slice x1 s.rs.length y1) (.slice x2 s.ts.length y2) (.slice x3 s.bl.length y3))
    have HO3 := Lib.hid (own0z_set4 own3 hltq (.int .i64 t) (.slice x1 s.rs.length y1) (.slice x2 s.ts.length y2) (.slice x3 s.bl.length y3))
    have HBF := Lib.hid (below_set4 (HB2.out.trans (Below.mono kv3 (by omega))) (show w.heap.size ≤ w.heap.size + 1 by omega) (.int .i64 t) (.slice x1 s.rs.length y1) (.slice x2 s.ts.length y2) (.slice x3 s.bl.length y3))
    clear own1 own2 own3 kb1 kb2 kb3 k12 k23 kv1 kv2 kv3 q0 q1 q2 q3 f0 f1 f2 f3
    generalize ((((V3.setCell { block := w.heap.size + 1, off := 0 } (Value.int IntKind.i64 t)).setCell { block := w.heap.size + 1, off := 1 } (Value.slice x1 s.rs.length y1)).setCell { block := w.heap.size + 1, off := 2 } (Value.slice x2 s.ts.length y2)).setCell { block := w.heap.size + 1, off := 3 } (Value.slice x3 s.bl.length y3)) = V at hst HO1 HO2 HO3 HBF
    obtain ⟨r0, r1, r2, r3⟩ := hst
    simp only [] at r0 r1 r2 r3
    go_wp2_with fail
    exact bodyPost_ret (v := shV ⟨t, x1, s.rs.length, y1, x2, s.ts.length, y2, x3, s.bl.length, y3⟩) (by simp [results, Try.results20, go_sem, r0, r1, r2, r3]) rfl
      ⟨⟨t, x1, s.rs.length, y1, x2, s.ts.length, y2, x3, s.bl.length, y3⟩, rfl, ⟨HT.out, HO1.out.mono (by omega), HO2.out.mono (by omega), HO3.out.mono (by omega), rfl, rfl, rfl⟩, HBF.out⟩
end Go.Proofs.Ytopgboepkckkjaa.Vm

namespace Go.Proofs.Ytopgboepkckkjaa.Vm
open Go Go.RowKit
theorem OwnR0.other {w : World} {B B' lb n c i : Nat} {ty ty' : TypeId} {v u : Value} {rs rs' : List Rec} (h : OwnR0 w B ty v rs) (ho : OwnR w B' ty' (.slice (some ⟨lb, 0, none⟩) n c) rs') (hne : ty' ≠ ty) : OwnR0 (w.setCell ⟨lb, i, none⟩ u) B ty v rs :=
  h.imp (fun h => World.ownsRow.kept h (grown_setCell w lb i u) (own_own ho h hne)) id
theorem OwnZ0.other {w : World} {B B' lb n c i : Nat} {ty' : TypeId} {v u : Value} {l : List Int} {rs' : List Rec} (h : OwnZ0 w B v l) (ho : OwnR w B' ty' (.slice (some ⟨lb, 0, none⟩) n c) rs') (hne : ty' ≠ 3) : OwnZ0 (w.setCell ⟨lb, i, none⟩ u) B v l :=
  h.imp (fun h => World.ownsRow.kept h (grown_setCell w lb i u) (own_own ho h hne)) id
theorem OwnR0.full {w : World} {B : Nat} {ty : TypeId} {v : Value} {rs : List Rec} (h : OwnR0 w B ty v rs) (hn : 0 < rs.length) : OwnR w B ty v rs := by
  rcases h with h | ⟨rfl, _⟩
  · exact h
  · simp at hn
section
variable {w : World} {B lb i j : Nat} {h : Sh} {s : St}
theorem Copy0.setR (m : Copy0 w B h s) (ha : h.a1 = some ⟨lb, 0, none⟩) (hi : i < s.rs.length) (hj : j < 5) (x : Int) :
    Copy0 (w.setCell ⟨lb, i * 5 + j, none⟩ (.int .i64 x)) B h ⟨s.tick, s.rs.set i (setF (s.rs.getD i zr) j x), s.ts, s.bl⟩ ∧ Below B w (w.setCell ⟨lb, i * 5 + j, none⟩ (.int .i64 x)) := by
  obtain ⟨hT, o1, o2, o3, e1, e2, e3⟩ := m
  have ho1 := o1.full (by omega)
  rw [ha] at ho1
  exact ⟨⟨hT, .inl (by rw [ha]; exact ho1.setF hi hj x), o2.other ho1 (by decide), o3.other ho1 (by decide), by rw [e1]; simp, e2, e3⟩, (Below.refl _ _).setCell (p := ⟨lb, i * 5 + j, none⟩) (show B ≤ lb from (World.ownsRow.lt ho1 lb rfl).1) _⟩
theorem Copy0.setT (m : Copy0 w B h s) (ha : h.a2 = some ⟨lb, 0, none⟩) (hi : i < s.ts.length) (hj : j < 5) (x : Int) :
    Copy0 (w.setCell ⟨lb, i * 5 + j, none⟩ (.int .i64 x)) B h ⟨s.tick, s.rs, s.ts.set i (setF (s.ts.getD i zr) j x), s.bl⟩ ∧ Below B w (w.setCell ⟨lb, i * 5 + j, none⟩ (.int .i64 x)) := by
  obtain ⟨hT, o1, o2, o3, e1, e2, e3⟩ := m
  have ho2 := o2.full (by omega)
  rw [ha] at ho2
  exact ⟨⟨hT, o1.other ho2 (by decide), .inl (by rw [ha]; exact ho2.setF hi hj x), o3.other ho2 (by decide), e1, by rw [e2]; simp, e3⟩, (Below.refl _ _).setCell (p := ⟨lb, i * 5 + j, none⟩) (show B ≤ lb from (World.ownsRow.lt ho2 lb rfl).1) _⟩
/-- A whole robot, number by number. -/
theorem Copy0.setRec (m : Copy0 w B h s) (ha : h.a1 = some ⟨lb, 0, none⟩) (hi : i < s.rs.length) (r : Rec) :
    Copy0 (((((w.setCell ⟨lb, i * 5, none⟩ (.int .i64 r.a)).setCell ⟨lb, i * 5 + 1, none⟩ (.int .i64 r.b)).setCell ⟨lb, i * 5 + 2, none⟩ (.int .i64 r.c)).setCell ⟨lb, i * 5 + 3, none⟩ (.int .i64 r.d)).setCell ⟨lb, i * 5 + 4, none⟩ (.int .i64 r.e)) B h ⟨s.tick, s.rs.set i r, s.ts, s.bl⟩ ∧
    Below B w (((((w.setCell ⟨lb, i * 5, none⟩ (.int .i64 r.a)).setCell ⟨lb, i * 5 + 1, none⟩ (.int .i64 r.b)).setCell ⟨lb, i * 5 + 2, none⟩ (.int .i64 r.c)).setCell ⟨lb, i * 5 + 3, none⟩ (.int .i64 r.d)).setCell ⟨lb, i * 5 + 4, none⟩ (.int .i64 r.e)) := by
  obtain ⟨m1, b1⟩ := m.setR ha hi (show 0 < 5 by omega) r.a
  obtain ⟨m2, b2⟩ := m1.setR ha (i := i) (by simpa using hi) (show 1 < 5 by omega) r.b
  obtain ⟨m3, b3⟩ := m2.setR ha (i := i) (by simpa using hi) (show 2 < 5 by omega) r.c
  obtain ⟨m4, b4⟩ := m3.setR ha (i := i) (by simpa using hi) (show 3 < 5 by omega) r.d
  obtain ⟨m5, b5⟩ := m4.setR ha (i := i) (by simpa using hi) (show 4 < 5 by omega) r.e
  have hbb := (((b1.trans b2).trans b3).trans b4).trans b5
  simp only [List.set_set] at m5
  rw [set_at hi, set_at hi, set_at hi, set_at hi] at m5
  exact ⟨m5, hbb⟩
end
end Go.Proofs.Ytopgboepkckkjaa.Vm
