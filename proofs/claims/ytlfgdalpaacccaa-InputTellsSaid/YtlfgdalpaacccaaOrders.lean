/- The contract of input's order. -/
import Derived.Test.YtlfgdalpaacccaaInTurns
import Derived.Deep.RegionLaw
import Derived.BigRegion
namespace Go.Proofs.Ytlfgdalpaacccaa.Vm
open Go Go.RowKit

/-- What an append of tasks leaves. -/
theorem run_append_t {w : World} (ty : TypeId) {B : Nat} {v : Value} {out : List Rec} (hown : OwnR w B 46 v out) {ad : Addr} {m c : Nat} {l : List Rec} (hc : ∀ j u, (recs l)[j]? = some u → w.cell? (ad.add j) = some u) (hl : l.length = m) (hlen : out.length + m ≤ 100000) (hB : B ≤ w.heap.size) :
    ∃ v' w', (Builtin.append_ #[25, 25] ty #[v, .slice (some ad) m c]).run Try.prog w = .ok v' w' ∧ OwnR w' B 46 v' (out ++ l) ∧ w.grownBy w' v.ownBlock := by
  obtain ⟨i0, hi0, hz0, hz1, hz2⟩ := info_parts info_task
  obtain ⟨v', w', hrun, hown', hg, _⟩ := run_append_own (P := Try.prog) w B 25 ty 46 i0 (.agg #[.int .i64 0, .int .i64 0, .int .i64 0, .int .i64 0, .int .i64 0]) 5 40 Try.underlying25 hi0 hz0 hz1 hz2 rfl (by decide) v out.length (recs out) hown ad m c (recs l) (by rw [recs_len, hl]) hc
    (recs_one l) (by unfold maxLen; omega) (by omega) hB
  refine ⟨v', w', hrun, ?_, hg⟩
  unfold OwnR
  rw [List.length_append, hl, recs_append]
  exact hown'
theorem step_append_t {ops : Array Oper} {o : Oper} {a : Act} {w : World} {K : Act → World → Prop} {Q : Exit → Act → World → Prop} {E : Prop} (hgd : o.guard = none) (s x : Operand)
    (ho : o.op = .call { callee := .builtin .append, args := #[s, x], argTypes := #[25, 25] })
    {B : Nat} {v : Value} {out : List Rec} (hs : a.eval s = v) (hown : OwnR w B 46 v out) {ad : Addr} {m c : Nat} {l : List Rec} (hx : a.eval x = .slice (some ad) m c) (hc : ∀ j u, (recs l)[j]? = some u → w.cell? (ad.add j) = some u) (hl : l.length = m)
    (hlen : out.length + m ≤ 100000) (hB : B ≤ w.heap.size) (h : ∀ v' w', OwnR w' B 46 v' (out ++ l) → w.grownBy w' v.ownBlock → K (a.put o.dst v') w') :
    if Region.wanted o (yielded ops a.tmps) = true then Oper.wp Try.prog o a w K Q else E := by
  have hw : Region.wanted o (yielded ops a.tmps) = true := by simp [Region.wanted, hgd]
  rw [if_pos hw]
  obtain ⟨v', w', hrun, h1, h2⟩ := run_append_t o.type hown hc hl hlen hB
  unfold Oper.wp
  simp [execOp, ho, resolve, invoke, builtin, hs, hx, Result.andThen]
  rw [hrun]
  exact h v' w' h1 h2
theorem rec_cells6 (w : World) (r : Rec) (t : TypeId) : ∀ j u, (recs [r])[j]? = some u → (w.alloc (.cells #[.int .i64 r.a, .int .i64 r.b, .int .i64 r.c, .int .i64 r.d, .int .i64 r.e] t)).cell? ((⟨w.heap.size, 0, none⟩ : Addr).add j) = some u := by
  intro j u hj
  have hj5 : j < 5 := by
    have := (List.getElem?_eq_some_iff.1 hj).1
    rw [recs_len] at this
    simpa using this
  rw [Row.add, Nat.zero_add]
  match j, hj5 with
  | 0, _ => simpa [recs, recL] using hj
  | 1, _ => simpa [recs, recL] using hj
  | 2, _ => simpa [recs, recL] using hj
  | 3, _ => simpa [recs, recL] using hj
  | 4, _ => simpa [recs, recL] using hj

set_option maxRecDepth 100000 in
set_option maxHeartbeats 2000000 in
theorem order_any (B b : Nat) (h : Sh) (s : St) (x : Inp) (w : World) (m : Mine w B b h s) (hn : s.ts.length ≤ 2000) :
    Calls Try.prog 41 #[.pointer (some ⟨b, 0, none⟩), inpV x] w fun e w' => e = .returned (.tuple #[]) ∧ Turns w B b (turnO s x) w' := by
  obtain ⟨w1, hw1, t1, hx1, hz1⟩ := x_head m x
  have s2 := t1.m.cell 2
  have hn2 := t1.m.c.n2
  have HW := Lib.hid hw1
  have HT1 := Lib.hid t1
  have HN := Lib.hid hn
  have hltb' := t1.m.lt
  have hB1 := Nat.le_of_lt t1.m.base
  obtain ⟨t, a1, n1, c1, a2, n2, c2, a3, n3, c3⟩ := h
  obtain ⟨xk, xa, xb, xc⟩ := x
  obtain ⟨x0, x1, x2, x3⟩ := hx1
  simp only [] at x0 x1 x2 x3 hn2
  simp at s2
  have HN2 := Lib.hid hn2
  clear hn2
  obtain ⟨o, ho⟩ : ∃ o, o = Obj.cells #[.int .i64 xa, .int .i64 xb, .int .i64 xc, .int .i64 1, .int .i64 (-1)] 46 := ⟨_, rfl⟩
  have HO : Hid (OwnR (w1.alloc o) B 46 (.slice a2 n2 c2) s.ts) := World.ownsRow.alloc t1.m.c.ts o
  have HTA : Hid (TurnsH w B b ⟨t, a1, n1, c1, a2, n2, c2, a3, n3, c3⟩ s (w1.alloc o)) := t1.trans (.calls t1.m ((Below.refl _ _).alloc (Nat.le_refl _) _))
  have s2a : (w1.alloc o).cell? ⟨b, 2, none⟩ = some (.slice a2 n2 c2) := (World.cell?_alloc_lt w1 o ⟨b, 2, none⟩ hltb').trans s2
  rw [ho] at HO HTA s2a
  clear t1 hw1 m hn ho
  go_enter Try.func41, Try.ntmps41
  go_wp2_with fail
  rw [← HW.out]
  go_region_law (refine step_append_t (B := B) (out := s.ts) (l := [⟨xa, xb, xc, 1, -1⟩]) (ad := ⟨w1.heap.size, 0, none⟩) (m := 1) (c := 1) rfl (.tmp 8) (.tmp 16) rfl (by simp [Act.eval, Act.put]; rfl) (by exact OwnR.drew HO.out) (by simp [Act.eval, Act.put]) (rec_cells6 w1 ⟨xa, xb, xc, 1, -1⟩ 46) rfl (by have := HN.out; show s.ts.length + 1 ≤ 100000; omega) (by simp; omega) ?_; intro v' w' hown' hg'; obtain ⟨a', c', hs'⟩ := hown'.slice; rw [show (s.ts ++ [(⟨xa, xb, xc, 1, -1⟩ : Rec)]).length = n2 + 1 from by rw [List.length_append, HN2.out]; rfl] at hs'; subst hs'; have HP := Lib.hid (HTA.out.drew.m.putT hg' hown' (by rw [List.length_append, ← HN2.out]; rfl)); have hob := (hg'.block b (by simp; omega) (own_apart HTA.out.m.c.ts HTA.out.m.o (by decide)).symm).trans HTA.out.m.o; have d2 := cell_of_row w' b 2 _ _ (0, 0) hob; have df := frozen_of_row w' b 2 _ _ hob; simp at d2)
  all_goals
    go_wp2_with fail
    go_end0
    refine ⟨rfl, ?_⟩
    first | exact Turns.trans HTA.out.drew.t HP.out | (trace_state; fail)
end Go.Proofs.Ytlfgdalpaacccaa.Vm
