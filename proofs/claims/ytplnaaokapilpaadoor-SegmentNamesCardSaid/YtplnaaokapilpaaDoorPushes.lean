/- What an append of one robot, task or int to those that a call owns leaves; a state in memory of the call's own, where another block is turned. No function of the program is named here. A record in memory of the call's own, and what an append to one of its slices leaves. No function of the program is named here. -/
import Derived.Test.YtplnaaokapilpaaDoorRefCods
import Derived.Test.YtplnaaokapilpaaDoorStWords
import Derived.Test.YtplnaaokapilpaaDoorOwnRs
import Derived.Test.YtplnaaokapilpaaDoorStCopies
import Derived.Test.YtplnaaokapilpaaDoorAppendZ
import Derived.Test.YtplnaaokapilpaaDoorCodWords
namespace Go.Proofs.YtplnaaokapilpaaDoor.Vm
open Go Go.RowKit

theorem rowZ_lit (w : World) (l : List Int) (t : TypeId) (hl : l.length ≤ 1000) : RowZ .i64 (w.alloc (.cells ⟨intsZ l⟩ t)) (w.heap.size + 1) (some ⟨w.heap.size, 0, none⟩) l.length l.length l := by
  refine ⟨rfl, Nat.le_refl _, by unfold maxLen; omega, fun _ => ⟨w.heap.size, 0, rfl, by omega, fun i hi => ?_⟩⟩
  have : (w.alloc (.cells ⟨intsZ l⟩ t)).cell? ⟨w.heap.size, 0 + i, none⟩ = (intsZ l)[i]? := by simp
  rw [this]
  simp [intsZ, List.getD, hi]

/-- An int laid behind those that the call owns. -/
theorem append_bli {A : World} {B : Nat} {v : Value} {out : List Int} (hown : OwnZ A B v out) (x : Int) (hlen : out.length ≤ 90000) (hB : B ≤ A.heap.size) :
    ∃ v' w', (Builtin.append_ #[30, 30] 30 #[v, .slice (some ⟨A.heap.size, 0, none⟩) 1 1]).run Tryd.prog (A.alloc (.cells #[.int .i64 x] 3)) = .ok v' w' ∧ OwnZ w' B v' (out ++ [x]) ∧ A.grownBy w' v.ownBlock := by
  obtain ⟨i0, hi0, hz0, hz1, hz2⟩ := info_parts info_int
  have hba : Below A.heap.size A (A.alloc (.cells #[.int .i64 x] 3)) := (Below.refl _ _).alloc (Nat.le_refl _) _
  obtain ⟨v', w', hrun, hown', hg, _⟩ := run_append_own (P := Tryd.prog) (A.alloc (.cells #[.int .i64 x] 3)) B 30 30 3 i0 (.int .i64 0) 1 8 Tryd.underlying30 hi0 hz0 hz1 hz2 rfl (by decide) v out.length (intsZ out) (own_upto hown hba (fun k hk => (World.ownsRow.lt hown k hk).2)) ⟨A.heap.size, 0, none⟩ 1 1 (intsZ [x]) (by simp [intsZ]) (cells_rowZ (rowZ_lit A [x] 3 (by simp)))
    (fun u hu => by obtain ⟨_, _, rfl⟩ := List.mem_map.1 hu; rfl) (by unfold maxLen; omega) (by omega) (by have := hba.size; omega)
  refine ⟨v', w', hrun, ?_, ⟨hg.os.trans hba.os, hg.tape.trans hba.tape, hg.output.trans hba.output, Nat.le_trans hba.size hg.size, fun k hk hne => (hg.block k (Nat.lt_of_lt_of_le hk hba.size) hne).trans (hba.block k hk)⟩⟩
  unfold OwnZ
  rw [List.length_append]
  simpa [intsZ] using hown'
theorem OwnZ.slice {w : World} {B : Nat} {v : Value} {l : List Int} (h : OwnZ w B v l) : ∃ a c, v = .slice a l.length c := by
  obtain ⟨a, c, rfl, _⟩ := h.row
  exact ⟨a, c, rfl⟩
/-- A call of a function with a body as one step of a region that draws its order, by its contract. -/
theorem step_call_one {ops : Array Oper} {o : Oper} {a : Act} {w : World} {K : Act → World → Prop} {Q : Exit → Act → World → Prop} {E : Prop} (hgd : o.guard = none) (x : Operand) (f : FuncId) (tys : Array TypeId)
    (ho : o.op = .call { callee := .value (.func f), args := #[x], argTypes := tys }) {fn : Func} (hf : Tryd.prog.funcs[f]? = some fn) (hname : (fn.name == "runtime.NumGoroutine") = false) (hbody : fn.body.isNone = false)
    {v : Value} (hx : a.eval x = v) {post : Ending → World → Prop} (hc : Calls Tryd.prog f #[v] w post)
    (h : ∀ e w', post e w' → ∃ u, e = .returned u ∧ K (a.put o.dst u) w') :
    if Region.wanted o (yielded ops a.tmps) = true then Oper.wp Tryd.prog o a w K Q else E := by
  have hw : Region.wanted o (yielded ops a.tmps) = true := by simp [Region.wanted, hgd]
  rw [if_pos hw]
  have hrun : (callFunc f #[v]).run Tryd.prog w = .ok (.enter f #[v]) w := by
    have hn' : fn.name ≠ "runtime.NumGoroutine" := by simpa using hname
    have hb' : fn.body ≠ none := fun e => by rw [e] at hbody; simp at hbody
    simp [callFunc, hf, hn', hb', go_sem]
  unfold Oper.wp
  have he : (execOp a.eval o).run Tryd.prog w = .ok (.enter f #[v]) w := by
    have hfe : a.eval (.func f) = .func (.func f) #[] #[] := rfl
    simp [execOp, ho, resolve, invoke, hx, hfe, Result.andThen, Deferred.ofValue, hrun]
  rw [he]
  refine hc.mono fun e w' hp => ?_
  obtain ⟨u, rfl, hk⟩ := h e w' hp
  exact hk
/-- An append whose run is known, as such a step. -/
theorem step_append_of {ops : Array Oper} {o : Oper} {a : Act} {w : World} {K : Act → World → Prop} {Q : Exit → Act → World → Prop} {E : Prop} (hgd : o.guard = none) (s x : Operand) (t : TypeId)
    (ho : o.op = .call { callee := .builtin .append, args := #[s, x], argTypes := #[t, t] }) {vs vx v' : Value} {w' : World} (hs : a.eval s = vs) (hx : a.eval x = vx)
    (hrun : (Builtin.append_ #[t, t] o.type #[vs, vx]).run Tryd.prog w = .ok v' w') (h : K (a.put o.dst v') w') :
    if Region.wanted o (yielded ops a.tmps) = true then Oper.wp Tryd.prog o a w K Q else E := by
  have hw : Region.wanted o (yielded ops a.tmps) = true := by simp [Region.wanted, hgd]
  rw [if_pos hw]
  unfold Oper.wp
  simp [execOp, ho, resolve, invoke, builtin, hs, hx, hrun, Result.andThen]
  exact h
/-- The same, where the call may panic. -/
theorem step_call_two {ops : Array Oper} {o : Oper} {a : Act} {w : World} {K : Act → World → Prop} {Q : Exit → Act → World → Prop} {E : Prop} (hgd : o.guard = none) (x : Operand) (f : FuncId) (tys : Array TypeId)
    (ho : o.op = .call { callee := .value (.func f), args := #[x], argTypes := tys }) {fn : Func} (hf : Tryd.prog.funcs[f]? = some fn) (hname : (fn.name == "runtime.NumGoroutine") = false) (hbody : fn.body.isNone = false)
    {v : Value} (hx : a.eval x = v) {post : Ending → World → Prop} (hc : Calls Tryd.prog f #[v] w post) {g : List PanicEntry → World → Prop} (hq : ∀ l w', g l w' → Q (.panic l) a w')
    (h : ∀ e w', post e w' → (∃ l, e = .panicked l ∧ g l w') ∨ ∃ u, e = .returned u ∧ K (a.put o.dst u) w') :
    if Region.wanted o (yielded ops a.tmps) = true then Oper.wp Tryd.prog o a w K Q else E := by
  have hw : Region.wanted o (yielded ops a.tmps) = true := by simp [Region.wanted, hgd]
  rw [if_pos hw]
  have hrun : (callFunc f #[v]).run Tryd.prog w = .ok (.enter f #[v]) w := by
    have hn' : fn.name ≠ "runtime.NumGoroutine" := by simpa using hname
    have hb' : fn.body ≠ none := fun e => by rw [e] at hbody; simp at hbody
    simp [callFunc, hf, hn', hb', go_sem]
  unfold Oper.wp
  have he : (execOp a.eval o).run Tryd.prog w = .ok (.enter f #[v]) w := by
    have hfe : a.eval (.func f) = .func (.func f) #[] #[] := rfl
    simp [execOp, ho, resolve, invoke, hx, hfe, Result.andThen, Deferred.ofValue, hrun]
  rw [he]
  refine hc.mono fun e w' hp => ?_
  rcases h e w' hp with ⟨l, rfl, hg⟩ | ⟨u, rfl, hk⟩
  · exact hq l w' hg
  · exact hk
/-- The same, of two arguments. -/
theorem step_call_twob {ops : Array Oper} {o : Oper} {a : Act} {w : World} {K : Act → World → Prop} {Q : Exit → Act → World → Prop} {E : Prop} (hgd : o.guard = none) (x y : Operand) (f : FuncId) (tys : Array TypeId)
    (ho : o.op = .call { callee := .value (.func f), args := #[x, y], argTypes := tys }) {fn : Func} (hf : Tryd.prog.funcs[f]? = some fn) (hname : (fn.name == "runtime.NumGoroutine") = false) (hbody : fn.body.isNone = false)
    {v u0 : Value} (hx : a.eval x = v) (hy : a.eval y = u0) {post : Ending → World → Prop} (hc : Calls Tryd.prog f #[v, u0] w post) {g : List PanicEntry → World → Prop} (hq : ∀ l w', g l w' → Q (.panic l) a w')
    (h : ∀ e w', post e w' → (∃ l, e = .panicked l ∧ g l w') ∨ ∃ u, e = .returned u ∧ K (a.put o.dst u) w') :
    if Region.wanted o (yielded ops a.tmps) = true then Oper.wp Tryd.prog o a w K Q else E := by
  have hw : Region.wanted o (yielded ops a.tmps) = true := by simp [Region.wanted, hgd]
  rw [if_pos hw]
  have hrun : (callFunc f #[v, u0]).run Tryd.prog w = .ok (.enter f #[v, u0]) w := by
    have hn' : fn.name ≠ "runtime.NumGoroutine" := by simpa using hname
    have hb' : fn.body ≠ none := fun e => by rw [e] at hbody; simp at hbody
    simp [callFunc, hf, hn', hb', go_sem]
  unfold Oper.wp
  have he : (execOp a.eval o).run Tryd.prog w = .ok (.enter f #[v, u0]) w := by
    have hfe : a.eval (.func f) = .func (.func f) #[] #[] := rfl
    simp [execOp, ho, resolve, invoke, hx, hy, hfe, Result.andThen, Deferred.ofValue, hrun]
  rw [he]
  refine hc.mono fun e w' hp => ?_
  rcases h e w' hp with ⟨l, rfl, hg⟩ | ⟨u, rfl, hk⟩
  · exact hq l w' hg
  · exact hk
end Go.Proofs.YtplnaaokapilpaaDoor.Vm

namespace Go.Proofs.YtplnaaokapilpaaDoor.Vm
open Go Go.RowKit

theorem info_input7 : (Tryd.prog.info? 89).map (fun i => (i.zero, i.size, i.bytes)) = some (some (.agg #[.int .i64 0, .int .i64 0, .int .i64 0, .int .i64 0]), 4, 32) := by kernel_rfl
theorem info_errno7 : (Tryd.prog.info? 34).map (fun i => (i.zero, i.size, i.bytes)) = some (some (.int .i64 0), 1, 8) := by kernel_rfl
def inpL (x : Inp) : List Value := [.int .i64 x.k, .int .i64 x.a, .int .i64 x.b, .int .i64 x.c]
def inps (l : List Inp) : List Value := l.flatMap inpL
theorem inps_len : ∀ l : List Inp, (inps l).length = l.length * 4
  | [] => rfl
  | x :: q => by
    have h := inps_len q
    unfold inps at h ⊢
    rw [List.flatMap_cons, List.length_append, h]
    simp [inpL]
    omega
theorem inps_append (a b : List Inp) : inps (a ++ b) = inps a ++ inps b := by simp [inps]
theorem inps_one (l : List Inp) : ∀ u ∈ inps l, u.oneCell' = true := by
  intro u hu
  obtain ⟨r, _, hr⟩ := List.mem_flatMap.1 hu
  simp [inpL] at hr
  rcases hr with rfl | rfl | rfl | rfl <;> rfl
theorem inps_get : ∀ (l : List Inp) (j : Nat), (inps l)[j]? = (l[j / 4]?).bind fun r => (inpL r)[j % 4]?
  | [], j => by simp [inps]
  | r :: t, j => by
    have ih := inps_get t (j - 4)
    unfold inps at ih ⊢
    rw [List.flatMap_cons]
    by_cases h : j < 4
    · rw [List.getElem?_append_left (by simpa [inpL] using h), Nat.div_eq_of_lt h, Nat.mod_eq_of_lt h]
      rfl
    · rw [List.getElem?_append_right (by simp [inpL]; omega), show (inpL r).length = 4 from rfl, ih, show j / 4 = (j - 4) / 4 + 1 by omega, show j % 4 = (j - 4) % 4 by omega]
      rfl
/-- The call owns these inputs; these errors. -/
def OwnX (w : World) (B : Nat) (v : Value) (l : List Inp) : Prop := w.ownsRow B 89 4 v l.length (inps l)
def OwnEr (w : World) (B : Nat) (v : Value) (l : List Int) : Prop := w.ownsRow B 34 1 v l.length (intsZ l)
theorem own_is_slice {w : World} {B size n : Nat} {e : TypeId} {v : Value} {xs : List Value} (h : w.ownsRow B e size v n xs) : ∃ a c, v = .slice a n c := by
  rcases h.2 with ⟨rfl, hn⟩ | ⟨g, cap, cur, rfl, _⟩
  · rw [hn]; exact ⟨_, _, rfl⟩
  · exact ⟨_, _, rfl⟩
theorem OwnX.row {w : World} {B : Nat} {a : Option Addr} {n c : Nat} {l : List Inp} (h : OwnX w B (.slice a n c) l) : RowI w w.heap.size a n c l := by
  rcases h.2 with ⟨hv, hn⟩ | ⟨g, cap, cur, hv, hb, hg, hnc, hm, hcs, htk⟩
  · injection hv with h1 h2 h3
    subst h1 h2 h3
    obtain rfl := List.eq_nil_of_length_eq_zero hn
    exact ⟨rfl, Nat.le_refl _, by simp [maxLen], fun h => absurd h (by omega)⟩
  · injection hv with h1 h2 h3
    subst h1 h2 h3
    have hc := World.ownsRow.cells h (g := g) rfl
    refine ⟨rfl, hnc, hm, fun _ => ⟨g, 0, rfl, (Array.getElem?_eq_some_iff.1 hg).1, fun i hi => ?_⟩⟩
    have h4 : ∀ k, k < 4 → ∀ u, (inpL (l.getD i zx))[k]? = some u → w.cell? ⟨g, i * 4 + k, none⟩ = some u := fun k hk u hu => by
      have := hc (i * 4 + k) u (by
        rw [inps_get, show (i * 4 + k) / 4 = i by omega, show (i * 4 + k) % 4 = k by omega]
        simpa [List.getD, hi] using hu)
      rwa [Row.add, Nat.zero_add] at this
    rw [Nat.zero_add]
    exact ⟨h4 0 (by omega) _ rfl, h4 1 (by omega) _ rfl, h4 2 (by omega) _ rfl, h4 3 (by omega) _ rfl⟩
theorem OwnEr.row {w : World} {B : Nat} {a : Option Addr} {n c : Nat} {l : List Int} (h : OwnEr w B (.slice a n c) l) : RowZ .i64 w w.heap.size a n c l := by
  rcases h.2 with ⟨hv, hn⟩ | ⟨g, cap, cur, hv, hb, hg, hnc, hm, hcs, htk⟩
  · injection hv with h1 h2 h3
    subst h1 h2 h3
    obtain rfl := List.eq_nil_of_length_eq_zero hn
    exact ⟨rfl, Nat.le_refl _, by simp [maxLen], fun h => absurd h (by omega)⟩
  · injection hv with h1 h2 h3
    subst h1 h2 h3
    refine ⟨rfl, hnc, hm, fun _ => ⟨g, 0, rfl, (Array.getElem?_eq_some_iff.1 hg).1, fun i hi => ?_⟩⟩
    have := World.ownsRow.cells h (g := g) rfl i (.int .i64 (l.getD i 0)) (by simp [intsZ, List.getD, hi])
    rwa [Row.add] at this
/-- A record in memory of the call's own. -/
structure RCopy (w : World) (B : Nat) (h : Rh) (x : Rcd) : Prop where
  tick : h.t = x.tick
  ins : OwnX w B (.slice h.a1 h.n1 h.c1) x.ins
  cs : OwnEr w B (.slice h.a2 h.n2 h.c2) x.cs
  ws : OwnZ w B (.slice h.a3 h.n3 h.c3) x.ws
  ck : h.k = x.ck
theorem RCopy.calls {w w' : World} {B : Nat} {h : Rh} {x : Rcd} (c : RCopy w B h x) (hb : Below w.heap.size w w') : RCopy w' B h x :=
  ⟨c.tick, own_upto c.ins hb (fun k hk => (World.ownsRow.lt c.ins k hk).2), own_upto c.cs hb (fun k hk => (World.ownsRow.lt c.cs k hk).2), own_upto c.ws hb (fun k hk => (World.ownsRow.lt c.ws k hk).2), c.ck⟩
theorem RCopy.rhIn {w : World} {B : Nat} {h : Rh} {x : Rcd} (c : RCopy w B h x) : RhIn w w.heap.size h x := ⟨c.tick, c.ins.row, c.cs.row, c.ws.rowZ, c.ck⟩
theorem RCopy.mono {w : World} {B B' : Nat} {h : Rh} {x : Rcd} (c : RCopy w B h x) (hB : B' ≤ B) : RCopy w B' h x := by
  have mn : ∀ {e : TypeId} {size m : Nat} {u : Value} {xs : List Value}, w.ownsRow B e size u m xs → w.ownsRow B' e size u m xs := fun h => by
    refine ⟨h.1, ?_⟩
    rcases h.2 with h2 | ⟨g, cap, cur, hv, hb, r⟩
    · exact .inl h2
    · exact .inr ⟨g, cap, cur, hv, Nat.le_trans hB hb, r⟩
  exact ⟨c.tick, mn c.ins, mn c.cs, mn c.ws, c.ck⟩
theorem RCopy.turned {w w' : World} {B bt : Nat} {cs : Array Value} {t : TypeId} {h : Rh} {x : Rcd} (c : RCopy w B h x) (hk : BoxAt w bt cs t) (hb : But bt w w') (h1 : 89 ≠ t) (h2 : 34 ≠ t) (h3 : 3 ≠ t) : RCopy w' B h x :=
  ⟨c.tick, World.ownsRow.kept c.ins hb (.inr (own_apart c.ins hk h1)), World.ownsRow.kept c.cs hb (.inr (own_apart c.cs hk h2)), World.ownsRow.kept c.ws hb (.inr (own_apart c.ws hk h3)), c.ck⟩

theorem append_inp {A : World} {B : Nat} {v : Value} {out : List Inp} (hown : OwnX A B v out) (x : Inp) (hlen : out.length ≤ 200000) (hB : B ≤ A.heap.size) :
    ∃ v' w', (Builtin.append_ #[40, 40] 40 #[v, .slice (some ⟨A.heap.size, 0, none⟩) 1 1]).run Tryd.prog (A.alloc (.cells #[.int .i64 x.k, .int .i64 x.a, .int .i64 x.b, .int .i64 x.c] 89)) = .ok v' w' ∧ OwnX w' B v' (out ++ [x]) ∧ A.grownBy w' v.ownBlock := by
  obtain ⟨i0, hi0, hz0, hz1, hz2⟩ := info_parts info_input7
  have hba : Below A.heap.size A (A.alloc (.cells #[.int .i64 x.k, .int .i64 x.a, .int .i64 x.b, .int .i64 x.c] 89)) := (Below.refl _ _).alloc (Nat.le_refl _) _
  have hc : ∀ j u, (inps [x])[j]? = some u → (A.alloc (.cells #[.int .i64 x.k, .int .i64 x.a, .int .i64 x.b, .int .i64 x.c] 89)).cell? ((⟨A.heap.size, 0, none⟩ : Addr).add j) = some u := by
    intro j u hj
    have hjn : j < 4 := by
      have := (List.getElem?_eq_some_iff.1 hj).1
      rw [inps_len] at this
      simpa using this
    rw [Row.add, Nat.zero_add]
    match j, hjn with
    | 0, _ => simpa [inps, inpL] using hj
    | 1, _ => simpa [inps, inpL] using hj
    | 2, _ => simpa [inps, inpL] using hj
    | 3, _ => simpa [inps, inpL] using hj
  obtain ⟨v', w', hrun, hown', hg, _⟩ := run_append_own (P := Tryd.prog) (A.alloc (.cells #[.int .i64 x.k, .int .i64 x.a, .int .i64 x.b, .int .i64 x.c] 89)) B 40 40 89 i0 (.agg #[.int .i64 0, .int .i64 0, .int .i64 0, .int .i64 0]) 4 32 Tryd.underlying40 hi0 hz0 hz1 hz2 rfl (by decide) v out.length (inps out) (own_upto hown hba (fun k hk => (World.ownsRow.lt hown k hk).2)) ⟨A.heap.size, 0, none⟩ 1 1 (inps [x]) (by rw [inps_len]; rfl) hc
    (inps_one [x]) (by unfold maxLen; omega) (by omega) (by have := hba.size; omega)
  refine ⟨v', w', hrun, ?_, ⟨hg.os.trans hba.os, hg.tape.trans hba.tape, hg.output.trans hba.output, Nat.le_trans hba.size hg.size, fun k hk hne => (hg.block k (Nat.lt_of_lt_of_le hk hba.size) hne).trans (hba.block k hk)⟩⟩
  unfold OwnX
  rw [List.length_append]
  have h1 := hown'
  rw [← inps_append] at h1
  exact h1

theorem append_err {A : World} {B : Nat} {v : Value} {out : List Int} (hown : OwnEr A B v out) (x : Int) (hlen : out.length ≤ 200000) (hB : B ≤ A.heap.size) :
    ∃ v' w', (Builtin.append_ #[41, 41] 41 #[v, .slice (some ⟨A.heap.size, 0, none⟩) 1 1]).run Tryd.prog (A.alloc (.cells #[.int .i64 x] 34)) = .ok v' w' ∧ OwnEr w' B v' (out ++ [x]) ∧ A.grownBy w' v.ownBlock := by
  obtain ⟨i0, hi0, hz0, hz1, hz2⟩ := info_parts info_errno7
  have hba : Below A.heap.size A (A.alloc (.cells #[.int .i64 x] 34)) := (Below.refl _ _).alloc (Nat.le_refl _) _
  have hc : ∀ j u, (intsZ [x])[j]? = some u → (A.alloc (.cells #[.int .i64 x] 34)).cell? ((⟨A.heap.size, 0, none⟩ : Addr).add j) = some u := by
    intro j u hj
    have hjn : j < 1 := by
      have := (List.getElem?_eq_some_iff.1 hj).1
      rw [intsZ_len] at this
      simpa using this
    rw [Row.add, Nat.zero_add]
    match j, hjn with
    | 0, _ => simpa [intsZ] using hj
  obtain ⟨v', w', hrun, hown', hg, _⟩ := run_append_own (P := Tryd.prog) (A.alloc (.cells #[.int .i64 x] 34)) B 41 41 34 i0 (.int .i64 0) 1 8 Tryd.underlying41 hi0 hz0 hz1 hz2 rfl (by decide) v out.length (intsZ out) (own_upto hown hba (fun k hk => (World.ownsRow.lt hown k hk).2)) ⟨A.heap.size, 0, none⟩ 1 1 (intsZ [x]) (by rw [intsZ_len]; rfl) hc
    (fun u hu => by obtain ⟨_, _, rfl⟩ := List.mem_map.1 hu; rfl) (by unfold maxLen; omega) (by omega) (by have := hba.size; omega)
  refine ⟨v', w', hrun, ?_, ⟨hg.os.trans hba.os, hg.tape.trans hba.tape, hg.output.trans hba.output, Nat.le_trans hba.size hg.size, fun k hk hne => (hg.block k (Nat.lt_of_lt_of_le hk hba.size) hne).trans (hba.block k hk)⟩⟩
  unfold OwnEr
  rw [List.length_append]
  have h1 := hown'
  rw [show intsZ out ++ intsZ [x] = intsZ (out ++ [x]) by simp [intsZ]] at h1
  exact h1

theorem append_way {A : World} {B : Nat} {v : Value} {out : List Int} (hown : OwnZ A B v out) (x : Int) (hlen : out.length ≤ 200000) (hB : B ≤ A.heap.size) :
    ∃ v' w', (Builtin.append_ #[30, 30] 30 #[v, .slice (some ⟨A.heap.size, 0, none⟩) 1 1]).run Tryd.prog (A.alloc (.cells #[.int .i64 x] 3)) = .ok v' w' ∧ OwnZ w' B v' (out ++ [x]) ∧ A.grownBy w' v.ownBlock := by
  obtain ⟨i0, hi0, hz0, hz1, hz2⟩ := info_parts info_int
  have hba : Below A.heap.size A (A.alloc (.cells #[.int .i64 x] 3)) := (Below.refl _ _).alloc (Nat.le_refl _) _
  have hc : ∀ j u, (intsZ [x])[j]? = some u → (A.alloc (.cells #[.int .i64 x] 3)).cell? ((⟨A.heap.size, 0, none⟩ : Addr).add j) = some u := by
    intro j u hj
    have hjn : j < 1 := by
      have := (List.getElem?_eq_some_iff.1 hj).1
      rw [intsZ_len] at this
      simpa using this
    rw [Row.add, Nat.zero_add]
    match j, hjn with
    | 0, _ => simpa [intsZ] using hj
  obtain ⟨v', w', hrun, hown', hg, _⟩ := run_append_own (P := Tryd.prog) (A.alloc (.cells #[.int .i64 x] 3)) B 30 30 3 i0 (.int .i64 0) 1 8 Tryd.underlying30 hi0 hz0 hz1 hz2 rfl (by decide) v out.length (intsZ out) (own_upto hown hba (fun k hk => (World.ownsRow.lt hown k hk).2)) ⟨A.heap.size, 0, none⟩ 1 1 (intsZ [x]) (by rw [intsZ_len]; rfl) hc
    (fun u hu => by obtain ⟨_, _, rfl⟩ := List.mem_map.1 hu; rfl) (by unfold maxLen; omega) (by omega) (by have := hba.size; omega)
  refine ⟨v', w', hrun, ?_, ⟨hg.os.trans hba.os, hg.tape.trans hba.tape, hg.output.trans hba.output, Nat.le_trans hba.size hg.size, fun k hk hne => (hg.block k (Nat.lt_of_lt_of_le hk hba.size) hne).trans (hba.block k hk)⟩⟩
  unfold OwnZ
  rw [List.length_append]
  have h1 := hown'
  rw [show intsZ out ++ intsZ [x] = intsZ (out ++ [x]) by simp [intsZ]] at h1
  exact h1
end Go.Proofs.YtplnaaokapilpaaDoor.Vm
