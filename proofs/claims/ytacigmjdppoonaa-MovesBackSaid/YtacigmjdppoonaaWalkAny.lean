/- The contract of the program's Walk. -/
import Derived.Test.YtacigmjdppoonaaWalks
namespace Go.Proofs.Ytacigmjdppoonaa.Vm
open Go Go.RowKit
set_option maxRecDepth 100000
attribute [local go_sem] Oper.semAt_some

theorem info_row2 : (Try.prog.info? 27).map (fun i => (i.zero, i.size, i.bytes)) = some (some (.slice none 0 0), 1, 24) := info_row
theorem mWalk_head (w : World) (W H : Int) (g : ByteArray) (N : Nat) (hN : N ≤ 1000000) (O : Obj) (hO : O = .cells ⟨List.replicate N (.slice none 0 0)⟩ 27) : ∃ w6, w6 = ((((((w.alloc (gridO W H g)).alloc (.cells #[.slice none 0 0] 24)).alloc (.cells #[.int .i64 0] 28)).alloc O)).alloc (.cells #[.slice (some ⟨w.heap.size + 3, 0, none⟩) 0 N] 24)) ∧
    Below w.heap.size w w6 ∧ w6.heap.size = w.heap.size + 5 ∧ GridAt w6 w.heap.size W H g ∧ (∀ r, WkI w (w.heap.size + 1) N r [] w6) := by
  subst hO
  refine ⟨_, rfl, ?_, by simp, ?_, fun r => ?_⟩
  · exact (((((Below.refl _ _).alloc (Nat.le_refl _) _).alloc (by simp) _).alloc (by simp; omega) _).alloc (by simp; omega) _).alloc (by simp; omega) _
  · exact (gridAt_new w W H g).below (B := w.heap.size + 1) (((((Below.refl _ _).alloc (by simp) _).alloc (by simp) _).alloc (by simp; try omega) _).alloc (by simp; try omega) _) (by simp)
  · have hn : ∀ (u : World) (o : Obj) (k : Nat), k = u.heap.size → (u.alloc o).heap[k]? = some o := fun u o k hk => heap_new u o hk
    have ho : ∀ (u : World) (o : Obj) (k : Nat) (x : Obj), u.heap[k]? = some x → (u.alloc o).heap[k]? = some x := fun u o k x h => (Below.heap_alloc u o k (Array.getElem?_eq_some_iff.1 h).1).trans h
    refine ⟨?_, ?_, ?_, ?_, (fun x hx => (by cases hx)), ?_⟩
    · exact ho _ _ _ _ (ho _ _ _ _ (ho _ _ _ _ (hn _ _ _ (by simp))))
    · exact ho _ _ _ _ (ho _ _ _ _ (hn _ _ _ (by simp)))
    · exact hn _ _ _ (by simp)
    · refine World.ownsRow.alloc ⟨rfl, .inr ⟨w.heap.size + 1 + 2, N, _, rfl, by omega, hn _ _ _ (by simp), Nat.zero_le _, by unfold maxLen; omega, by simp, rfl⟩⟩ _
    · exact (((((Below.refl _ _).alloc (Nat.le_refl _) _).alloc (by simp) _).alloc (by simp; omega) _).alloc (by simp; omega) _).alloc (by simp; omega) _

theorem set_cells {w : World} {k i : Nat} {cs : Array Value} {t : TypeId} {fr : Nat × Nat} (h : w.heap[k]? = some (.cells cs t fr)) (v : Value) : (w.setCell ⟨k, i, none⟩ v).heap[k]? = some (.cells (cs.set! i v) t fr) := by
  simp only [World.setCell, Array.getElem?_modify, if_true, h, Option.map_some]
  rfl
theorem set_other {w : World} {k i k' : Nat} {o : Obj} (h : w.heap[k']? = some o) (hne : k' ≠ k) (v : Value) : (w.setCell ⟨k, i, none⟩ v).heap[k']? = some o := (Below.heap_setCell w ⟨k, i, none⟩ v k' hne).trans h
theorem WkI.push {w V w2 : World} {b6 N : Nat} {r : Option Nat} {pre : List El} {x : El} {o : Obj} (h : WkI w b6 N r pre V) (hx : OwnZ V w.heap.size x.v x.l ∧ x.l.length = x.n ∧ (x.v.ownBlock = none ∨ x.v.ownBlock ≠ r)) (hb : w.heap.size ≤ b6)
    (hown : w2.ownsRow w.heap.size 27 1 (.slice (some ⟨b6 + 2, 0, none⟩) (pre.length + 1) N) (pre.length + 1) (pre.map El.v ++ [x.v])) (hg : (V.alloc o).grownBy w2 (some (b6 + 2))) :
    WkI w b6 N r (pre ++ [x]) (w2.setCell ⟨b6 + 3, 0, none⟩ (.slice (some ⟨b6 + 2, 0, none⟩) (pre.length + 1) N)) ∧ TameL w.heap.size (b6 + 4) V (w2.setCell ⟨b6 + 3, 0, none⟩ (.slice (some ⟨b6 + 2, 0, none⟩) (pre.length + 1) N)) := by
  have up : ∀ (k : Nat) (x : Obj), V.heap[k]? = some x → k ≠ b6 + 2 → w2.heap[k]? = some x := fun k x hk hne =>
    (hg.block k (by have := heap_lt hk; simp; omega) (fun e => hne (by injection e))).trans ((Below.heap_alloc V o k (heap_lt hk)).trans hk)
  have c8 := up _ _ h.c8 (by omega)
  have el : ∀ y : El, OwnZ V w.heap.size y.v y.l → OwnZ (w2.setCell ⟨b6 + 3, 0, none⟩ (.slice (some ⟨b6 + 2, 0, none⟩) (pre.length + 1) N)) w.heap.size y.v y.l := fun y hy => by
    have h1 : OwnZ w2 w.heap.size y.v y.l := World.ownsRow.kept (World.ownsRow.alloc hy o) hg (by
      rcases own_own h.own hy (by decide) with e | e
      · exact .inl e
      · exact .inr e)
    exact World.ownsRow.kept h1 (grow_set w2 (b6 + 3) 0 _) (.inr (own_apart h1 c8 (by decide)))
  have hlen : (pre ++ [x]).length = pre.length + 1 := by simp
  refine ⟨⟨set_other (up _ _ h.c6 (by omega)) (by omega) _, set_other (up _ _ h.c7 (by omega)) (by omega) _, ?_, ?_, fun y hy => ?_, ?_⟩, ?_⟩
  · rw [hlen]
    exact set_cells c8 _
  · rw [hlen, List.map_append]
    exact World.ownsRow.kept hown (grow_set w2 (b6 + 3) 0 _) (.inr (own_apart hown c8 (by decide)))
  · rcases List.mem_append.1 hy with hy | hy
    · exact ⟨el y (h.els y hy).1, (h.els y hy).2⟩
    · obtain rfl := List.mem_singleton.1 hy
      exact ⟨el y hx.1, hx.2⟩
  · exact ((h.bel.alloc h.bel.size o).grown hg (by have := h.bel.size; simp; omega) (fun q hq => by injection hq with hq; omega)).setCell (p := ⟨b6 + 3, 0, none⟩) (by show _ ≤ b6 + 3; omega) _
  · refine ((TameL.of_below ((Below.refl _ _).alloc (Nat.le_refl _) o)).grown hg (fun q hq => by injection hq with hq; omega)).setCell (p := ⟨b6 + 3, 0, none⟩) (by show _ ≤ b6 + 3; omega) (by show b6 + 3 < _; omega) _
theorem WkI.stop {w V : World} {b6 N : Nat} {r : Option Nat} {pre : List El} {x : El} (h : WkI w b6 N r pre V) (hx : x.e ≠ 0) (hb : w.heap.size ≤ b6) :
    WkX w b6 .ret r (pre ++ [x]) ((V.setCell ⟨b6, 0, none⟩ (.slice none 0 0)).setCell ⟨b6 + 1, 0, none⟩ (.int .i64 x.e)) ∧ TameL w.heap.size (b6 + 4) V ((V.setCell ⟨b6, 0, none⟩ (.slice none 0 0)).setCell ⟨b6 + 1, 0, none⟩ (.int .i64 x.e)) := by
  refine ⟨⟨rfl, pre, x, rfl, hx, set_other (set_cells h.c6 _) (by omega) _, set_cells (set_other h.c7 (by omega) _) _, ?_⟩, ?_⟩
  · exact (h.bel.setCell (p := ⟨b6, 0, none⟩) hb _).setCell (p := ⟨b6 + 1, 0, none⟩) (by show _ ≤ b6 + 1; omega) _
  · exact ((TameL.refl _ _ _).setCell (p := ⟨b6, 0, none⟩) hb (by show b6 < _; omega) _).setCell (p := ⟨b6 + 1, 0, none⟩) (by show _ ≤ b6 + 1; omega) (by show b6 + 1 < _; omega) _

theorem own_putD {V : World} {B n k : Nat} {e : TypeId} {size : Nat} {v : Value} {xs : List Value} {ds : Option (List Deferred)} {o : Obj} (h : V.ownsRow B e size v n xs) (hl : V.heap[k]? = some (.deferred ds)) : (V.putObj k o).ownsRow B e size v n xs := by
  refine ⟨h.1, ?_⟩
  rcases h.2 with h1 | ⟨g, cap, cur, hv, hg, hh, q⟩
  · exact .inl h1
  · exact .inr ⟨g, cap, cur, hv, hg, (World.putObj_heap_other (fun e => by subst e; rw [hl] at hh; cases hh)).trans hh, q⟩
/-- Behind the last round: what is handed back. -/
theorem WkI.fin {w V V2 : World} {b6 N D : Nat} {r : Option Nat} {pre : List El} (h : WkI w b6 N r pre V) (hD : V.heap[D]? = some (.deferred (some []))) (hb : w.heap.size ≤ b6) (hDD : w.heap.size ≤ D)
    (hV2 : V2 = (V.setCell ⟨b6, 0, none⟩ (.slice (some ⟨b6 + 2, 0, none⟩) pre.length N)).setCell ⟨b6 + 1, 0, none⟩ (.int .i64 0)) :
    V2.heap[D]? = some (.deferred (some [])) ∧ ∀ o, (V2.putObj D o).cell? ⟨b6, 0, none⟩ = some (.slice (some ⟨b6 + 2, 0, none⟩) pre.length N) ∧ (V2.putObj D o).cell? ⟨b6 + 1, 0, none⟩ = some (.int .i64 0) ∧ OwnQ (V2.putObj D o) w.heap.size (.slice (some ⟨b6 + 2, 0, none⟩) pre.length N) (pre.map El.l) ∧ Below w.heap.size w (V2.putObj D o) := by
  have n1 : D ≠ b6 := fun e => by rw [e, h.c6] at hD; cases hD
  have n2 : D ≠ b6 + 1 := fun e => by rw [e, h.c7] at hD; cases hD
  have d2 : V2.heap[D]? = some (.deferred (some [])) := by rw [hV2]; exact set_other (set_other hD n1 _) n2 _
  have e6 : V2.heap[b6]? = some (.cells (#[.slice none 0 0].set! 0 (.slice (some ⟨b6 + 2, 0, none⟩) pre.length N)) 24 (0, 0)) := by rw [hV2]; exact set_other (set_cells h.c6 _) (by omega) _
  have e7 : V2.heap[b6 + 1]? = some (.cells (#[.int .i64 0].set! 0 (.int .i64 0)) 28 (0, 0)) := by rw [hV2]; exact set_cells (set_other h.c7 (by omega) _) _
  have kp : ∀ {e : TypeId} {v : Value} {n : Nat} {xs : List Value}, V.ownsRow w.heap.size e 1 v n xs → e ≠ 24 → e ≠ 28 → V2.ownsRow w.heap.size e 1 v n xs := fun {e v n xs} ho h1 h2 => by
    have a1 : (V.setCell ⟨b6, 0, none⟩ (.slice (some ⟨b6 + 2, 0, none⟩) pre.length N)).ownsRow w.heap.size e 1 v n xs := World.ownsRow.kept ho (grow_set V b6 0 _) (.inr (own_apart ho h.c6 h1))
    rw [hV2]
    exact World.ownsRow.kept a1 (grow_set _ (b6 + 1) 0 _) (.inr (own_apart a1 (set_other h.c7 (by omega) _) h2))
  have bl : Below w.heap.size w V2 := by
    rw [hV2]
    exact (h.bel.setCell (p := ⟨b6, 0, none⟩) hb _).setCell (p := ⟨b6 + 1, 0, none⟩) (by show _ ≤ b6 + 1; omega) _
  refine ⟨d2, fun o => ⟨?_, ?_, ⟨pre.map El.v, ?_, fun i l hl => ?_⟩, bl.trans (below_put hDD _)⟩⟩
  · exact (World.cell?_of_block (w := V2) (World.putObj_heap_other (fun e => n1 e.symm))).trans (cell_heap e6 rfl)
  · exact (World.cell?_of_block (w := V2) (World.putObj_heap_other (fun e => n2 e.symm))).trans (cell_heap e7 rfl)
  · rw [List.length_map]
    exact own_putD (kp h.own (by decide) (by decide)) d2
  · rw [List.getElem?_map] at hl
    cases hx : pre[i]? with
    | none => rw [hx] at hl; cases hl
    | some x =>
      rw [hx] at hl
      injection hl with hl
      subst hl
      refine ⟨x.v, by rw [List.getElem?_map, hx]; rfl, own_putD (kp (h.els x (List.mem_of_getElem? hx)).1 (by decide) (by decide)) d2⟩

set_option maxHeartbeats 8000000 in
theorem mWalk_any (W H : Int) (g : ByteArray) (a al : Option Addr) (n c nl cl B : Nat) (cs : List Int) (ls : List (List Int)) (w : World) (hok : Okay W H g) (h1 : RowZ .i64 w B a n c cs) (h2 : RowL w B al nl cl ls) (hB : B ≤ w.heap.size) (hn : n ≤ 100000) (hnl : nl ≤ 100000) :
    Calls Try.prog 12 #[gridV W H g, .slice a n c, .slice al nl cl] w (WalkPost w (WalkOut W H (bytesOf g) cs ls)) := by
  obtain ⟨N, hN⟩ : ∃ N, N = nl + 1 := ⟨_, rfl⟩
  have eN : IntKind.i64.wrap ((nl : Int) + 1) = (N : Int) := by simp only [IntKind.wrap_i64]; omega
  obtain ⟨O, hO⟩ : ∃ O : Obj, O = .cells ⟨List.replicate N (.slice none 0 0)⟩ 27 := ⟨_, rfl⟩
  obtain ⟨w6, hw6, hb6, hz6, hg6, hi6⟩ := mWalk_head w W H g N (by omega) O hO
  have hmk := make_roomQ (((w.alloc (gridO W H g)).alloc (.cells #[.slice none 0 0] 24)).alloc (.cells #[.int .i64 0] 28)) N (by omega)
  rw [show (((w.alloc (gridO W H g)).alloc (.cells #[.slice none 0 0] 24)).alloc (.cells #[.int .i64 0] 28)).heap.size = w.heap.size + 3 by simp, ← hO] at hmk
  have HTK := Lib.hid (ticks_any W H g a al n c nl cl w6)
  have HR1 := Lib.hid ((h1.mono hB).below hb6)
  have HR2 := Lib.hid ((h2.mono hB).below hb6)
  have HOK := Lib.hid hok
  have HL2 := Lib.hid h2.1
  have HW6 := Lib.hid hw6
  have HB6 := Lib.hid hb6
  have HZ6 := Lib.hid hz6
  have HG6 := Lib.hid hg6
  have HI6 := Lib.hid hi6
  have HNN := Lib.hid hN
  obtain ⟨g0, g1, g2⟩ := hg6
  rw [hw6] at g0 g1 g2
  clear hw6 hb6 hz6 hi6 h1 h2 hok hN hB hO
  refine (callsIn_wide (n := 9)).1 ?_
  refine callsIn_of_wp_marks Try.func12 rfl trivial ?_ rfl
  simp only [Try.ntmps12, List.size_toArray, List.length_cons, List.length_nil, Nat.reduceAdd, Nat.reduceSub, Array.replicate_succ, Array.replicate_zero, List.push_toArray, List.append_toArray, List.nil_append, List.cons_append]
  gi_wp2_with fail
  rw [← HW6.out]
  refine ⟨trivial, (callsIn_wide.2 HTK.out).mono ?_⟩
  rintro e w7 ⟨rfl, hg7, h71, h72, hz7, hb7⟩
  rw [HZ6.out] at hg7 h71 h72 hz7
  have HB7 : Hid (Below w.heap.size w w7) := HB6.out.trans (hb7.mono HB6.out.size)
  have HZ7 : Hid (w7.heap.size = w.heap.size + 8) := by unfold Hid; omega
  have HI7 : Hid (∀ r, (∀ q, r = some q → w7.heap.size ≤ q) → WkI w (w.heap.size + 1) N r [] w7) := fun r hr => by
    refine (HI6.out r).grown (grow_calls hb7) (fun q hq => ?_) (by omega)
    have := hr q hq
    have := HZ7.out
    omega
  have HOF : Hid (OffersL Fence.wide 8 Try.prog 36 #[.pointer (some ⟨w.heap.size + 5 + 1, 0, none⟩), .pointer (some ⟨w.heap.size + 5 + 2, 0, none⟩), .pointer (some ⟨w.heap.size + 5, 0, none⟩)] elV w.heap.size (w.heap.size + 5) (OkT W H (bytesOf g) w.heap.size cs ls) BadT (AllT W H (bytesOf g) cs ls) (SomeT W H (bytesOf g) cs ls) w7) := fun l J Jx V hV hJ hJx hY h0 => by
    have hsV := hV.size
    have hz7' := HZ7.out
    exact iterT_any W H g 8 (by omega) l _ _ _ w.heap.size (w.heap.size + 5) w7.heap.size w.heap.size a al n c nl cl cs ls V HOK.out (by omega) (by omega) hsV (by omega) (by omega)
      ((hV.cell (p := ⟨w.heap.size + 5 + 1, 0, none⟩) (by show w.heap.size + 5 + 1 < _; omega)).trans h71) ((hV.cell (p := ⟨w.heap.size + 5 + 2, 0, none⟩) (by show w.heap.size + 5 + 2 < _; omega)).trans h72) (hg7.below hV (by omega))
      ((HR1.out.below (hb7.mono (by have := HZ6.out; omega))).below (hV.mono (by omega))) ((HR2.out.below (hb7.mono (by have := HZ6.out; omega))).below (hV.mono (by omega))) hn hnl (by omega) J Jx hJ hJx hY h0
  rw [← HZ6.out] at HOF
  clear hg7 h71 h72 hz7 hb7 g0 g1 g2 hmk
  gi_wp2_with fail
  refine roundsL_set rfl (by omega) (gf := 36) (lb := #[.pointer (some ⟨w6.heap.size + 1, 0, none⟩), .pointer (some ⟨w6.heap.size + 2, 0, none⟩), .pointer (some ⟨w6.heap.size, 0, none⟩)]) rfl trivial (by intro args w; rfl) HOF.out (by have := HZ7.out; have := HZ6.out; omega) (fun _ => rfl)
    (fun r pre V => WkI w (w.heap.size + 1) N r pre V) (fun cd r pre V => WkX w (w.heap.size + 1) cd r pre V)
    (fun r s A A' hr h hg => h.grown hg (fun q hq => by have := hr q hq; have := HZ7.out; omega) (by omega)) (fun cd r s A A' hr h hg => h.grown hg (fun q hq => by have := hr q hq; have := HZ7.out; omega) (by omega))
    (fun r s A k x y hk h hl => h.put (by have := HZ7.out; omega) hl) (fun cd r s A k x y hk h hl => h.put (by have := HZ7.out; omega) hl) (fun r s A k x y hk h hl => h.put hl)
    HI7.out (fun x => [(19, x.v), (20, .int .i64 x.e), (9, x.v), (10, .int .i64 x.e)]) ?assign ?body ?done ?stop
  case assign =>
    intro l x V K hK
    obtain ⟨xa, xn, xc, xe, xl⟩ := x
    simp only [setAll, List.setIfInBounds_toArray, List.set_cons_succ, List.set_cons_zero, El.v] at hK
    simp only [elV, El.v]
    gi_wp2
    exact hK
  case body =>
    intro l r pre x V hr hI hOk
    have hlen : pre.length < N := by
      have h1 := hOk.1.len
      rw [List.map_append, List.length_append, List.length_map, HL2.out] at h1
      have := HNN.out
      simp at h1
      omega
    have hox := hOk.2 pre x rfl
    have c8 : V.cell? ⟨w.heap.size + 1 + 1 + 1 + 1, 0, none⟩ = some (.slice (some ⟨w.heap.size + 1 + 2, 0, none⟩) pre.length N) := cell_heap hI.c8 rfl
    have c6 : V.cell? ⟨w.heap.size + 1, 0, none⟩ = some (.slice none 0 0) := cell_heap hI.c6 rfl
    have c7 : V.cell? ⟨w.heap.size + 1 + 1, 0, none⟩ = some (.int .i64 0) := cell_heap hI.c7 rfl
    have f6 : V.frozen? ⟨w.heap.size + 1, 0, none⟩ = false := frozen_heap hI.c6
    have f7 : V.frozen? ⟨w.heap.size + 1 + 1, 0, none⟩ = false := frozen_heap hI.c7
    have HPU := Lib.hid fun (w2 : World) (o : Obj) => hI.push (w2 := w2) (o := o) hox (by omega)
    have HST := Lib.hid fun hx => hI.stop (x := x) hx (by omega)
    have HOW := Lib.hid hI.own
    have HC8 : Hid (∀ (o : Obj) (w2 : World), (V.alloc o).grownBy w2 (some (w.heap.size + 1 + 2)) → w2.cell? ⟨w.heap.size + 1 + 1 + 1 + 1, 0, none⟩ = some (.slice (some ⟨w.heap.size + 1 + 2, 0, none⟩) pre.length N) ∧ w2.frozen? ⟨w.heap.size + 1 + 1 + 1 + 1, 0, none⟩ = false) := fun o w2 hg => by
      have h1 : w2.heap[w.heap.size + 1 + 3]? = some _ := (hg.block (w.heap.size + 1 + 3) (by have := heap_lt hI.c8; simp; omega) (by simp)).trans ((Below.heap_alloc V o _ (heap_lt hI.c8)).trans hI.c8)
      exact ⟨cell_heap h1 rfl, frozen_heap h1⟩
    clear hI hOk hox hr
    obtain ⟨xa, xn, xc, xe, xl⟩ := x
    simp only [setAll, List.setIfInBounds_toArray, List.set_cons_succ, List.set_cons_zero, El.v]
    simp only [El.v] at HPU HST
    by_cases hx : xe = 0
    · have e1 : (xe != 0) = false := by simpa using hx
      have HX := Lib.hid hx
      obtain ⟨ir, hir, _, hir1, _⟩ := info_parts info_row2
      clear hx c6 c7 f6 f7 HST
      gi_wp2_with (gi_at_builtin; refine wpListIn_append_fits _ rfl (.tmp 24) (.tmp 26) 24 rfl w.heap.size 27 ir 1 Try.underlying24 hir hir1 (w.heap.size + 1 + 2) pre.length N (pre.map El.v) rfl (World.ownsRow.alloc HOW.out _) ⟨V.heap.size, 0, none⟩ 1 1 [.slice xa xn xc] rfl rfl (one_cell V (.slice xa xn xc) 27) (by simp [Value.oneCell']) (by omega) ?_; intro w2 hown2 hg2; obtain ⟨d1, d2⟩ := HC8.out _ _ hg2)
      have HF := Lib.hid (HPU.out w2 _ hown2 hg2)
      clear hown2 hg2 d1 d2 c8
      gi_wp2_with fail
      exact ⟨by rw [HZ6.out]; exact HF.out.2, fun h => h HX.out, HF.out.1⟩
    · have e1 : (xe != 0) = true := by simpa using hx
      have HF := Lib.hid (HST.out hx)
      clear hx c8 HPU
      gi_wp2_with fail
      exact ⟨by rw [HZ6.out]; exact HF.out.2, HF.out.1⟩
  case done =>
    intro D r xs V hD hS hI hK
    have HWH := Lib.hid (hS.1.whole (by rw [List.length_map]; exact hS.2.1) (fun y hy => by obtain ⟨x, hx, rfl⟩ := List.mem_map.1 hy; exact hS.2.2 x hx))
    have c8 : V.cell? ⟨w.heap.size + 1 + 1 + 1 + 1, 0, none⟩ = some (.slice (some ⟨w.heap.size + 1 + 2, 0, none⟩) xs.length N) := cell_heap hI.c8 rfl
    have c6 : V.cell? ⟨w.heap.size + 1, 0, none⟩ = some (.slice none 0 0) := cell_heap hI.c6 rfl
    have c7 : V.cell? ⟨w.heap.size + 1 + 1, 0, none⟩ = some (.int .i64 0) := cell_heap hI.c7 rfl
    have f6 : V.frozen? ⟨w.heap.size + 1, 0, none⟩ = false := frozen_heap hI.c6
    have f7 : V.frozen? ⟨w.heap.size + 1 + 1, 0, none⟩ = false := frozen_heap hI.c7
    have HII := Lib.hid hI
    have HK := Lib.hid hK
    have HD := Lib.hid hD
    clear hI hS hK hD
    gi_wp2_with fail
    obtain ⟨V2, hV2⟩ : ∃ V2, V2 = (V.setCell ⟨w.heap.size + 1, 0, none⟩ (.slice (some ⟨w.heap.size + 1 + 2, 0, none⟩) xs.length N)).setCell ⟨w.heap.size + 1 + 1, 0, none⟩ (.int .i64 0) := ⟨_, rfl⟩
    rw [← hV2]
    obtain ⟨d0, hfin⟩ := HII.out.fin HK.out (by omega) (by have := HD.out; have := HZ7.out; omega) hV2
    refine ⟨by simp, .inl ⟨_, _, rfl, run_takeDeferred (w := V2) d0, ?_⟩⟩
    obtain ⟨d1, d2, d3, d4⟩ := hfin (.deferred none)
    refine ⟨_, results_two rfl rfl rfl (load_cellS _ _ _ _ _ d1) (load_cellE _ _ _ d2), _, _, _, xs.map El.l, 0, rfl, ?_, by rw [List.length_map], d3, d4⟩
    have := HWH.out
    rw [List.map_map] at this
    exact this
  case stop =>
    rintro D cd r pre V hD hSp ⟨rfl, p, y, rfl, hy, c6, c7, hb⟩ hK
    have HWB := Lib.hid (Tk.broken hSp (p := p.map El.ct) (cur := y.l) (x := y.e) (by rw [List.map_append]; rfl) hy)
    have HC : Hid (∀ o, V.heap[D]? = some (.deferred (some [])) → (V.putObj D o).cell? ⟨w.heap.size + 1, 0, none⟩ = some (.slice none 0 0) ∧ (V.putObj D o).cell? ⟨w.heap.size + 1 + 1, 0, none⟩ = some (.int .i64 y.e)) := fun o hd =>
      ⟨(World.cell?_of_block (w := V) (World.putObj_heap_other (fun e => by have e : w.heap.size + 1 = D := e; rw [← e, c6] at hd; cases hd))).trans (cell_heap c6 rfl), (World.cell?_of_block (w := V) (World.putObj_heap_other (fun e => by have e : w.heap.size + 1 + 1 = D := e; rw [← e, c7] at hd; cases hd))).trans (cell_heap c7 rfl)⟩
    have HK := Lib.hid hK
    have HBE := Lib.hid hb
    have hDD : w.heap.size ≤ D := by have := HZ7.out; omega
    clear c6 c7 hb hSp hK
    gi_wp2_with fail
    refine ⟨by simp, .inl ⟨_, _, rfl, run_takeDeferred (w := V) HK.out, ?_⟩⟩
    obtain ⟨d1, d2⟩ := HC.out _ HK.out
    exact ⟨_, results_two rfl rfl rfl (load_cellS _ _ none 0 0 d1) (load_cellE _ _ _ d2), none, 0, 0, [], y.e, rfl, HWB.out, rfl, ⟨[], World.ownsRow_nil _ _ _ _, fun i l h => by simp at h⟩, HBE.out.trans (below_put hDD _)⟩
end Go.Proofs.Ytacigmjdppoonaa.Vm
