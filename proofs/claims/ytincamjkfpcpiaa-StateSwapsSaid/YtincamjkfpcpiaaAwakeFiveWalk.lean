/- The contract of tuggerlaw05.awake. -/
import Derived.Test.YtincamjkfpcpiaaAwakeFives
import Derived.Test.YtincamjkfpcpiaaStFinds
import Derived.Test.YtincamjkfpcpiaaStRights
namespace Go.Proofs.Ytincamjkfpcpiaa.Vm
open Go Go.RowKit

theorem OwnR.form {w : World} {B n c : Nat} {ty : TypeId} {a : Option Addr} {rs : List Rec} (h : OwnR w B ty (.slice a n c) rs) (hn : 0 < n) : ∃ lb, a = some ⟨lb, 0, none⟩ ∧ B ≤ lb ∧ lb < w.heap.size ∧ ∀ j u, (recs rs)[j]? = some u → w.cell? ⟨lb, j, none⟩ = some u := by
  have h0 := h
  rcases h.2 with ⟨hv, hn'⟩ | ⟨g, cap, cur, hv, hb, hg, _⟩
  · injection hv with _ h2 _
    omega
  · injection hv with h1 h2 h3
    subst h1
    refine ⟨g, rfl, hb, (Array.getElem?_eq_some_iff.1 hg).1, fun j u hu => ?_⟩
    have hn2 : n = rs.length := by
      obtain ⟨a', c', e⟩ := h.slice
      injection e
    subst hn2 h3
    have := World.ownsRow.cells h0 (g := g) rfl j u hu
    rwa [Row.add, Nat.zero_add] at this
theorem rowZ_list (w : World) (zs : List Int) (t : TypeId) (hz : zs.length ≤ 1000) (cs : Array Value) (hc : cs = ⟨zs.map (Value.int .i64)⟩) : RowZ .i64 (w.alloc (.cells cs t)) (w.heap.size + 1) (some ⟨w.heap.size, 0, none⟩) zs.length zs.length zs := by
  subst hc
  refine ⟨rfl, Nat.le_refl _, by unfold maxLen; omega, fun _ => ⟨_, 0, rfl, Nat.lt_succ_self _, fun i hi => ?_⟩⟩
  rw [Nat.zero_add, cell_of_row (w.alloc (.cells ⟨zs.map (Value.int .i64)⟩ t)) w.heap.size i ⟨zs.map (Value.int .i64)⟩ t (0, 0) (heap_alloc_new w _)]
  simp [List.getD, hi]

/-- What awake has laid: a grid, two states. -/
structure Cast (b0 bs bt : Nat) (h1 h3 : Sh) (s1 s2 : St) (V : World) : Prop where
  g : GridAt V b0 3 1 mapB
  s : StAt V bs h1
  t : StAt V bt h3
  i : StIn V V.heap.size h1 s1
  j : StIn V V.heap.size h3 s2
  lg : b0 < V.heap.size
  ls : bs < V.heap.size
  lt : bt < V.heap.size
theorem Cast.below {b0 bs bt : Nat} {h1 h3 : Sh} {s1 s2 : St} {V V' : World} (h : Cast b0 bs bt h1 h3 s1 s2 V) (hb : Below V.heap.size V V') : Cast b0 bs bt h1 h3 s1 s2 V' :=
  ⟨h.g.below hb h.lg, h.s.below hb h.ls, h.t.below hb h.lt, (h.i.below hb).mono hb.size, (h.j.below hb).mono hb.size, Nat.lt_of_lt_of_le h.lg hb.size, Nat.lt_of_lt_of_le h.ls hb.size, Nat.lt_of_lt_of_le h.lt hb.size⟩

theorem mapB_len : mapB.size ≤ maxLen := by unfold maxLen; decide

theorem newB1_any (a : Option Addr) (B : Nat) (w : World) (hr : RowZ .i64 w B a 2 2 [0, 2]) (hB : B ≤ w.heap.size) :
    Calls Try.prog 18 #[gridV 3 1 mapB, .slice a 2 2] w fun e w' => ∃ h' : Sh, e = .returned (.tuple #[shV h', .int .i64 0]) ∧ CopyIn w' w.heap.size h' ⟨0, rB, [], []⟩ ∧ Below w.heap.size w w' :=
  (new_any 3 1 mapB a 2 2 B [0, 2] w mapB_len hr hB).mono fun e w' ⟨h', he, hc, hb⟩ => by
    rw [newB1] at he
    rw [newSB] at hc
    exact ⟨h', he, hc, hb⟩
theorem newB2_any (a : Option Addr) (B : Nat) (w : World) (hr : RowZ .i64 w B a 2 2 [0, 0]) (hB : B ≤ w.heap.size) :
    Calls Try.prog 18 #[gridV 3 1 mapB, .slice a 2 2] w fun e w' => ∃ h' : Sh, e = .returned (.tuple #[shV h', .int .i64 6]) ∧ Below w.heap.size w w' :=
  (new_any 3 1 mapB a 2 2 B [0, 0] w mapB_len hr hB).mono fun e w' ⟨h', he, hc, hb⟩ => by
    rw [newB2] at he
    exact ⟨h', he, hb⟩

theorem wfB : WfC ⟨0, rB, [], []⟩ := fun i hi => by
  have hi2 : i < 2 := hi
  match i, hi2 with
  | 0, _ => decide
  | 1, _ => decide
theorem wfB1 (ts : List Rec) : WfC ⟨0, rB1, ts, []⟩ := fun i hi => by
  have hi2 : i < 2 := hi
  match i, hi2 with
  | 0, _ => exact (by decide : (Lit.int .i64 (7 : Int)).wf = true)
  | 1, _ => exact (by decide : (Lit.int .i64 (0 : Int)).wf = true)
section
variable {b0 bs bt : Nat} {h1 h3 : Sh} {s1 s2 : St} {V : World}
theorem Cast.right_s (c : Cast b0 bs bt h1 h3 ⟨0, rB, [], []⟩ s2 V) : Calls Try.prog 11 #[gridV 3 1 mapB, shV h1] V fun e w' => e = .returned (.bool true) ∧ Below V.heap.size V w' := by
  have := stRight_any 3 1 mapB h1 ⟨0, rB, [], []⟩ _ V mapB_len c.i (Nat.le_refl _) wfB
  rwa [rightB0] at this
theorem Cast.right_t1 (c : Cast b0 bs bt h1 h3 s1 ⟨0, rB1, [], []⟩ V) : Calls Try.prog 11 #[gridV 3 1 mapB, shV h3] V fun e w' => e = .returned (.bool false) ∧ Below V.heap.size V w' := by
  have := stRight_any 3 1 mapB h3 ⟨0, rB1, [], []⟩ _ V mapB_len c.j (Nat.le_refl _) (wfB1 _)
  rwa [rightB1] at this
theorem Cast.right_t2 (c : Cast b0 bs bt h1 h3 s1 ⟨0, rB1, tB, []⟩ V) : Calls Try.prog 11 #[gridV 3 1 mapB, shV h3] V fun e w' => e = .returned (.bool true) ∧ Below V.heap.size V w' := by
  have := stRight_any 3 1 mapB h3 ⟨0, rB1, tB, []⟩ _ V mapB_len c.j (Nat.le_refl _) (wfB1 _)
  rwa [rightB2] at this
theorem Cast.goal_t (c : Cast b0 bs bt h1 h3 s1 ⟨0, rB1, tB, []⟩ V) (hn : h3.n3 ≤ 1000000) : Calls Try.prog 16 #[gridV 3 1 mapB, shV h3, .int .i64 0] V fun e w' => e = .returned (.tuple #[.int .i64 1, .bool true]) ∧ Below V.heap.size V w' := by
  have := goal_any 3 1 mapB h3 ⟨0, rB1, tB, []⟩ 0 _ V mapB_okay c.j (Nat.le_refl _) (by simp) hn
  rwa [goalB] at this
theorem Cast.find_t (c : Cast b0 bs bt h1 h3 s1 ⟨0, rB1, tB, []⟩ V) : Calls Try.prog 14 #[shV h3, .int .i64 7] V fun e w' => e = .returned (.int .i64 0) ∧ Below V.heap.size V w' := by
  have := find_any h3 tB 7 _ V c.j.ts (Nat.le_refl _)
  rwa [findB0] at this
theorem Cast.find_s (c : Cast b0 bs bt h1 h3 ⟨0, rB, [], []⟩ s2 V) : Calls Try.prog 14 #[shV h1, .int .i64 7] V fun e w' => e = .returned (.int .i64 (-1)) ∧ Below V.heap.size V w' := by
  have := find_any h1 [] 7 _ V c.i.ts (Nat.le_refl _)
  rwa [findB1] at this
theorem Cast.same_s (c : Cast b0 bs bt h1 h3 s1 s2 V) : Calls Try.prog 12 #[shV h1, shV h1] V fun e w' => e = .returned (.bool true) ∧ Below V.heap.size V w' := by
  have := stSame_any h1 h1 s1 s1 _ V c.i c.i (Nat.le_refl _)
  rwa [sameB1] at this
theorem Cast.same_t (c : Cast b0 bs bt h1 h3 ⟨0, rB, [], []⟩ ⟨0, rB1, tB, []⟩ V) : Calls Try.prog 12 #[shV h1, shV h3] V fun e w' => e = .returned (.bool false) ∧ Below V.heap.size V w' := by
  have := stSame_any h1 h3 ⟨0, rB, [], []⟩ ⟨0, rB1, tB, []⟩ _ V c.i c.j (Nat.le_refl _)
  rwa [sameB2] at this
end
theorem rowR_none {w w' : World} {B B' c : Nat} {a : Option Addr} (h : RowR w B a 0 c []) : RowR w' B' a 0 c [] := ⟨h.1, h.2.1, h.2.2.1, fun h => absurd h (Nat.lt_irrefl _)⟩
theorem rowZ_none {w w' : World} {B B' c : Nat} {a : Option Addr} (h : RowZ .i64 w B a 0 c []) : RowZ .i64 w' B' a 0 c [] := ⟨h.1, h.2.1, h.2.2.1, fun h => absurd h (Nat.lt_irrefl _)⟩

set_option maxRecDepth 100000 in
set_option maxHeartbeats 2000000 in
theorem awake5_any (w : World) : Calls Try.prog 6 #[] w fun e w' => e = .returned (.bool true) ∧ Below w.heap.size w w' := by
  have hB0 : Below w.heap.size w (w.alloc (gridO 3 1 mapB)) := (Below.refl _ _).alloc (Nat.le_refl _) _
  have hg0 := gridAt_new w 3 1 mapB
  have hz0 : (w.alloc (gridO 3 1 mapB)).heap.size = w.heap.size + 1 := by simp
  have hr0 : RowZ .i64 ((w.alloc (gridO 3 1 mapB)).alloc (.cells #[.int .i64 0, .int .i64 2] 3)) ((w.alloc (gridO 3 1 mapB)).heap.size + 1) (some ⟨(w.alloc (gridO 3 1 mapB)).heap.size, 0, none⟩) 2 2 [0, 2] := rowZ_list (w.alloc (gridO 3 1 mapB)) [0, 2] 3 (by simp) #[.int .i64 0, .int .i64 2] rfl
  rw [hz0] at hr0
  have hb0 : Below (w.alloc (gridO 3 1 mapB)).heap.size (w.alloc (gridO 3 1 mapB)) ((w.alloc (gridO 3 1 mapB)).alloc (.cells #[.int .i64 0, .int .i64 2] 3)) := (Below.refl _ _).alloc (Nat.le_refl _) _
  have hg1 := hg0.below hb0 (by omega)
  have hB1 := hB0.trans (hb0.mono hB0.size)
  have hz1 : ((w.alloc (gridO 3 1 mapB)).alloc (.cells #[.int .i64 0, .int .i64 2] 3)).heap.size = w.heap.size + 2 := by simp
  have HN1 := Lib.hid (newB1_any _ _ ((w.alloc (gridO 3 1 mapB)).alloc (.cells #[.int .i64 0, .int .i64 2] 3)) hr0 (by simp))
  have HG1 := Lib.hid hg1
  have HB1 := Lib.hid hB1
  clear hg0 hr0 hb0 hg1 hB1 hB0
  go_enter Try.func6, Try.ntmps6
  go_wp2_with fail
  refine HN1.out.mono ?_
  rintro e w1 ⟨h1, he, hC1, hb1⟩
  subst he
  have hg2 := HG1.out.below hb1 (by omega)
  have hB2 := HB1.out.trans (hb1.mono HB1.out.size)
  have hlt1 : w.heap.size < w1.heap.size := by have := hb1.size; omega
  have hzw1 : w.heap.size + 2 ≤ w1.heap.size := by have := hb1.size; omega
  -- the state, boxed; the second row of cells
  have hs2 := stAt_new w1 h1
  have hb2 : Below w1.heap.size w1 (w1.alloc (shO h1)) := (Below.refl _ _).alloc (Nat.le_refl _) _
  have hr2 : RowZ .i64 ((w1.alloc (shO h1)).alloc (.cells #[.int .i64 0, .int .i64 0] 3)) ((w1.alloc (shO h1)).heap.size + 1) (some ⟨(w1.alloc (shO h1)).heap.size, 0, none⟩) 2 2 [0, 0] := rowZ_list (w1.alloc (shO h1)) [0, 0] 3 (by simp) #[.int .i64 0, .int .i64 0] rfl
  rw [show (w1.alloc (shO h1)).heap.size = w1.heap.size + 1 by simp] at hr2
  have hb3 : Below w1.heap.size w1 ((w1.alloc (shO h1)).alloc (.cells #[.int .i64 0, .int .i64 0] 3)) := hb2.alloc (by simp) _
  have hb3' : Below (w1.alloc (shO h1)).heap.size (w1.alloc (shO h1)) ((w1.alloc (shO h1)).alloc (.cells #[.int .i64 0, .int .i64 0] 3)) := (Below.refl _ _).alloc (Nat.le_refl _) _
  have hs3 := hs2.below hb3' (by simp)
  have hg3 := hg2.below hb3 (by omega)
  have hB3 := hB2.trans (hb3.mono (by omega))
  have hI3 := (hC1.stIn.below hb3)
  have hz3 : ((w1.alloc (shO h1)).alloc (.cells #[.int .i64 0, .int .i64 0] 3)).heap.size = w1.heap.size + 2 := by simp
  have HN2 := Lib.hid (newB2_any _ _ ((w1.alloc (shO h1)).alloc (.cells #[.int .i64 0, .int .i64 0] 3)) hr2 (by simp))
  have HS3 := Lib.hid hs3
  have HG3 := Lib.hid hg3
  have HB3 := Lib.hid hB3
  have HI3 := Lib.hid hI3
  have HC1 := Lib.hid hC1
  obtain ⟨g1, g2, g3⟩ := hg2
  have ht1 : h1.t = 0 := hC1.tick
  have hn1 : h1.n1 = 2 := hC1.n1
  have hn2 : h1.n2 = 0 := hC1.n2
  have hn3 : h1.n3 = 0 := hC1.n3
  obtain ⟨t1, a1, n1, c1, a2, n2, c2, a3, n3, c3⟩ := h1
  simp only [] at ht1 hn1 hn2 hn3
  subst ht1 hn1 hn2 hn3
  clear hs2 hb2 hr2 hb3 hb3' hs3 hg3 hB3 hI3 hB2 hb1 HG1 HB1 HN1 hC1
  go_wp2_with fail
  refine HN2.out.mono ?_
  rintro e w2 ⟨h2, he, hb4⟩
  subst he
  have hg5 := HG3.out.below hb4 (by omega)
  have hs5 := HS3.out.below hb4 (by omega)
  have hB5 := HB3.out.trans (hb4.mono HB3.out.size)
  have hI5 := (HI3.out.below (hb4.mono (by omega))).mono (show w1.heap.size ≤ w2.heap.size by have := hb4.size; omega)
  have hO5 : OwnR w2 ((w.alloc (gridO 3 1 mapB)).alloc (.cells #[.int .i64 0, .int .i64 2] 3)).heap.size 45 (.slice a1 2 c1) rB := by
    refine (HC1.out.rs.calls ?_).calls hb4
    exact ((Below.refl _ _).alloc (Nat.le_refl _) _).alloc (by simp) _
  have hlt2 : w.heap.size < w2.heap.size := by have := hb4.size; omega
  have hlt3 : w1.heap.size < w2.heap.size := by have := hb4.size; omega
  obtain ⟨lb1, hla1, _, hlb1, hcl⟩ := hO5.form (by omega)
  subst hla1
  have p5 := hcl 5 (.int .i64 2) rfl
  have p6 := hcl 6 (.int .i64 0) rfl
  have p7 := hcl 7 (.int .i64 0) rfl
  have p8 := hcl 8 (.int .i64 1000) rfl
  have p9 := hcl 9 (.int .i64 0) rfl
  have HG5 := Lib.hid hg5
  have HS5 := Lib.hid hs5
  have HB5 := Lib.hid hB5
  have HI5 := Lib.hid hI5
  have hb6 : Below w2.heap.size w2 (w2.alloc (shO h2)) := (Below.refl _ _).alloc (Nat.le_refl _) _
  have HCP := Lib.hid (copy_any ⟨0, some ⟨lb1, 0, none⟩, 2, c1, a2, 0, c2, a3, 0, c3⟩ ⟨0, rB, [], []⟩ _ (w2.alloc (shO h2)) (hI5.below hb6) (by simp) (show 2 ≤ 100000 by omega) (show 0 ≤ 100000 by omega) (show 0 ≤ 100000 by omega))
  obtain ⟨g1, g2, g3⟩ := hg5
  obtain ⟨s0, s1, s2, s3⟩ := hs5
  simp only [] at s0 s1 s2 s3
  clear hB5 hI5 hO5 hcl hb4 HG3 HS3 HB3 HI3 HC1 HN2 hz3 hzw1 hlt1 hb6
  go_wp2_with fail
  refine HCP.out.mono ?_
  rintro e w3 ⟨h3, he, hC3, hb7⟩
  subst he
  have ht3 : h3.t = 0 := hC3.tick
  have hm1 : h3.n1 = 2 := hC3.n1
  have hm2 : h3.n2 = 0 := hC3.n2
  have hm3 : h3.n3 = 0 := hC3.n3
  obtain ⟨t3, d1, m1, e1, d2, m2, e2, d3, m3, e3⟩ := h3
  simp only [] at ht3 hm1 hm2 hm3
  subst ht3 hm1 hm2 hm3
  have hO7 : OwnR w3 (w2.alloc (shO h2)).heap.size 45 (.slice d1 2 e1) rB := hC3.rs
  obtain ⟨lb3, hla3, hbl3, hlb3, hcl⟩ := hO7.form (by omega)
  subst hla3
  have q1 := hcl 1 (.int .i64 0) rfl
  have q2 := hcl 2 (.int .i64 0) rfl
  have f1 := hO7.frozen 1
  have f2 := hO7.frozen 2
  have hz6 : (w2.alloc (shO h2)).heap.size = w2.heap.size + 1 := by simp
  rw [hz6] at hbl3
  have hb7' : Below w2.heap.size w2 w3 := ((Below.refl w2.heap.size w2).alloc (Nat.le_refl _) _).trans (hb7.mono (by omega))
  have hlt4 : w2.heap.size < w3.heap.size := by have := hb7.size; omega
  obtain ⟨g1, g2, g3⟩ := HG5.out.below hb7' (by omega)
  have hne : lb3 ≠ w3.heap.size := by omega
  have hlt5 : w.heap.size < w3.heap.size := by omega
  have HC3 := Lib.hid hC3
  have HB7 := Lib.hid hb7'
  have HO7 := Lib.hid hO7
  clear s0 s1 s2 s3 p5 p6 p7 p8 p9 hcl hO7 hC3 hb7 hb7' HCP
  go_wp2_with fail
  have hO8 : OwnR ((w3.setCell ⟨lb3, 1, none⟩ (.int .i64 1)).setCell ⟨lb3, 2, none⟩ (.int .i64 7)) (w2.alloc (shO h2)).heap.size 45 (.slice (some ⟨lb3, 0, none⟩) 2 e1) rB1 :=
    (World.ownsRow.stored (World.ownsRow.stored HO7.out 1 (.int .i64 1)).1 2 (.int .i64 7)).1
  have hbu : Below w2.heap.size w2 ((w3.setCell ⟨lb3, 1, none⟩ (.int .i64 1)).setCell ⟨lb3, 2, none⟩ (.int .i64 7)) :=
    (HB7.out.setCell (p := ⟨lb3, 1, none⟩) (show w2.heap.size ≤ lb3 by omega) _).setCell (p := ⟨lb3, 2, none⟩) (show w2.heap.size ≤ lb3 by omega) _
  have hzu : ((w3.setCell ⟨lb3, 1, none⟩ (.int .i64 1)).setCell ⟨lb3, 2, none⟩ (.int .i64 7)).heap.size = w3.heap.size := by simp [World.setCell]
  obtain ⟨u, hu⟩ : ∃ u, u = (w3.setCell ⟨lb3, 1, none⟩ (.int .i64 1)).setCell ⟨lb3, 2, none⟩ (.int .i64 7) := ⟨_, rfl⟩
  rw [← hu] at hO8 hbu hzu ⊢
  have hst := stAt_new u ⟨0, some ⟨lb3, 0, none⟩, 2, e1, d2, 0, e2, d3, 0, e3⟩
  have hal : Below u.heap.size u (u.alloc (shO ⟨0, some ⟨lb3, 0, none⟩, 2, e1, d2, 0, e2, d3, 0, e3⟩)) := (Below.refl _ _).alloc (Nat.le_refl _) _
  have hzv : (u.alloc (shO ⟨0, some ⟨lb3, 0, none⟩, 2, e1, d2, 0, e2, d3, 0, e3⟩)).heap.size = w3.heap.size + 1 := by simp [hzu]
  have hfz : (u.alloc (shO ⟨0, some ⟨lb3, 0, none⟩, 2, e1, d2, 0, e2, d3, 0, e3⟩)).frozen? ⟨u.heap.size, 2, none⟩ = false := by simp
  have hO9 := hO8.calls hal
  have hbv := hbu.trans (hal.mono (by omega))
  rw [hzu] at hst hfz
  obtain ⟨V2, hV2⟩ : ∃ V2, V2 = u.alloc (shO ⟨0, some ⟨lb3, 0, none⟩, 2, e1, d2, 0, e2, d3, 0, e3⟩) := ⟨_, rfl⟩
  rw [← hV2] at hst hO9 hbv hzv hfz ⊢
  have hcast : Cast w.heap.size w1.heap.size w3.heap.size ⟨0, some ⟨lb1, 0, none⟩, 2, c1, a2, 0, c2, a3, 0, c3⟩ ⟨0, some ⟨lb3, 0, none⟩, 2, e1, d2, 0, e2, d3, 0, e3⟩ ⟨0, rB, [], []⟩ ⟨0, rB1, [], []⟩ V2 :=
    ⟨HG5.out.below hbv (by omega), HS5.out.below hbv (by omega), hst, (HI5.out.below hbv).mono (by omega), ⟨rfl, hO9.row, rowR_none HC3.out.ts.row, rowZ_none HC3.out.bl.rowZ⟩, by omega, by omega, by omega⟩
  have HIV := Lib.hid (HI5.out.below hbv)
  have HBV := Lib.hid (HB5.out.trans (hbv.mono (by omega)))
  have HO9 := Lib.hid hO9
  have HRT := Lib.hid hcast.right_t1
  have HCAST := Lib.hid hcast
  have HFZ := Lib.hid hfz
  clear hu hV2 hst hal hO8 hO9 hbu hbv hzu hcast HB7 HO7 HC3 HI5 HS5 HG5 HB5 g1 g2 g3 q1 q2 f1 f2 hz6 hfz
  refine HRT.out.mono ?_
  rintro e w5 ⟨rfl, hb8⟩
  have hc5 := HCAST.out.below hb8
  have HB8 := Lib.hid (HBV.out.trans (hb8.mono (by have := HBV.out.size; omega)))
  have hfz : w5.frozen? ⟨w3.heap.size, 2, none⟩ = false := (hb8.frozen (p := ⟨w3.heap.size, 2, none⟩) (show w3.heap.size < V2.heap.size by omega)).trans HFZ.out
  have hz5 : w3.heap.size + 1 ≤ w5.heap.size := by have := hb8.size; omega
  obtain ⟨g1, g2, g3⟩ := id hc5.g
  obtain ⟨t0, t1, t2, t3⟩ := id hc5.t
  simp only [] at t0 t1 t2 t3
  have hl1 : w.heap.size < w5.heap.size := by omega
  have hl2 : w3.heap.size < w5.heap.size := by omega
  have HC5 := Lib.hid hc5
  have HI5' := Lib.hid (HIV.out.below (hb8.mono (by omega)))
  have HO5 := Lib.hid (HO9.out.calls hb8)
  clear hc5 hb8 HCAST HRT HBV HFZ HO9 HIV
  go_wp2_with fail
  have hbz : Below w3.heap.size w5 (w5.setCell ⟨w3.heap.size, 2, none⟩ (.slice (some ⟨w5.heap.size, 0, none⟩) 1 1)) := (Below.refl _ _).setCell (p := ⟨w3.heap.size, 2, none⟩) (Nat.le_refl _) _
  have hzz : (w5.setCell ⟨w3.heap.size, 2, none⟩ (.slice (some ⟨w5.heap.size, 0, none⟩) 1 1)).heap.size = w5.heap.size := by simp [World.setCell]
  have hst6 : StAt (w5.setCell ⟨w3.heap.size, 2, none⟩ (.slice (some ⟨w5.heap.size, 0, none⟩) 1 1)) w3.heap.size ⟨0, some ⟨lb3, 0, none⟩, 2, e1, some ⟨w5.heap.size, 0, none⟩, 1, 1, d3, 0, e3⟩ := by
    refine ⟨?_, ?_, ?_, ?_⟩ <;> simp [go_sem, t0, t1, t2, t3]
  have hO6 := HO5.out.below hbz (fun k hk => by
    have : lb3 = k := by simpa [Value.ownBlock] using hk
    omega)
  have hg6 := HC5.out.g.below hbz (by omega)
  have hs6 := HC5.out.s.below hbz (by omega)
  have hi6 := HI5'.out.below (hbz.mono (by omega))
  have HBZ := Lib.hid (HB8.out.setCell (p := ⟨w3.heap.size, 2, none⟩) (show w.heap.size ≤ w3.heap.size by omega) (.slice (some ⟨w5.heap.size, 0, none⟩) 1 1))
  obtain ⟨z, hz⟩ : ∃ z, z = w5.setCell ⟨w3.heap.size, 2, none⟩ (.slice (some ⟨w5.heap.size, 0, none⟩) 1 1) := ⟨_, rfl⟩
  rw [← hz] at hst6 hO6 hg6 hs6 hi6 HBZ hzz ⊢
  have hal : Below z.heap.size z (z.alloc (.cells #[.int .i64 7, .int .i64 1, .int .i64 2, .int .i64 2, .int .i64 0] 48)) := (Below.refl _ _).alloc (Nat.le_refl _) _
  have hra := recAt_new z ⟨7, 1, 2, 2, 0⟩ 48
  have hzl : (z.alloc (.cells #[.int .i64 7, .int .i64 1, .int .i64 2, .int .i64 2, .int .i64 0] 48)).heap.size = w5.heap.size + 1 := by simp [hzz]
  rw [hzz] at hra
  have hO7 := hO6.calls hal
  have hg7 := hg6.below hal (by omega)
  have hs7 := hs6.below hal (by omega)
  have hst7 := hst6.below hal (by omega)
  have hi7 := hi6.below (hal.mono (by omega))
  have HBW6 := Lib.hid (HBZ.out.trans (hal.mono (by omega)))
  have hn3 := HC5.out.j.bl
  obtain ⟨V6, hV6⟩ : ∃ V6, V6 = z.alloc (.cells #[.int .i64 7, .int .i64 1, .int .i64 2, .int .i64 2, .int .i64 0] 48) := ⟨_, rfl⟩
  rw [← hV6] at hra hO7 hg7 hs7 hst7 hi7 HBW6 hzl ⊢
  have hc6 : Cast w.heap.size w1.heap.size w3.heap.size ⟨0, some ⟨lb1, 0, none⟩, 2, c1, a2, 0, c2, a3, 0, c3⟩ ⟨0, some ⟨lb3, 0, none⟩, 2, e1, some ⟨w5.heap.size, 0, none⟩, 1, 1, d3, 0, e3⟩ ⟨0, rB, [], []⟩ ⟨0, rB1, tB, []⟩ V6 :=
    ⟨hg7, hs7, hst7, hi7.mono (by omega), ⟨rfl, hO7.row, ⟨rfl, Nat.le_refl _, by unfold maxLen; simp only []; omega, fun _ => ⟨w5.heap.size, 0, rfl, by omega, fun i hi => by
      have hi0 : i = 0 := by simp only [] at hi; omega
      subst hi0
      exact hra⟩⟩, rowZ_none hn3⟩, by omega, by omega, by omega⟩
  have HC6 := Lib.hid hc6
  clear hbz hst6 hO6 hg6 hs6 hi6 HBZ hz hal hra hO7 hg7 hs7 hst7 hi7 hn3 hV6 hc6 HO5 HC5 HI5' HB8 hzz hfz
  have s0 : True := trivial
  have s1 : True := trivial
  have s2 : True := trivial
  have s3 : True := trivial
  refine (HC6.out.goal_t (show 0 ≤ 1000000 by omega)).mono ?_
  rintro e w7 ⟨rfl, hb7⟩
  have HB7 := Lib.hid (HBW6.out.trans (hb7.mono HBW6.out.size))
  have HBW7 := HB7
  have hc7 := HC6.out.below hb7
  clear g1 g2 g3 s0 s1 s2 s3 t0 t1 t2 t3
  obtain ⟨g1, g2, g3⟩ := id hc7.g
  obtain ⟨s0, s1, s2, s3⟩ := id hc7.s
  obtain ⟨t0, t1, t2, t3⟩ := id hc7.t
  simp only [] at s0 s1 s2 s3 t0 t1 t2 t3
  have HC7 := Lib.hid hc7
  clear hc7 hb7 HC6 HBW6 HB7
  go_wp2_with fail
  refine (HC7.out.right_s).mono ?_
  rintro e w8 ⟨rfl, hb8⟩
  have HB8 := Lib.hid (HBW7.out.trans (hb8.mono HBW7.out.size))
  have HBW8 := HB8
  have hc8 := HC7.out.below hb8
  clear g1 g2 g3 s0 s1 s2 s3 t0 t1 t2 t3
  obtain ⟨g1, g2, g3⟩ := id hc8.g
  obtain ⟨s0, s1, s2, s3⟩ := id hc8.s
  obtain ⟨t0, t1, t2, t3⟩ := id hc8.t
  simp only [] at s0 s1 s2 s3 t0 t1 t2 t3
  have HC8 := Lib.hid hc8
  clear hc8 hb8 HC7 HBW7 HB8
  go_wp2_with fail
  refine (HC8.out.right_t2).mono ?_
  rintro e w9 ⟨rfl, hb9⟩
  have HB9 := Lib.hid (HBW8.out.trans (hb9.mono HBW8.out.size))
  have HBW9 := HB9
  have hc9 := HC8.out.below hb9
  clear g1 g2 g3 s0 s1 s2 s3 t0 t1 t2 t3
  obtain ⟨g1, g2, g3⟩ := id hc9.g
  obtain ⟨s0, s1, s2, s3⟩ := id hc9.s
  obtain ⟨t0, t1, t2, t3⟩ := id hc9.t
  simp only [] at s0 s1 s2 s3 t0 t1 t2 t3
  have HC9 := Lib.hid hc9
  clear hc9 hb9 HC8 HBW8 HB9
  go_wp2_with fail
  refine (HC9.out.find_t).mono ?_
  rintro e w10 ⟨rfl, hb10⟩
  have HB10 := Lib.hid (HBW9.out.trans (hb10.mono HBW9.out.size))
  have HBW10 := HB10
  have hc10 := HC9.out.below hb10
  clear g1 g2 g3 s0 s1 s2 s3 t0 t1 t2 t3
  obtain ⟨g1, g2, g3⟩ := id hc10.g
  obtain ⟨s0, s1, s2, s3⟩ := id hc10.s
  obtain ⟨t0, t1, t2, t3⟩ := id hc10.t
  simp only [] at s0 s1 s2 s3 t0 t1 t2 t3
  have HC10 := Lib.hid hc10
  clear hc10 hb10 HC9 HBW9 HB10
  go_wp2_with fail
  refine (HC10.out.find_s).mono ?_
  rintro e w11 ⟨rfl, hb11⟩
  have HB11 := Lib.hid (HBW10.out.trans (hb11.mono HBW10.out.size))
  have HBW11 := HB11
  have hc11 := HC10.out.below hb11
  clear g1 g2 g3 s0 s1 s2 s3 t0 t1 t2 t3
  obtain ⟨g1, g2, g3⟩ := id hc11.g
  obtain ⟨s0, s1, s2, s3⟩ := id hc11.s
  obtain ⟨t0, t1, t2, t3⟩ := id hc11.t
  simp only [] at s0 s1 s2 s3 t0 t1 t2 t3
  have HC11 := Lib.hid hc11
  clear hc11 hb11 HC10 HBW10 HB11
  go_wp2_with fail
  refine (HC11.out.same_s).mono ?_
  rintro e w12 ⟨rfl, hb12⟩
  have HB12 := Lib.hid (HBW11.out.trans (hb12.mono HBW11.out.size))
  have HBW12 := HB12
  have hc12 := HC11.out.below hb12
  clear g1 g2 g3 s0 s1 s2 s3 t0 t1 t2 t3
  obtain ⟨g1, g2, g3⟩ := id hc12.g
  obtain ⟨s0, s1, s2, s3⟩ := id hc12.s
  obtain ⟨t0, t1, t2, t3⟩ := id hc12.t
  simp only [] at s0 s1 s2 s3 t0 t1 t2 t3
  have HC12 := Lib.hid hc12
  clear hc12 hb12 HC11 HBW11 HB12
  go_wp2_with fail
  refine (HC12.out.same_t).mono ?_
  rintro e w13 ⟨rfl, hb13⟩
  have HB13 := Lib.hid (HBW12.out.trans (hb13.mono HBW12.out.size))
  have HBW13 := HB13
  have hc13 := HC12.out.below hb13
  clear g1 g2 g3 s0 s1 s2 s3 t0 t1 t2 t3
  obtain ⟨g1, g2, g3⟩ := id hc13.g
  obtain ⟨s0, s1, s2, s3⟩ := id hc13.s
  obtain ⟨t0, t1, t2, t3⟩ := id hc13.t
  simp only [] at s0 s1 s2 s3 t0 t1 t2 t3
  have HC13 := Lib.hid hc13
  clear hc13 hb13 HC12 HBW12 HB13
  go_wp2_with fail
  go_ret
  exact ⟨rfl, HBW13.out⟩
end Go.Proofs.Ytincamjkfpcpiaa.Vm
