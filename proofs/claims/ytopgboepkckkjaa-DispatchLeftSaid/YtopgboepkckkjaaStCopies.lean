/- The contracts of slices.Clone at robots, tasks and ints, and of state.Copy. -/
import Derived.Test.YtopgboepkckkjaaStWords
import Derived.Test.YtopgboepkckkjaaOwnRs
import Derived.WalkLawsBesides
namespace Go.Proofs.Ytopgboepkckkjaa.Vm
open Go Go.RowKit

theorem info_robot : (Try.prog.info? 45).map (fun i => (i.zero, i.size, i.bytes)) = some (some (.agg #[.int .i64 0, .int .i64 0, .int .i64 0, .int .i64 0, .int .i64 0]), 5, 40) := by kernel_rfl
theorem info_task : (Try.prog.info? 47).map (fun i => (i.zero, i.size, i.bytes)) = some (some (.agg #[.int .i64 0, .int .i64 0, .int .i64 0, .int .i64 0, .int .i64 0]), 5, 40) := by kernel_rfl

theorem eql_nil {t e : TypeId} (ht : Try.prog.underlying t = some (.slice e)) (a : Option Addr) (n c : Nat) (w : World) : (binOp .eql t (.slice a n c) (.slice none 0 0)).run Try.prog w = .ok (.bool a.isNone) w := by
  simp only [binOp]
  simp [run_equal_slice_nil w t e a n c ht, Result.andThen]

set_option maxRecDepth 100000 in
set_option maxHeartbeats 400000 in
theorem cloneR_any (a : Option Addr) (n c B : Nat) (rs : List Rec) (w : World) (h : RowR w B a n c rs) (hB : B ≤ w.heap.size) (hn : n ≤ 100000) :
    Calls Try.prog 30 #[.slice a n c] w fun e w' => ∃ a' c', e = .returned (.slice a' n c') ∧ OwnR w' w.heap.size 45 (.slice a' n c') rs ∧ Below w.heap.size w w' := by
  have hl := h.1
  have hen := eql_nil Try.underlying24 a n c
  cases a with
  | none =>
    obtain rfl : n = 0 := by
      rcases Nat.eq_zero_or_pos n with h0 | h0
      · exact h0
      · obtain ⟨_, _, e, _⟩ := h.cells h0; cases e
    obtain rfl := List.eq_nil_of_length_eq_zero hl
    clear h
    go_enter Try.func30, Try.ntmps30
    go_wp2_with fail
    go_ret
    exact ⟨none, 0, rfl, ownR_nil _ _ _, Below.refl _ _⟩
  | some ad =>
    obtain ⟨i0, hi0, hz0, hz1, hz2⟩ := info_parts info_robot
    have hcs := fun o => cells_rowR (h.below ((Below.refl B w).alloc hB o))
    have HCS := Lib.hid hcs
    have HOE := Lib.hid (ownR_empty w 45 (Nat.le_refl _))
    have HL := Lib.hid hl
    have HBE := Lib.hid fun o : Obj => (Below.refl w.heap.size w).alloc (Nat.le_refl _) o
    clear hcs h hl
    go_enter Try.func30, Try.ntmps30
    go_wp2_with (at_builtin; refine wpList_append_own _ rfl (.tmp 5) (.tmp 6) 24 rfl w.heap.size 45 i0 (.agg #[.int .i64 0, .int .i64 0, .int .i64 0, .int .i64 0, .int .i64 0]) 5 40 Try.underlying24 hi0 hz0 hz1 hz2 rfl (by decide) _ _ _ rfl HOE.out ad n c (recs rs) rfl (by rw [recs_len, HL.out]) (HCS.out _) (recs_one rs) (by simp only [maxLen, List.length_nil]; omega) (by simp only [List.length_nil]; omega) (by simp) ?_; intro v' w3 hown3 hgrow3 _)
    have HO : Hid (OwnR w3 w.heap.size 45 v' rs) := by
      unfold Hid OwnR
      rw [HL.out]
      simpa [recs] using hown3
    obtain ⟨a', c', rfl⟩ := HO.out.slice
    have HB3 := Lib.hid ((HBE.out _).grown hgrow3 (by simp) (fun k hk => (World.ownsRow.lt HOE.out k hk).1))
    clear hown3 hgrow3
    go_wp2_with fail
    go_ret
    rw [HL.out] at HO ⊢
    exact ⟨a', c', rfl, HO.out, HB3.out⟩
set_option maxRecDepth 100000 in
set_option maxHeartbeats 400000 in
theorem cloneT_any (a : Option Addr) (n c B : Nat) (rs : List Rec) (w : World) (h : RowR w B a n c rs) (hB : B ≤ w.heap.size) (hn : n ≤ 100000) :
    Calls Try.prog 31 #[.slice a n c] w fun e w' => ∃ a' c', e = .returned (.slice a' n c') ∧ OwnR w' w.heap.size 47 (.slice a' n c') rs ∧ Below w.heap.size w w' := by
  have hl := h.1
  have hen := eql_nil Try.underlying25 a n c
  cases a with
  | none =>
    obtain rfl : n = 0 := by
      rcases Nat.eq_zero_or_pos n with h0 | h0
      · exact h0
      · obtain ⟨_, _, e, _⟩ := h.cells h0; cases e
    obtain rfl := List.eq_nil_of_length_eq_zero hl
    clear h
    go_enter Try.func31, Try.ntmps31
    go_wp2_with fail
    go_ret
    exact ⟨none, 0, rfl, ownR_nil _ _ _, Below.refl _ _⟩
  | some ad =>
    obtain ⟨i0, hi0, hz0, hz1, hz2⟩ := info_parts info_task
    have hcs := fun o => cells_rowR (h.below ((Below.refl B w).alloc hB o))
    have HCS := Lib.hid hcs
    have HOE := Lib.hid (ownR_empty w 47 (Nat.le_refl _))
    have HL := Lib.hid hl
    have HBE := Lib.hid fun o : Obj => (Below.refl w.heap.size w).alloc (Nat.le_refl _) o
    clear hcs h hl
    go_enter Try.func31, Try.ntmps31
    go_wp2_with (at_builtin; refine wpList_append_own _ rfl (.tmp 5) (.tmp 6) 25 rfl w.heap.size 47 i0 (.agg #[.int .i64 0, .int .i64 0, .int .i64 0, .int .i64 0, .int .i64 0]) 5 40 Try.underlying25 hi0 hz0 hz1 hz2 rfl (by decide) _ _ _ rfl HOE.out ad n c (recs rs) rfl (by rw [recs_len, HL.out]) (HCS.out _) (recs_one rs) (by simp only [maxLen, List.length_nil]; omega) (by simp only [List.length_nil]; omega) (by simp) ?_; intro v' w3 hown3 hgrow3 _)
    have HO : Hid (OwnR w3 w.heap.size 47 v' rs) := by
      unfold Hid OwnR
      rw [HL.out]
      simpa [recs] using hown3
    obtain ⟨a', c', rfl⟩ := HO.out.slice
    have HB3 := Lib.hid ((HBE.out _).grown hgrow3 (by simp) (fun k hk => (World.ownsRow.lt HOE.out k hk).1))
    clear hown3 hgrow3
    go_wp2_with fail
    go_ret
    rw [HL.out] at HO ⊢
    exact ⟨a', c', rfl, HO.out, HB3.out⟩
set_option maxRecDepth 100000 in
set_option maxHeartbeats 400000 in
theorem cloneI_any (a : Option Addr) (n c B : Nat) (rs : List Int) (w : World) (h : RowZ .i64 w B a n c rs) (hB : B ≤ w.heap.size) (hn : n ≤ 100000) :
    Calls Try.prog 32 #[.slice a n c] w fun e w' => ∃ a' c', e = .returned (.slice a' n c') ∧ OwnZ w' w.heap.size (.slice a' n c') rs ∧ Below w.heap.size w w' := by
  have hl := h.1
  have hen := eql_nil Try.underlying26 a n c
  cases a with
  | none =>
    obtain rfl : n = 0 := by
      rcases Nat.eq_zero_or_pos n with h0 | h0
      · exact h0
      · obtain ⟨_, _, e, _⟩ := h.cells h0; cases e
    obtain rfl := List.eq_nil_of_length_eq_zero hl
    clear h
    go_enter Try.func32, Try.ntmps32
    go_wp2_with fail
    go_ret
    exact ⟨none, 0, rfl, World.ownsRow_nil _ _ _ _, Below.refl _ _⟩
  | some ad =>
    obtain ⟨i0, hi0, hz0, hz1, hz2⟩ := info_parts info_int
    have hcs := fun o => cells_rowZ (h.below ((Below.refl B w).alloc hB o))
    have HCS := Lib.hid hcs
    have HOE := Lib.hid (ownZ_empty w (Nat.le_refl _))
    have HL := Lib.hid hl
    have HBE := Lib.hid fun o : Obj => (Below.refl w.heap.size w).alloc (Nat.le_refl _) o
    clear hcs h hl
    go_enter Try.func32, Try.ntmps32
    go_wp2_with (at_builtin; refine wpList_append_own _ rfl (.tmp 5) (.tmp 6) 26 rfl w.heap.size 3 i0 (.int .i64 0) 1 8 Try.underlying26 hi0 hz0 hz1 hz2 rfl (by decide) _ _ _ rfl HOE.out ad n c (intsZ rs) rfl (by rw [intsZ_len, HL.out, Nat.mul_one]) (HCS.out _) (by intro u hu; obtain ⟨_, _, rfl⟩ := List.mem_map.1 hu; rfl) (by simp only [maxLen, List.length_nil]; omega) (by simp only [List.length_nil]; omega) (by simp) ?_; intro v' w3 hown3 hgrow3 _)
    have HO : Hid (OwnZ w3 w.heap.size v' rs) := by
      unfold Hid OwnZ
      rw [HL.out]
      simpa [intsZ] using hown3
    obtain ⟨a', c', rfl⟩ := (own_slice HO.out)
    have HB3 := Lib.hid ((HBE.out _).grown hgrow3 (by simp) (fun k hk => (World.ownsRow.lt HOE.out k hk).1))
    clear hown3 hgrow3
    go_wp2_with fail
    go_ret
    rw [HL.out] at HO ⊢
    exact ⟨a', c', rfl, HO.out, HB3.out⟩
theorem OwnZ.mono {w : World} {B B' : Nat} {v : Value} {l : List Int} (h : OwnZ w B v l) (hB : B' ≤ B) : OwnZ w B' v l := by
  refine ⟨h.1, ?_⟩
  rcases h.2 with h2 | ⟨g, cap, cur, hv, hb, r⟩
  · exact .inl h2
  · exact .inr ⟨g, cap, cur, hv, by omega, r⟩

/-- What Copy hands back. -/
structure CopyIn (w : World) (B : Nat) (h : Sh) (s : St) : Prop where
  tick : h.t = s.tick
  rs : OwnR w B 45 (.slice h.a1 h.n1 h.c1) s.rs
  ts : OwnR w B 47 (.slice h.a2 h.n2 h.c2) s.ts
  bl : OwnZ w B (.slice h.a3 h.n3 h.c3) s.bl
  n1 : h.n1 = s.rs.length
  n2 : h.n2 = s.ts.length
  n3 : h.n3 = s.bl.length
theorem OwnZ.rowZ {w : World} {B : Nat} {a : Option Addr} {n c : Nat} {l : List Int} (h : OwnZ w B (.slice a n c) l) : RowZ .i64 w w.heap.size a n c l := by
  obtain ⟨a', c', e, hr⟩ := OwnZ.row h
  injection e with e1 e2 e3
  subst e1 e2 e3
  exact hr
theorem CopyIn.stIn {w : World} {B : Nat} {h : Sh} {s : St} (hc : CopyIn w B h s) : StIn w w.heap.size h s := ⟨hc.tick, hc.rs.row, hc.ts.row, hc.bl.rowZ⟩

theorem below_set4 {B b : Nat} {a V : World} (h : Below B a V) (hb : B ≤ b) (v0 v1 v2 v3 : Value) : Below B a ((((V.setCell ⟨b, 0, none⟩ v0).setCell ⟨b, 1, none⟩ v1).setCell ⟨b, 2, none⟩ v2).setCell ⟨b, 3, none⟩ v3) :=
  (((h.setCell (p := ⟨b, 0, none⟩) hb v0).setCell (p := ⟨b, 1, none⟩) hb v1).setCell (p := ⟨b, 2, none⟩) hb v2).setCell (p := ⟨b, 3, none⟩) hb v3
theorem own_set4 {B b n size : Nat} {e : TypeId} {v : Value} {xs : List Value} {V : World} (h : V.ownsRow B e size v n xs) (hb : b < B) (v0 v1 v2 v3 : Value) : ((((V.setCell ⟨b, 0, none⟩ v0).setCell ⟨b, 1, none⟩ v1).setCell ⟨b, 2, none⟩ v2).setCell ⟨b, 3, none⟩ v3).ownsRow B e size v n xs :=
  ownsRow_setCell_below (ownsRow_setCell_below (ownsRow_setCell_below (ownsRow_setCell_below h (a := ⟨b, 0, none⟩) hb v0) (a := ⟨b, 1, none⟩) hb v1) (a := ⟨b, 2, none⟩) hb v2) (a := ⟨b, 3, none⟩) hb v3
theorem CopyIn.calls {w w' : World} {B : Nat} {h : Sh} {s : St} (c : CopyIn w B h s) (hb : Below w.heap.size w w') : CopyIn w' B h s :=
  ⟨c.tick, c.rs.calls hb, c.ts.calls hb, own_upto c.bl hb (fun k hk => (World.ownsRow.lt c.bl k hk).2), c.n1, c.n2, c.n3⟩
theorem CopyIn.mono {w : World} {B B' : Nat} {h : Sh} {s : St} (c : CopyIn w B h s) (hB : B' ≤ B) : CopyIn w B' h s :=
  ⟨c.tick, c.rs.mono hB, c.ts.mono hB, OwnZ.mono c.bl hB, c.n1, c.n2, c.n3⟩
theorem copy_set4 {w : World} {B b : Nat} {h : Sh} {s : St} (c : CopyIn w B h s) (hb : b < B) (v0 v1 v2 v3 : Value) : CopyIn ((((w.setCell ⟨b, 0, none⟩ v0).setCell ⟨b, 1, none⟩ v1).setCell ⟨b, 2, none⟩ v2).setCell ⟨b, 3, none⟩ v3) B h s :=
  ⟨c.tick, own_set4 c.rs hb v0 v1 v2 v3, own_set4 c.ts hb v0 v1 v2 v3, own_set4 c.bl hb v0 v1 v2 v3, c.n1, c.n2, c.n3⟩
theorem stAt_set4 {b : Nat} {V : World} {x0 x1 x2 x3 : Value} (h0 : V.cell? ⟨b, 0, none⟩ = some x0) (h1 : V.cell? ⟨b, 1, none⟩ = some x1) (h2 : V.cell? ⟨b, 2, none⟩ = some x2) (h3 : V.cell? ⟨b, 3, none⟩ = some x3) (h : Sh) :
    StAt ((((V.setCell ⟨b, 0, none⟩ (.int .i64 h.t)).setCell ⟨b, 1, none⟩ (.slice h.a1 h.n1 h.c1)).setCell ⟨b, 2, none⟩ (.slice h.a2 h.n2 h.c2)).setCell ⟨b, 3, none⟩ (.slice h.a3 h.n3 h.c3)) b h := by
  refine ⟨?_, ?_, ?_, ?_⟩ <;> simp [go_sem, h0, h1, h2, h3]

set_option maxRecDepth 100000 in
set_option maxHeartbeats 1000000 in
theorem copy_any (h : Sh) (s : St) (B : Nat) (w : World) (hin : StIn w B h s) (hB : B ≤ w.heap.size) (hn1 : h.n1 ≤ 100000) (hn2 : h.n2 ≤ 100000) (hn3 : h.n3 ≤ 100000) :
    Calls Try.prog 16 #[shV h] w fun e w' => ∃ h' : Sh, e = .returned (shV h') ∧ CopyIn w' w.heap.size h' s ∧ Below w.heap.size w w' := by
  obtain ⟨w2, hw2, hB2, hz2, hs2, hs2'⟩ := ss_head w h ⟨0, none, 0, 0, none, 0, 0, none, 0, 0⟩
  have HIN := Lib.hid (hin.mono hB)
  have HT := Lib.hid hin.tick
  have HW2 := Lib.hid hw2
  obtain ⟨t, a1, n1, c1, a2, n2, c2, a3, n3, c3⟩ := h
  obtain ⟨tick, rs, ts, bl⟩ := s
  simp only [] at HT hn1 hn2 hn3
  obtain ⟨s0, s1, s2, s3⟩ := hs2
  obtain ⟨q0, q1, q2, q3⟩ := hs2'
  simp only [] at s0 s1 s2 s3 q0 q1 q2 q3
  clear hin hw2
  have hf0 : ∀ i, w2.frozen? ⟨w.heap.size + 1, i, none⟩ = false := fun i => by rw [HW2.out]; simp
  have hks : ∀ V, Below (w.heap.size + 1) w2 V → (Below (w.heap.size + 1) w2 V ∧ V.cell? ⟨w.heap.size, 0, none⟩ = some (.int .i64 t) ∧ V.cell? ⟨w.heap.size, 1, none⟩ = some (.slice a1 n1 c1) ∧ V.cell? ⟨w.heap.size, 2, none⟩ = some (.slice a2 n2 c2) ∧ V.cell? ⟨w.heap.size, 3, none⟩ = some (.slice a3 n3 c3)) := fun V hV =>
    ⟨hV, (hV.cell (p := ⟨w.heap.size, 0, none⟩) (show w.heap.size < w.heap.size + 1 by omega)).trans s0, (hV.cell (p := ⟨w.heap.size, 1, none⟩) (show w.heap.size < w.heap.size + 1 by omega)).trans s1, (hV.cell (p := ⟨w.heap.size, 2, none⟩) (show w.heap.size < w.heap.size + 1 by omega)).trans s2, (hV.cell (p := ⟨w.heap.size, 3, none⟩) (show w.heap.size < w.heap.size + 1 by omega)).trans s3⟩
  have hk1 : ∀ V, Kept w2 V → Below (w.heap.size + 1) w2 V := fun V hV => Below.mono hV (by omega)
  have hin : ∀ V, Kept w2 V → Below w.heap.size w V := fun V hV => hB2.trans (Below.mono hV (by omega))
  have hc1 : ∀ V, Kept w2 V → Calls Try.prog 30 #[.slice a1 n1 c1] V fun e V' => ∃ a' c', e = .returned (.slice a' n1 c') ∧ OwnR V' w2.heap.size 45 (.slice a' n1 c') rs ∧ Kept w2 V' ∧ Below (w.heap.size + 1) w2 V' := fun V hV =>
    (cloneR_any a1 n1 c1 w.heap.size rs V (HIN.out.rs.below (hin V hV)) (hin V hV).size hn1).mono fun e V' ⟨a', c', he, ho, hb⟩ => by
      have hk : Kept w2 V' := Below.trans hV (hb.mono hV.size)
      exact ⟨a', c', he, ho.mono hV.size, hk, hk1 _ hk⟩
  have hc2 : ∀ V v, Kept w2 V → OwnR V w2.heap.size 45 v rs → Calls Try.prog 31 #[.slice a2 n2 c2] V fun e V' => ∃ a' c', e = .returned (.slice a' n2 c') ∧ OwnR V' w2.heap.size 45 v rs ∧ OwnR V' w2.heap.size 47 (.slice a' n2 c') ts ∧ Kept w2 V' ∧ Below (w.heap.size + 1) w2 V' := fun V v hV hv =>
    (cloneT_any a2 n2 c2 w.heap.size ts V (HIN.out.ts.below (hin V hV)) (hin V hV).size hn2).mono fun e V' ⟨a', c', he, ho, hb⟩ => by
      have hk : Kept w2 V' := Below.trans hV (hb.mono hV.size)
      exact ⟨a', c', he, hv.calls hb, ho.mono hV.size, hk, hk1 _ hk⟩
  have hc3 : ∀ V v v', Kept w2 V → OwnR V w2.heap.size 45 v rs → OwnR V w2.heap.size 47 v' ts → Calls Try.prog 32 #[.slice a3 n3 c3] V fun e V' => ∃ a' c', e = .returned (.slice a' n3 c') ∧ (OwnR V' w2.heap.size 45 v rs ∧ OwnR V' w2.heap.size 47 v' ts ∧ OwnZ V' w2.heap.size (.slice a' n3 c') bl) ∧ Below (w.heap.size + 1) w2 V' ∧
      (V'.cell? ⟨w.heap.size + 1, 0, none⟩ = some (.int .i64 0) ∧ V'.cell? ⟨w.heap.size + 1, 1, none⟩ = some (.slice none 0 0) ∧ V'.cell? ⟨w.heap.size + 1, 2, none⟩ = some (.slice none 0 0) ∧ V'.cell? ⟨w.heap.size + 1, 3, none⟩ = some (.slice none 0 0)) ∧
      (V'.frozen? ⟨w.heap.size + 1, 0, none⟩ = false ∧ V'.frozen? ⟨w.heap.size + 1, 1, none⟩ = false ∧ V'.frozen? ⟨w.heap.size + 1, 2, none⟩ = false ∧ V'.frozen? ⟨w.heap.size + 1, 3, none⟩ = false) := fun V v v' hV hv hv' =>
    (cloneI_any a3 n3 c3 w.heap.size bl V (HIN.out.bl.below (hin V hV)) (hin V hV).size hn3).mono fun e V' ⟨a', c', he, ho, hb⟩ => by
      have hk : Kept w2 V' := Below.trans hV (hb.mono hV.size)
      have hcc : ∀ i, V'.cell? ⟨w.heap.size + 1, i, none⟩ = w2.cell? ⟨w.heap.size + 1, i, none⟩ := fun i => Below.cell hk (p := ⟨w.heap.size + 1, i, none⟩) (show w.heap.size + 1 < w2.heap.size by omega)
      have hff : ∀ i, V'.frozen? ⟨w.heap.size + 1, i, none⟩ = false := fun i => (Below.frozen hk (p := ⟨w.heap.size + 1, i, none⟩) (show w.heap.size + 1 < w2.heap.size by omega)).trans (hf0 i)
      refine ⟨a', c', he, ⟨hv.calls hb, hv'.calls hb, ?_⟩, hk1 _ hk, ⟨(hcc 0).trans q0, (hcc 1).trans q1, (hcc 2).trans q2, (hcc 3).trans q3⟩, hff 0, hff 1, hff 2, hff 3⟩
      exact OwnZ.mono ho hV.size
  have HKS := Lib.hid hks
  have HC1 := Lib.hid hc1
  have HC2 := Lib.hid hc2
  have HC3 := Lib.hid hc3
  have k0 : Kept w2 w2 := Kept.refl _
  have kb0 := hk1 _ k0
  clear hks hc1 hc2 hc3 hin hk1 q0 q1 q2 q3 hf0
  go_enter Try.func16, Try.ntmps16
  go_wp2_with fail
  rw [← HW2.out]
  go_region_held3 (fun V => Below (w.heap.size + 1) w2 V ∧ V.cell? ⟨w.heap.size, 0, none⟩ = some (.int .i64 t) ∧ V.cell? ⟨w.heap.size, 1, none⟩ = some (.slice a1 n1 c1) ∧ V.cell? ⟨w.heap.size, 2, none⟩ = some (.slice a2 n2 c2) ∧ V.cell? ⟨w.heap.size, 3, none⟩ = some (.slice a3 n3 c3))
    (first | exact HKS.out _ (by assumption) | exact HKS.out _ (Below.drew (by assumption)) | exact HKS.out _ (below_set4 (by assumption) (Nat.le_refl _) _ _ _ _) | exact HKS.out _ (below_set4 (Below.drew (by assumption)) (Nat.le_refl _) _ _ _ _))
    (first
      | (go_at_call 30; refine (HC1.out _ (by first | exact k0 | exact Kept.drew k0)).mono ?_; rintro e wa ⟨x1, y1, rfl, o1, ka, kba⟩)
      | (go_at_call 31; refine (HC2.out _ _ (by first | exact ka | exact Kept.drew ka) (by first | exact o1 | exact OwnR.drew o1)).mono ?_; rintro e wb ⟨x2, y2, rfl, o12, o2, kb, kbb⟩)
      | (go_at_call 32; refine (HC3.out _ _ _ (by first | exact kb | exact Kept.drew kb) (by first | exact o12 | exact OwnR.drew o12) (by first | exact o2 | exact OwnR.drew o2)).mono ?_; rintro e wc ⟨x3, y3, rfl, HO, kc, ⟨q0, q1, q2, q3⟩, ⟨f0, f1, f2, f3⟩⟩))
  have hst := stAt_set4 q0 q1 q2 q3 ⟨t, x1, n1, y1, x2, n2, y2, x3, n3, y3⟩
  have HO1 := Lib.hid (own_set4 HO.1 (show w.heap.size + 1 < w2.heap.size by omega) (.int .i64 t) (.slice x1 n1 y1) (.slice x2 n2 y2) (.slice x3 n3 y3))
  have HO2 := Lib.hid (own_set4 HO.2.1 (show w.heap.size + 1 < w2.heap.size by omega) (.int .i64 t) (.slice x1 n1 y1) (.slice x2 n2 y2) (.slice x3 n3 y3))
  have HO3 := Lib.hid (own_set4 HO.2.2 (show w.heap.size + 1 < w2.heap.size by omega) (.int .i64 t) (.slice x1 n1 y1) (.slice x2 n2 y2) (.slice x3 n3 y3))
  have HBF := Lib.hid (below_set4 (hB2.trans (Below.mono kc (by omega))) (show w.heap.size ≤ w.heap.size + 1 by omega) (.int .i64 t) (.slice x1 n1 y1) (.slice x2 n2 y2) (.slice x3 n3 y3))
  clear HO kc
  generalize ((((wc.setCell { block := w.heap.size + 1, off := 0 } (Value.int IntKind.i64 t)).setCell { block := w.heap.size + 1, off := 1 } (Value.slice x1 n1 y1)).setCell { block := w.heap.size + 1, off := 2 } (Value.slice x2 n2 y2)).setCell { block := w.heap.size + 1, off := 3 } (Value.slice x3 n3 y3)) = V4 at hst HO1 HO2 HO3 HBF
  obtain ⟨s0, s1, s2, s3⟩ := hst
  simp only [] at s0 s1 s2 s3
  go_wp2_with fail
  exact bodyPost_ret (v := shV ⟨t, x1, n1, y1, x2, n2, y2, x3, n3, y3⟩) (by simp [results, Try.results16, go_sem, s0, s1, s2, s3]) rfl
    ⟨⟨t, x1, n1, y1, x2, n2, y2, x3, n3, y3⟩, rfl, ⟨HT.out, OwnR.mono HO1.out (by omega), OwnR.mono HO2.out (by omega), OwnZ.mono HO3.out (by omega), HIN.out.rs.1.symm, HIN.out.ts.1.symm, HIN.out.bl.1.symm⟩, HBF.out⟩
end Go.Proofs.Ytopgboepkckkjaa.Vm
