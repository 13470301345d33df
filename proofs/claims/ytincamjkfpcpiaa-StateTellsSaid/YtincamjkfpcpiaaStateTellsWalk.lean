/- tuggerlaw05.StateTells returns true for every input: states, copies, tasks and goals are as the document has them. -/
import Derived.Test.YtincamjkfpcpiaaRefStRights
import Derived.Test.YtincamjkfpcpiaaStSames
import Derived.Test.YtincamjkfpcpiaaStCopies
import Derived.Test.YtincamjkfpcpiaaRefStGoals
import Derived.Test.YtincamjkfpcpiaaLightFives
import Derived.Test.YtincamjkfpcpiaaOpens
import Derived.Test.YtincamjkfpcpiaaRights
namespace Go.Proofs.Ytincamjkfpcpiaa.Vm
open Go Go.RowKit

/-- The cells of two states. -/
abbrev twoV (h h' : Sh) : Value := .agg #[.int .i64 h.t, .slice h.a1 h.n1 h.c1, .slice h.a2 h.n2 h.c2, .slice h.a3 h.n3 h.c3, .int .i64 h'.t, .slice h'.a1 h'.n1 h'.c1, .slice h'.a2 h'.n2 h'.c2, .slice h'.a3 h'.n3 h'.c3]
abbrev twoO (h h' : Sh) : Obj := .cells #[.int .i64 h.t, .slice h.a1 h.n1 h.c1, .slice h.a2 h.n2 h.c2, .slice h.a3 h.n3 h.c3, .int .i64 h'.t, .slice h'.a1 h'.n1 h'.c1, .slice h'.a2 h'.n2 h'.c2, .slice h'.a3 h'.n3 h'.c3] 29
/-- The boxes of StateTells: a grid, two states, two ints. -/
structure Boxes2 (b : Nat) (W H : Int) (g : ByteArray) (h h' : Sh) (p q : Int) (V : World) : Prop where
  g : GridAt V b W H g
  s0 : V.cell? ⟨b + 1, 0, none⟩ = some (.int .i64 h.t)
  s1 : V.cell? ⟨b + 1, 1, none⟩ = some (.slice h.a1 h.n1 h.c1)
  s2 : V.cell? ⟨b + 1, 2, none⟩ = some (.slice h.a2 h.n2 h.c2)
  s3 : V.cell? ⟨b + 1, 3, none⟩ = some (.slice h.a3 h.n3 h.c3)
  s4 : V.cell? ⟨b + 1, 4, none⟩ = some (.int .i64 h'.t)
  s5 : V.cell? ⟨b + 1, 5, none⟩ = some (.slice h'.a1 h'.n1 h'.c1)
  s6 : V.cell? ⟨b + 1, 6, none⟩ = some (.slice h'.a2 h'.n2 h'.c2)
  s7 : V.cell? ⟨b + 1, 7, none⟩ = some (.slice h'.a3 h'.n3 h'.c3)
  p : V.cell? ⟨b + 1 + 1, 0, none⟩ = some (.int .i64 p)
  q : V.cell? ⟨b + 1 + 1, 1, none⟩ = some (.int .i64 q)
theorem Boxes2.below {b B : Nat} {W H : Int} {g : ByteArray} {h h' : Sh} {p q : Int} {V V' : World} (t : Boxes2 b W H g h h' p q V) (hb : Below B V V') (hB : b + 1 + 1 < B) : Boxes2 b W H g h h' p q V' := by
  have c : ∀ i, V'.cell? ⟨b + 1, i, none⟩ = V.cell? ⟨b + 1, i, none⟩ := fun i => hb.cell (p := ⟨b + 1, i, none⟩) (show b + 1 < B by omega)
  have d : ∀ i, V'.cell? ⟨b + 1 + 1, i, none⟩ = V.cell? ⟨b + 1 + 1, i, none⟩ := fun i => hb.cell (p := ⟨b + 1 + 1, i, none⟩) hB
  exact ⟨t.g.below hb (by omega), (c 0).trans t.s0, (c 1).trans t.s1, (c 2).trans t.s2, (c 3).trans t.s3, (c 4).trans t.s4, (c 5).trans t.s5, (c 6).trans t.s6, (c 7).trans t.s7, (d 0).trans t.p, (d 1).trans t.q⟩
theorem tells_head (w : World) (W H : Int) (g : ByteArray) (h h' : Sh) (p q : Int) :
    ∃ w3, w3 = ((w.alloc (gridO W H g)).alloc (twoO h h')).alloc (.cells #[.int .i64 p, .int .i64 q] 30) ∧ Below w.heap.size w w3 ∧ w3.heap.size = w.heap.size + 3 ∧ Boxes2 w.heap.size W H g h h' p q w3 := by
  have h1 : Below w.heap.size w (w.alloc (gridO W H g)) := (Below.refl _ _).alloc (Nat.le_refl _) _
  have z1 : (w.alloc (gridO W H g)).heap.size = w.heap.size + 1 := by simp
  have g1 := gridAt_new w W H g
  generalize w.alloc (gridO W H g) = u1 at h1 z1 g1
  have h2 : Below u1.heap.size u1 (u1.alloc (twoO h h')) := (Below.refl _ _).alloc (Nat.le_refl _) _
  have z2 : (u1.alloc (twoO h h')).heap.size = w.heap.size + 2 := by simp [z1]
  have c2 : ∀ i v, #[Value.int .i64 h.t, .slice h.a1 h.n1 h.c1, .slice h.a2 h.n2 h.c2, .slice h.a3 h.n3 h.c3, .int .i64 h'.t, .slice h'.a1 h'.n1 h'.c1, .slice h'.a2 h'.n2 h'.c2, .slice h'.a3 h'.n3 h'.c3][i]? = some v → (u1.alloc (twoO h h')).cell? ⟨w.heap.size + 1, i, none⟩ = some v := fun i v hv => by
    rw [← z1, cell_of_row (u1.alloc (twoO h h')) u1.heap.size i _ 29 (0, 0) (heap_alloc_new u1 _)]
    exact hv
  generalize u1.alloc (twoO h h') = u2 at h2 z2 c2
  have h3 : Below u2.heap.size u2 (u2.alloc (.cells #[.int .i64 p, .int .i64 q] 30)) := (Below.refl _ _).alloc (Nat.le_refl _) _
  have c3 : ∀ i v, #[Value.int .i64 p, .int .i64 q][i]? = some v → (u2.alloc (.cells #[.int .i64 p, .int .i64 q] 30)).cell? ⟨w.heap.size + 1 + 1, i, none⟩ = some v := fun i v hv => by
    rw [show w.heap.size + 1 + 1 = u2.heap.size by omega, cell_of_row (u2.alloc (.cells #[.int .i64 p, .int .i64 q] 30)) u2.heap.size i #[.int .i64 p, .int .i64 q] 30 (0, 0) (heap_alloc_new u2 _)]
    exact hv
  have c : ∀ i v, u2.cell? ⟨w.heap.size + 1, i, none⟩ = some v → (u2.alloc (.cells #[.int .i64 p, .int .i64 q] 30)).cell? ⟨w.heap.size + 1, i, none⟩ = some v := fun i v hv => (h3.cell (p := ⟨w.heap.size + 1, i, none⟩) (show w.heap.size + 1 < u2.heap.size by omega)).trans hv
  exact ⟨_, rfl, (h1.trans (h2.mono (by omega))).trans (h3.mono (by omega)), by simp [z2],
    ⟨(g1.below h2 (by omega)).below h3 (by omega), c 0 _ (c2 0 _ rfl), c 1 _ (c2 1 _ rfl), c 2 _ (c2 2 _ rfl), c 3 _ (c2 3 _ rfl), c 4 _ (c2 4 _ rfl), c 5 _ (c2 5 _ rfl), c 6 _ (c2 6 _ rfl), c 7 _ (c2 7 _ rfl), c3 0 _ rfl, c3 1 _ rfl⟩⟩

/-- A call whose answer is known, behind which what lay there lies. -/
abbrev Tells1 (f : FuncId) (args : Array Value) (v : Value) : Prop := ∀ V : World, Calls Try.prog f args V fun e V' => e = .returned v ∧ Below V.heap.size V V'

set_option maxRecDepth 100000 in
set_option maxHeartbeats 1000000 in
theorem stateTells_walk (haw : ∀ w : World, Calls Try.prog 6 #[] w fun e w' => e = .returned (.bool true) ∧ Below w.heap.size w w')
    (W H : Int) (g : ByteArray) (h h' : Sh) (s s' : St) (p q : Int) (w : World) (hg : g.size ≤ maxLen) (hi : IsSt w h s) (hi' : IsSt w h' s') :
    Calls Try.prog 3 #[gridV W H g, twoV h h', .agg #[.int .i64 p, .int .i64 q]] w fun e w' => e = .returned (.bool true) ∧ Below w.heap.size w w' := by
  obtain ⟨w3, hw3, hB3, hz3, hA3⟩ := tells_head w W H g h h' p q
  have HW3 := Lib.hid hw3
  have HAW := Lib.hid haw
  have HI := Lib.hid hi.stIn
  have HI' := Lib.hid hi'.stIn
  have HWC := Lib.hid hi.wfC
  have hl1 := hi.stIn.rs.len
  have hl2 := hi.stIn.ts.len
  have hl3 := Nat.le_trans hi.stIn.bl.2.1 hi.stIn.bl.2.2.1
  have hl1' := hi'.stIn.rs.len
  have hl2' := hi'.stIn.ts.len
  have hl3' := Nat.le_trans hi'.stIn.bl.2.1 hi'.stIn.bl.2.2.1
  have HLI := Lib.hid fun V => light5_any W H g h V hg hl1 hl2 hl3
  have HLI' := Lib.hid fun V => light5_any W H g h' V hg hl1' hl2' hl3'
  have HRI := Lib.hid fun V => rright_any W H g V hg
  have HG := Lib.hid hg
  have HL1 := Lib.hid hi.stIn.rs.1
  have HL3 := Lib.hid hi.stIn.bl.1
  obtain ⟨t, a1, n1, c1, a2, n2, c2, a3, n3, c3⟩ := h
  obtain ⟨t', a1', n1', c1', a2', n2', c2', a3', n3', c3'⟩ := h'
  simp only [] at HLI HLI' HL1 HL3
  clear hw3 haw hi hi' hl1 hl2 hl3 hl1' hl2' hl3' hg
  go_enter Try.func3, Try.ntmps3
  go_wp2_with fail
  rw [← HW3.out]
  refine (HAW.out w3).mono ?_
  rintro e w4 ⟨rfl, hb4⟩
  have hB4 := hB3.trans (hb4.mono hB3.size)
  have hA4 := hA3.below hb4 (by omega)
  have hz4 : w.heap.size + 3 ≤ w4.heap.size := by have := hb4.size; omega
  obtain ⟨g1, g2, g3⟩ := id hA4.g
  have s0 := hA4.s0
  have s1 := hA4.s1
  have s2 := hA4.s2
  have s3 := hA4.s3
  simp only [] at s0 s1 s2 s3
  have HA4 := Lib.hid hA4
  clear hA3 hA4 hb4 hB3 hz3 HAW HW3
  go_wp2_with fail
  generalize hL : light5 g.size n1 n2 n3 = L at HLI
  generalize hL' : light5 g.size n1' n2' n3' = L' at HLI'
  have HL := Lib.hid hL
  have HL' := Lib.hid hL'
  clear hL hL'
  refine (HLI.out w4).mono ?_
  rintro e w5 ⟨rfl, hb5⟩
  have hB5 := hB4.trans (hb5.mono hB4.size)
  have hA5 := HA4.out.below hb5 (by omega)
  have hz5 : w.heap.size + 3 ≤ w5.heap.size := by have := hb5.size; omega
  clear g1 g2 g3 s0 s1 s2 s3
  obtain ⟨g1, g2, g3⟩ := id hA5.g
  have s4 := hA5.s4
  have s5 := hA5.s5
  have s6 := hA5.s6
  have s7 := hA5.s7
  simp only [] at s4 s5 s6 s7
  have HA5 := Lib.hid hA5
  clear HA4 hA5 hb5 hB4 hz4 HLI
  go_wp2_with fail
  refine (HLI'.out w5).mono ?_
  rintro e w6 ⟨rfl, hb6⟩
  have hB6 := hB5.trans (hb6.mono hB5.size)
  have hA6 := HA5.out.below hb6 (by omega)
  have hz6 : w.heap.size + 3 ≤ w6.heap.size := by have := hb6.size; omega
  clear g1 g2 g3 s4 s5 s6 s7
  obtain ⟨g1, g2, g3⟩ := id hA6.g
  have HA6 := Lib.hid hA6
  clear HA5 hA6 hb6 hB5 hz5 HLI'
  cases L
  · go_wp2_with fail
    go_ret
    exact ⟨rfl, hB6⟩
  cases L'
  · go_wp2_with fail
    go_ret
    exact ⟨rfl, hB6⟩
  cases hrg : rightS W H (bytesOf g)
  · have hri := HRI.out w6
    rw [hrg] at hri
    have HRI2 := Lib.hid hri
    clear hri hrg HRI
    go_wp2_with fail
    refine HRI2.out.mono ?_
    rintro e w7 ⟨rfl, hb7⟩
    have hB7 := hB6.trans (hb7.mono hB6.size)
    go_wp2_with fail
    go_ret
    exact ⟨rfl, hB7⟩
  have hri := HRI.out w6
  rw [hrg] at hri
  have HRI2 := Lib.hid hri
  have HOK := Lib.hid (Okay.of hrg)
  clear hri hrg HRI
  go_wp2_with fail
  refine HRI2.out.mono ?_
  rintro e w7 ⟨rfl, hb7⟩
  have hB7 := hB6.trans (hb7.mono hB6.size)
  have hA7 := HA6.out.below hb7 (by omega)
  have hz7 : w.heap.size + 3 ≤ w7.heap.size := by have := hb7.size; omega
  clear g1 g2 g3
  obtain ⟨g1, g2, g3⟩ := id hA7.g
  have s0 := hA7.s0
  have s1 := hA7.s1
  have s2 := hA7.s2
  have s3 := hA7.s3
  simp only [] at s0 s1 s2 s3
  have HA7 := Lib.hid hA7
  clear HA6 hA7 hb7 hB6 hz6 HRI2
  have hl0 : w.heap.size < w7.heap.size := by omega
  have hl1 : w.heap.size + 1 < w7.heap.size := by omega
  have hal : Below w7.heap.size w7 (w7.alloc (shO ⟨t, a1, n1, c1, a2, n2, c2, a3, n3, c3⟩)) := (Below.refl _ _).alloc (Nat.le_refl _) _
  have hst := stAt_new w7 ⟨t, a1, n1, c1, a2, n2, c2, a3, n3, c3⟩
  have hzu : (w7.alloc (shO ⟨t, a1, n1, c1, a2, n2, c2, a3, n3, c3⟩)).heap.size = w7.heap.size + 1 := by simp
  obtain ⟨u, hu⟩ : ∃ u, u = w7.alloc (shO ⟨t, a1, n1, c1, a2, n2, c2, a3, n3, c3⟩) := ⟨_, rfl⟩
  rw [← hu] at hal hst hzu
  have hBu := hB7.trans (hal.mono hB7.size)
  have HAU := Lib.hid (HA7.out.below hal (by omega))
  have HSU := Lib.hid hst
  have HU := Lib.hid hu
  obtain ⟨lg1, lg2, lg3, lg4⟩ := light5_in HL.out
  have HRR := Lib.hid fun (V : World) (hV : Below w.heap.size w V) => rstRight_any W H g ⟨t, a1, n1, c1, a2, n2, c2, a3, n3, c3⟩ s _ V HG.out (HI.out.below hV) hV.size
  have HSS := Lib.hid fun (V : World) (hV : Below w.heap.size w V) => rstSame_any ⟨t, a1, n1, c1, a2, n2, c2, a3, n3, c3⟩ ⟨t', a1', n1', c1', a2', n2', c2', a3', n3', c3'⟩ s s' _ V (HI.out.below hV) (HI'.out.below hV) hV.size
  obtain ⟨rb, hrb⟩ : ∃ rb, rightB (floorS (bytesOf g)) s = rb := ⟨_, rfl⟩
  rw [hrb] at HRR
  have HRB := Lib.hid hrb
  obtain ⟨sb, hsb⟩ : ∃ sb, sameSt s s' = sb := ⟨_, rfl⟩
  rw [hsb] at HSS
  have HSB := Lib.hid hsb
  clear hu hal hst hrb hsb hB7
  go_wp2_with fail
  rw [← HU.out]
  refine (HRR.out _ hBu).mono ?_
  rintro e w8 ⟨rfl, hb8⟩
  have hB8 := hBu.trans (hb8.mono hBu.size)
  have hA8 := HAU.out.below hb8 (by omega)
  have hS8 := HSU.out.below hb8 (by omega)
  have hz8 : w7.heap.size + 1 ≤ w8.heap.size := by have := hb8.size; omega
  clear g1 g2 g3 s0 s1 s2 s3
  have s4 := hA8.s4
  have s5 := hA8.s5
  have s6 := hA8.s6
  have s7 := hA8.s7
  simp only [] at s4 s5 s6 s7
  obtain ⟨t0, t1, t2, t3⟩ := id hS8
  simp only [] at t0 t1 t2 t3
  have HA8 := Lib.hid hA8
  have HS8 := Lib.hid hS8
  clear hA8 hS8 hb8 HAU HSU HU
  go_wp2_with fail
  refine (HSS.out _ hB8).mono ?_
  rintro e w9 ⟨rfl, hb9⟩
  have hB9 := hB8.trans (hb9.mono hB8.size)
  have hA9 := HA8.out.below hb9 (by omega)
  have hS9 := HS8.out.below hb9 (by omega)
  have hz9 : w7.heap.size + 1 ≤ w9.heap.size := by have := hb9.size; omega
  clear s4 s5 s6 s7 t0 t1 t2 t3
  have HA9 := Lib.hid hA9
  have HS9 := Lib.hid hS9
  clear hA9 hS9 hb9 HA8 HS8 HRR
  have k0 : Kept w9 w9 := Kept.refl _
  have hks : ∀ V, Kept w9 V → (Kept w9 V ∧ V.cell? ⟨w.heap.size, 0, none⟩ = some (.int .i64 W) ∧ V.cell? ⟨w.heap.size, 1, none⟩ = some (.int .i64 H) ∧ V.cell? ⟨w.heap.size, 2, none⟩ = some (.string g) ∧
      V.cell? ⟨w7.heap.size, 0, none⟩ = some (.int .i64 t) ∧ V.cell? ⟨w7.heap.size, 1, none⟩ = some (.slice a1 n1 c1) ∧ V.cell? ⟨w7.heap.size, 2, none⟩ = some (.slice a2 n2 c2) ∧ V.cell? ⟨w7.heap.size, 3, none⟩ = some (.slice a3 n3 c3) ∧
      V.cell? ⟨w.heap.size + 1, 4, none⟩ = some (.int .i64 t') ∧ V.cell? ⟨w.heap.size + 1, 5, none⟩ = some (.slice a1' n1' c1') ∧ V.cell? ⟨w.heap.size + 1, 6, none⟩ = some (.slice a2' n2' c2') ∧ V.cell? ⟨w.heap.size + 1, 7, none⟩ = some (.slice a3' n3' c3') ∧
      V.cell? ⟨w.heap.size + 1 + 1, 0, none⟩ = some (.int .i64 p) ∧ V.cell? ⟨w.heap.size + 1 + 1, 1, none⟩ = some (.int .i64 q)) := fun V hV => by
    have hA := HA9.out.below hV (by omega)
    have hS := HS9.out.below hV (by omega)
    exact ⟨hV, hA.g.1, hA.g.2.1, hA.g.2.2, hS.1, hS.2.1, hS.2.2.1, hS.2.2.2, hA.s4, hA.s5, hA.s6, hA.s7, hA.p, hA.q⟩
  have hwV : ∀ V, Kept w9 V → Below w.heap.size w V := fun V hV => hB9.trans (Below.mono hV hB9.size)
  have hc1 : ∀ V, Kept w9 V → Calls Try.prog 11 #[gridV W H g, shV ⟨t, a1, n1, c1, a2, n2, c2, a3, n3, c3⟩] V fun e V' => e = .returned (.bool rb) ∧ Kept w9 V' := fun V hV =>
    (stRight_any W H g ⟨t, a1, n1, c1, a2, n2, c2, a3, n3, c3⟩ s _ V HG.out (HI.out.below (hwV V hV)) (hwV V hV).size HWC.out).mono fun e V' ⟨he, hb⟩ => ⟨by rw [he, HRB.out], Below.trans hV (hb.mono hV.size)⟩
  have hc2 : ∀ V, Kept w9 V → Calls Try.prog 12 #[shV ⟨t, a1, n1, c1, a2, n2, c2, a3, n3, c3⟩, shV ⟨t', a1', n1', c1', a2', n2', c2', a3', n3', c3'⟩] V fun e V' => e = .returned (.bool sb) ∧ Kept w9 V' := fun V hV =>
    (stSame_any ⟨t, a1, n1, c1, a2, n2, c2, a3, n3, c3⟩ ⟨t', a1', n1', c1', a2', n2', c2', a3', n3', c3'⟩ s s' _ V (HI.out.below (hwV V hV)) (HI'.out.below (hwV V hV)) (hwV V hV).size).mono fun e V' ⟨he, hb⟩ => ⟨by rw [he, HSB.out], Below.trans hV (hb.mono hV.size)⟩
  have hc3 : ∀ V, Kept w9 V → Calls Try.prog 13 #[shV ⟨t, a1, n1, c1, a2, n2, c2, a3, n3, c3⟩] V fun e V' => ∃ h'', e = .returned (shV h'') ∧ StIn V' V'.heap.size h'' s ∧ Kept w9 V' := fun V hV =>
    (copy_any ⟨t, a1, n1, c1, a2, n2, c2, a3, n3, c3⟩ s _ V (HI.out.below (hwV V hV)) (hwV V hV).size (show n1 ≤ 100000 by omega) (show n2 ≤ 100000 by omega) (show n3 ≤ 100000 by omega)).mono fun e V' ⟨h'', he, hc, hb⟩ => ⟨h'', he, hc.stIn, Below.trans hV (hb.mono hV.size)⟩
  have hc4 : ∀ V h'', Kept w9 V → StIn V V.heap.size h'' s → Calls Try.prog 10 #[shV ⟨t, a1, n1, c1, a2, n2, c2, a3, n3, c3⟩, shV h''] V fun e V' => e = .returned (.bool true) ∧ Kept w9 V' := fun V h'' hV hi =>
    (rstSame_any ⟨t, a1, n1, c1, a2, n2, c2, a3, n3, c3⟩ h'' s s _ V ((HI.out.below (hwV V hV)).mono (hwV V hV).size) hi (Nat.le_refl _)).mono fun e V' ⟨he, hb⟩ => ⟨by rw [he, sameSt_all rfl rfl rfl rfl], Below.trans hV (hb.mono hV.size)⟩
  have hc5 : ∀ V, Kept w9 V → Calls Try.prog 14 #[shV ⟨t, a1, n1, c1, a2, n2, c2, a3, n3, c3⟩, .int .i64 p] V fun e V' => e = .returned (.int .i64 (findS s.ts p)) ∧ Kept w9 V' := fun V hV =>
    (find_any ⟨t, a1, n1, c1, a2, n2, c2, a3, n3, c3⟩ s.ts p _ V (HI.out.ts.below (hwV V hV)) (hwV V hV).size).mono fun e V' ⟨he, hb⟩ => ⟨he, Below.trans hV (hb.mono hV.size)⟩
  have hc6 : ∀ V, Kept w9 V → Calls Try.prog 15 #[shV ⟨t, a1, n1, c1, a2, n2, c2, a3, n3, c3⟩, .int .i64 p] V fun e V' => e = .returned (.int .i64 (findS s.ts p)) ∧ Kept w9 V' := fun V hV =>
    (rfind_any ⟨t, a1, n1, c1, a2, n2, c2, a3, n3, c3⟩ s.ts p _ V (HI.out.ts.below (hwV V hV)) (hwV V hV).size).mono fun e V' ⟨he, hb⟩ => ⟨he, Below.trans hV (hb.mono hV.size)⟩
  generalize findS s.ts p = fd at hc5 hc6
  have HKS := Lib.hid hks
  have HWV := Lib.hid hwV
  have H1 := Lib.hid hc1
  have H2 := Lib.hid hc2
  have H3 := Lib.hid hc3
  have H4 := Lib.hid hc4
  have H5 := Lib.hid hc5
  have H6 := Lib.hid hc6
  clear hks hwV hc1 hc2 hc3 hc4 hc5 hc6 hB8 hBu HSS
  go_wp2_with fail
  go_region_held3 (fun V => Kept w9 V ∧ V.cell? ⟨w.heap.size, 0, none⟩ = some (.int .i64 W) ∧ V.cell? ⟨w.heap.size, 1, none⟩ = some (.int .i64 H) ∧ V.cell? ⟨w.heap.size, 2, none⟩ = some (.string g) ∧
      V.cell? ⟨w7.heap.size, 0, none⟩ = some (.int .i64 t) ∧ V.cell? ⟨w7.heap.size, 1, none⟩ = some (.slice a1 n1 c1) ∧ V.cell? ⟨w7.heap.size, 2, none⟩ = some (.slice a2 n2 c2) ∧ V.cell? ⟨w7.heap.size, 3, none⟩ = some (.slice a3 n3 c3) ∧
      V.cell? ⟨w.heap.size + 1, 4, none⟩ = some (.int .i64 t') ∧ V.cell? ⟨w.heap.size + 1, 5, none⟩ = some (.slice a1' n1' c1') ∧ V.cell? ⟨w.heap.size + 1, 6, none⟩ = some (.slice a2' n2' c2') ∧ V.cell? ⟨w.heap.size + 1, 7, none⟩ = some (.slice a3' n3' c3') ∧
      V.cell? ⟨w.heap.size + 1 + 1, 0, none⟩ = some (.int .i64 p) ∧ V.cell? ⟨w.heap.size + 1 + 1, 1, none⟩ = some (.int .i64 q))
    (first | with_reducible exact HKS.out _ (by with_reducible assumption) | with_reducible exact HKS.out _ (Kept.drew (by with_reducible assumption)))
    (first
      | (go_at_call 11; refine (H1.out _ (by first | exact k0 | exact Kept.drew k0)).mono ?_; rintro e x1 ⟨rfl, k1⟩)
      | (go_at_call 12; refine (H2.out _ (by first | exact k1 | exact Kept.drew k1)).mono ?_; rintro e x2 ⟨rfl, k2⟩)
      | (go_at_call 13; refine (H3.out _ (by first | exact k2 | exact Kept.drew k2)).mono ?_; rintro e x3 ⟨hh, rfl, hci, k3⟩)
      | (go_at_call 10; refine (H4.out _ hh (by first | exact k3 | exact Kept.drew k3) (by first | exact hci | exact hci.below ((Below.refl _ _).drew))).mono ?_; rintro e x4 ⟨rfl, k4⟩)
      | (go_at_call 14; refine (H5.out _ (by first | exact k4 | exact Kept.drew k4)).mono ?_; rintro e x5 ⟨rfl, k5⟩)
      | (go_at_call 15; refine (H6.out _ (by first | exact k5 | exact Kept.drew k5)).mono ?_; rintro e x6 ⟨rfl, k6⟩))
  all_goals
    have hHH := ‹Kept w9 _ ∧ _›
    obtain ⟨hK, g1, g2, g3, t0, t1, t2, t3, _, _, _, _, p0, q0⟩ := hHH
    have HKK := Lib.hid hK
    cases rb
    · go_wp2_with fail
      go_ret
      exact ⟨rfl, HWV.out _ HKK.out⟩
    have hrp : RightP (floorS (bytesOf g)) s := yes_iff.1 HRB.out
    have hbw : ∀ z ∈ s.bl, (Lit.int .i64 z).wf = true := fun z hz => by
      obtain ⟨i, hi, e⟩ := List.mem_iff_getElem.1 hz
      have h1 := (hrp.shut i hi).1
      have h2 : s.bl.getD i 0 = z := by simp [List.getD, hi, e]
      rw [h2] at h1
      exact floor_wf HG.out h1
    have hg1 : ∀ V, Kept w9 V → Calls Try.prog 16 #[gridV W H g, shV ⟨t, a1, n1, c1, a2, n2, c2, a3, n3, c3⟩, .int .i64 q] V fun e V' => e = .returned (.tuple #[.int .i64 (goalG W H (bytesOf g) s q).1, .bool (goalG W H (bytesOf g) s q).2]) ∧ Kept w9 V' := fun V hV =>
      (goal_any W H g ⟨t, a1, n1, c1, a2, n2, c2, a3, n3, c3⟩ s q _ V HOK.out (HI.out.below (HWV.out V hV)) (HWV.out V hV).size hbw (show n3 ≤ 1000000 by omega)).mono fun e V' ⟨he, hb⟩ => ⟨he, Below.trans hV (hb.mono hV.size)⟩
    have hg2 : ∀ V, Kept w9 V → Calls Try.prog 17 #[gridV W H g, shV ⟨t, a1, n1, c1, a2, n2, c2, a3, n3, c3⟩, .int .i64 q] V fun e V' => e = .returned (.tuple #[.int .i64 (goalG W H (bytesOf g) s q).1, .bool (goalG W H (bytesOf g) s q).2]) ∧ Kept w9 V' := fun V hV =>
      (rgoal_any W H g ⟨t, a1, n1, c1, a2, n2, c2, a3, n3, c3⟩ s q _ V HOK.out (HI.out.below (HWV.out V hV)) (HWV.out V hV).size hrp.mode (show n3 ≤ 1000000 by omega)).mono fun e V' ⟨he, hb⟩ => ⟨he, Below.trans hV (hb.mono hV.size)⟩
    generalize goalG W H (bytesOf g) s q = R at hg1 hg2
    have HG1 := Lib.hid hg1
    have HG2 := Lib.hid hg2
    clear hg1 hg2 hbw hrp hK k1 k2 k3 k4 k5 k6 hci k0
    go_wp2_with fail
    refine (HG1.out _ HKK.out).mono ?_
    rintro e y1 ⟨rfl, m1⟩
    clear g1 g2 g3 t0 t1 t2 t3 p0 q0
    obtain ⟨_, g1, g2, g3, t0, t1, t2, t3, _, _, _, _, p0, q0⟩ := HKS.out y1 m1
    have HM1 := Lib.hid m1
    clear m1
    go_wp2_with fail
    refine (HG2.out _ HM1.out).mono ?_
    rintro e y2 ⟨rfl, m2⟩
    have HM2 := Lib.hid m2
    clear m2
    go_wp2_with fail
    go_ret
    exact ⟨rfl, HWV.out _ HM2.out⟩
end Go.Proofs.Ytincamjkfpcpiaa.Vm
