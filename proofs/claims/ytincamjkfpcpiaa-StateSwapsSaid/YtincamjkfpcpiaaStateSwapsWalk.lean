/- tuggerlaw05.StateSwaps returns true for every input: a state with two of its robots changed for one another may be. -/
import Derived.Test.YtincamjkfpcpiaaSwapMath
import Derived.Test.YtincamjkfpcpiaaStRights
import Derived.Test.YtincamjkfpcpiaaStCopies
import Derived.Test.YtincamjkfpcpiaaStNews
import Derived.Test.YtincamjkfpcpiaaLightFives
import Derived.Test.YtincamjkfpcpiaaOpens
import Derived.Test.YtincamjkfpcpiaaRights
import Derived.Test.YtincamjkfpcpiaaHeldRegion
import Derived.StillTailTactics
namespace Go.Proofs.Ytincamjkfpcpiaa.Vm
open Go Go.RowKit

/-- The boxes of StateSwaps: a grid, a state, two ints. -/
structure Swaps (b : Nat) (W H : Int) (g : ByteArray) (h : Sh) (p q : Int) (V : World) : Prop where
  g : GridAt V b W H g
  s : StAt V (b + 1) h
  p : V.cell? ⟨b + 1 + 1, 0, none⟩ = some (.int .i64 p)
  q : V.cell? ⟨b + 1 + 1, 1, none⟩ = some (.int .i64 q)
theorem Swaps.below {b B : Nat} {W H : Int} {g : ByteArray} {h : Sh} {p q : Int} {V V' : World} (t : Swaps b W H g h p q V) (hb : Below B V V') (hB : b + 1 + 1 < B) : Swaps b W H g h p q V' :=
  ⟨t.g.below hb (by omega), t.s.below hb (by omega), (hb.cell (p := ⟨b + 1 + 1, 0, none⟩) hB).trans t.p, (hb.cell (p := ⟨b + 1 + 1, 1, none⟩) hB).trans t.q⟩
theorem swaps_head (w : World) (W H : Int) (g : ByteArray) (h : Sh) (p q : Int) :
    ∃ w3, w3 = ((w.alloc (gridO W H g)).alloc (shO h)).alloc (.cells #[.int .i64 p, .int .i64 q] 30) ∧ Below w.heap.size w w3 ∧ w3.heap.size = w.heap.size + 3 ∧ Swaps w.heap.size W H g h p q w3 := by
  obtain ⟨u, hu, h1, z1, g1, s1⟩ := gs_head w W H g h
  have h3 : Below u.heap.size u (u.alloc (.cells #[.int .i64 p, .int .i64 q] 30)) := (Below.refl _ _).alloc (Nat.le_refl _) _
  have c3 : ∀ i v, #[Value.int .i64 p, .int .i64 q][i]? = some v → (u.alloc (.cells #[.int .i64 p, .int .i64 q] 30)).cell? ⟨w.heap.size + 1 + 1, i, none⟩ = some v := fun i v hv => by
    rw [show w.heap.size + 1 + 1 = u.heap.size by omega, cell_of_row (u.alloc (.cells #[.int .i64 p, .int .i64 q] 30)) u.heap.size i #[.int .i64 p, .int .i64 q] 30 (0, 0) (heap_alloc_new u _)]
    exact hv
  exact ⟨u.alloc (.cells #[.int .i64 p, .int .i64 q] 30), by rw [hu], h1.trans (h3.mono (by omega)), by simp [z1], ⟨g1.below h3 (by omega), s1.below h3 (by omega), c3 0 _ rfl, c3 1 _ rfl⟩⟩

theorem OwnR.formA {w : World} {B n c : Nat} {ty : TypeId} {a : Option Addr} {rs : List Rec} (h : OwnR w B ty (.slice a n c) rs) (hn : 0 < n) : ∃ lb, a = some ⟨lb, 0, none⟩ ∧ B ≤ lb ∧ lb < w.heap.size := by
  rcases h.2 with ⟨hv, hn'⟩ | ⟨g, cap, cur, hv, hb, hg, _⟩
  · injection hv with _ h2 _
    omega
  · injection hv with h1 h2 h3
    exact ⟨g, h1, hb, (Array.getElem?_eq_some_iff.1 hg).1⟩
theorem OwnR.cellA {w : World} {B lb n c i : Nat} {ty : TypeId} {rs : List Rec} (h : OwnR w B ty (.slice (some ⟨lb, 0, none⟩) n c) rs) (hi : i < rs.length) : w.cell? ⟨lb, i * 5, none⟩ = some (.int .i64 (rs.getD i zr).a) := by
  obtain ⟨b, off, e, _, hc⟩ := h.row.cells (by have := h.row.1; omega)
  injection e with e
  injection e with e1 e2
  subst e1 e2
  have := (hc i (by have := h.row.1; omega)).1
  rwa [Nat.zero_add] at this

/-- All but block lb lies as at A. -/
def But (lb : Nat) (A V : World) : Prop := A.grownBy V (some lb)
theorem But.refl (lb : Nat) (A : World) : But lb A A := ⟨rfl, rfl, rfl, Nat.le_refl _, fun _ _ _ => rfl⟩
theorem But.drew {lb : Nat} {A V : World} (h : But lb A V) : But lb A V.drew := ⟨h.os, h.tape, h.output, h.size, h.block⟩
theorem But.set {lb o : Nat} {A V : World} (h : But lb A V) (v : Value) : But lb A (V.setCell ⟨lb, o, none⟩ v) :=
  ⟨h.os, h.tape, h.output, by simpa [World.setCell] using h.size, fun k hk hne => (Below.heap_setCell V _ v k (fun e => hne (by rw [e]))).trans (h.block k hk hne)⟩
theorem But.cell {lb : Nat} {A V : World} (h : But lb A V) {p : Addr} (hp : p.block < A.heap.size) (hne : p.block ≠ lb) : V.cell? p = A.cell? p := World.cell?_of_block (h.block p.block hp (fun e => hne (by injection e)))
theorem But.below {lb B : Nat} {A V : World} (h : But lb A V) (hB : B ≤ lb) (hA : B ≤ A.heap.size) : Below B A V := ⟨h.os, h.tape, h.output, h.size, fun k hk => h.block k (by omega) (fun e => by injection e; omega)⟩
theorem But.stAt {lb b : Nat} {A V : World} {h : Sh} (hb : But lb A V) (hs : StAt A b h) (hlt : b < A.heap.size) (hne : b ≠ lb) : StAt V b h := by
  have c : ∀ i, V.cell? ⟨b, i, none⟩ = A.cell? ⟨b, i, none⟩ := fun i => hb.cell (p := ⟨b, i, none⟩) hlt hne
  obtain ⟨h0, h1, h2, h3⟩ := hs
  exact ⟨(c 0).trans h0, (c 1).trans h1, (c 2).trans h2, (c 3).trans h3⟩
theorem own_but {A V : World} {lb b0 b1 size size' n n' m c : Nat} {e e' : TypeId} {v : Value} {xs xs' : List Value} (hb : But lb A V) (ho : A.ownsRow b0 e size (.slice (some ⟨lb, 0, none⟩) m c) n xs) (h : A.ownsRow b1 e' size' v n' xs') (hne : e ≠ e') : V.ownsRow b1 e' size' v n' xs' := by
  refine ⟨h.1, ?_⟩
  rcases h.2 with h2 | ⟨g, cap, cur, rfl, hg, hh, r⟩
  · exact .inl h2
  · refine .inr ⟨g, cap, cur, rfl, hg, (hb.block g (Array.getElem?_eq_some_iff.1 hh).1 (fun x => ?_)).trans hh, r⟩
    injection x with x
    subst x
    rcases ho.2 with ⟨h1, _⟩ | ⟨g', cap', cur', hv', _, hh', _⟩
    · injection h1 with h1
      cases h1
    · injection hv' with h1
      injection h1 with h1
      injection h1 with h1
      subst h1
      rw [hh] at hh'
      injection hh' with hh'
      injection hh' with _ hh'
      exact hne hh'.symm

/-- A copy in new memory, its blocks bounded. -/
structure Cop (V : World) (B B' : Nat) (h : Sh) (s : St) : Prop where
  c : CopyIn V B h s
  b1 : ∀ k, (Value.slice h.a1 h.n1 h.c1).ownBlock = some k → k < B'
  b2 : ∀ k, (Value.slice h.a2 h.n2 h.c2).ownBlock = some k → k < B'
  b3 : ∀ k, (Value.slice h.a3 h.n3 h.c3).ownBlock = some k → k < B'
theorem Cop.of {V : World} {B : Nat} {h : Sh} {s : St} (hc : CopyIn V B h s) : Cop V B V.heap.size h s :=
  ⟨hc, fun k hk => (World.ownsRow.lt hc.rs k hk).2, fun k hk => (World.ownsRow.lt hc.ts k hk).2, fun k hk => (World.ownsRow.lt hc.bl k hk).2⟩
theorem Cop.below {V V' : World} {B B' : Nat} {h : Sh} {s : St} (hc : Cop V B B' h s) (hb : Below B' V V') : Cop V' B B' h s :=
  ⟨⟨hc.c.tick, own_upto hc.c.rs hb hc.b1, own_upto hc.c.ts hb hc.b2, own_upto hc.c.bl hb hc.b3, hc.c.n1, hc.c.n2, hc.c.n3⟩, hc.b1, hc.b2, hc.b3⟩
theorem Cop.low {V : World} {B B' : Nat} {h : Sh} {s : St} (hc : Cop V B B' h s) {a : Addr} (ha : a.block < B) (v : Value) : Cop ((V.setCell a v).drew) B B' h s :=
  ⟨⟨hc.c.tick, World.ownsRow.drew (ownsRow_setCell_below hc.c.rs ha v), World.ownsRow.drew (ownsRow_setCell_below hc.c.ts ha v), World.ownsRow.drew (ownsRow_setCell_below hc.c.bl ha v), hc.c.n1, hc.c.n2, hc.c.n3⟩, hc.b1, hc.b2, hc.b3⟩
theorem Cop.setA {V : World} {B B' lb n1 c1 n2 c2 n3 c3 i : Nat} {tk : Int} {a2 a3 : Option Addr} {s : St} (hc : Cop V B B' ⟨tk, some ⟨lb, 0, none⟩, n1, c1, a2, n2, c2, a3, n3, c3⟩ s) (hi : i < s.rs.length) (x : Int) :
    Cop ((V.setCell ⟨lb, i * 5, none⟩ (.int .i64 x)).drew) B B' ⟨tk, some ⟨lb, 0, none⟩, n1, c1, a2, n2, c2, a3, n3, c3⟩ ⟨s.tick, Vm.setA s.rs i x, s.ts, s.bl⟩ := by
  have hb : But lb V ((V.setCell ⟨lb, i * 5, none⟩ (.int .i64 x)).drew) := ((But.refl _ _).set _).drew
  refine ⟨⟨hc.c.tick, OwnR.drew (OwnR.setA hc.c.rs hi x), own_but hb hc.c.rs hc.c.ts (by decide), own_but hb hc.c.rs hc.c.bl (by decide), ?_, hc.c.n2, hc.c.n3⟩, hc.b1, hc.b2, hc.b3⟩
  show n1 = (Vm.setA s.rs i x).length
  rw [setA_len]
  exact hc.c.n1

set_option maxRecDepth 100000 in
set_option maxHeartbeats 2000000 in
theorem stateSwaps_walk (haw : ∀ w : World, Calls Try.prog 6 #[] w fun e w' => e = .returned (.bool true) ∧ Below w.heap.size w w')
    (W H : Int) (g : ByteArray) (h : Sh) (s : St) (p q : Int) (w : World) (hg : g.size ≤ maxLen) (hi : IsSt w h s) :
    Calls Try.prog 5 #[gridV W H g, shV h, .agg #[.int .i64 p, .int .i64 q]] w fun e w' => e = .returned (.bool true) ∧ Below w.heap.size w w' := by
  obtain ⟨w3, hw3, hB3, hz3, hA3⟩ := swaps_head w W H g h p q
  have HW3 := Lib.hid hw3
  have HAW := Lib.hid haw
  have HI := Lib.hid hi.stIn
  have HWC := Lib.hid hi.wfC
  have hl1 := hi.stIn.rs.len
  have hl2 := hi.stIn.ts.len
  have hl3 := Nat.le_trans hi.stIn.bl.2.1 hi.stIn.bl.2.2.1
  have HLI := Lib.hid fun V => light5_any W H g h V hg hl1 hl2 hl3
  have HRI := Lib.hid fun V => rright_any W H g V hg
  have HRR := Lib.hid fun (V : World) (hV : Below w.heap.size w V) => stRight_any W H g h s _ V hg (hi.stIn.below hV) hV.size hi.wfC
  have HG := Lib.hid hg
  have HL1 := Lib.hid hi.stIn.rs.1
  obtain ⟨t, a1, n1, c1, a2, n2, c2, a3, n3, c3⟩ := h
  simp only [] at HLI HL1
  clear hw3 haw hi hl1 hl2 hl3 hg
  go_enter Try.func5, Try.ntmps5
  go_wp2_with fail
  rw [← HW3.out]
  refine (HAW.out w3).mono ?_
  rintro e w4 ⟨rfl, hb4⟩
  have hB4 := hB3.trans (hb4.mono hB3.size)
  have hA4 := hA3.below hb4 (by omega)
  have hz4 : w.heap.size + 3 ≤ w4.heap.size := by have := hb4.size; omega
  obtain ⟨g1, g2, g3⟩ := id hA4.g
  obtain ⟨s0, s1, s2, s3⟩ := id hA4.s
  simp only [] at s0 s1 s2 s3
  have HA4 := Lib.hid hA4
  clear hA3 hA4 hb4 hB3 hz3 HAW HW3
  go_wp2_with fail
  generalize hL : light5 g.size n1 n2 n3 = L at HLI
  have HL := Lib.hid hL
  clear hL
  refine (HLI.out w4).mono ?_
  rintro e w5 ⟨rfl, hb5⟩
  have hB5 := hB4.trans (hb5.mono hB4.size)
  have hA5 := HA4.out.below hb5 (by omega)
  have hz5 : w.heap.size + 3 ≤ w5.heap.size := by have := hb5.size; omega
  clear g1 g2 g3 s0 s1 s2 s3
  obtain ⟨g1, g2, g3⟩ := id hA5.g
  have HA5 := Lib.hid hA5
  clear HA4 hA5 hb5 hB4 hz4 HLI
  cases L
  · go_wp2_with fail
    go_ret
    exact ⟨rfl, hB5⟩
  cases hrg : rightS W H (bytesOf g)
  · have hri := HRI.out w5
    rw [hrg] at hri
    have HRI2 := Lib.hid hri
    clear hri hrg HRI
    go_wp2_with fail
    refine HRI2.out.mono ?_
    rintro e w6 ⟨rfl, hb6⟩
    have hB6 := hB5.trans (hb6.mono hB5.size)
    go_wp2_with fail
    go_ret
    exact ⟨rfl, hB6⟩
  have hri := HRI.out w5
  rw [hrg] at hri
  have HRI2 := Lib.hid hri
  clear hri hrg HRI
  go_wp2_with fail
  refine HRI2.out.mono ?_
  rintro e w6 ⟨rfl, hb6⟩
  have hB6 := hB5.trans (hb6.mono hB5.size)
  have hA6 := HA5.out.below hb6 (by omega)
  have hz6 : w.heap.size + 3 ≤ w6.heap.size := by have := hb6.size; omega
  clear g1 g2 g3
  obtain ⟨g1, g2, g3⟩ := id hA6.g
  obtain ⟨s0, s1, s2, s3⟩ := id hA6.s
  simp only [] at s0 s1 s2 s3
  have HA6 := Lib.hid hA6
  obtain ⟨rb, hrb⟩ : ∃ rb, rightB (floorS (bytesOf g)) s = rb := ⟨_, rfl⟩
  rw [hrb] at HRR
  have HRB := Lib.hid hrb
  clear HA5 hA6 hb6 hB5 hz5 HRI2 hrb
  go_wp2_with fail
  refine (HRR.out _ hB6).mono ?_
  rintro e w7 ⟨rfl, hb7⟩
  have hB7 := hB6.trans (hb7.mono hB6.size)
  have hA7 := HA6.out.below hb7 (by omega)
  have hz7 : w.heap.size + 3 ≤ w7.heap.size := by have := hb7.size; omega
  clear g1 g2 g3 s0 s1 s2 s3
  obtain ⟨g1, g2, g3⟩ := id hA7.g
  obtain ⟨s0, s1, s2, s3⟩ := id hA7.s
  have p0 := hA7.p
  have q0 := hA7.q
  simp only [] at s0 s1 s2 s3
  have HA7 := Lib.hid hA7
  clear HA6 hA7 hb7 hB6 hz6 HRR
  cases rb
  · go_wp2_with fail
    go_ret
    exact ⟨rfl, hB7⟩
  by_cases hp0 : p < 0
  · go_wp2_with fail
    go_ret
    exact ⟨rfl, hB7⟩
  by_cases hp1 : (n1 : Int) ≤ p
  · go_wp2_with fail
    go_ret
    exact ⟨rfl, hB7⟩
  by_cases hq0 : q < 0
  · go_wp2_with fail
    go_ret
    exact ⟨rfl, hB7⟩
  by_cases hq1 : (n1 : Int) ≤ q
  · go_wp2_with fail
    go_ret
    exact ⟨rfl, hB7⟩
  obtain ⟨i, rfl⟩ : ∃ i : Nat, p = (i : Int) := ⟨p.toNat, by omega⟩
  obtain ⟨j, rfl⟩ : ∃ j : Nat, q = (j : Int) := ⟨q.toNat, by omega⟩
  have hi1 : (i : Int) < (n1 : Int) := by omega
  have hj1 : (j : Int) < (n1 : Int) := by omega
  have hi0 : (0 : Int) ≤ (i : Int) := by omega
  have hj0 : (0 : Int) ≤ (j : Int) := by omega
  obtain ⟨lg1, lg2, lg3, lg4⟩ := light5_in HL.out
  have hcp : ∀ V, Below w.heap.size w V → Calls Try.prog 13 #[shV ⟨t, a1, n1, c1, a2, n2, c2, a3, n3, c3⟩] V fun e V' => ∃ h' : Sh, e = .returned (shV h') ∧ CopyIn V' V.heap.size h' s ∧ Below V.heap.size V V' := fun V hV =>
    copy_any ⟨t, a1, n1, c1, a2, n2, c2, a3, n3, c3⟩ s _ V (HI.out.below hV) hV.size (show n1 ≤ 100000 by omega) (show n2 ≤ 100000 by omega) (show n3 ≤ 100000 by omega)
  have HC := Lib.hid hcp
  clear hcp
  go_wp2_with fail
  refine (HC.out _ hB7).mono ?_
  rintro e w8 ⟨h1, rfl, hC1, hb8⟩
  have hB8 := hB7.trans (hb8.mono hB7.size)
  have hA8 := HA7.out.below hb8 (by omega)
  have hz8 : w7.heap.size ≤ w8.heap.size := hb8.size
  have hal : Below w8.heap.size w8 (w8.alloc (shO h1)) := (Below.refl _ _).alloc (Nat.le_refl _) _
  have hst := stAt_new w8 h1
  have hzu : (w8.alloc (shO h1)).heap.size = w8.heap.size + 1 := by simp
  obtain ⟨x1, hx1⟩ : ∃ x1, x1 = w8.alloc (shO h1) := ⟨_, rfl⟩
  rw [← hx1] at hal hst hzu
  have hBx := hB8.trans (hal.mono hB8.size)
  have hAx := hA8.below hal (by omega)
  have hR1 := hC1.rs.calls hal
  have HK1 := Lib.hid (show StIn x1 x1.heap.size h1 s from (hC1.stIn.below hal).mono (by omega))
  have HN1 := Lib.hid hC1.n1
  have HAL1 := Lib.hid hal
  have HX1 := Lib.hid hx1
  have HR1 := Lib.hid hR1
  have HC1 := Lib.hid hC1
  have HS1 := Lib.hid hst
  clear g1 g2 g3 s0 s1 s2 s3 p0 q0
  obtain ⟨s0, s1, s2, s3⟩ := id hA8.s
  simp only [] at s0 s1 s2 s3
  have HAx := Lib.hid hAx
  have hl0 : w.heap.size < w8.heap.size := by omega
  have hl1 : w.heap.size + 1 < w8.heap.size := by omega
  clear hst hal hx1 hR1 hC1 hAx hA8 hb8 HA7
  go_wp2_with fail
  rw [← HX1.out]
  refine (HC.out _ hBx).mono ?_
  rintro e w9 ⟨h2, rfl, hC2, hb9⟩
  have hB9 := hBx.trans (hb9.mono hBx.size)
  have hA9 := HAx.out.below hb9 (by omega)
  have hz9 : x1.heap.size ≤ w9.heap.size := hb9.size
  have hal : Below w9.heap.size w9 (w9.alloc (shO h2)) := (Below.refl _ _).alloc (Nat.le_refl _) _
  have hst := stAt_new w9 h2
  have hzv : (w9.alloc (shO h2)).heap.size = w9.heap.size + 1 := by simp
  obtain ⟨x2, hx2⟩ : ∃ x2, x2 = w9.alloc (shO h2) := ⟨_, rfl⟩
  rw [← hx2] at hal hst hzv
  have hBy := hB9.trans (hal.mono hB9.size)
  have hb92 : Below x1.heap.size x1 x2 := hb9.trans (hal.mono hz9)
  have HR1' := Lib.hid (HR1.out.calls hb92)
  have HR2 := Lib.hid (hC2.rs.calls hal)
  have HK1' := Lib.hid (HK1.out.below hb92)
  have HK2 := Lib.hid (show StIn x2 x2.heap.size h2 s from (hC2.stIn.below hal).mono (by omega))
  have HN2 := Lib.hid hC2.n1
  have HB92 := Lib.hid hal
  have HB82 := Lib.hid ((HAL1.out).trans (hb92.mono (by omega)))
  have HX2 := Lib.hid hx2
  have HC2 := Lib.hid hC2
  have HSt1 := Lib.hid (HS1.out.below hb92 (by omega))
  have HSt2 := Lib.hid hst
  have HAy := Lib.hid (hA9.below hal (by omega))
  have HSI := Lib.hid (HI.out.below hBy)
  have HBy := Lib.hid hBy
  clear s0 s1 s2 s3 hst hal hx2 hC2 hA9 hb9 HAx hBy hb92 HK1 HR1 HS1
  go_wp2_with fail
  rw [← HX2.out]
  have hn0 : 0 < n1 := by omega
  have e1 : h1.n1 = n1 := HN1.out.trans HL1.out
  have e2 : h2.n1 = n1 := HN2.out.trans HL1.out
  obtain ⟨lb1, hb1, hlo1, hhi1⟩ := HC1.out.rs.formA (by omega)
  obtain ⟨lb2, hb2, hlo2, hhi2⟩ := HC2.out.rs.formA (by omega)
  obtain ⟨rb, off, ha1, hrb, hcs⟩ := HSI.out.rs.cells hn0
  simp only [] at ha1 hcs
  have hce := hcs
  have cop1 : Cop x2 w7.heap.size w8.heap.size h1 s := (Cop.of HC1.out).below HB82.out
  have cop2 : Cop x2 x1.heap.size w9.heap.size h2 s := (Cop.of HC2.out).below HB92.out
  obtain ⟨t1, b1, m1, d1, b2, m2, d2, b3, m3, d3⟩ := h1
  obtain ⟨t2, f1, k1, l1, f2, k2, l2, f3, k3, l3⟩ := h2
  simp only [] at e1 e2 hb1 hb2
  subst e1 e2 hb1 hb2 ha1
  have hri : i < s.rs.length := by have := HL1.out; omega
  have hrj : j < s.rs.length := by have := HL1.out; omega
  obtain ⟨g1, g2, g3⟩ := id HAy.out.g
  obtain ⟨s0, s1, s2, s3⟩ := id HAy.out.s
  have p0 := HAy.out.p
  have q0 := HAy.out.q
  have u1 := HSt1.out.2.1
  have ci := (hcs i (by omega)).1
  have cj := (hcs j (by omega)).1
  have co := cop1.c.rs.cellA hri
  have fo := cop1.c.rs.frozen (i * 5)
  simp only [] at s0 s1 s2 s3 u1
  obtain ⟨ai, hai⟩ : ∃ ai, (s.rs.getD i zr).a = ai := ⟨_, rfl⟩
  obtain ⟨aj, haj⟩ : ∃ aj, (s.rs.getD j zr).a = aj := ⟨_, rfl⟩
  rw [hai] at ci co
  rw [haj] at cj
  have HAI := Lib.hid hai
  have HAJ := Lib.hid haj
  have K1 := Lib.hid cop1
  have K2 := Lib.hid cop2
  have hrb' : rb < x2.heap.size := by omega
  clear hcs hai haj hp0 hp1 hq0 hq1 hce cop1 cop2
  go_still_tail 11, (by kernel_rfl)
  change wpList _ _ _ _ _ x2.drew
  go_wp2_with fail
  obtain ⟨y1, hy1⟩ : ∃ y1, y1 = (x2.setCell ⟨lb1, i * 5, none⟩ (.int .i64 aj)).drew := ⟨_, rfl⟩
  rw [← hy1]
  have hbt1 : But lb1 x2 y1 := by rw [hy1]; exact ((But.refl _ _).set _).drew
  have cop1 := K1.out.setA hri aj
  have cop2 := K2.out.low (a := ⟨lb1, i * 5, none⟩) (show lb1 < x1.heap.size by omega) (.int .i64 aj)
  rw [← hy1] at cop1 cop2
  have hri' : j < (setA s.rs i aj).length := by rw [setA_len]; exact hrj
  have co' := cop1.c.rs.cellA hri'
  have fo' := cop1.c.rs.frozen (j * 5)
  have ci' := (hbt1.cell (p := ⟨rb, off + i * 5, none⟩) hrb' (show rb ≠ lb1 by omega)).trans ci
  have cj' := (hbt1.cell (p := ⟨rb, off + j * 5, none⟩) hrb' (show rb ≠ lb1 by omega)).trans cj
  have hA' := HAy.out.below (hbt1.below (B := w7.heap.size) hlo1 (by omega)) (by omega)
  have hs1' := hbt1.stAt HSt1.out (by omega) (by omega)
  have hs2' := hbt1.stAt HSt2.out (by omega) (by omega)
  clear g1 g2 g3 s0 s1 s2 s3 p0 q0 u1 ci cj co fo K1 K2 hy1
  have s1 := hA'.s.2.1
  have p0 := hA'.p
  have q0 := hA'.q
  have u1 := hs1'.2.1
  simp only [] at s1 u1
  have HA' := Lib.hid hA'
  have HS1' := Lib.hid hs1'
  have HS2' := Lib.hid hs2'
  have K1 := Lib.hid cop1
  have K2 := Lib.hid cop2
  have CJ := Lib.hid cj'
  generalize ((setA s.rs i aj).getD j zr).a = old at co'
  clear hA' hs1' hs2' cop1 cop2 cj' HAy HSt1 HSt2
  go_wp2_with fail
  go_still_tail 11, (by kernel_rfl)
  change wpList _ _ _ _ _ y1.drew
  go_wp2_with fail
  obtain ⟨y2, hy2⟩ : ∃ y2, y2 = (y1.setCell ⟨lb1, j * 5, none⟩ (.int .i64 ai)).drew := ⟨_, rfl⟩
  rw [← hy2]
  have hz1 := hbt1.size
  have hbt2 : But lb1 y1 y2 := by rw [hy2]; exact ((But.refl _ _).set _).drew
  have cop1 := K1.out.setA hri' ai
  have cop2 := K2.out.low (a := ⟨lb1, j * 5, none⟩) (show lb1 < x1.heap.size by omega) (.int .i64 ai)
  rw [← hy2] at cop1 cop2
  have co := cop2.c.rs.cellA hri
  have fo := cop2.c.rs.frozen (i * 5)
  have cj := (hbt2.cell (p := ⟨rb, off + j * 5, none⟩) (show rb < y1.heap.size by omega) (show rb ≠ lb1 by omega)).trans CJ.out
  have hA' := HA'.out.below (hbt2.below (B := w7.heap.size) hlo1 (by omega)) (by omega)
  have hs1' := hbt2.stAt HS1'.out (by omega) (by omega)
  have hs2' := hbt2.stAt HS2'.out (by omega) (by omega)
  clear s1 p0 q0 u1 ci' co' fo' K1 K2 hy2 CJ HA' HS1' HS2'
  have s1 := hA'.s.2.1
  have p0 := hA'.p
  have q0 := hA'.q
  have u1 := hs2'.2.1
  simp only [] at s1 u1
  have HA' := Lib.hid hA'
  have HS1' := Lib.hid hs1'
  have HS2' := Lib.hid hs2'
  have K1 := Lib.hid cop1
  have K2 := Lib.hid cop2
  generalize hold : (s.rs.getD i zr).a = old' at co
  clear hA' hs1' hs2' cop1 cop2 hold
  go_wp2_with fail
  go_still_tail 11, (by kernel_rfl)
  change wpList _ _ _ _ _ y2.drew
  go_wp2_with fail
  obtain ⟨y3, hy3⟩ : ∃ y3, y3 = (y2.setCell ⟨lb2, i * 5, none⟩ (.int .i64 aj)).drew := ⟨_, rfl⟩
  rw [← hy3]
  have hz2 := hbt2.size
  have hbt3 : But lb2 y2 y3 := by rw [hy3]; exact ((But.refl _ _).set _).drew
  have hz3 := hbt3.size
  have cop2 := K2.out.setA hri aj
  rw [← hy3] at cop2
  have cop1 := K1.out.below (hbt3.below (B := w8.heap.size) (by omega) (by omega))
  have hA' := HA'.out.below (hbt3.below (B := w7.heap.size) (by omega) (by omega)) (by omega)
  have hs1' := hbt3.stAt HS1'.out (by omega) (by omega)
  have hs2' := hbt3.stAt HS2'.out (by omega) (by omega)
  have hBf : Below w.heap.size w y3 := ((HBy.out.trans (hbt1.below (by omega) (by omega))).trans (hbt2.below (by omega) (by omega))).trans (hbt3.below (by omega) (by omega))
  have hrp : RightP (floorS (bytesOf g)) s := yes_iff.1 HRB.out
  have hrs1 : rightB (floorS (bytesOf g)) ⟨s.tick, setA (setA s.rs i aj) j ai, s.ts, s.bl⟩ = true := by
    have := swap_right hrp hri hrj
    unfold swapS at this
    rw [HAI.out, HAJ.out] at this
    exact yes_true this
  have hrs2 : rightB (floorS (bytesOf g)) ⟨s.tick, setA s.rs i aj, s.ts, s.bl⟩ = ((i : Int) == (j : Int)) := by
    have := move_right hrp hri hrj
    rw [HAJ.out] at this
    exact this
  have hw2 : WfC ⟨s.tick, setA s.rs i aj, s.ts, s.bl⟩ := setA_wf rfl HWC.out hri
  have hw1 : WfC ⟨s.tick, setA (setA s.rs i aj) j ai, s.ts, s.bl⟩ := setA_wf (s := ⟨s.tick, setA s.rs i aj, s.ts, s.bl⟩) rfl hw2 hri'
  have hc1 : ∀ n : Held y3, Calls Try.prog 11 #[gridV W H g, shV ⟨t1, some ⟨lb1, 0, none⟩, k1, d1, b2, m2, d2, b3, m3, d3⟩] n.V fun e w' => e = .returned (.bool true) ∧ ∃ m : Held y3, w' = m.V := fun n =>
    n.call (by
      have := stRight_any W H g _ _ _ n.V HG.out (cop1.c.stIn.below n.k) n.k.size hw1
      rw [hrs1] at this
      exact this)
  have hc2 : ∀ n : Held y3, Calls Try.prog 11 #[gridV W H g, shV ⟨t2, some ⟨lb2, 0, none⟩, k1, l1, f2, k2, l2, f3, k3, l3⟩] n.V fun e w' => e = .returned (.bool ((i : Int) == (j : Int))) ∧ ∃ m : Held y3, w' = m.V := fun n =>
    n.call (by
      have := stRight_any W H g _ _ _ n.V HG.out (cop2.c.stIn.below n.k) n.k.size hw2
      rw [hrs2] at this
      exact this)
  have C1 := Lib.hid hc1
  have C2 := Lib.hid hc2
  have HBF := Lib.hid hBf
  have z1 : ∀ n : Held y3, n.V.cell? ⟨w.heap.size, 0, none⟩ = some (.int .i64 W) := fun n => n.cell hA'.g.1
  have z2 : ∀ n : Held y3, n.V.cell? ⟨w.heap.size, 1, none⟩ = some (.int .i64 H) := fun n => n.cell hA'.g.2.1
  have z3 : ∀ n : Held y3, n.V.cell? ⟨w.heap.size, 2, none⟩ = some (.string g) := fun n => n.cell hA'.g.2.2
  have z4 : ∀ n : Held y3, n.V.cell? ⟨w8.heap.size, 0, none⟩ = some (.int .i64 t1) := fun n => n.cell hs1'.1
  have z5 : ∀ n : Held y3, n.V.cell? ⟨w8.heap.size, 1, none⟩ = some (.slice (some ⟨lb1, 0, none⟩) k1 d1) := fun n => n.cell hs1'.2.1
  have z6 : ∀ n : Held y3, n.V.cell? ⟨w8.heap.size, 2, none⟩ = some (.slice b2 m2 d2) := fun n => n.cell hs1'.2.2.1
  have z7 : ∀ n : Held y3, n.V.cell? ⟨w8.heap.size, 3, none⟩ = some (.slice b3 m3 d3) := fun n => n.cell hs1'.2.2.2
  have z8 : ∀ n : Held y3, n.V.cell? ⟨w9.heap.size, 0, none⟩ = some (.int .i64 t2) := fun n => n.cell hs2'.1
  have z9 : ∀ n : Held y3, n.V.cell? ⟨w9.heap.size, 1, none⟩ = some (.slice (some ⟨lb2, 0, none⟩) k1 l1) := fun n => n.cell hs2'.2.1
  have z10 : ∀ n : Held y3, n.V.cell? ⟨w9.heap.size, 2, none⟩ = some (.slice f2 k2 l2) := fun n => n.cell hs2'.2.2.1
  have z11 : ∀ n : Held y3, n.V.cell? ⟨w9.heap.size, 3, none⟩ = some (.slice f3 k3 l3) := fun n => n.cell hs2'.2.2.2
  have z12 : ∀ n : Held y3, n.V.cell? ⟨w.heap.size + 1 + 1, 0, none⟩ = some (.int .i64 ↑i) := fun n => n.cell hA'.p
  have z13 : ∀ n : Held y3, n.V.cell? ⟨w.heap.size + 1 + 1, 1, none⟩ = some (.int .i64 ↑j) := fun n => n.cell hA'.q
  have : Nonempty (Held y3) := ⟨⟨y3, Kept.refl _⟩⟩
  clear s1 p0 q0 u1 co fo cj K1 K2 hy3 HA' HS1' HS2' cop1 cop2 hA' hs1' hs2' hc1 hc2 hbt1 hbt2 hbt3 hrs1 hrs2 hrp hBf hw1 hw2
  go_wp2_with fail
  refine wp_region_class (Kept.refl y3) (by kernel_rfl) (by kernel_rfl) ?_
  repeat (go_big_quiet_step (first | (go_at_call 11; with_reducible exact C1.out _) | (go_at_call 11; with_reducible exact C2.out _)))
  refine wpQuiet_nil ?_
  rintro _ ⟨⟨V, hV⟩, rfl⟩
  go_wp2_with fail
  go_ret
  exact ⟨ret_bool (by simp), HBF.out.trans (Below.mono hV HBF.out.size)⟩
end Go.Proofs.Ytincamjkfpcpiaa.Vm
