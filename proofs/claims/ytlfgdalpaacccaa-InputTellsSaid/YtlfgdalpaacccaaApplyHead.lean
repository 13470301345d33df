/- The contract of input.apply, kinds 1 to 6: words. The contract of input.apply, kinds 1 and 2. The contract of input.apply, kinds 3 and 4. The contract of input.apply, kinds 5 and 6. -/
import Derived.Test.YtlfgdalpaacccaaEffects
import Derived.Test.YtlfgdalpaacccaaInChecksB
import Derived.Test.YtlfgdalpaacccaaInTurns
import Derived.Test.YtlfgdalpaacccaaOrders
import Derived.Test.YtlfgdalpaacccaaBlocks
import Derived.Test.YtlfgdalpaacccaaHeldRegion
namespace Go.Proofs.Ytlfgdalpaacccaa.Vm
open Go Go.RowKit

theorem fetch_find {fl : Int → Bool} {s : St} (h : RightP fl s) {i : Nat} (hi : i < s.rs.length) (hb : (s.rs.getD i zr).b = 1) : 0 ≤ findS s.ts (s.rs.getD i zr).c := by
  have hm := h.mode i hi
  unfold ModeP at hm
  rcases hm with ⟨h1, _⟩ | ⟨_, k, _, h2, _⟩ | ⟨h1, _⟩ | ⟨h1, _⟩ <;> omega
/-- A grid and an input, boxed beside a state. -/
theorem gx_head {w : World} {B b : Nat} {h : Sh} {s : St} (m : Mine w B b h s) (W H : Int) (g : ByteArray) (x : Inp) :
    ∃ w2, w2 = (w.alloc (gridO W H g)).alloc (inpO x 41) ∧ TurnsH w B b h s w2 ∧ GridAt w2 w.heap.size W H g ∧ InpAt w2 (w.heap.size + 1) x ∧ w2.heap.size = w.heap.size + 2 := by
  have h1 : Below w.heap.size w (w.alloc (gridO W H g)) := (Below.refl _ _).alloc (Nat.le_refl _) _
  have z1 : (w.alloc (gridO W H g)).heap.size = w.heap.size + 1 := by simp
  have g1 := gridAt_new w W H g
  generalize w.alloc (gridO W H g) = u at h1 z1 g1
  have h2 : Below u.heap.size u (u.alloc (inpO x 41)) := (Below.refl _ _).alloc (Nat.le_refl _) _
  have x2 := inpAt_new u x 41
  rw [z1] at x2
  exact ⟨_, rfl, .calls m (h1.trans (h2.mono (by omega))), g1.below h2 (by omega), x2, by simp [z1]⟩
end Go.Proofs.Ytlfgdalpaacccaa.Vm

namespace Go.Proofs.Ytlfgdalpaacccaa.Vm
open Go Go.RowKit

set_option maxRecDepth 100000 in
set_option maxHeartbeats 2000000 in
theorem apply_k1 (W H : Int) (g : ByteArray) (B b : Nat) (h : Sh) (s : St) (x : Inp) (w : World) (m : Mine w B b h s) (hg : g.size ≤ maxLen) (hr : RightP (floorS (bytesOf g)) s) (hn : s.bl.length ≤ 100000) (hk : x.k = 1) :
    Calls Try.prog 20 #[gridV W H g, .pointer (some ⟨b, 0, none⟩), inpV x] w fun e w' => e = .returned (.int .i64 (codeO (floorS (bytesOf g)) s x)) ∧ Turns w B b (if codeO (floorS (bytesOf g)) s x = 0 then turnO s x else s) w' := by
  obtain ⟨w2, hw2, t2, hg2, hx2, hz2⟩ := gx_head m W H g x
  have HCK : Hid (∀ V, Mine V B b h s → Calls Try.prog 40 #[gridV W H g, shV h, inpV x] V fun e w' => e = .returned (.int .i64 (codeO (floorS (bytesOf g)) s x)) ∧ Below V.heap.size V w') := fun V mV => checkOrder_any W H g h s x V.heap.size V hg mV.stIn (Nat.le_refl _)
  have HCH : Hid (∀ V, Mine V B b h s → codeO (floorS (bytesOf g)) s x = 0 → Calls Try.prog 41 #[.pointer (some ⟨b, 0, none⟩), inpV x] V fun e w' => e = .returned (.tuple #[]) ∧ Turns V B b (turnO s x) w') := fun V mV hz => order_any B b h s x V mV (Nat.le_trans hr.tn (by omega))
  have HEF := Lib.hid (effectOf_yes 1 (by omega) w2)
  rw [show chkN 1 = 40 from rfl, show chgN 1 = 41 from rfl] at HEF
  have HT2 := Lib.hid t2
  have HG2 := Lib.hid hg2
  have HX2 := Lib.hid hx2
  have HW := Lib.hid hw2
  generalize hcd : codeO (floorS (bytesOf g)) s x = code at HCK HCH
  generalize htn : turnO s x = after at HCH
  obtain ⟨res, hres⟩ : ∃ res, (if code = 0 then after else s) = res := ⟨_, rfl⟩
  rw [hres]
  have HR0 : Hid (code = 0 → res = after) := fun h => by rw [← hres, if_pos h]
  have HR1 : Hid (code ≠ 0 → res = s) := fun h => by rw [← hres, if_neg h]
  clear hcd htn hr hn m hg t2 hw2 hres
  obtain ⟨g0, g1, g2⟩ := hg2
  obtain ⟨x0, x1, x2, x3⟩ := hx2
  obtain ⟨xk, xa, xb, xc⟩ := x
  obtain ⟨t, a1, n1, c1, a2, n2, c2, a3, n3, c3⟩ := h
  simp only [] at hk x0 x1 x2 x3
  subst hk
  go_enter Try.func20, Try.ntmps20
  go_wp2_with fail
  rw [← HW.out]
  refine HEF.out.mono ?_
  rintro e w3 ⟨rfl, hb3⟩
  have t3 := HT2.out.trans (.calls HT2.out.m hb3)
  have hz3 := hb3.size
  have hba : Below w3.heap.size w3 (w3.alloc (.cells #[fnV 40, fnV 41] 69)) := (Below.refl _ _).alloc (Nat.le_refl _) _
  obtain ⟨w4, hw4⟩ : ∃ w4, w4 = w3.alloc (.cells #[fnV 40, fnV 41] 69) := ⟨_, rfl⟩
  have y0 : w4.cell? ⟨w3.heap.size, 0, none⟩ = some (fnV 40) := by rw [hw4]; simp
  have y1 : w4.cell? ⟨w3.heap.size, 1, none⟩ = some (fnV 41) := by rw [hw4]; simp
  have hz4 : w4.heap.size = w3.heap.size + 1 := by rw [hw4]; simp
  rw [← hw4] at hba
  have t4 := t3.trans (.calls t3.m hba)
  have hb24 := hb3.trans (hba.mono hz3)
  have hg4 := HG2.out.below hb24 (by omega)
  have hx4 := HX2.out.below hb24 (by omega)
  have HW4 := Lib.hid hw4
  have HT4 := Lib.hid t4
  clear g0 g1 g2 x0 x1 x2 x3 hb3 t3 hba hb24 hw4
  obtain ⟨g0, g1, g2⟩ := hg4
  obtain ⟨x0, x1, x2, x3⟩ := hx4
  obtain ⟨s0, s1, s2, s3⟩ := t4.m.stAt
  simp only [] at x0 x1 x2 x3 s0 s1 s2 s3
  clear t4
  go_wp2_with fail
  rw [← HW4.out]
  have k0 : Kept w4 w4 := Kept.refl _
  have hcall : ∀ n : Held w4, Calls Try.prog 40 #[gridV W H g, shV ⟨t, a1, n1, c1, a2, n2, c2, a3, n3, c3⟩, inpV ⟨1, xa, xb, xc⟩] n.V fun e V' => e = .returned (.int .i64 code) ∧ ∃ m : Held w4, V' = m.V := fun n => n.call (HCK.out _ (HT4.out.m.calls n.k))
  have C1 := Lib.hid hcall
  have hne : Nonempty (Held w4) := ⟨⟨w4, k0⟩⟩
  have z1 : ∀ n : Held w4, n.V.cell? ⟨w.heap.size, 0, none⟩ = some (.int .i64 W) := fun n => n.cell g0
  have z2 : ∀ n : Held w4, n.V.cell? ⟨w.heap.size, 1, none⟩ = some (.int .i64 H) := fun n => n.cell g1
  have z3 : ∀ n : Held w4, n.V.cell? ⟨w.heap.size, 2, none⟩ = some (.string g) := fun n => n.cell g2
  have z4 : ∀ n : Held w4, n.V.cell? ⟨w.heap.size + 1, 0, none⟩ = some (.int .i64 1) := fun n => n.cell x0
  have z5 : ∀ n : Held w4, n.V.cell? ⟨w.heap.size + 1, 1, none⟩ = some (.int .i64 xa) := fun n => n.cell x1
  have z6 : ∀ n : Held w4, n.V.cell? ⟨w.heap.size + 1, 2, none⟩ = some (.int .i64 xb) := fun n => n.cell x2
  have z7 : ∀ n : Held w4, n.V.cell? ⟨w.heap.size + 1, 3, none⟩ = some (.int .i64 xc) := fun n => n.cell x3
  have z8 : ∀ n : Held w4, n.V.cell? ⟨b, 0, none⟩ = some (.int .i64 t) := fun n => n.cell s0
  have z9 : ∀ n : Held w4, n.V.cell? ⟨b, 1, none⟩ = some (.slice a1 n1 c1) := fun n => n.cell s1
  have z10 : ∀ n : Held w4, n.V.cell? ⟨b, 2, none⟩ = some (.slice a2 n2 c2) := fun n => n.cell s2
  have z11 : ∀ n : Held w4, n.V.cell? ⟨b, 3, none⟩ = some (.slice a3 n3 c3) := fun n => n.cell s3
  have z12 : ∀ n : Held w4, n.V.cell? ⟨w3.heap.size, 0, none⟩ = some (fnV 40) := fun n => n.cell y0
  have z13 : ∀ n : Held w4, n.V.cell? ⟨w3.heap.size, 1, none⟩ = some (fnV 41) := fun n => n.cell y1
  clear g0 g1 g2 x0 x1 x2 x3 s0 s1 s2 s3 y0 y1 hcall
  refine wp_region_class k0 (by kernel_rfl) (by kernel_rfl) ?_
  repeat (go_big_quiet_step ((go_at_call 40; with_reducible exact C1.out _)))
  refine wpQuiet_nil ?_
  rintro V ⟨n, rfl⟩
  have t5 := HT4.out.trans (.calls HT4.out.m n.k)
  have HT5 := Lib.hid t5
  have q0 := z4 n
  have q1 := z5 n
  have q2 := z6 n
  have q3 := z7 n
  have q4 := z13 n
  generalize n.V = V at t5 HT5 q0 q1 q2 q3 q4
  clear z1 z2 z3 z4 z5 z6 z7 z8 z9 z10 z11 z12 z13 hne k0 n HW4
  by_cases hz : code = 0
  · have HC := Lib.hid (HCH.out V t5.m hz)
    have HZ := Lib.hid (HR0.out hz)
    clear HR0 HR1
    subst hz
    clear t5
    go_wp2_with fail
    refine HC.out.mono ?_
    rintro e w6 ⟨rfl, t6⟩
    go_wp2_with fail
    go_ret
    exact ⟨rfl, by rw [HZ.out]; exact HT5.out.t.trans t6⟩
  · have e1 : (code != 0) = true := by simpa using hz
    have HE := Lib.hid (HR1.out hz)
    clear HR0 HR1
    clear hz t5
    go_wp2_with fail
    go_ret
    refine ⟨rfl, ?_⟩
    rw [HE.out]
    exact HT5.out.t

set_option maxRecDepth 100000 in
set_option maxHeartbeats 2000000 in
theorem apply_k2 (W H : Int) (g : ByteArray) (B b : Nat) (h : Sh) (s : St) (x : Inp) (w : World) (m : Mine w B b h s) (hg : g.size ≤ maxLen) (hr : RightP (floorS (bytesOf g)) s) (hn : s.bl.length ≤ 100000) (hk : x.k = 2) :
    Calls Try.prog 20 #[gridV W H g, .pointer (some ⟨b, 0, none⟩), inpV x] w fun e w' => e = .returned (.int .i64 (codeF s x)) ∧ Turns w B b (if codeF s x = 0 then turnF s x else s) w' := by
  obtain ⟨w2, hw2, t2, hg2, hx2, hz2⟩ := gx_head m W H g x
  have HCK : Hid (∀ V, Mine V B b h s → Calls Try.prog 42 #[gridV W H g, shV h, inpV x] V fun e w' => e = .returned (.int .i64 (codeF s x)) ∧ Below V.heap.size V w') := fun V mV => checkFault_any W H g h s x V.heap.size V mV.stIn (Nat.le_refl _)
  have HCH : Hid (∀ V, Mine V B b h s → codeF s x = 0 → Calls Try.prog 43 #[.pointer (some ⟨b, 0, none⟩), inpV x] V fun e w' => e = .returned (.tuple #[]) ∧ Turns V B b (turnF s x) w') := fun V mV hz => fault_any B b h s x V mV (codeF_zero hz).1 (fetch_find hr (isR_nat (codeF_zero hz).1))
  have HEF := Lib.hid (effectOf_yes 2 (by omega) w2)
  rw [show chkN 2 = 42 from rfl, show chgN 2 = 43 from rfl] at HEF
  have HT2 := Lib.hid t2
  have HG2 := Lib.hid hg2
  have HX2 := Lib.hid hx2
  have HW := Lib.hid hw2
  generalize hcd : codeF s x = code at HCK HCH
  generalize htn : turnF s x = after at HCH
  obtain ⟨res, hres⟩ : ∃ res, (if code = 0 then after else s) = res := ⟨_, rfl⟩
  rw [hres]
  have HR0 : Hid (code = 0 → res = after) := fun h => by rw [← hres, if_pos h]
  have HR1 : Hid (code ≠ 0 → res = s) := fun h => by rw [← hres, if_neg h]
  clear hcd htn hr hn m hg t2 hw2 hres
  obtain ⟨g0, g1, g2⟩ := hg2
  obtain ⟨x0, x1, x2, x3⟩ := hx2
  obtain ⟨xk, xa, xb, xc⟩ := x
  obtain ⟨t, a1, n1, c1, a2, n2, c2, a3, n3, c3⟩ := h
  simp only [] at hk x0 x1 x2 x3
  subst hk
  go_enter Try.func20, Try.ntmps20
  go_wp2_with fail
  rw [← HW.out]
  refine HEF.out.mono ?_
  rintro e w3 ⟨rfl, hb3⟩
  have t3 := HT2.out.trans (.calls HT2.out.m hb3)
  have hz3 := hb3.size
  have hba : Below w3.heap.size w3 (w3.alloc (.cells #[fnV 42, fnV 43] 69)) := (Below.refl _ _).alloc (Nat.le_refl _) _
  obtain ⟨w4, hw4⟩ : ∃ w4, w4 = w3.alloc (.cells #[fnV 42, fnV 43] 69) := ⟨_, rfl⟩
  have y0 : w4.cell? ⟨w3.heap.size, 0, none⟩ = some (fnV 42) := by rw [hw4]; simp
  have y1 : w4.cell? ⟨w3.heap.size, 1, none⟩ = some (fnV 43) := by rw [hw4]; simp
  have hz4 : w4.heap.size = w3.heap.size + 1 := by rw [hw4]; simp
  rw [← hw4] at hba
  have t4 := t3.trans (.calls t3.m hba)
  have hb24 := hb3.trans (hba.mono hz3)
  have hg4 := HG2.out.below hb24 (by omega)
  have hx4 := HX2.out.below hb24 (by omega)
  have HW4 := Lib.hid hw4
  have HT4 := Lib.hid t4
  clear g0 g1 g2 x0 x1 x2 x3 hb3 t3 hba hb24 hw4
  obtain ⟨g0, g1, g2⟩ := hg4
  obtain ⟨x0, x1, x2, x3⟩ := hx4
  obtain ⟨s0, s1, s2, s3⟩ := t4.m.stAt
  simp only [] at x0 x1 x2 x3 s0 s1 s2 s3
  clear t4
  go_wp2_with fail
  rw [← HW4.out]
  have k0 : Kept w4 w4 := Kept.refl _
  have hcall : ∀ n : Held w4, Calls Try.prog 42 #[gridV W H g, shV ⟨t, a1, n1, c1, a2, n2, c2, a3, n3, c3⟩, inpV ⟨2, xa, xb, xc⟩] n.V fun e V' => e = .returned (.int .i64 code) ∧ ∃ m : Held w4, V' = m.V := fun n => n.call (HCK.out _ (HT4.out.m.calls n.k))
  have C1 := Lib.hid hcall
  have hne : Nonempty (Held w4) := ⟨⟨w4, k0⟩⟩
  have z1 : ∀ n : Held w4, n.V.cell? ⟨w.heap.size, 0, none⟩ = some (.int .i64 W) := fun n => n.cell g0
  have z2 : ∀ n : Held w4, n.V.cell? ⟨w.heap.size, 1, none⟩ = some (.int .i64 H) := fun n => n.cell g1
  have z3 : ∀ n : Held w4, n.V.cell? ⟨w.heap.size, 2, none⟩ = some (.string g) := fun n => n.cell g2
  have z4 : ∀ n : Held w4, n.V.cell? ⟨w.heap.size + 1, 0, none⟩ = some (.int .i64 2) := fun n => n.cell x0
  have z5 : ∀ n : Held w4, n.V.cell? ⟨w.heap.size + 1, 1, none⟩ = some (.int .i64 xa) := fun n => n.cell x1
  have z6 : ∀ n : Held w4, n.V.cell? ⟨w.heap.size + 1, 2, none⟩ = some (.int .i64 xb) := fun n => n.cell x2
  have z7 : ∀ n : Held w4, n.V.cell? ⟨w.heap.size + 1, 3, none⟩ = some (.int .i64 xc) := fun n => n.cell x3
  have z8 : ∀ n : Held w4, n.V.cell? ⟨b, 0, none⟩ = some (.int .i64 t) := fun n => n.cell s0
  have z9 : ∀ n : Held w4, n.V.cell? ⟨b, 1, none⟩ = some (.slice a1 n1 c1) := fun n => n.cell s1
  have z10 : ∀ n : Held w4, n.V.cell? ⟨b, 2, none⟩ = some (.slice a2 n2 c2) := fun n => n.cell s2
  have z11 : ∀ n : Held w4, n.V.cell? ⟨b, 3, none⟩ = some (.slice a3 n3 c3) := fun n => n.cell s3
  have z12 : ∀ n : Held w4, n.V.cell? ⟨w3.heap.size, 0, none⟩ = some (fnV 42) := fun n => n.cell y0
  have z13 : ∀ n : Held w4, n.V.cell? ⟨w3.heap.size, 1, none⟩ = some (fnV 43) := fun n => n.cell y1
  clear g0 g1 g2 x0 x1 x2 x3 s0 s1 s2 s3 y0 y1 hcall
  refine wp_region_class k0 (by kernel_rfl) (by kernel_rfl) ?_
  repeat (go_big_quiet_step ((go_at_call 42; with_reducible exact C1.out _)))
  refine wpQuiet_nil ?_
  rintro V ⟨n, rfl⟩
  have t5 := HT4.out.trans (.calls HT4.out.m n.k)
  have HT5 := Lib.hid t5
  have q0 := z4 n
  have q1 := z5 n
  have q2 := z6 n
  have q3 := z7 n
  have q4 := z13 n
  generalize n.V = V at t5 HT5 q0 q1 q2 q3 q4
  clear z1 z2 z3 z4 z5 z6 z7 z8 z9 z10 z11 z12 z13 hne k0 n HW4
  by_cases hz : code = 0
  · have HC := Lib.hid (HCH.out V t5.m hz)
    have HZ := Lib.hid (HR0.out hz)
    clear HR0 HR1
    subst hz
    clear t5
    go_wp2_with fail
    refine HC.out.mono ?_
    rintro e w6 ⟨rfl, t6⟩
    go_wp2_with fail
    go_ret
    exact ⟨rfl, by rw [HZ.out]; exact HT5.out.t.trans t6⟩
  · have e1 : (code != 0) = true := by simpa using hz
    have HE := Lib.hid (HR1.out hz)
    clear HR0 HR1
    clear hz t5
    go_wp2_with fail
    go_ret
    refine ⟨rfl, ?_⟩
    rw [HE.out]
    exact HT5.out.t
end Go.Proofs.Ytlfgdalpaacccaa.Vm

namespace Go.Proofs.Ytlfgdalpaacccaa.Vm
open Go Go.RowKit

set_option maxRecDepth 100000 in
set_option maxHeartbeats 2000000 in
theorem apply_k3 (W H : Int) (g : ByteArray) (B b : Nat) (h : Sh) (s : St) (x : Inp) (w : World) (m : Mine w B b h s) (hg : g.size ≤ maxLen) (hr : RightP (floorS (bytesOf g)) s) (hn : s.bl.length ≤ 100000) (hk : x.k = 3) :
    Calls Try.prog 20 #[gridV W H g, .pointer (some ⟨b, 0, none⟩), inpV x] w fun e w' => e = .returned (.int .i64 (codeR s x)) ∧ Turns w B b (if codeR s x = 0 then turnR s x else s) w' := by
  obtain ⟨w2, hw2, t2, hg2, hx2, hz2⟩ := gx_head m W H g x
  have HCK : Hid (∀ V, Mine V B b h s → Calls Try.prog 44 #[gridV W H g, shV h, inpV x] V fun e w' => e = .returned (.int .i64 (codeR s x)) ∧ Below V.heap.size V w') := fun V mV => checkRepair_any W H g h s x V.heap.size V mV.stIn (Nat.le_refl _)
  have HCH : Hid (∀ V, Mine V B b h s → codeR s x = 0 → Calls Try.prog 45 #[.pointer (some ⟨b, 0, none⟩), inpV x] V fun e w' => e = .returned (.tuple #[]) ∧ Turns V B b (turnR s x) w') := fun V mV hz => repair_any B b h s x V mV (codeR_zero hz).1
  have HEF := Lib.hid (effectOf_yes 3 (by omega) w2)
  rw [show chkN 3 = 44 from rfl, show chgN 3 = 45 from rfl] at HEF
  have HT2 := Lib.hid t2
  have HG2 := Lib.hid hg2
  have HX2 := Lib.hid hx2
  have HW := Lib.hid hw2
  generalize hcd : codeR s x = code at HCK HCH
  generalize htn : turnR s x = after at HCH
  obtain ⟨res, hres⟩ : ∃ res, (if code = 0 then after else s) = res := ⟨_, rfl⟩
  rw [hres]
  have HR0 : Hid (code = 0 → res = after) := fun h => by rw [← hres, if_pos h]
  have HR1 : Hid (code ≠ 0 → res = s) := fun h => by rw [← hres, if_neg h]
  clear hcd htn hr hn m hg t2 hw2 hres
  obtain ⟨g0, g1, g2⟩ := hg2
  obtain ⟨x0, x1, x2, x3⟩ := hx2
  obtain ⟨xk, xa, xb, xc⟩ := x
  obtain ⟨t, a1, n1, c1, a2, n2, c2, a3, n3, c3⟩ := h
  simp only [] at hk x0 x1 x2 x3
  subst hk
  go_enter Try.func20, Try.ntmps20
  go_wp2_with fail
  rw [← HW.out]
  refine HEF.out.mono ?_
  rintro e w3 ⟨rfl, hb3⟩
  have t3 := HT2.out.trans (.calls HT2.out.m hb3)
  have hz3 := hb3.size
  have hba : Below w3.heap.size w3 (w3.alloc (.cells #[fnV 44, fnV 45] 69)) := (Below.refl _ _).alloc (Nat.le_refl _) _
  obtain ⟨w4, hw4⟩ : ∃ w4, w4 = w3.alloc (.cells #[fnV 44, fnV 45] 69) := ⟨_, rfl⟩
  have y0 : w4.cell? ⟨w3.heap.size, 0, none⟩ = some (fnV 44) := by rw [hw4]; simp
  have y1 : w4.cell? ⟨w3.heap.size, 1, none⟩ = some (fnV 45) := by rw [hw4]; simp
  have hz4 : w4.heap.size = w3.heap.size + 1 := by rw [hw4]; simp
  rw [← hw4] at hba
  have t4 := t3.trans (.calls t3.m hba)
  have hb24 := hb3.trans (hba.mono hz3)
  have hg4 := HG2.out.below hb24 (by omega)
  have hx4 := HX2.out.below hb24 (by omega)
  have HW4 := Lib.hid hw4
  have HT4 := Lib.hid t4
  clear g0 g1 g2 x0 x1 x2 x3 hb3 t3 hba hb24 hw4
  obtain ⟨g0, g1, g2⟩ := hg4
  obtain ⟨x0, x1, x2, x3⟩ := hx4
  obtain ⟨s0, s1, s2, s3⟩ := t4.m.stAt
  simp only [] at x0 x1 x2 x3 s0 s1 s2 s3
  clear t4
  go_wp2_with fail
  rw [← HW4.out]
  have k0 : Kept w4 w4 := Kept.refl _
  have hcall : ∀ n : Held w4, Calls Try.prog 44 #[gridV W H g, shV ⟨t, a1, n1, c1, a2, n2, c2, a3, n3, c3⟩, inpV ⟨3, xa, xb, xc⟩] n.V fun e V' => e = .returned (.int .i64 code) ∧ ∃ m : Held w4, V' = m.V := fun n => n.call (HCK.out _ (HT4.out.m.calls n.k))
  have C1 := Lib.hid hcall
  have hne : Nonempty (Held w4) := ⟨⟨w4, k0⟩⟩
  have z1 : ∀ n : Held w4, n.V.cell? ⟨w.heap.size, 0, none⟩ = some (.int .i64 W) := fun n => n.cell g0
  have z2 : ∀ n : Held w4, n.V.cell? ⟨w.heap.size, 1, none⟩ = some (.int .i64 H) := fun n => n.cell g1
  have z3 : ∀ n : Held w4, n.V.cell? ⟨w.heap.size, 2, none⟩ = some (.string g) := fun n => n.cell g2
  have z4 : ∀ n : Held w4, n.V.cell? ⟨w.heap.size + 1, 0, none⟩ = some (.int .i64 3) := fun n => n.cell x0
  have z5 : ∀ n : Held w4, n.V.cell? ⟨w.heap.size + 1, 1, none⟩ = some (.int .i64 xa) := fun n => n.cell x1
  have z6 : ∀ n : Held w4, n.V.cell? ⟨w.heap.size + 1, 2, none⟩ = some (.int .i64 xb) := fun n => n.cell x2
  have z7 : ∀ n : Held w4, n.V.cell? ⟨w.heap.size + 1, 3, none⟩ = some (.int .i64 xc) := fun n => n.cell x3
  have z8 : ∀ n : Held w4, n.V.cell? ⟨b, 0, none⟩ = some (.int .i64 t) := fun n => n.cell s0
  have z9 : ∀ n : Held w4, n.V.cell? ⟨b, 1, none⟩ = some (.slice a1 n1 c1) := fun n => n.cell s1
  have z10 : ∀ n : Held w4, n.V.cell? ⟨b, 2, none⟩ = some (.slice a2 n2 c2) := fun n => n.cell s2
  have z11 : ∀ n : Held w4, n.V.cell? ⟨b, 3, none⟩ = some (.slice a3 n3 c3) := fun n => n.cell s3
  have z12 : ∀ n : Held w4, n.V.cell? ⟨w3.heap.size, 0, none⟩ = some (fnV 44) := fun n => n.cell y0
  have z13 : ∀ n : Held w4, n.V.cell? ⟨w3.heap.size, 1, none⟩ = some (fnV 45) := fun n => n.cell y1
  clear g0 g1 g2 x0 x1 x2 x3 s0 s1 s2 s3 y0 y1 hcall
  refine wp_region_class k0 (by kernel_rfl) (by kernel_rfl) ?_
  repeat (go_big_quiet_step ((go_at_call 44; with_reducible exact C1.out _)))
  refine wpQuiet_nil ?_
  rintro V ⟨n, rfl⟩
  have t5 := HT4.out.trans (.calls HT4.out.m n.k)
  have HT5 := Lib.hid t5
  have q0 := z4 n
  have q1 := z5 n
  have q2 := z6 n
  have q3 := z7 n
  have q4 := z13 n
  generalize n.V = V at t5 HT5 q0 q1 q2 q3 q4
  clear z1 z2 z3 z4 z5 z6 z7 z8 z9 z10 z11 z12 z13 hne k0 n HW4
  by_cases hz : code = 0
  · have HC := Lib.hid (HCH.out V t5.m hz)
    have HZ := Lib.hid (HR0.out hz)
    clear HR0 HR1
    subst hz
    clear t5
    go_wp2_with fail
    refine HC.out.mono ?_
    rintro e w6 ⟨rfl, t6⟩
    go_wp2_with fail
    go_ret
    exact ⟨rfl, by rw [HZ.out]; exact HT5.out.t.trans t6⟩
  · have e1 : (code != 0) = true := by simpa using hz
    have HE := Lib.hid (HR1.out hz)
    clear HR0 HR1
    clear hz t5
    go_wp2_with fail
    go_ret
    refine ⟨rfl, ?_⟩
    rw [HE.out]
    exact HT5.out.t

set_option maxRecDepth 100000 in
set_option maxHeartbeats 2000000 in
theorem apply_k4 (W H : Int) (g : ByteArray) (B b : Nat) (h : Sh) (s : St) (x : Inp) (w : World) (m : Mine w B b h s) (hg : g.size ≤ maxLen) (hr : RightP (floorS (bytesOf g)) s) (hn : s.bl.length ≤ 100000) (hk : x.k = 4) :
    Calls Try.prog 20 #[gridV W H g, .pointer (some ⟨b, 0, none⟩), inpV x] w fun e w' => e = .returned (.int .i64 (codeH s x)) ∧ Turns w B b (if codeH s x = 0 then turnH s x else s) w' := by
  obtain ⟨w2, hw2, t2, hg2, hx2, hz2⟩ := gx_head m W H g x
  have HCK : Hid (∀ V, Mine V B b h s → Calls Try.prog 46 #[gridV W H g, shV h, inpV x] V fun e w' => e = .returned (.int .i64 (codeH s x)) ∧ Below V.heap.size V w') := fun V mV => checkStall_any W H g h s x V.heap.size V mV.stIn (Nat.le_refl _)
  have HCH : Hid (∀ V, Mine V B b h s → codeH s x = 0 → Calls Try.prog 47 #[.pointer (some ⟨b, 0, none⟩), inpV x] V fun e w' => e = .returned (.tuple #[]) ∧ Turns V B b (turnH s x) w') := fun V mV hz => stall_any B b h s x V mV (codeH_zero hz).1
  have HEF := Lib.hid (effectOf_yes 4 (by omega) w2)
  rw [show chkN 4 = 46 from rfl, show chgN 4 = 47 from rfl] at HEF
  have HT2 := Lib.hid t2
  have HG2 := Lib.hid hg2
  have HX2 := Lib.hid hx2
  have HW := Lib.hid hw2
  generalize hcd : codeH s x = code at HCK HCH
  generalize htn : turnH s x = after at HCH
  obtain ⟨res, hres⟩ : ∃ res, (if code = 0 then after else s) = res := ⟨_, rfl⟩
  rw [hres]
  have HR0 : Hid (code = 0 → res = after) := fun h => by rw [← hres, if_pos h]
  have HR1 : Hid (code ≠ 0 → res = s) := fun h => by rw [← hres, if_neg h]
  clear hcd htn hr hn m hg t2 hw2 hres
  obtain ⟨g0, g1, g2⟩ := hg2
  obtain ⟨x0, x1, x2, x3⟩ := hx2
  obtain ⟨xk, xa, xb, xc⟩ := x
  obtain ⟨t, a1, n1, c1, a2, n2, c2, a3, n3, c3⟩ := h
  simp only [] at hk x0 x1 x2 x3
  subst hk
  go_enter Try.func20, Try.ntmps20
  go_wp2_with fail
  rw [← HW.out]
  refine HEF.out.mono ?_
  rintro e w3 ⟨rfl, hb3⟩
  have t3 := HT2.out.trans (.calls HT2.out.m hb3)
  have hz3 := hb3.size
  have hba : Below w3.heap.size w3 (w3.alloc (.cells #[fnV 46, fnV 47] 69)) := (Below.refl _ _).alloc (Nat.le_refl _) _
  obtain ⟨w4, hw4⟩ : ∃ w4, w4 = w3.alloc (.cells #[fnV 46, fnV 47] 69) := ⟨_, rfl⟩
  have y0 : w4.cell? ⟨w3.heap.size, 0, none⟩ = some (fnV 46) := by rw [hw4]; simp
  have y1 : w4.cell? ⟨w3.heap.size, 1, none⟩ = some (fnV 47) := by rw [hw4]; simp
  have hz4 : w4.heap.size = w3.heap.size + 1 := by rw [hw4]; simp
  rw [← hw4] at hba
  have t4 := t3.trans (.calls t3.m hba)
  have hb24 := hb3.trans (hba.mono hz3)
  have hg4 := HG2.out.below hb24 (by omega)
  have hx4 := HX2.out.below hb24 (by omega)
  have HW4 := Lib.hid hw4
  have HT4 := Lib.hid t4
  clear g0 g1 g2 x0 x1 x2 x3 hb3 t3 hba hb24 hw4
  obtain ⟨g0, g1, g2⟩ := hg4
  obtain ⟨x0, x1, x2, x3⟩ := hx4
  obtain ⟨s0, s1, s2, s3⟩ := t4.m.stAt
  simp only [] at x0 x1 x2 x3 s0 s1 s2 s3
  clear t4
  go_wp2_with fail
  rw [← HW4.out]
  have k0 : Kept w4 w4 := Kept.refl _
  have hcall : ∀ n : Held w4, Calls Try.prog 46 #[gridV W H g, shV ⟨t, a1, n1, c1, a2, n2, c2, a3, n3, c3⟩, inpV ⟨4, xa, xb, xc⟩] n.V fun e V' => e = .returned (.int .i64 code) ∧ ∃ m : Held w4, V' = m.V := fun n => n.call (HCK.out _ (HT4.out.m.calls n.k))
  have C1 := Lib.hid hcall
  have hne : Nonempty (Held w4) := ⟨⟨w4, k0⟩⟩
  have z1 : ∀ n : Held w4, n.V.cell? ⟨w.heap.size, 0, none⟩ = some (.int .i64 W) := fun n => n.cell g0
  have z2 : ∀ n : Held w4, n.V.cell? ⟨w.heap.size, 1, none⟩ = some (.int .i64 H) := fun n => n.cell g1
  have z3 : ∀ n : Held w4, n.V.cell? ⟨w.heap.size, 2, none⟩ = some (.string g) := fun n => n.cell g2
  have z4 : ∀ n : Held w4, n.V.cell? ⟨w.heap.size + 1, 0, none⟩ = some (.int .i64 4) := fun n => n.cell x0
  have z5 : ∀ n : Held w4, n.V.cell? ⟨w.heap.size + 1, 1, none⟩ = some (.int .i64 xa) := fun n => n.cell x1
  have z6 : ∀ n : Held w4, n.V.cell? ⟨w.heap.size + 1, 2, none⟩ = some (.int .i64 xb) := fun n => n.cell x2
  have z7 : ∀ n : Held w4, n.V.cell? ⟨w.heap.size + 1, 3, none⟩ = some (.int .i64 xc) := fun n => n.cell x3
  have z8 : ∀ n : Held w4, n.V.cell? ⟨b, 0, none⟩ = some (.int .i64 t) := fun n => n.cell s0
  have z9 : ∀ n : Held w4, n.V.cell? ⟨b, 1, none⟩ = some (.slice a1 n1 c1) := fun n => n.cell s1
  have z10 : ∀ n : Held w4, n.V.cell? ⟨b, 2, none⟩ = some (.slice a2 n2 c2) := fun n => n.cell s2
  have z11 : ∀ n : Held w4, n.V.cell? ⟨b, 3, none⟩ = some (.slice a3 n3 c3) := fun n => n.cell s3
  have z12 : ∀ n : Held w4, n.V.cell? ⟨w3.heap.size, 0, none⟩ = some (fnV 46) := fun n => n.cell y0
  have z13 : ∀ n : Held w4, n.V.cell? ⟨w3.heap.size, 1, none⟩ = some (fnV 47) := fun n => n.cell y1
  clear g0 g1 g2 x0 x1 x2 x3 s0 s1 s2 s3 y0 y1 hcall
  refine wp_region_class k0 (by kernel_rfl) (by kernel_rfl) ?_
  repeat (go_big_quiet_step ((go_at_call 46; with_reducible exact C1.out _)))
  refine wpQuiet_nil ?_
  rintro V ⟨n, rfl⟩
  have t5 := HT4.out.trans (.calls HT4.out.m n.k)
  have HT5 := Lib.hid t5
  have q0 := z4 n
  have q1 := z5 n
  have q2 := z6 n
  have q3 := z7 n
  have q4 := z13 n
  generalize n.V = V at t5 HT5 q0 q1 q2 q3 q4
  clear z1 z2 z3 z4 z5 z6 z7 z8 z9 z10 z11 z12 z13 hne k0 n HW4
  by_cases hz : code = 0
  · have HC := Lib.hid (HCH.out V t5.m hz)
    have HZ := Lib.hid (HR0.out hz)
    clear HR0 HR1
    subst hz
    clear t5
    go_wp2_with fail
    refine HC.out.mono ?_
    rintro e w6 ⟨rfl, t6⟩
    go_wp2_with fail
    go_ret
    exact ⟨rfl, by rw [HZ.out]; exact HT5.out.t.trans t6⟩
  · have e1 : (code != 0) = true := by simpa using hz
    have HE := Lib.hid (HR1.out hz)
    clear HR0 HR1
    clear hz t5
    go_wp2_with fail
    go_ret
    refine ⟨rfl, ?_⟩
    rw [HE.out]
    exact HT5.out.t
end Go.Proofs.Ytlfgdalpaacccaa.Vm

namespace Go.Proofs.Ytlfgdalpaacccaa.Vm
open Go Go.RowKit

set_option maxRecDepth 100000 in
set_option maxHeartbeats 2000000 in
theorem apply_k5 (W H : Int) (g : ByteArray) (B b : Nat) (h : Sh) (s : St) (x : Inp) (w : World) (m : Mine w B b h s) (hg : g.size ≤ maxLen) (hr : RightP (floorS (bytesOf g)) s) (hn : s.bl.length ≤ 100000) (hk : x.k = 5) :
    Calls Try.prog 20 #[gridV W H g, .pointer (some ⟨b, 0, none⟩), inpV x] w fun e w' => e = .returned (.int .i64 (codeB (floorS (bytesOf g)) s x)) ∧ Turns w B b (if codeB (floorS (bytesOf g)) s x = 0 then turnB s x else s) w' := by
  obtain ⟨w2, hw2, t2, hg2, hx2, hz2⟩ := gx_head m W H g x
  have HCK : Hid (∀ V, Mine V B b h s → Calls Try.prog 48 #[gridV W H g, shV h, inpV x] V fun e w' => e = .returned (.int .i64 (codeB (floorS (bytesOf g)) s x)) ∧ Below V.heap.size V w') := fun V mV => checkBlock_any W H g h s x V.heap.size V hg mV.stIn (Nat.le_refl _) (up_right hr).pairs hn
  have HCH : Hid (∀ V, Mine V B b h s → codeB (floorS (bytesOf g)) s x = 0 → Calls Try.prog 49 #[.pointer (some ⟨b, 0, none⟩), inpV x] V fun e w' => e = .returned (.tuple #[]) ∧ Turns V B b (turnB s x) w') := fun V mV hz => block_any B b h s x V mV (up_right hr).pairs hn
  have HEF := Lib.hid (effectOf_yes 5 (by omega) w2)
  rw [show chkN 5 = 48 from rfl, show chgN 5 = 49 from rfl] at HEF
  have HT2 := Lib.hid t2
  have HG2 := Lib.hid hg2
  have HX2 := Lib.hid hx2
  have HW := Lib.hid hw2
  generalize hcd : codeB (floorS (bytesOf g)) s x = code at HCK HCH
  generalize htn : turnB s x = after at HCH
  obtain ⟨res, hres⟩ : ∃ res, (if code = 0 then after else s) = res := ⟨_, rfl⟩
  rw [hres]
  have HR0 : Hid (code = 0 → res = after) := fun h => by rw [← hres, if_pos h]
  have HR1 : Hid (code ≠ 0 → res = s) := fun h => by rw [← hres, if_neg h]
  clear hcd htn hr hn m hg t2 hw2 hres
  obtain ⟨g0, g1, g2⟩ := hg2
  obtain ⟨x0, x1, x2, x3⟩ := hx2
  obtain ⟨xk, xa, xb, xc⟩ := x
  obtain ⟨t, a1, n1, c1, a2, n2, c2, a3, n3, c3⟩ := h
  simp only [] at hk x0 x1 x2 x3
  subst hk
  go_enter Try.func20, Try.ntmps20
  go_wp2_with fail
  rw [← HW.out]
  refine HEF.out.mono ?_
  rintro e w3 ⟨rfl, hb3⟩
  have t3 := HT2.out.trans (.calls HT2.out.m hb3)
  have hz3 := hb3.size
  have hba : Below w3.heap.size w3 (w3.alloc (.cells #[fnV 48, fnV 49] 69)) := (Below.refl _ _).alloc (Nat.le_refl _) _
  obtain ⟨w4, hw4⟩ : ∃ w4, w4 = w3.alloc (.cells #[fnV 48, fnV 49] 69) := ⟨_, rfl⟩
  have y0 : w4.cell? ⟨w3.heap.size, 0, none⟩ = some (fnV 48) := by rw [hw4]; simp
  have y1 : w4.cell? ⟨w3.heap.size, 1, none⟩ = some (fnV 49) := by rw [hw4]; simp
  have hz4 : w4.heap.size = w3.heap.size + 1 := by rw [hw4]; simp
  rw [← hw4] at hba
  have t4 := t3.trans (.calls t3.m hba)
  have hb24 := hb3.trans (hba.mono hz3)
  have hg4 := HG2.out.below hb24 (by omega)
  have hx4 := HX2.out.below hb24 (by omega)
  have HW4 := Lib.hid hw4
  have HT4 := Lib.hid t4
  clear g0 g1 g2 x0 x1 x2 x3 hb3 t3 hba hb24 hw4
  obtain ⟨g0, g1, g2⟩ := hg4
  obtain ⟨x0, x1, x2, x3⟩ := hx4
  obtain ⟨s0, s1, s2, s3⟩ := t4.m.stAt
  simp only [] at x0 x1 x2 x3 s0 s1 s2 s3
  clear t4
  go_wp2_with fail
  rw [← HW4.out]
  have k0 : Kept w4 w4 := Kept.refl _
  have hcall : ∀ n : Held w4, Calls Try.prog 48 #[gridV W H g, shV ⟨t, a1, n1, c1, a2, n2, c2, a3, n3, c3⟩, inpV ⟨5, xa, xb, xc⟩] n.V fun e V' => e = .returned (.int .i64 code) ∧ ∃ m : Held w4, V' = m.V := fun n => n.call (HCK.out _ (HT4.out.m.calls n.k))
  have C1 := Lib.hid hcall
  have hne : Nonempty (Held w4) := ⟨⟨w4, k0⟩⟩
  have z1 : ∀ n : Held w4, n.V.cell? ⟨w.heap.size, 0, none⟩ = some (.int .i64 W) := fun n => n.cell g0
  have z2 : ∀ n : Held w4, n.V.cell? ⟨w.heap.size, 1, none⟩ = some (.int .i64 H) := fun n => n.cell g1
  have z3 : ∀ n : Held w4, n.V.cell? ⟨w.heap.size, 2, none⟩ = some (.string g) := fun n => n.cell g2
  have z4 : ∀ n : Held w4, n.V.cell? ⟨w.heap.size + 1, 0, none⟩ = some (.int .i64 5) := fun n => n.cell x0
  have z5 : ∀ n : Held w4, n.V.cell? ⟨w.heap.size + 1, 1, none⟩ = some (.int .i64 xa) := fun n => n.cell x1
  have z6 : ∀ n : Held w4, n.V.cell? ⟨w.heap.size + 1, 2, none⟩ = some (.int .i64 xb) := fun n => n.cell x2
  have z7 : ∀ n : Held w4, n.V.cell? ⟨w.heap.size + 1, 3, none⟩ = some (.int .i64 xc) := fun n => n.cell x3
  have z8 : ∀ n : Held w4, n.V.cell? ⟨b, 0, none⟩ = some (.int .i64 t) := fun n => n.cell s0
  have z9 : ∀ n : Held w4, n.V.cell? ⟨b, 1, none⟩ = some (.slice a1 n1 c1) := fun n => n.cell s1
  have z10 : ∀ n : Held w4, n.V.cell? ⟨b, 2, none⟩ = some (.slice a2 n2 c2) := fun n => n.cell s2
  have z11 : ∀ n : Held w4, n.V.cell? ⟨b, 3, none⟩ = some (.slice a3 n3 c3) := fun n => n.cell s3
  have z12 : ∀ n : Held w4, n.V.cell? ⟨w3.heap.size, 0, none⟩ = some (fnV 48) := fun n => n.cell y0
  have z13 : ∀ n : Held w4, n.V.cell? ⟨w3.heap.size, 1, none⟩ = some (fnV 49) := fun n => n.cell y1
  clear g0 g1 g2 x0 x1 x2 x3 s0 s1 s2 s3 y0 y1 hcall
  refine wp_region_class k0 (by kernel_rfl) (by kernel_rfl) ?_
  repeat (go_big_quiet_step ((go_at_call 48; with_reducible exact C1.out _)))
  refine wpQuiet_nil ?_
  rintro V ⟨n, rfl⟩
  have t5 := HT4.out.trans (.calls HT4.out.m n.k)
  have HT5 := Lib.hid t5
  have q0 := z4 n
  have q1 := z5 n
  have q2 := z6 n
  have q3 := z7 n
  have q4 := z13 n
  generalize n.V = V at t5 HT5 q0 q1 q2 q3 q4
  clear z1 z2 z3 z4 z5 z6 z7 z8 z9 z10 z11 z12 z13 hne k0 n HW4
  by_cases hz : code = 0
  · have HC := Lib.hid (HCH.out V t5.m hz)
    have HZ := Lib.hid (HR0.out hz)
    clear HR0 HR1
    subst hz
    clear t5
    go_wp2_with fail
    refine HC.out.mono ?_
    rintro e w6 ⟨rfl, t6⟩
    go_wp2_with fail
    go_ret
    exact ⟨rfl, by rw [HZ.out]; exact HT5.out.t.trans t6⟩
  · have e1 : (code != 0) = true := by simpa using hz
    have HE := Lib.hid (HR1.out hz)
    clear HR0 HR1
    clear hz t5
    go_wp2_with fail
    go_ret
    refine ⟨rfl, ?_⟩
    rw [HE.out]
    exact HT5.out.t

set_option maxRecDepth 100000 in
set_option maxHeartbeats 2000000 in
theorem apply_k6 (W H : Int) (g : ByteArray) (B b : Nat) (h : Sh) (s : St) (x : Inp) (w : World) (m : Mine w B b h s) (hg : g.size ≤ maxLen) (hr : RightP (floorS (bytesOf g)) s) (hn : s.bl.length ≤ 100000) (hk : x.k = 6) :
    Calls Try.prog 20 #[gridV W H g, .pointer (some ⟨b, 0, none⟩), inpV x] w fun e w' => e = .returned (.int .i64 (codeC (floorS (bytesOf g)) s x)) ∧ Turns w B b (if codeC (floorS (bytesOf g)) s x = 0 then turnC s x else s) w' := by
  obtain ⟨w2, hw2, t2, hg2, hx2, hz2⟩ := gx_head m W H g x
  have HCK : Hid (∀ V, Mine V B b h s → Calls Try.prog 50 #[gridV W H g, shV h, inpV x] V fun e w' => e = .returned (.int .i64 (codeC (floorS (bytesOf g)) s x)) ∧ Below V.heap.size V w') := fun V mV => checkClear_any W H g h s x V.heap.size V hg mV.stIn (Nat.le_refl _) (up_right hr).pairs hn
  have HCH : Hid (∀ V, Mine V B b h s → codeC (floorS (bytesOf g)) s x = 0 → Calls Try.prog 51 #[.pointer (some ⟨b, 0, none⟩), inpV x] V fun e w' => e = .returned (.tuple #[]) ∧ Turns V B b (turnC s x) w') := fun V mV hz => unblock_any B b h s x V mV (up_right hr).pairs hn (codeC_zero hz)
  have HEF := Lib.hid (effectOf_yes 6 (by omega) w2)
  rw [show chkN 6 = 50 from rfl, show chgN 6 = 51 from rfl] at HEF
  have HT2 := Lib.hid t2
  have HG2 := Lib.hid hg2
  have HX2 := Lib.hid hx2
  have HW := Lib.hid hw2
  generalize hcd : codeC (floorS (bytesOf g)) s x = code at HCK HCH
  generalize htn : turnC s x = after at HCH
  obtain ⟨res, hres⟩ : ∃ res, (if code = 0 then after else s) = res := ⟨_, rfl⟩
  rw [hres]
  have HR0 : Hid (code = 0 → res = after) := fun h => by rw [← hres, if_pos h]
  have HR1 : Hid (code ≠ 0 → res = s) := fun h => by rw [← hres, if_neg h]
  clear hcd htn hr hn m hg t2 hw2 hres
  obtain ⟨g0, g1, g2⟩ := hg2
  obtain ⟨x0, x1, x2, x3⟩ := hx2
  obtain ⟨xk, xa, xb, xc⟩ := x
  obtain ⟨t, a1, n1, c1, a2, n2, c2, a3, n3, c3⟩ := h
  simp only [] at hk x0 x1 x2 x3
  subst hk
  go_enter Try.func20, Try.ntmps20
  go_wp2_with fail
  rw [← HW.out]
  refine HEF.out.mono ?_
  rintro e w3 ⟨rfl, hb3⟩
  have t3 := HT2.out.trans (.calls HT2.out.m hb3)
  have hz3 := hb3.size
  have hba : Below w3.heap.size w3 (w3.alloc (.cells #[fnV 50, fnV 51] 69)) := (Below.refl _ _).alloc (Nat.le_refl _) _
  obtain ⟨w4, hw4⟩ : ∃ w4, w4 = w3.alloc (.cells #[fnV 50, fnV 51] 69) := ⟨_, rfl⟩
  have y0 : w4.cell? ⟨w3.heap.size, 0, none⟩ = some (fnV 50) := by rw [hw4]; simp
  have y1 : w4.cell? ⟨w3.heap.size, 1, none⟩ = some (fnV 51) := by rw [hw4]; simp
  have hz4 : w4.heap.size = w3.heap.size + 1 := by rw [hw4]; simp
  rw [← hw4] at hba
  have t4 := t3.trans (.calls t3.m hba)
  have hb24 := hb3.trans (hba.mono hz3)
  have hg4 := HG2.out.below hb24 (by omega)
  have hx4 := HX2.out.below hb24 (by omega)
  have HW4 := Lib.hid hw4
  have HT4 := Lib.hid t4
  clear g0 g1 g2 x0 x1 x2 x3 hb3 t3 hba hb24 hw4
  obtain ⟨g0, g1, g2⟩ := hg4
  obtain ⟨x0, x1, x2, x3⟩ := hx4
  obtain ⟨s0, s1, s2, s3⟩ := t4.m.stAt
  simp only [] at x0 x1 x2 x3 s0 s1 s2 s3
  clear t4
  go_wp2_with fail
  rw [← HW4.out]
  have k0 : Kept w4 w4 := Kept.refl _
  have hcall : ∀ n : Held w4, Calls Try.prog 50 #[gridV W H g, shV ⟨t, a1, n1, c1, a2, n2, c2, a3, n3, c3⟩, inpV ⟨6, xa, xb, xc⟩] n.V fun e V' => e = .returned (.int .i64 code) ∧ ∃ m : Held w4, V' = m.V := fun n => n.call (HCK.out _ (HT4.out.m.calls n.k))
  have C1 := Lib.hid hcall
  have hne : Nonempty (Held w4) := ⟨⟨w4, k0⟩⟩
  have z1 : ∀ n : Held w4, n.V.cell? ⟨w.heap.size, 0, none⟩ = some (.int .i64 W) := fun n => n.cell g0
  have z2 : ∀ n : Held w4, n.V.cell? ⟨w.heap.size, 1, none⟩ = some (.int .i64 H) := fun n => n.cell g1
  have z3 : ∀ n : Held w4, n.V.cell? ⟨w.heap.size, 2, none⟩ = some (.string g) := fun n => n.cell g2
  have z4 : ∀ n : Held w4, n.V.cell? ⟨w.heap.size + 1, 0, none⟩ = some (.int .i64 6) := fun n => n.cell x0
  have z5 : ∀ n : Held w4, n.V.cell? ⟨w.heap.size + 1, 1, none⟩ = some (.int .i64 xa) := fun n => n.cell x1
  have z6 : ∀ n : Held w4, n.V.cell? ⟨w.heap.size + 1, 2, none⟩ = some (.int .i64 xb) := fun n => n.cell x2
  have z7 : ∀ n : Held w4, n.V.cell? ⟨w.heap.size + 1, 3, none⟩ = some (.int .i64 xc) := fun n => n.cell x3
  have z8 : ∀ n : Held w4, n.V.cell? ⟨b, 0, none⟩ = some (.int .i64 t) := fun n => n.cell s0
  have z9 : ∀ n : Held w4, n.V.cell? ⟨b, 1, none⟩ = some (.slice a1 n1 c1) := fun n => n.cell s1
  have z10 : ∀ n : Held w4, n.V.cell? ⟨b, 2, none⟩ = some (.slice a2 n2 c2) := fun n => n.cell s2
  have z11 : ∀ n : Held w4, n.V.cell? ⟨b, 3, none⟩ = some (.slice a3 n3 c3) := fun n => n.cell s3
  have z12 : ∀ n : Held w4, n.V.cell? ⟨w3.heap.size, 0, none⟩ = some (fnV 50) := fun n => n.cell y0
  have z13 : ∀ n : Held w4, n.V.cell? ⟨w3.heap.size, 1, none⟩ = some (fnV 51) := fun n => n.cell y1
  clear g0 g1 g2 x0 x1 x2 x3 s0 s1 s2 s3 y0 y1 hcall
  refine wp_region_class k0 (by kernel_rfl) (by kernel_rfl) ?_
  repeat (go_big_quiet_step ((go_at_call 50; with_reducible exact C1.out _)))
  refine wpQuiet_nil ?_
  rintro V ⟨n, rfl⟩
  have t5 := HT4.out.trans (.calls HT4.out.m n.k)
  have HT5 := Lib.hid t5
  have q0 := z4 n
  have q1 := z5 n
  have q2 := z6 n
  have q3 := z7 n
  have q4 := z13 n
  generalize n.V = V at t5 HT5 q0 q1 q2 q3 q4
  clear z1 z2 z3 z4 z5 z6 z7 z8 z9 z10 z11 z12 z13 hne k0 n HW4
  by_cases hz : code = 0
  · have HC := Lib.hid (HCH.out V t5.m hz)
    have HZ := Lib.hid (HR0.out hz)
    clear HR0 HR1
    subst hz
    clear t5
    go_wp2_with fail
    refine HC.out.mono ?_
    rintro e w6 ⟨rfl, t6⟩
    go_wp2_with fail
    go_ret
    exact ⟨rfl, by rw [HZ.out]; exact HT5.out.t.trans t6⟩
  · have e1 : (code != 0) = true := by simpa using hz
    have HE := Lib.hid (HR1.out hz)
    clear HR0 HR1
    clear hz t5
    go_wp2_with fail
    go_ret
    refine ⟨rfl, ?_⟩
    rw [HE.out]
    exact HT5.out.t
end Go.Proofs.Ytlfgdalpaacccaa.Vm
