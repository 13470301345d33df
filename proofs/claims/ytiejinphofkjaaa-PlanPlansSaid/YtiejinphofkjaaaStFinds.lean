/- The contracts of slices.IndexFunc at state's closure, of state.Find and of state's errand. -/
import Derived.Test.YtiejinphofkjaaaStWords
import Derived.Test.YtiejinphofkjaaaRefFinds
namespace Go.Proofs.Ytiejinphofkjaaa.Vm
open Go Go.RowKit

set_option maxRecDepth 100000 in
set_option maxHeartbeats 400000 in
theorem findFn_any (b : Nat) (id : Int) (x : Rec) (w : World) (hc : w.cell? ⟨b, 0, none⟩ = some (.int .i64 id)) :
    Calls Try.prog 70 #[recV x, .pointer (some ⟨b, 0, none⟩)] w fun e w' => e = .returned (.bool (x.a == id)) ∧ Below w.heap.size w w' := by
  have hb : b < w.heap.size := World.block_lt_of_cell? w ⟨b, 0, none⟩ hc
  go_enter Try.func70, Try.ntmps70
  go_wp2_with fail
  go_ret
  exact ⟨rfl, (Below.refl _ _).alloc (Nat.le_refl _) _⟩

set_option maxRecDepth 100000 in
set_option maxHeartbeats 400000 in
theorem index_any (a : Option Addr) (n c B b : Nat) (ts : List Rec) (id : Int) (w : World) (hin : RowR w B a n c ts) (hB : B ≤ w.heap.size) (hc : w.cell? ⟨b, 0, none⟩ = some (.int .i64 id)) :
    Calls Try.prog 69 #[.slice a n c, .func (.func 70) #[] #[.pointer (some ⟨b, 0, none⟩)]] w fun e w' => e = .returned (.int .i64 (findS ts id)) ∧ Below w.heap.size w w' := by
  have hm2 := hin.len
  unfold maxLen at hm2
  have hbw : b < w.heap.size := World.block_lt_of_cell? w ⟨b, 0, none⟩ hc
  have HL := Lib.hid hin.1
  have HC := Lib.hid hin.cells
  have HCC := Lib.hid hc
  clear hin hc
  go_enter Try.func69, Try.ntmps69
  go_wp2_with fail
  go_loopw [8] (fun i wr => ∃ k : Nat, k ≤ n ∧ i = .int .i64 k ∧ Below w.heap.size w wr ∧ Hid (∀ j, j < k → (ts.getD j zr).a ≠ id)) (fun i _ => n - (intOf i).toNat)
  case atStart => exact ⟨0, Nat.zero_le _, rfl, Below.refl _ _, fun j hj => absurd hj (Nat.not_lt_zero _)⟩
  case round =>
    obtain ⟨k, hk, rfl, hbel, HA⟩ := hrel
    by_cases hlt : k < n
    · obtain ⟨b1, off, rfl, hb, hcs⟩ := HC.out (by omega)
      have hcell := (hcs k hlt).below hbel (by omega)
      have HKN : Hid (k < ts.length) := by unfold Hid; rw [HL.out]; exact hlt
      have hx : ∃ x, ts.getD k zr = x := ⟨_, rfl⟩
      obtain ⟨x, hx⟩ := hx
      rw [hx] at hcell
      have HX := Lib.hid hx
      obtain ⟨p1, p2, p3, p4, p5⟩ := hcell
      have HCALL := Lib.hid (findFn_any b id x wr ((hbel.cell (p := ⟨b, 0, none⟩) hbw).trans HCC.out))
      clear hcs hx
      by_cases he : x.a = id
      · have e1 : (x.a == id) = true := by simpa using he
        have HY := Lib.hid (findS_at HKN.out HA.out (by rw [HX.out]; exact he))
        rw [e1] at HCALL
        clear he e1
        go_wp2_with fail
        refine HCALL.out.mono ?_
        rintro e w1 ⟨rfl, hv1⟩
        have hb1 := hbel.trans (hv1.mono hbel.size)
        go_wp2_with fail
        go_ret
        exact ⟨ret_int' HY.out.symm, hb1⟩
      · have e1 : (x.a == id) = false := by simpa using he
        have HE : Hid ((ts.getD k zr).a ≠ id) := by unfold Hid; rw [HX.out]; exact he
        rw [e1] at HCALL
        clear he e1
        go_wp2_with fail
        refine HCALL.out.mono ?_
        rintro e w1 ⟨rfl, hv1⟩
        have hb1 := hbel.trans (hv1.mono hbel.size)
        go_wp2_with fail
        go_roundw
        case rel => exact ⟨k + 1, by omega, by go_num, hb1, upto_more HA.out HE.out⟩
        case measure => simp [intOf]; omega
    · have hkn : k = n := by omega
      rw [hkn] at HA
      have HY : Hid (findS ts id = -1) := findS_no (by rw [HL.out]; exact HA.out)
      clear HA
      go_wp2_with fail
      go_ret
      exact ⟨ret_int' HY.out.symm, hbel⟩

set_option maxRecDepth 100000 in
set_option maxHeartbeats 400000 in
theorem find_any (h : Sh) (ts : List Rec) (id : Int) (B : Nat) (w : World) (hin : RowR w B h.a2 h.n2 h.c2 ts) (hB : B ≤ w.heap.size) :
    Calls Try.prog 61 #[shV h, .int .i64 id] w fun e w' => e = .returned (.int .i64 (findS ts id)) ∧ Below w.heap.size w w' := by
  have hB0 : Below w.heap.size w ((w.alloc (shO h)).alloc (.cells #[.int .i64 id] 3)) := ((Below.refl _ _).alloc (Nat.le_refl _) _).alloc (by simp) _
  have HIX := Lib.hid (index_any h.a2 h.n2 h.c2 w.heap.size (w.heap.size + 1) ts id ((w.alloc (shO h)).alloc (.cells #[.int .i64 id] 3)) ((hin.mono hB).below hB0) hB0.size (by simp))
  obtain ⟨t, a1, n1, c1, a2, n2, c2, a3, n3, c3⟩ := h
  have HB0 := Lib.hid hB0
  generalize findS ts id = f at HIX
  clear hB0 hin
  go_enter Try.func61, Try.ntmps61
  go_wp2_with fail
  refine HIX.out.mono ?_
  rintro e w1 ⟨rfl, hv1⟩
  have hB1 := HB0.out.trans (hv1.mono HB0.out.size)
  go_wp2_with fail
  go_ret
  exact ⟨rfl, hB1⟩

/-- Where a robot's errand takes it. -/
def errandS (ts : List Rec) (r : Rec) : Int × Bool :=
  if findS ts r.c < 0 then (0, false) else if r.b = 1 then ((ts.getD (findS ts r.c).toNat zr).b, true) else ((ts.getD (findS ts r.c).toNat zr).c, true)
theorem ret_ib {R : Int × Bool} {a : Int} {b : Bool} (h : R = (a, b)) : Ending.returned (.tuple #[.int .i64 a, .bool b]) = .returned (.tuple #[.int .i64 R.1, .bool R.2]) := by rw [h]

set_option maxRecDepth 100000 in
set_option maxHeartbeats 400000 in
theorem errand_any (h : Sh) (ts : List Rec) (r : Rec) (B : Nat) (w : World) (hin : RowR w B h.a2 h.n2 h.c2 ts) (hB : B ≤ w.heap.size) :
    Calls Try.prog 52 #[shV h, recV r] w fun e w' => e = .returned (.tuple #[.int .i64 (errandS ts r).1, .bool (errandS ts r).2]) ∧ Below w.heap.size w w' := by
  have hB1 : Below w.heap.size w (w.alloc (shO h)) := (Below.refl _ _).alloc (Nat.le_refl _) _
  have hs1 := stAt_new w h
  have hz1 : (w.alloc (shO h)).heap.size = w.heap.size + 1 := by simp
  obtain ⟨w1, hw1⟩ : ∃ w1, w1 = w.alloc (shO h) := ⟨_, rfl⟩
  rw [← hw1] at hB1 hs1 hz1
  have hB2 : Below w.heap.size w (w1.alloc (.cells #[.int .i64 r.a, .int .i64 r.b, .int .i64 r.c, .int .i64 r.d, .int .i64 r.e] 46)) := hB1.alloc (by omega) _
  have hb2 : Below w1.heap.size w1 (w1.alloc (.cells #[.int .i64 r.a, .int .i64 r.b, .int .i64 r.c, .int .i64 r.d, .int .i64 r.e] 46)) := (Below.refl _ _).alloc (Nat.le_refl _) _
  have hr2 := recAt_new w1 r 46
  have hs2 := hs1.below hb2 (by omega)
  rw [hz1] at hr2
  have hz2 : (w1.alloc (.cells #[.int .i64 r.a, .int .i64 r.b, .int .i64 r.c, .int .i64 r.d, .int .i64 r.e] 46)).heap.size = w.heap.size + 2 := by simp [hz1]
  obtain ⟨w2, hw2⟩ : ∃ w2, w2 = w1.alloc (.cells #[.int .i64 r.a, .int .i64 r.b, .int .i64 r.c, .int .i64 r.d, .int .i64 r.e] 46) := ⟨_, rfl⟩
  rw [← hw2] at hB2 hr2 hs2 hz2
  have hin2 := (hin.mono hB).below hB2
  have HFD := Lib.hid (find_any h ts r.c w.heap.size w2 hin2 hB2.size)
  have HIN := Lib.hid (hin.mono hB)
  have HS2 := Lib.hid hs2
  have HR2 := Lib.hid hr2
  obtain ⟨t, a1, n1, c1, a2, n2, c2, a3, n3, c3⟩ := h
  have HW1 := Lib.hid hw1
  have HW2 := Lib.hid hw2
  clear hin2 hin hs1 hs2 hr2 hb2 hw1 hw2 hB1 hz1
  rcases findS_cases ts r.c with ⟨hfn, _⟩ | ⟨j, hj, hfj, _, _⟩
  · have HY : Hid (errandS ts r = (0, false)) := by
      unfold Hid errandS
      rw [if_pos (by omega)]
    rw [hfn] at HFD
    clear hfn
    go_enter Try.func52, Try.ntmps52
    go_wp2_with fail
    rw [← HW1.out, ← HW2.out]
    refine HFD.out.mono ?_
    rintro e w3 ⟨rfl, hv3⟩
    have hB3 := hB2.trans (hv3.mono hB2.size)
    go_wp2_with fail
    go_ret2
    exact ⟨ret_ib HY.out, hB3⟩
  · have hjn : j < n2 := by have := HIN.out.1; simp only [] at this; omega
    obtain ⟨b1, off, e', hb, hcs⟩ := HIN.out.cells (show 0 < n2 by omega)
    simp only [] at e'
    subst e'
    have hcell := hcs j hjn
    have hy : ∃ y, ts.getD j zr = y := ⟨_, rfl⟩
    obtain ⟨y, hy⟩ := hy
    rw [hy] at hcell
    have HY1 : Hid (r.b = 1 → errandS ts r = (y.b, true)) := fun h1 => by
      unfold errandS
      rw [hfj, if_neg (by omega), if_pos h1, Int.toNat_natCast, hy]
    have HY2 : Hid (r.b ≠ 1 → errandS ts r = (y.c, true)) := fun h1 => by
      unfold errandS
      rw [hfj, if_neg (by omega), if_neg h1, Int.toNat_natCast, hy]
    rw [hfj] at HFD
    have HCL := Lib.hid (hcell.below hB2 (by omega))
    clear hcell hcs hy hfj hj
    by_cases h1 : r.b = 1
    · have e1 : (r.b == 1) = true := by simpa using h1
      have HZ := Lib.hid (HY1.out h1)
      clear h1
      go_enter Try.func52, Try.ntmps52
      go_wp2_with fail
      rw [← HW1.out, ← HW2.out]
      refine HFD.out.mono ?_
      rintro e w3 ⟨rfl, hv3⟩
      have hB3 := hB2.trans (hv3.mono hB2.size)
      obtain ⟨s0, s1, s2, s3⟩ := HS2.out.below hv3 (by omega)
      obtain ⟨r1, r2, r3, r4, r5⟩ := HR2.out.below hv3 (by omega)
      obtain ⟨q1, q2, q3, q4, q5⟩ := HCL.out.below hv3 (by have := hB2.size; omega)
      simp only [] at s0 s1 s2 s3
      go_wp2_with fail
      go_ret2
      exact ⟨ret_ib HZ.out, hB3⟩
    · have e1 : (r.b == 1) = false := by simpa using h1
      have HZ := Lib.hid (HY2.out h1)
      clear h1
      go_enter Try.func52, Try.ntmps52
      go_wp2_with fail
      rw [← HW1.out, ← HW2.out]
      refine HFD.out.mono ?_
      rintro e w3 ⟨rfl, hv3⟩
      have hB3 := hB2.trans (hv3.mono hB2.size)
      obtain ⟨s0, s1, s2, s3⟩ := HS2.out.below hv3 (by omega)
      obtain ⟨r1, r2, r3, r4, r5⟩ := HR2.out.below hv3 (by omega)
      obtain ⟨q1, q2, q3, q4, q5⟩ := HCL.out.below hv3 (by have := hB2.size; omega)
      simp only [] at s0 s1 s2 s3
      go_wp2_with fail
      go_ret2
      exact ⟨ret_ib HZ.out, hB3⟩
end Go.Proofs.Ytiejinphofkjaaa.Vm
