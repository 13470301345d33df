/- The contracts of slices.IndexFunc at state's closure, of state.Find and of state's errand. -/
import Derived.Test.YtlfgdalpaacccaaStWords
import Derived.Test.YtlfgdalpaacccaaRefFinds
namespace Go.Proofs.Ytlfgdalpaacccaa.Vm
open Go Go.RowKit

set_option maxRecDepth 100000 in
set_option maxHeartbeats 400000 in
theorem findFn_any (b : Nat) (id : Int) (x : Rec) (w : World) (hc : w.cell? ⟨b, 0, none⟩ = some (.int .i64 id)) :
    Calls Try.prog 61 #[recV x, .pointer (some ⟨b, 0, none⟩)] w fun e w' => e = .returned (.bool (x.a == id)) ∧ Below w.heap.size w w' := by
  have hb : b < w.heap.size := World.block_lt_of_cell? w ⟨b, 0, none⟩ hc
  go_enter Try.func61, Try.ntmps61
  go_wp2_with fail
  go_ret
  exact ⟨rfl, (Below.refl _ _).alloc (Nat.le_refl _) _⟩

set_option maxRecDepth 100000 in
set_option maxHeartbeats 400000 in
theorem index_any (a : Option Addr) (n c B b : Nat) (ts : List Rec) (id : Int) (w : World) (hin : RowR w B a n c ts) (hB : B ≤ w.heap.size) (hc : w.cell? ⟨b, 0, none⟩ = some (.int .i64 id)) :
    Calls Try.prog 60 #[.slice a n c, .func (.func 61) #[] #[.pointer (some ⟨b, 0, none⟩)]] w fun e w' => e = .returned (.int .i64 (findS ts id)) ∧ Below w.heap.size w w' := by
  have hm2 := hin.len
  unfold maxLen at hm2
  have hbw : b < w.heap.size := World.block_lt_of_cell? w ⟨b, 0, none⟩ hc
  have HL := Lib.hid hin.1
  have HC := Lib.hid hin.cells
  have HCC := Lib.hid hc
  clear hin hc
  go_enter Try.func60, Try.ntmps60
  go_wp2_with fail
  go_loopw [8] (fun i wr => ∃ k : Nat, k ≤ n ∧ i = .int .i64 k ∧ Below w.heap.size w wr ∧ Hid (∀ j, j < k → (ts.getD j zr).a ≠ id)) (fun i _ => n - (intOf i).toNat)
  case atStart => exact ⟨0, Nat.zero_le _, rfl, Below.refl _ _, fun j hj => absurd hj (Nat.not_lt_zero _)⟩
  case round =>
    obtain ⟨k, hk, rfl, hbel, HA⟩ := hrel
    by_cases hlt : k < n
    · obtain ⟨b1, off, rfl, hb, hcs⟩ := HC.out (by omega)
      have hcell := (hcs k hlt).below hbel (by omega)
      have HKN : Hid (k < ts.length) := by unfold Hid; rw [HL.out]; exact hlt
      have hx : ∃ x, ts.getD k zr = x := ⟨_, rfl⟩
      obtain ⟨x, hx⟩ := hx
      rw [hx] at hcell
      have HX := Lib.hid hx
      obtain ⟨p1, p2, p3, p4, p5⟩ := hcell
      have HCALL := Lib.hid (findFn_any b id x wr ((hbel.cell (p := ⟨b, 0, none⟩) hbw).trans HCC.out))
      clear hcs hx
      by_cases he : x.a = id
      · have e1 : (x.a == id) = true := by simpa using he
        have HY := Lib.hid (findS_at HKN.out HA.out (by rw [HX.out]; exact he))
        rw [e1] at HCALL
        clear he e1
        go_wp2_with fail
        refine HCALL.out.mono ?_
        rintro e w1 ⟨rfl, hv1⟩
        have hb1 := hbel.trans (hv1.mono hbel.size)
        go_wp2_with fail
        go_ret
        exact ⟨ret_int' HY.out.symm, hb1⟩
      · have e1 : (x.a == id) = false := by simpa using he
        have HE : Hid ((ts.getD k zr).a ≠ id) := by unfold Hid; rw [HX.out]; exact he
        rw [e1] at HCALL
        clear he e1
        go_wp2_with fail
        refine HCALL.out.mono ?_
        rintro e w1 ⟨rfl, hv1⟩
        have hb1 := hbel.trans (hv1.mono hbel.size)
        go_wp2_with fail
        go_roundw
        case rel => exact ⟨k + 1, by omega, by go_num, hb1, upto_more HA.out HE.out⟩
        case measure => simp [intOf]; omega
    · have hkn : k = n := by omega
      rw [hkn] at HA
      have HY : Hid (findS ts id = -1) := findS_no (by rw [HL.out]; exact HA.out)
      clear HA
      go_wp2_with fail
      go_ret
      exact ⟨ret_int' HY.out.symm, hbel⟩

set_option maxRecDepth 100000 in
set_option maxHeartbeats 400000 in
theorem find_any (h : Sh) (ts : List Rec) (id : Int) (B : Nat) (w : World) (hin : RowR w B h.a2 h.n2 h.c2 ts) (hB : B ≤ w.heap.size) :
    Calls Try.prog 53 #[shV h, .int .i64 id] w fun e w' => e = .returned (.int .i64 (findS ts id)) ∧ Below w.heap.size w w' := by
  have hB0 : Below w.heap.size w ((w.alloc (shO h)).alloc (.cells #[.int .i64 id] 3)) := ((Below.refl _ _).alloc (Nat.le_refl _) _).alloc (by simp) _
  have HIX := Lib.hid (index_any h.a2 h.n2 h.c2 w.heap.size (w.heap.size + 1) ts id ((w.alloc (shO h)).alloc (.cells #[.int .i64 id] 3)) ((hin.mono hB).below hB0) hB0.size (by simp))
  obtain ⟨t, a1, n1, c1, a2, n2, c2, a3, n3, c3⟩ := h
  have HB0 := Lib.hid hB0
  generalize findS ts id = f at HIX
  clear hB0 hin
  go_enter Try.func53, Try.ntmps53
  go_wp2_with fail
  refine HIX.out.mono ?_
  rintro e w1 ⟨rfl, hv1⟩
  have hB1 := HB0.out.trans (hv1.mono HB0.out.size)
  go_wp2_with fail
  go_ret
  exact ⟨rfl, hB1⟩

/-- Where a robot's errand takes it. -/
def errandS (ts : List Rec) (r : Rec) : Int × Bool :=
  if findS ts r.c < 0 then (0, false) else if r.b = 1 then ((ts.getD (findS ts r.c).toNat zr).b, true) else ((ts.getD (findS ts r.c).toNat zr).c, true)
theorem ret_ib {R : Int × Bool} {a : Int} {b : Bool} (h : R = (a, b)) : Ending.returned (.tuple #[.int .i64 a, .bool b]) = .returned (.tuple #[.int .i64 R.1, .bool R.2]) := by rw [h]

end Go.Proofs.Ytlfgdalpaacccaa.Vm
