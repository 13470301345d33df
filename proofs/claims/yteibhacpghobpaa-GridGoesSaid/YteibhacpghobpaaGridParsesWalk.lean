/- tuggerlaw03.GridParses returns true for every input: texts are read, and grids are judged and written, as the document has it. -/
import Derived.Test.YteibhacpghobpaaGridBackWalk
import Derived.Test.YteibhacpghobpaaRefParses
import Derived.Deep.RegionHeld3
namespace Go.Proofs.Yteibhacpghobpaa.Vm
open Go.RowKit

theorem rparse_as {s : ByteArray} {W H er : Nat} {cells : List Nat} (hs : s.size ≤ 1099511627776) (h : parseS (bytesOf s) = (W, H, cells, er)) (w : World) : Calls Try.prog 9 #[.string s] w fun e w' => e = .returned (.tuple #[gridV W H (strOf cells), .int .i64 (er : Nat)]) ∧ Below w.heap.size w w' := by
  have := rparse_any s w hs
  rw [h] at this
  exact this
theorem rprint_as {s : ByteArray} {W H : Int} {r : ByteArray} (hs : s.size ≤ maxLen) (h : strOf (printS W H (bytesOf s)) = r) (w : World) : Calls Try.prog 13 #[gridV W H s] w fun e w' => e = .returned (.string r) ∧ Below w.heap.size w w' := by
  have := rprint_any W H s w hs
  rw [h] at this
  exact this
theorem rright_as {s : ByteArray} {W H : Int} {b : Bool} (hs : s.size ≤ maxLen) (h : rightS W H (bytesOf s) = b) (w : World) : Calls Try.prog 11 #[gridV W H s] w fun e w' => e = .returned (.bool b) ∧ Below w.heap.size w w' := by
  have := rright_any W H s w hs
  rw [h] at this
  exact this

/-- What lay there lies there. -/
def Kept (a w : World) : Prop := Below a.heap.size a w
theorem Kept.refl (a : World) : Kept a a := Below.refl _ a
theorem Kept.drew {a w : World} (h : Kept a w) : Kept a w.drew := Below.drew h
theorem kept_calls {a wa : World} {f : FuncId} {args : Array Value} {v : Value} {b1 b2 b3 : Nat} {W1 H1 W2 H2 W3 H3 : Int} {s1 s2 s3 : ByteArray} (h : Kept a wa) (g1 : GridAt a b1 W1 H1 s1) (g2 : GridAt a b2 W2 H2 s2) (g3 : GridAt a b3 W3 H3 s3)
    (l1 : b1 < a.heap.size) (l2 : b2 < a.heap.size) (l3 : b3 < a.heap.size) (hc : Calls Try.prog f args wa fun e w' => e = .returned v ∧ Below wa.heap.size wa w') :
    Calls Try.prog f args wa fun e w' => e = .returned v ∧ Kept a w' ∧ w'.cell? ⟨b1, 0, none⟩ = some (.int .i64 W1) ∧ w'.cell? ⟨b1, 1, none⟩ = some (.int .i64 H1) ∧ w'.cell? ⟨b1, 2, none⟩ = some (.string s1) ∧
      w'.cell? ⟨b2, 0, none⟩ = some (.int .i64 W2) ∧ w'.cell? ⟨b2, 1, none⟩ = some (.int .i64 H2) ∧ w'.cell? ⟨b2, 2, none⟩ = some (.string s2) ∧
      w'.cell? ⟨b3, 0, none⟩ = some (.int .i64 W3) ∧ w'.cell? ⟨b3, 1, none⟩ = some (.int .i64 H3) ∧ w'.cell? ⟨b3, 2, none⟩ = some (.string s3) :=
  hc.mono fun e w' ⟨he, hb⟩ => by
    have hk : Kept a w' := Below.trans h (hb.mono h.size)
    have r1 := g1.below hk l1
    have r2 := g2.below hk l2
    have r3 := g3.below hk l3
    exact ⟨he, hk, r1.1, r1.2.1, r1.2.2, r2.1, r2.2.1, r2.2.2, r3.1, r3.2.1, r3.2.2⟩

set_option maxRecDepth 100000 in
set_option maxHeartbeats 1600000 in
theorem gridParses_walk (s : ByteArray) (W H : Int) (gs : ByteArray) (w : World) (hs : s.size ≤ maxLen) (_ : (Lit.int .i64 W).wf = true) (_ : (Lit.int .i64 H).wf = true) (hg : gs.size ≤ maxLen) :
    Calls Try.prog 3 #[.string s, gridV W H gs] w fun e w' => e = .returned (.bool true) ∧ Below w.heap.size w w' := by
  have HA := Lib.hid (awake3_grid w W H gs)
  unfold maxLen at hs hg
  by_cases hl1 : 2000 < s.size
  · go_enter Try.func3, Try.ntmps3
    go_wp2_with fail
    refine HA.out.mono ?_
    rintro e w1 ⟨rfl, hb1, hz1, g1, g2, g3⟩
    go_wp2_with fail
    go_ret
    exact ⟨rfl, hb1⟩
  by_cases hl2 : 2000 < gs.size
  · go_enter Try.func3, Try.ntmps3
    go_wp2_with fail
    refine HA.out.mono ?_
    rintro e w1 ⟨rfl, hb1, hz1, g1, g2, g3⟩
    go_wp2_with fail
    go_ret
    exact ⟨rfl, hb1⟩
  have hg' : gs.size ≤ maxLen := by unfold maxLen; omega
  obtain ⟨W1, H1, cells, er, hp⟩ : ∃ W1 H1 cells er, parseS (bytesOf s) = (W1, H1, cells, er) := ⟨_, _, _, _, rfl⟩
  obtain ⟨b, hr⟩ : ∃ b, rightS W H (bytesOf gs) = b := ⟨_, rfl⟩
  obtain ⟨ps, hps⟩ : ∃ ps, strOf (printS W H (bytesOf gs)) = ps := ⟨_, rfl⟩
  have HP1 := Lib.hid (parse_as (by omega) hp)
  have HP2 := Lib.hid (rparse_as (by omega) hp)
  have HR1 := Lib.hid (right_as hg' hr)
  have HR2 := Lib.hid (rright_as hg' hr)
  have HT1 := Lib.hid (print_as hg' hps)
  have HT2 := Lib.hid (rprint_as hg' hps)
  generalize strOf cells = cs at HP1 HP2
  clear hp hr hps
  go_enter Try.func3, Try.ntmps3
  go_wp2_with fail
  refine HA.out.mono ?_
  rintro e w1 ⟨rfl, hb1, hz1, g1, g2, g3⟩
  go_wp2_with fail
  refine (HP1.out _).mono ?_
  rintro e w2 ⟨rfl, hb2⟩
  have hB2 := hb1.trans (hb2.mono hb1.size)
  have hz2 : w.heap.size < w2.heap.size := Nat.lt_of_lt_of_le hz1 hb2.size
  have G2 := Lib.hid (GridAt.below ⟨g1, g2, g3⟩ hb2 hz1)
  clear g1 g2 g3 hb2 hb1 hz1
  go_wp2_with fail
  refine (HP2.out _).mono ?_
  rintro e w3 ⟨rfl, hb3⟩
  have hB3 := (hB2.alloc hB2.size (gridO W1 H1 cs)).trans (hb3.mono (by simp; omega))
  obtain ⟨f1, f2, f3⟩ := (gridAt_new w2 W1 H1 cs).below hb3 (by simp)
  have hz3 : w2.heap.size < w3.heap.size := by have := hb3.size; simp at this; omega
  have G3 := (G2.out.below (B := w2.heap.size) ((Below.refl _ w2).alloc (Nat.le_refl _) (gridO W1 H1 cs)) hz2).below hb3 (by simp; omega)
  obtain ⟨q1, q2, q3⟩ := G3
  have hz3' : w.heap.size < w3.heap.size := by omega
  have hBR := hB3.alloc hB3.size (gridO W1 H1 cs)
  have hGX : GridAt (w3.alloc (gridO W1 H1 cs)) w2.heap.size W1 H1 cs := GridAt.below (B := w3.heap.size) ⟨f1, f2, f3⟩ ((Below.refl _ w3).alloc (Nat.le_refl _) _) hz3
  have hGG : GridAt (w3.alloc (gridO W1 H1 cs)) w.heap.size W H gs := GridAt.below (B := w3.heap.size) ⟨q1, q2, q3⟩ ((Below.refl _ w3).alloc (Nat.le_refl _) _) hz3'
  have hGY := gridAt_new w3 W1 H1 cs
  have hzR : w3.heap.size < (w3.alloc (gridO W1 H1 cs)).heap.size := by simp
  clear hb3 f1 f2 f3 q1 q2 q3
  go_wp2_with fail
  generalize w3.alloc (gridO W1 H1 cs) = wR at hBR hGX hGG hGY hzR
  have HK1 := Lib.hid fun wa (h : Kept wR wa) => kept_calls (b1 := w.heap.size) (b2 := w2.heap.size) (b3 := w3.heap.size) h hGG hGX hGY (by omega) (by omega) hzR (HR1.out wa)
  have HK2 := Lib.hid fun wa (h : Kept wR wa) => kept_calls (b1 := w.heap.size) (b2 := w2.heap.size) (b3 := w3.heap.size) h hGG hGX hGY (by omega) (by omega) hzR (HR2.out wa)
  have HK3 := Lib.hid fun wa (h : Kept wR wa) => kept_calls (b1 := w.heap.size) (b2 := w2.heap.size) (b3 := w3.heap.size) h hGG hGX hGY (by omega) (by omega) hzR (HT1.out wa)
  have HK4 := Lib.hid fun wa (h : Kept wR wa) => kept_calls (b1 := w.heap.size) (b2 := w2.heap.size) (b3 := w3.heap.size) h hGG hGX hGY (by omega) (by omega) hzR (HT2.out wa)
  obtain ⟨a1, a2, a3⟩ := hGG
  obtain ⟨a4, a5, a6⟩ := hGX
  obtain ⟨a7, a8, a9⟩ := hGY
  have k0 : Kept wR wR := Kept.refl _
  go_region_held3 (fun w' => Kept wR w' ∧ w'.cell? ⟨w.heap.size, 0, none⟩ = some (.int .i64 W) ∧ w'.cell? ⟨w.heap.size, 1, none⟩ = some (.int .i64 H) ∧ w'.cell? ⟨w.heap.size, 2, none⟩ = some (.string gs) ∧
      w'.cell? ⟨w2.heap.size, 0, none⟩ = some (.int .i64 W1) ∧ w'.cell? ⟨w2.heap.size, 1, none⟩ = some (.int .i64 H1) ∧ w'.cell? ⟨w2.heap.size, 2, none⟩ = some (.string cs) ∧
      w'.cell? ⟨w3.heap.size, 0, none⟩ = some (.int .i64 W1) ∧ w'.cell? ⟨w3.heap.size, 1, none⟩ = some (.int .i64 H1) ∧ w'.cell? ⟨w3.heap.size, 2, none⟩ = some (.string cs))
    (first | (refine ⟨?_, ?_, ?_, ?_, ?_, ?_, ?_, ?_, ?_, ?_⟩ <;> first | assumption | exact Kept.drew (by assumption)))
    (first
      | (go_at_call 10; refine (HK1.out _ ?_).mono ?_; (first | assumption | exact Kept.drew (by assumption)); rintro e wa ⟨rfl, ka, c1, c2, c3, c4, c5, c6, c7, c8, c9⟩)
      | (go_at_call 11; refine (HK2.out _ ?_).mono ?_; (first | assumption | exact Kept.drew (by assumption)); rintro e wb ⟨rfl, kb, d1, d2, d3, d4, d5, d6, d7, d8, d9⟩)
      | (go_at_call 12; refine (HK3.out _ ?_).mono ?_; (first | assumption | exact Kept.drew (by assumption)); rintro e wc ⟨rfl, kc, e1, e2, e3, e4, e5, e6, e7, e8, e9⟩)
      | (go_at_call 13; refine (HK4.out _ ?_).mono ?_; (first | assumption | exact Kept.drew (by assumption)); rintro e wd ⟨rfl, kd, l1, l2, l3, l4, l5, l6, l7, l8, l9⟩))
  all_goals
    go_wp2_with fail
    go_ret
    refine ⟨by simp, hBR.trans (Below.mono (B := wR.heap.size) ?_ hBR.size)⟩
    first | exact kd | exact kc | exact Kept.drew kd | exact Kept.drew kc
end Go.Proofs.Yteibhacpghobpaa.Vm
