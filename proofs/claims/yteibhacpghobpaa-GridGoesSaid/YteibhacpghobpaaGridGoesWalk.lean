/- tuggerlaw03.GridGoes returns true for every input: steps, ways, letters and floors are as the document has it. -/
import Derived.Test.YteibhacpghobpaaGridTurnsWalk
namespace Go.Proofs.Yteibhacpghobpaa.Vm
open Go.RowKit

abbrev twoO (x y : Int) : Obj := .cells #[.int .i64 x, .int .i64 y] 31
theorem awake3_two (w : World) (W H : Int) (s : ByteArray) (x y : Int) : Calls Try.prog 7 #[] ((w.alloc (gridO W H s)).alloc (twoO x y)) fun e w1 => e = .returned (.bool true) ∧ Below w.heap.size w w1 ∧ w.heap.size + 1 < w1.heap.size ∧ GridAt w1 w.heap.size W H s ∧
    w1.cell? ⟨w.heap.size + 1, 0, none⟩ = some (.int .i64 x) ∧ w1.cell? ⟨w.heap.size + 1, 1, none⟩ = some (.int .i64 y) := by
  refine (awake3_any _).mono ?_
  rintro e w1 ⟨rfl, hb⟩
  have hB : Below w.heap.size w ((w.alloc (gridO W H s)).alloc (twoO x y)) := below_pair w _ _
  refine ⟨rfl, hB.trans (hb.mono hB.size), by have := hb.size; simp at this; omega, ?_, ?_, ?_⟩
  · exact ((gridAt_new w W H s).below (B := w.heap.size + 1) ((Below.refl _ (w.alloc (gridO W H s))).alloc (by simp) (twoO x y)) (by omega)).below hb (by simp; omega)
  · rw [hb.cell (p := ⟨w.heap.size + 1, 0, none⟩) (by simp)]; simp
  · rw [hb.cell (p := ⟨w.heap.size + 1, 1, none⟩) (by simp)]; simp

theorem rfloor_as {s : ByteArray} {W H c : Int} {b : Bool} (hs : s.size ≤ maxLen) (h : floorS (bytesOf s) c = b) (w : World) : Calls Try.prog 23 #[gridV W H s, .int .i64 c] w fun e w' => e = .returned (.bool b) ∧ Below w.heap.size w w' := by
  have := rfloor_any W H c s w hs
  rw [h] at this
  exact this
theorem rgoes_as {s : ByteArray} {W H c way to : Int} {ok : Bool} (hok : Okay W H s) (h : goesS W H (bytesOf s) c way = (to, ok)) (w : World) : Calls Try.prog 16 #[gridV W H s, .int .i64 c, .int .i64 way] w fun e w' => e = .returned (.tuple #[.int .i64 to, .bool ok]) ∧ Below w.heap.size w w' := by
  have := rgoes_any W H c way s w hok
  rw [h] at this
  exact this
theorem row_on {w1 wx w2 : World} {p : Option Addr} {n c : Nat} {l : List Nat} (h : Row .i64 w1 w1.heap.size p n c l) (hx : wx.heap = w1.heap) (hb : Below wx.heap.size wx w2) : Row .i64 w2 w2.heap.size p n c l := by
  have h2 : Row .i64 wx wx.heap.size p n c l := by
    rw [hx]
    exact h.keep fun q _ => World.cell?_of_block (by rw [hx])
  exact (h2.below hb).mono hb.size
theorem row_at {w1 wx : World} {p : Option Addr} {n c : Nat} {l : List Nat} (h : Row .i64 w1 w1.heap.size p n c l) (hx : wx.heap = w1.heap) : Row .i64 wx wx.heap.size p n c l := by
  rw [hx]
  exact h.keep fun q _ => World.cell?_of_block (by rw [hx])
/-- What is held in the regions: a grid and a number. -/
structure Held4 (a : World) (b1 b2 : Nat) (W H : Int) (s : ByteArray) (x : Int) : Prop where
  g : GridAt a b1 W H s
  c : a.cell? ⟨b2, 0, none⟩ = some (.int .i64 x)
  l1 : b1 < a.heap.size
  l2 : b2 < a.heap.size

section
variable {a wa w' : World} {b1 b2 : Nat} {W H : Int} {s : ByteArray} {x : Int}
theorem Held4.facts (h : Held4 a b1 b2 W H s x) (hk : Kept a w') : w'.cell? ⟨b1, 0, none⟩ = some (.int .i64 W) ∧ w'.cell? ⟨b1, 1, none⟩ = some (.int .i64 H) ∧ w'.cell? ⟨b1, 2, none⟩ = some (.string s) ∧ w'.cell? ⟨b2, 0, none⟩ = some (.int .i64 x) :=
  ⟨(h.g.below hk h.l1).1, (h.g.below hk h.l1).2.1, (h.g.below hk h.l1).2.2, (Below.cell hk (p := ⟨b2, 0, none⟩) h.l2).trans h.c⟩
theorem Kept.step (h : Kept a wa) (hb : Below wa.heap.size wa w') : Kept a w' := Below.trans h (hb.mono h.size)
theorem held_bool {f : FuncId} {args : Array Value} {v : Value} (h : Held4 a b1 b2 W H s x) (hk : Kept a wa) (hc : Calls Try.prog f args wa fun e w' => e = .returned v ∧ Below wa.heap.size wa w') :
    Calls Try.prog f args wa fun e w' => e = .returned v ∧ Kept a w' ∧ w'.cell? ⟨b1, 0, none⟩ = some (.int .i64 W) ∧ w'.cell? ⟨b1, 1, none⟩ = some (.int .i64 H) ∧ w'.cell? ⟨b1, 2, none⟩ = some (.string s) ∧ w'.cell? ⟨b2, 0, none⟩ = some (.int .i64 x) :=
  hc.mono fun _ _ ⟨he, hb⟩ => ⟨he, hk.step hb, h.facts (hk.step hb)⟩
theorem held_list {f : FuncId} {args : Array Value} {l : List Nat} (h : Held4 a b1 b2 W H s x) (hk : Kept a wa) (hc : Calls Try.prog f args wa (ListPost wa l)) :
    Calls Try.prog f args wa fun e w' => ∃ p n c, e = .returned (.slice p n c) ∧ Row .i64 w' w'.heap.size p n c l ∧ Below wa.heap.size wa w' ∧ Kept a w' ∧ w'.cell? ⟨b1, 0, none⟩ = some (.int .i64 W) ∧ w'.cell? ⟨b1, 1, none⟩ = some (.int .i64 H) ∧ w'.cell? ⟨b1, 2, none⟩ = some (.string s) ∧ w'.cell? ⟨b2, 0, none⟩ = some (.int .i64 x) :=
  hc.mono fun _ _ ⟨v, he, hown, hb⟩ => by
    obtain ⟨p, c, rfl⟩ := own_slice hown
    exact ⟨p, _, c, he, Row.of_own (e := 3) hown, hb, hk.step hb, h.facts (hk.step hb)⟩
theorem held_ints {p1 p2 : Option Addr} {n1 c1 n2 c2 : Nat} {l : List Nat} (h : Held4 a b1 b2 W H s x) (hk : Kept a wa) (r1 : Row .i64 wa wa.heap.size p1 n1 c1 l) (r2 : Row .i64 wa wa.heap.size p2 n2 c2 l) :
    Calls Try.prog 17 #[.slice p1 n1 c1, .slice p2 n2 c2] wa fun e w' => e = .returned (.bool true) ∧ Kept a w' ∧ w'.cell? ⟨b1, 0, none⟩ = some (.int .i64 W) ∧ w'.cell? ⟨b1, 1, none⟩ = some (.int .i64 H) ∧ w'.cell? ⟨b1, 2, none⟩ = some (.string s) ∧ w'.cell? ⟨b2, 0, none⟩ = some (.int .i64 x) := by
  have := ints_any p1 p2 n1 c1 n2 c2 _ l l wa r1 r2
  rw [sameB, decide_eq_true rfl] at this
  refine this.mono ?_
  rintro e w' ⟨rfl, m, rfl⟩
  have hk2 : Kept a (wa.drewN m) := below_drewN hk m
  exact ⟨rfl, hk2, h.facts hk2⟩
end

set_option maxRecDepth 100000 in
set_option maxHeartbeats 1600000 in
theorem gridGoes_walk (W H : Int) (s : ByteArray) (x y : Int) (L : Int) (w : World) (_ : (Lit.int .i64 W).wf = true) (_ : (Lit.int .i64 H).wf = true) (hs : s.size ≤ maxLen) (_ : (Lit.int .i64 x).wf = true) (_ : (Lit.int .i64 y).wf = true) (hL : (Lit.int .u8 L).wf = true) :
    Calls Try.prog 4 #[gridV W H s, .agg #[.int .i64 x, .int .i64 y], .int .u8 L] w fun e w' => e = .returned (.bool true) ∧ Below w.heap.size w w' := by
  have HA := Lib.hid (awake3_two w W H s x y)
  have hb := bounds_u8 hL
  obtain ⟨c, rfl⟩ := Int.eq_ofNat_of_zero_le hb.1
  have hc256 : c < 256 := by omega
  clear hb hL
  cases hl : decide (s.size ≤ 400)
  · have HLI := Lib.hid (light_as (W := W) (H := H) hs hl)
    clear hl
    unfold maxLen at hs
    go_enter Try.func4, Try.ntmps4
    go_wp2_with fail
    refine HA.out.mono ?_
    rintro e w1 ⟨rfl, hb1, hz1, ⟨g1, g2, g3⟩, a1, a2⟩
    go_wp2_with fail
    refine (HLI.out _).mono ?_
    rintro e w2 ⟨rfl, hb2⟩
    have hB2 := hb1.trans (hb2.mono hb1.size)
    go_wp2_with fail
    go_ret
    exact ⟨rfl, hB2⟩
  have HLI := Lib.hid (light_as (W := W) (H := H) hs hl)
  have hle : s.size ≤ 400 := of_decide_eq_true hl
  clear hl
  cases hr : rightS W H (bytesOf s)
  · have HRI := Lib.hid (rright_as hs hr)
    clear hr
    unfold maxLen at hs
    go_enter Try.func4, Try.ntmps4
    go_wp2_with fail
    refine HA.out.mono ?_
    rintro e w1 ⟨rfl, hb1, hz1, ⟨g1, g2, g3⟩, a1, a2⟩
    go_wp2_with fail
    refine (HLI.out _).mono ?_
    rintro e w2 ⟨rfl, hb2⟩
    have hB2 := hb1.trans (hb2.mono hb1.size)
    obtain ⟨f1, f2, f3⟩ := GridAt.below ⟨g1, g2, g3⟩ hb2 (by omega)
    go_wp2_with fail
    refine (HRI.out _).mono ?_
    rintro e w3 ⟨rfl, hb3⟩
    have hB3 := hB2.trans (hb3.mono hB2.size)
    go_wp2_with fail
    go_ret
    exact ⟨rfl, hB3⟩
  have HRI := Lib.hid (rright_as hs hr)
  have hok := Okay.of hr
  clear hr
  obtain ⟨to, ok, hR⟩ : ∃ to ok, goesS W H (bytesOf s) x y = (to, ok) := ⟨_, _, rfl⟩
  have HG1 := Lib.hid (goes_as hok hR)
  have HG2 := Lib.hid (rgoes_as hok hR)
  obtain ⟨fl, hF⟩ : ∃ fl, floorS (bytesOf s) x = fl := ⟨_, rfl⟩
  have HF1 := Lib.hid (floor_as (W := W) (H := H) hs hF)
  have HF2 := Lib.hid (rfloor_as (W := W) (H := H) hs hF)
  have HW1 := Lib.hid fun w => ways_any W H x s w hok
  have HW2 := Lib.hid fun w => rways_any W H x s w hok
  have HO1 := Lib.hid fun w => of_any W H c s w hok hc256
  have HO2 := Lib.hid fun w => rof_any W H c s w hok
  generalize waysS W H (bytesOf s) x = l1 at HW1 HW2
  generalize ofS (bytesOf s) c = l2 at HO1 HO2
  clear hR hF hok hs
  go_enter Try.func4, Try.ntmps4
  go_wp2_with fail
  refine HA.out.mono ?_
  rintro e w1 ⟨rfl, hb1, hz1, ⟨g1, g2, g3⟩, a1, a2⟩
  go_wp2_with fail
  refine (HLI.out _).mono ?_
  rintro e w2 ⟨rfl, hb2⟩
  have hB2 := hb1.trans (hb2.mono hb1.size)
  have hz2 : w.heap.size + 1 < w2.heap.size := Nat.lt_of_lt_of_le hz1 hb2.size
  obtain ⟨f1, f2, f3⟩ := GridAt.below ⟨g1, g2, g3⟩ hb2 (by omega)
  have a3 := (hb2.cell (p := ⟨w.heap.size + 1, 0, none⟩) hz1).trans a1
  have a4 := (hb2.cell (p := ⟨w.heap.size + 1, 1, none⟩) hz1).trans a2
  clear hb2 g1 g2 g3 hz1 hb1 a1 a2
  go_wp2_with fail
  refine (HRI.out _).mono ?_
  rintro e w3 ⟨rfl, hb3⟩
  have hB3 := hB2.trans (hb3.mono hB2.size)
  have hz3 : w.heap.size + 1 < w3.heap.size := Nat.lt_of_lt_of_le hz2 hb3.size
  obtain ⟨e1, e2, e3⟩ := GridAt.below ⟨f1, f2, f3⟩ hb3 (by omega)
  have a5 := (hb3.cell (p := ⟨w.heap.size + 1, 0, none⟩) hz2).trans a3
  have a6 := (hb3.cell (p := ⟨w.heap.size + 1, 1, none⟩) hz2).trans a4
  have HH : Hid (Held4 w3 w.heap.size (w.heap.size + 1) W H s x) := ⟨⟨e1, e2, e3⟩, a5, by omega, hz3⟩
  clear hb3 f1 f2 f3 hz2 hB2 a3 a4
  go_wp2_with fail
  refine (HG1.out _).mono ?_
  rintro e w4 ⟨rfl, hb4⟩
  have k4 : Kept w3 w4 := hb4
  obtain ⟨q1, q2, q3, q4⟩ := HH.out.facts k4
  have q5 := (hb4.cell (p := ⟨w.heap.size + 1, 1, none⟩) hz3).trans a6
  clear e1 e2 e3 a5 a6 hb4
  go_wp2_with fail
  refine (HG2.out _).mono ?_
  rintro e w5 ⟨rfl, hb5⟩
  have k5 : Kept w3 w5 := k4.step hb5
  obtain ⟨r1, r2, r3, r4⟩ := HH.out.facts k5
  clear q1 q2 q3 q4 q5 hb5 k4
  go_wp2_with fail
  have HKW1 := Lib.hid fun wa (h : Kept w3 wa) => held_list HH.out h (HW1.out wa)
  have HKW2 := Lib.hid fun wa (h : Kept w3 wa) => held_list HH.out h (HW2.out wa)
  go_region_held3 (fun w' => Kept w3 w' ∧ w'.cell? ⟨w.heap.size, 0, none⟩ = some (.int .i64 W) ∧ w'.cell? ⟨w.heap.size, 1, none⟩ = some (.int .i64 H) ∧ w'.cell? ⟨w.heap.size, 2, none⟩ = some (.string s) ∧ w'.cell? ⟨w.heap.size + 1, 0, none⟩ = some (.int .i64 x))
    (first | (refine ⟨?_, ?_, ?_, ?_, ?_⟩ <;> first | assumption | exact Kept.drew (by assumption)))
    (first
      | (go_at_call 18; refine (HKW1.out _ ?_).mono ?_; (first | assumption | exact Kept.drew (by assumption)); rintro e wa ⟨p1, n1, c1, rfl, hr1, hba, ka, b1, b2, b3, b4⟩)
      | (go_at_call 19; refine (HKW2.out _ ?_).mono ?_; (first | assumption | exact Kept.drew (by assumption)); rintro e wb ⟨p2, n2, c2, rfl, hr2, hbb, kb, d1, d2, d3, d4⟩)
      | (go_at_call 17; refine (held_ints (l := l1) HH.out ?_ ?_ ?_).mono ?_; (first | assumption | exact Kept.drew (by assumption)); exact row_at (row_on hr1 rfl hbb) rfl; exact row_at hr2 rfl; rintro e wc ⟨rfl, kc, t1, t2, t3, t4⟩))
  clear r1 r2 r3 r4 k5 b1 b2 b3 b4 d1 d2 d3 d4 ka kb hba hbb hr1 hr2 HKW1 HKW2
  go_wp2_with fail
  have HKO1 := Lib.hid fun wa (h : Kept w3 wa) => held_list HH.out h (HO1.out wa)
  have HKO2 := Lib.hid fun wa (h : Kept w3 wa) => held_list HH.out h (HO2.out wa)
  go_region_held3 (fun w' => Kept w3 w' ∧ w'.cell? ⟨w.heap.size, 0, none⟩ = some (.int .i64 W) ∧ w'.cell? ⟨w.heap.size, 1, none⟩ = some (.int .i64 H) ∧ w'.cell? ⟨w.heap.size, 2, none⟩ = some (.string s) ∧ w'.cell? ⟨w.heap.size + 1, 0, none⟩ = some (.int .i64 x))
    (first | (refine ⟨?_, ?_, ?_, ?_, ?_⟩ <;> first | assumption | exact Kept.drew (by assumption)))
    (first
      | (go_at_call 20; refine (HKO1.out _ ?_).mono ?_; (first | assumption | exact Kept.drew (by assumption)); rintro e we ⟨p3, n3, c3, rfl, hr3, hbe, ke, b1, b2, b3, b4⟩)
      | (go_at_call 21; refine (HKO2.out _ ?_).mono ?_; (first | assumption | exact Kept.drew (by assumption)); rintro e wf ⟨p4, n4, c4, rfl, hr4, hbf, kf, d1, d2, d3, d4⟩)
      | (go_at_call 17; refine (held_ints (l := l2) HH.out ?_ ?_ ?_).mono ?_; (first | assumption | exact Kept.drew (by assumption)); exact row_at (row_on hr3 rfl hbf) rfl; exact row_at hr4 rfl; rintro e wg ⟨rfl, kg, u1, u2, u3, u4⟩))
  clear t1 t2 t3 t4 kc b1 b2 b3 b4 d1 d2 d3 d4 ke kf hbe hbf hr3 hr4 HKO1 HKO2
  go_wp2_with fail
  have HKF1 := Lib.hid fun wa (h : Kept w3 wa) => held_bool HH.out h (HF1.out wa)
  have HKF2 := Lib.hid fun wa (h : Kept w3 wa) => held_bool HH.out h (HF2.out wa)
  go_region_held3 (fun w' => Kept w3 w' ∧ w'.cell? ⟨w.heap.size, 0, none⟩ = some (.int .i64 W) ∧ w'.cell? ⟨w.heap.size, 1, none⟩ = some (.int .i64 H) ∧ w'.cell? ⟨w.heap.size, 2, none⟩ = some (.string s) ∧ w'.cell? ⟨w.heap.size + 1, 0, none⟩ = some (.int .i64 x))
    (first | (refine ⟨?_, ?_, ?_, ?_, ?_⟩ <;> first | assumption | exact Kept.drew (by assumption)))
    (first
      | (go_at_call 22; refine (HKF1.out _ ?_).mono ?_; (first | assumption | exact Kept.drew (by assumption)); rintro e wh ⟨rfl, kh, b1, b2, b3, b4⟩)
      | (go_at_call 23; refine (HKF2.out _ ?_).mono ?_; (first | assumption | exact Kept.drew (by assumption)); rintro e wi ⟨rfl, ki, d1, d2, d3, d4⟩))
  go_wp2_with fail
  go_ret
  refine ⟨by simp, hB3.trans (Below.mono (B := w3.heap.size) ?_ hB3.size)⟩
  first | exact ki | exact Kept.drew ki
end Go.Proofs.Yteibhacpghobpaa.Vm
