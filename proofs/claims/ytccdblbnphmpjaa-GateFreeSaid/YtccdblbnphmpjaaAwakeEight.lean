/- The contract of layer 8's awake. -/
import Derived.Test.YtccdblbnphmpjaaGateTellsWalk
namespace Go.Proofs.Ytccdblbnphmpjaa.Vm
open Go Go.RowKit

instance keptDec (cells blocked now : List Int) (i : Nat) : Decidable (KeptP cells blocked now i) := by unfold KeptP; infer_instance
theorem gate_two : gateG [1, 2] [2, 1] [] = [1, 2] := by
  have h0 : KeptP [1, 2] [] [2, 1] 0 := by decide
  have h1 : KeptP [1, 2] [] [2, 1] 1 := by decide
  have hn : nextG [1, 2] [] [2, 1] = [1, 2] := by simp [nextG, List.range_succ, keptB_yes h0, keptB_yes h1]
  refine gateG_of (.round _ _ ⟨0, by decide, h0⟩ ?_)
  rw [hn]
  exact .done _ (by decide)
theorem gate_three : gateG [1, 2, 9] [2, 3, 3] [] = [2, 3, 9] := by
  have h0 : ¬ KeptP [1, 2, 9] [] [2, 3, 3] 0 := by decide
  have h1 : ¬ KeptP [1, 2, 9] [] [2, 3, 3] 1 := by decide
  have h2 : KeptP [1, 2, 9] [] [2, 3, 3] 2 := by decide
  have hn : nextG [1, 2, 9] [] [2, 3, 3] = [2, 3, 9] := by simp [nextG, List.range_succ, keptB_no h0, keptB_no h1, keptB_yes h2]
  refine gateG_of (.round _ _ ⟨2, by decide, h2⟩ ?_)
  rw [hn]
  exact .done _ (by decide)
theorem out_two {out : List Int} {x : Int} (h : GateOut [1, 2] [2, 1] [] out x) : out = [1, 2] ∧ x = 0 :=
  h.one (.inr (.inr ⟨rfl, by rintro ⟨i, hi, hm⟩; revert hm; revert hi; revert i; decide, gate_two.symm, rfl⟩))
theorem out_three {out : List Int} {x : Int} (h : GateOut [1, 2, 9] [2, 3, 3] [] out x) : out = [2, 3, 9] ∧ x = 0 :=
  h.one (.inr (.inr ⟨rfl, by rintro ⟨i, hi, hm⟩; revert hm; revert hi; revert i; decide, gate_three.symm, rfl⟩))
theorem out_twice {out : List Int} {x : Int} (h : GateOut [1, 1] [1, 1] [] out x) : out = [] ∧ x = 6 :=
  h.one (.inr (.inl ⟨rfl, ⟨1, by decide, by decide⟩, rfl, rfl⟩))
theorem clash_three {x y : Int} (h : ClashIs [1, 2, 4] [3, 3, 3] (min 3 3) x y) : x = 0 ∧ y = 1 :=
  h.one (.inr ⟨0, 1, rfl, rfl, by omega, by decide, .inl rfl, fun j l h1 h2 h3 => absurd h1 (by omega), fun l h1 h2 => by omega⟩)
theorem rowZ_new (w : World) (l : List Int) (t : TypeId) (hl : l.length ≤ maxLen) : RowZ .i64 (w.alloc (.cells ⟨intsZ l⟩ t)) (w.heap.size + 1) (some ⟨w.heap.size, 0, none⟩) l.length l.length l :=
  ⟨rfl, Nat.le_refl _, hl, fun _ => ⟨w.heap.size, 0, rfl, Nat.lt_succ_self _, fun i hi => by
    rw [cell_of_row (w.alloc (.cells ⟨intsZ l⟩ t)) w.heap.size (0 + i) ⟨intsZ l⟩ t (0, 0) (heap_alloc_new w _)]
    simp [intsZ, List.getD, hi]⟩⟩
theorem two_new (w : World) (l1 l2 : List Int) (t : TypeId) (h1 : l1.length ≤ maxLen) (h2 : l2.length ≤ maxLen) :
    RowZ .i64 ((w.alloc (.cells ⟨intsZ l1⟩ t)).alloc (.cells ⟨intsZ l2⟩ t)) (w.heap.size + 2) (some ⟨w.heap.size, 0, none⟩) l1.length l1.length l1 ∧
    RowZ .i64 ((w.alloc (.cells ⟨intsZ l1⟩ t)).alloc (.cells ⟨intsZ l2⟩ t)) (w.heap.size + 2) (some ⟨w.heap.size + 1, 0, none⟩) l2.length l2.length l2 ∧
    Below w.heap.size w ((w.alloc (.cells ⟨intsZ l1⟩ t)).alloc (.cells ⟨intsZ l2⟩ t)) ∧ ((w.alloc (.cells ⟨intsZ l1⟩ t)).alloc (.cells ⟨intsZ l2⟩ t)).heap.size = w.heap.size + 2 := by
  have hz : (w.alloc (.cells ⟨intsZ l1⟩ t)).heap.size = w.heap.size + 1 := by simp
  have hb2 : Below (w.heap.size + 1) (w.alloc (.cells ⟨intsZ l1⟩ t)) ((w.alloc (.cells ⟨intsZ l1⟩ t)).alloc (.cells ⟨intsZ l2⟩ t)) := (Below.refl _ _).alloc (by omega) _
  have hb1 : Below w.heap.size w (w.alloc (.cells ⟨intsZ l1⟩ t)) := (Below.refl _ _).alloc (Nat.le_refl _) _
  refine ⟨((rowZ_new w l1 t h1).below hb2).mono (by omega), ?_, hb1.trans (hb2.mono (by omega)), by simp⟩
  have := rowZ_new (w.alloc (.cells ⟨intsZ l1⟩ t)) l2 t h2
  rw [hz] at this
  exact this
theorem row_none (w : World) : RowZ .i64 w 0 none 0 0 [] := ⟨rfl, Nat.le_refl _, by simp [maxLen], fun h => absurd h (by omega)⟩
theorem wf_lit (l : List Int) (h : l.all (fun z => (Lit.int .i64 z).wf) = true) : WfZ l := fun z hz => List.all_eq_true.1 h z hz

set_option maxRecDepth 100000 in
set_option maxHeartbeats 4000000 in
theorem awake8_any (HG : SaysGate 8) (HC : SaysClash 10) : SaysAwake 6 := by
  intro w
  have HT := Lib.hid (fun w l1 l2 => two_new w l1 l2 3)
  have HW := Lib.hid (@wf_lit)
  have HL : Hid (∀ n : Nat, n ≤ 3 → n ≤ maxLen) := fun n hn => by unfold maxLen; omega
  obtain ⟨r1, r2, hb1, hz1⟩ := HT.out w [1, 2] [2, 1] (HL.out _ (by decide)) (HL.out _ (by decide))
  have HG1 := Lib.hid (HG _ _ none _ _ _ _ 0 0 (w.heap.size + 2) _ _ [] _ r1 r2 ((row_none _).mono (Nat.zero_le _)) (by rw [hz1]; exact Nat.le_refl _) (by decide) (by decide) (by decide) (HW.out _ rfl) (HW.out _ rfl) (HW.out _ rfl))
  have HB1 := Lib.hid hb1
  clear r1 r2 hb1 hz1
  go_enter Try.func6, Try.ntmps6
  go_wp2_with fail
  refine HG1.out.mono ?_
  rintro e w2 ⟨a, n, c, x, out, rfl, ho, hra, hb2⟩
  obtain ⟨rfl, rfl⟩ := out_two ho
  obtain rfl : 2 = n := hra.1
  have HRA := Lib.hid hra
  have HB2 := Lib.hid (HB1.out.trans (hb2.mono HB1.out.size))
  obtain ⟨r1, r2, hb3, hz3⟩ := HT.out w2 [1, 2, 9] [2, 3, 3] (HL.out _ (by decide)) (HL.out _ (by decide))
  have HG3 := Lib.hid (HG _ _ none _ _ _ _ 0 0 (w2.heap.size + 2) _ _ [] _ r1 r2 ((row_none _).mono (Nat.zero_le _)) (by rw [hz3]; exact Nat.le_refl _) (by decide) (by decide) (by decide) (HW.out _ rfl) (HW.out _ rfl) (HW.out _ rfl))
  have HB3 := Lib.hid hb3
  clear r1 r2 hb3 hz3 ho hra hb2 HG1
  go_wp2_with fail
  refine HG3.out.mono ?_
  rintro e w4 ⟨a', n', c', x', out', rfl, ho, hrb, hb4⟩
  obtain ⟨rfl, rfl⟩ := out_three ho
  obtain rfl : 3 = n' := hrb.1
  have HB4 := Lib.hid (HB3.out.trans (hb4.mono HB3.out.size))
  have HRB := Lib.hid hrb
  obtain ⟨r1, r2, hb5, hz5⟩ := HT.out w4 [1, 1] [1, 1] (HL.out _ (by decide)) (HL.out _ (by decide))
  have HG5 := Lib.hid (HG _ _ none _ _ _ _ 0 0 (w4.heap.size + 2) _ _ [] _ r1 r2 ((row_none _).mono (Nat.zero_le _)) (by rw [hz5]; exact Nat.le_refl _) (by decide) (by decide) (by decide) (HW.out _ rfl) (HW.out _ rfl) (HW.out _ rfl))
  have HB5 := Lib.hid hb5
  clear r1 r2 hb5 hz5 ho hrb hb4 HG3
  go_wp2_with fail
  refine HG5.out.mono ?_
  rintro e w6 ⟨a'', n'', c'', x'', out'', rfl, ho, _, hb6⟩
  obtain ⟨rfl, rfl⟩ := out_twice ho
  have HB6 := Lib.hid (HB5.out.trans (hb6.mono HB5.out.size))
  obtain ⟨r1, r2, hb7, hz7⟩ := HT.out w6 [1, 2, 4] [3, 3, 3] (HL.out _ (by decide)) (HL.out _ (by decide))
  have HC7 := Lib.hid (HC _ _ _ _ _ _ (w6.heap.size + 2) _ _ _ r1 r2 (by rw [hz7]; exact Nat.le_refl _) (by decide) (by decide) (HW.out _ rfl) (HW.out _ rfl))
  have HB7 := Lib.hid hb7
  clear r1 r2 hb7 hz7 ho hb6 HG5
  go_wp2_with fail
  refine HC7.out.mono ?_
  rintro e w8 ⟨p, q, rfl, hc, hb8⟩
  obtain ⟨rfl, rfl⟩ := clash_three hc
  have HB8 := Lib.hid (HB7.out.trans (hb8.mono HB7.out.size))
  have HB68 := Lib.hid (HB6.out.trans (HB8.out.mono HB6.out.size))
  have HB48 := Lib.hid (HB4.out.trans (HB68.out.mono HB4.out.size))
  have HBW := Lib.hid (HB2.out.trans (HB48.out.mono HB2.out.size))
  obtain ⟨b1, o1, rfl, hl1, hc1⟩ := (HRA.out.below HB48.out).cells (by decide)
  obtain ⟨b2, o2, rfl, hl2, hc2⟩ := (HRB.out.below HB68.out).cells (by decide)
  have k0 : w8.cell? ⟨b1, o1, none⟩ = some (.int .i64 1) := hc1 0 (by decide)
  have k1 : w8.cell? ⟨b1, o1 + 1, none⟩ = some (.int .i64 2) := hc1 1 (by decide)
  have k2 : w8.cell? ⟨b2, o2, none⟩ = some (.int .i64 2) := hc2 0 (by decide)
  have k3 : w8.cell? ⟨b2, o2 + 1, none⟩ = some (.int .i64 3) := hc2 1 (by decide)
  have k4 : w8.cell? ⟨b2, o2 + 2, none⟩ = some (.int .i64 9) := hc2 2 (by decide)
  clear hc1 hc2 hc hb8 HC7
  go_wp2_with fail
  go_ret
  exact ⟨rfl, HBW.out⟩
end Go.Proofs.Ytccdblbnphmpjaa.Vm
