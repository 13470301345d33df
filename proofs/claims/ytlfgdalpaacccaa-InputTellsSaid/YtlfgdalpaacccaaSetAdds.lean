/- The contract of state's set.add. -/
import Derived.Test.YtlfgdalpaacccaaSets
import Derived.Deep.AppendLies
namespace Go.Proofs.Ytlfgdalpaacccaa.Vm
open Go Go.RowKit Go.Maps

theorem grown_alloc (w : World) (o : Obj) (row : Option Nat) : w.grownBy (w.alloc o) row :=
  have h := World.grownBy_alloc w o none
  ⟨h.os, h.tape, h.output, h.size, fun i hi _ => h.block i hi (by simp)⟩

set_option maxRecDepth 100000 in
set_option maxHeartbeats 400000 in
theorem add_no (mb m : Nat) (bl : List Int) (c : Int) (w : World) (h : ShutIn w mb m bl) (hc : (Lit.int .i64 c).wf = true) (hin : c ∈ bl) :
    Calls Try.prog 33 #[.map (some mb), .int .i64 c] w fun e w' => e = .returned (.bool false) ∧ Below w.heap.size w w' := by
  have hkey : keyOf Try.prog 3 (.int .i64 c) = some (.int .i64 c) := keyOf_int_mk Try.underlying3 hc
  have hh := has_keys bl c
  rw [decide_eq_true hin] at hh
  clear hin
  go_enter Try.func33, Try.ntmps33
  go_wp2_with (at_lookup; refine wpList_lookup_own_unit _ rfl _ _ 60 rfl 3 72 key_law Try.underlying60 (zero_unit _) mb m _ rfl h _ _ rfl hkey ?_)
  go_ret
  exact ⟨rfl, (Below.refl _ _).alloc (Nat.le_refl _) _⟩

set_option maxRecDepth 100000 in
set_option maxHeartbeats 400000 in
theorem add_yes (mb m : Nat) (bl : List Int) (c : Int) (w : World) (h : ShutIn w mb m bl) (hc : (Lit.int .i64 c).wf = true) (hm : m ≤ 1000000) (hin : c ∉ bl) :
    Calls Try.prog 33 #[.map (some mb), .int .i64 c] w fun e w' => e = .returned (.bool true) ∧ ShutIn w' mb (m + 1) (bl ++ [c]) ∧ w.grownBy w' (some mb) := by
  have hkey : keyOf Try.prog 3 (.int .i64 c) = some (.int .i64 c) := keyOf_int_mk Try.underlying3 hc
  have hh := has_keys bl c
  rw [decide_eq_false hin] at hh
  have hmb := h.lt
  have h1 : ∀ o, World.ownsMap (w.alloc o) Try.prog 3 (unitElem (H := Unit)) mb m (setOf (.agg []) (keysZ bl)) := fun o => World.ownsMap.alloc h o
  have hsn : setOf (H := Unit) (.agg []) (keysZ (bl ++ [c])) = (setOf (.agg []) (keysZ bl)).put (.int .i64 c) (.agg []) := by
    unfold keysZ
    rw [List.map_append, ← setOf_snoc]
    rfl
  have HSN := Lib.hid hsn
  clear hin hsn
  go_enter Try.func33, Try.ntmps33
  go_wp2_with (first
    | (at_lookup; refine wpList_lookup_own_unit _ rfl _ _ 60 rfl 3 72 key_law Try.underlying60 (zero_unit _) mb m _ rfl h _ _ rfl hkey ?_)
    | (at_mapUpdate; refine wpList_mapUpdate_own _ rfl _ _ _ 60 rfl 3 72 key_law Try.underlying60 (unitElem (H := Unit)) mb m _ rfl (h1 _) (by unfold maxLen; omega) _ _ _ rfl rfl hkey _ [] unitElem_mk ?_; intro w1 hown1 hgrow1))
  go_ret
  refine ⟨rfl, ?_, ?_⟩
  · unfold ShutIn
    rw [HSN.out]
    exact hown1
  · exact World.grownBy.trans (grown_alloc _ _ _) hgrow1
end Go.Proofs.Ytlfgdalpaacccaa.Vm
