/- tuggerlaw02.awake returns true. -/
import Derived.Test.YtgeonmojadkbjaaScans
import Derived.Test.YtgeonmojadkbjaaTexts
import Derived.Lib.SlBytesConst
namespace Go.Proofs.Ytgeonmojadkbjaa.Vm
open Go.RowKit

/-- Bytes in a new row, frozen behind its end or not. -/
theorem row_lit (w : World) (l : List Nat) (t : TypeId) (f : Nat × Nat) (h : l.length ≤ 1000) : Row .u8 (w.alloc (.cells (u8s l).toArray t f)) (w.heap.size + 1) (some ⟨w.heap.size, 0, none⟩) l.length l.length l := by
  refine ⟨rfl, Nat.le_refl _, by simp only [maxLen]; omega, fun _ => ⟨_, 0, rfl, Nat.lt_succ_self _, fun i hi => ?_⟩⟩
  rw [Nat.zero_add, cell_of_row _ w.heap.size i (u8s l).toArray t f (heap_alloc_last w _)]
  simp [u8s, hi]

theorem fr_len (l : List Nat) : (fr l).length = (enc l.length).length + l.length + 4 := by simp [fr, four_len]; omega
theorem fr_abc : (fr [97, 98, 99]).length = 8 := by rw [fr_len]; simp [enc_small (n := 3) (by omega)]
theorem fr_nil : (fr []).length = 5 := by rw [fr_len]; simp [enc_small (n := 0) (by omega)]
theorem crc_nine : crc [49, 50, 51, 52, 53, 54, 55, 56, 57] = 3421780262 := by decide +kernel
theorem scan_two : scanS (fr [97, 98, 99] ++ fr []) = ([[97, 98, 99], []], 13, 0) := by
  have h : scanS (fr [] ++ []) = _ := fr_whole (l := []) [] (by simp)
  rw [List.append_nil, scanS_nil] at h
  rw [fr_whole _ (by simp), h, fr_abc, fr_nil]
  rfl
theorem fr_lt (l : List Nat) (h : ∀ x ∈ l, x < 256) : ∀ x ∈ fr l, x < 256 := by
  intro x hx
  simp only [fr, List.mem_append] at hx
  rcases hx with (hx | hx) | hx
  · exact enc_byte _ _ (Nat.le_refl _) x hx
  · exact h x hx
  · exact four_byte _ x hx
theorem two_lt : ∀ x ∈ fr [97, 98, 99] ++ fr [], x < 256 := by
  intro x hx
  rcases List.mem_append.1 hx with hx | hx
  · exact fr_lt _ (by simp) x hx
  · exact fr_lt _ (by simp) x hx

theorem put_abc (w : World) : Calls Try.prog 7 #[.slice (some ⟨w.heap.size, 0, none⟩) 3 3] (w.alloc (.cells #[.int .u8 97, .int .u8 98, .int .u8 99] 5 (3, 4))) fun e w' => ∃ v, e = .returned (.tuple #[v, .int .i64 0]) ∧ Own w' w.heap.size v (fr [97, 98, 99]) ∧ Below w.heap.size w w' := by
  have h := (row_lit w [97, 98, 99] 5 (3, 4) (by simp)).mono (B' := (w.alloc (.cells (u8s [97, 98, 99]).toArray 5 (3, 4))).heap.size) (by simp)
  refine (fput_any _ 3 3 [97, 98, 99] _ h (by simp) (by omega)).mono ?_
  rintro e w' ⟨v, rfl, hown, hbel⟩
  exact ⟨v, rfl, hown.mono (by simp), ((Below.refl _ w).alloc (Nat.le_refl _) _).trans (hbel.mono (by simp))⟩
theorem check_nine (w : World) : Calls Try.prog 13 #[.slice (some ⟨w.heap.size, 0, none⟩) 9 9] (w.alloc (.cells #[.int .u8 49, .int .u8 50, .int .u8 51, .int .u8 52, .int .u8 53, .int .u8 54, .int .u8 55, .int .u8 56, .int .u8 57] 5 (9, 10))) fun e w' => e = .returned (.int .u32 3421780262) ∧ Below w.heap.size w w' := by
  have h := row_lit w [49, 50, 51, 52, 53, 54, 55, 56, 57] 5 (9, 10) (by simp)
  have := fcheck_any _ 9 9 _ [49, 50, 51, 52, 53, 54, 55, 56, 57] _ h (by simp) (by simp)
  rw [crc_nine] at this
  refine this.mono ?_
  rintro e w' ⟨rfl, hbel⟩
  exact ⟨rfl, ((Below.refl _ w).alloc (Nat.le_refl _) _).trans (hbel.mono (by simp))⟩

set_option maxRecDepth 100000 in
set_option maxHeartbeats 1600000 in
theorem awake_two (w : World) : Calls Try.prog 6 #[] w fun e w' => e = .returned (.bool true) ∧ Below w.heap.size w w' := by
  have kc := fun (w : World) (C : Array Value) (n c : Nat) => Lib.run_convert_bytes_const (P := Try.prog) w 22 5 C n c Try.underlying22 Try.underlying5
  go_enter Try.func6, Try.ntmps6
  go_wp2_with fail
  refine (put_abc w).mono ?_
  rintro e w1 ⟨v1, rfl, hown1, hbel1⟩
  go_wp2_with fail
  refine (fput_any none 0 0 [] w1 (Row.nil _ _) (by simp) (by omega)).mono ?_
  rintro e w2 ⟨v2, rfl, hown2, hbel2⟩
  obtain ⟨a2, c2, rfl, hr2⟩ := hown2.slice
  have hown3 : Own w2 w.heap.size v1 _ := own_below hown1 hbel2 (fun k hk => (World.ownsRow.lt hown1 k hk).2)
  have hbel3 : Below w.heap.size w w2 := hbel1.trans (hbel2.mono hbel1.size)
  have hl2 := fr_nil
  have hl1 := fr_abc
  rw [hl2] at hr2 ⊢
  have HR2 := Lib.hid hr2
  have HL1 := Lib.hid hl1
  clear hown1 hown2 hbel1 hbel2 hr2 hl2 hl1
  go_wp2_with (first
    | (at_builtin; refine wpList_append_row rfl (.tmp 19) (.tmp 20) rfl rfl hown3 rfl HR2.out (by rw [HL1.out]; omega) hbel3.size ?_
       intro v4 w4 hown4 hgrow4 _
       obtain ⟨a4, c4, rfl, hr4⟩ := hown4.slice
       have hbel4 := Below.grows hbel3 hbel3.size hown3 hgrow4
       rw [List.length_append, HL1.out, fr_nil] at hr4
       have HR4 := Lib.hid hr4
       have e4 : (fr [97, 98, 99] ++ fr []).length = 13 := by rw [List.length_append, HL1.out, fr_nil]
       rw [e4]
       clear hr4 hgrow4 e4 hown4))
  have hsc := scan_any a4 13 c4 _ w4 HR4.out two_lt (by omega)
  rw [scan_two] at hsc
  refine hsc.mono ?_
  rintro e w5 ⟨v5, rfl, hown5, hbel5⟩
  obtain ⟨a5, c5, rfl, hr5⟩ := hown5.rows
  obtain ⟨b, off, rfl, hb5, hcs⟩ := hr5.cells (by simp)
  obtain ⟨a6, c6, hcell, hr6⟩ := hcs 0 (by simp)
  have hB5 : Below w.heap.size w w5 := hbel4.trans (hbel5.mono hbel4.size)
  rw [Nat.add_zero] at hcell
  have HR6 : Hid (Row .u8 w5 w5.heap.size a6 3 c6 [97, 98, 99]) := hr6
  have HC : Hid (w5.cell? ⟨b, off, none⟩ = some (.slice a6 3 c6)) := hcell
  clear hr6 hcell hcs hr5 hown5 hbel5 hsc HR4 HR2 hown3 hbel3
  go_wp2_with fail
  refine (check_nine w5).mono ?_
  rintro e w6 ⟨rfl, hbel6⟩
  have hcell : w6.cell? ⟨b, off, none⟩ = some (.slice a6 3 c6) := (hbel6.cell (p := ⟨b, off, none⟩) hb5).trans HC.out
  have hcv : (convert 22 9 (.slice a6 3 c6)).run Try.prog w6 = .ok (.string ⟨#[97, 98, 99]⟩) w6 := conv_row (P := Try.prog) 22 5 9 Try.underlying22 Try.underlying5 Try.underlying9 (HR6.out.below hbel6)
  go_wp2_with fail
  go_ret
  exact ⟨rfl, hB5.trans (hbel6.mono hB5.size)⟩
end Go.Proofs.Ytgeonmojadkbjaa.Vm
