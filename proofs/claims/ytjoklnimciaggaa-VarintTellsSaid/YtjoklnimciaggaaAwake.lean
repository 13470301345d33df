/- tuggerlaw01.awake returns true. -/
import Derived.Test.YtjoklnimciaggaaBytes
import Derived.Test.YtjoklnimciaggaaTexts
import Derived.Test.YtjoklnimciaggaaZigs
namespace Go.Proofs.Ytjoklnimciaggaa.Vm
open Go.RowKit

/-- What the call owns, as a slice with its cells. -/
theorem Own.form {w : World} {B : Nat} {v : Value} {l : List Nat} (h : Own w B v l) (hl : 0 < l.length) :
    ∃ g cap, v = .slice (some ⟨g, 0, none⟩) l.length cap ∧ B ≤ g ∧ g < w.heap.size ∧ Row .u8 w w.heap.size (some ⟨g, 0, none⟩) l.length cap l := by
  have h0 := h
  rcases h.2 with ⟨_, hn⟩ | ⟨g, cap, cur, rfl, hb, hg, _⟩
  · omega
  · exact ⟨g, cap, rfl, hb, (Array.getElem?_eq_some_iff.1 hg).1, Row.of_own (e := 5) h0⟩

theorem enc_300 : encs [300, 5] = [172, 2, 5] := by
  simp only [encs, List.flatMap_cons, List.flatMap_nil]
  rw [enc_big (by omega), enc_small (by omega), enc_small (by omega)]; rfl
theorem take_300 : takeS [172, 2, 5] 0 = (300, 2, 0) := by decide +kernel
theorem enc_ab : enc 2 ++ [97, 98] = [2, 97, 98] := by rw [enc_small (by omega)]; rfl
theorem text_ab : textS [2, 97, 98] 0 = ([97, 98], 3, 0) := by decide +kernel

/-- Two numbers in a new row. -/
theorem row_two (k : IntKind) (w : World) (x y : Nat) (t : TypeId) : Row k (w.alloc (.cells #[.int k (x : Nat), .int k (y : Nat)] t)) (w.heap.size + 1) (some ⟨w.heap.size, 0, none⟩) 2 2 [x, y] :=
  ⟨rfl, Nat.le_refl _, by simp [maxLen], fun _ => ⟨_, 0, rfl, Nat.lt_succ_self _, fun i hi => by
    match i, hi with
    | 0, _ => simp
    | 1, _ => simp⟩⟩

theorem put_two (w : World) : Calls Try.prog 16 #[.slice (some ⟨w.heap.size, 0, none⟩) 2 2] (w.alloc (.cells #[.int .u64 300, .int .u64 5] 24)) fun e w' =>
    ∃ g cap, e = .returned (.slice (some ⟨g, 0, none⟩) 3 cap) ∧ w.heap.size < g ∧ g < w'.heap.size ∧ Row .u8 w' w'.heap.size (some ⟨g, 0, none⟩) 3 cap [172, 2, 5] ∧ Below w.heap.size w w' := by
  refine (put_any _ 2 2 [300, 5] _ ((row_two .u64 w 300 5 24).mono (by simp)) (by simp) (by omega)).mono ?_
  rintro e w1 ⟨v, rfl, hown, hbel⟩
  rw [enc_300] at hown
  obtain ⟨g, cap, rfl, hb, hg, hr⟩ := hown.form (by simp)
  exact ⟨g, cap, rfl, by have := hb; simp at this; omega, hg, hr, ((Below.refl _ w).alloc (Nat.le_refl _) _).trans (hbel.mono (by simp))⟩

theorem take_two {w : World} {g cap : Nat} (h : Row .u8 w w.heap.size (some ⟨g, 0, none⟩) 3 cap [172, 2, 5]) :
    Calls Try.prog 8 #[.slice (some ⟨g, 0, none⟩) 3 cap, .int .i64 0] w fun e w' => e = .returned (.tuple #[.int .u64 300, .int .i64 2, .int .i64 0]) ∧ w = w' := by
  have := take_any _ 3 cap _ _ 0 w h (by simp)
  rw [take_300] at this
  exact this

theorem bytes_ab (w : World) : Calls Try.prog 18 #[.string ⟨#[97, 98]⟩] w fun e w' =>
    ∃ g cap, e = .returned (.slice (some ⟨g, 0, none⟩) 3 cap) ∧ Row .u8 w' w'.heap.size (some ⟨g, 0, none⟩) 3 cap [2, 97, 98] ∧ Below w.heap.size w w' := by
  refine (bytes_any ⟨#[97, 98]⟩ w (by decide)).mono ?_
  rintro e w1 ⟨v, rfl, hown, hbel⟩
  rw [show enc (ByteArray.mk #[97, 98]).size ++ bytesOf ⟨#[97, 98]⟩ = [2, 97, 98] from enc_ab] at hown
  obtain ⟨g, cap, rfl, hb, hg, hr⟩ := hown.form (by simp)
  exact ⟨g, cap, rfl, hr, hbel⟩

theorem text_two {w : World} {g cap : Nat} (h : Row .u8 w w.heap.size (some ⟨g, 0, none⟩) 3 cap [2, 97, 98]) :
    Calls Try.prog 12 #[.slice (some ⟨g, 0, none⟩) 3 cap, .int .i64 0] w fun e w' => e = .returned (.tuple #[.string ⟨#[97, 98]⟩, .int .i64 3, .int .i64 0]) ∧ w = w' := by
  have := text_any _ 3 cap _ _ 0 w h (by simp)
  rw [text_ab] at this
  exact this

theorem zig_m3 (w : World) : Calls Try.prog 20 #[.int .i64 (-3)] w fun e w' => e = .returned (.int .u64 5) ∧ w = w' := zig_any (-3) w (by omega) (by omega)
theorem zag_5 (w : World) : Calls Try.prog 22 #[.int .u64 5] w fun e w' => e = .returned (.int .i64 (-3)) ∧ w = w' := zag_any 5 w (by omega) (by omega)

set_option maxRecDepth 100000 in
set_option maxHeartbeats 400000 in
theorem awake_any (w : World) : Calls Try.prog 7 #[] w fun e w' => e = .returned (.bool true) ∧ Below w.heap.size w w' := by
  go_enter Try.func7, Try.ntmps7
  go_wp2_with fail
  refine (put_two w).mono ?_
  rintro e w1 ⟨g, cap, rfl, hg0, hg1, hr, hbel⟩
  have HR := Lib.hid hr
  clear hr
  go_wp2_with fail
  refine (take_two HR.out).mono ?_
  rintro e w1' ⟨rfl, rfl⟩
  go_wp2_with fail
  refine (bytes_ab w1).mono ?_
  rintro e w2 ⟨g2, cap2, rfl, hr2, hbel2⟩
  have HR2 := Lib.hid hr2
  clear hr2
  go_wp2_with fail
  refine (text_two HR2.out).mono ?_
  rintro e w2' ⟨rfl, rfl⟩
  have hcs : ∀ i, i < 3 → w2.cell? ⟨g, i, none⟩ = some (.int .u8 ([172, 2, 5].getD i 0 : Nat)) := by
    intro i hi
    obtain ⟨b, off, e1, _, hc⟩ := HR.out.cells (by omega)
    injection e1 with e1
    injection e1 with e1 e2
    subst e1
    rw [hbel2.cell (p := ⟨g, i, none⟩) hg1]
    have := hc i hi
    rw [← e2, Nat.zero_add] at this
    exact this
  have hc0 : w2.cell? ⟨g, 0, none⟩ = some (.int .u8 172) := hcs 0 (by omega)
  have hc1 : w2.cell? ⟨g, 1, none⟩ = some (.int .u8 2) := hcs 1 (by omega)
  have hc2 : w2.cell? ⟨g, 2, none⟩ = some (.int .u8 5) := hcs 2 (by omega)
  clear hcs
  have hB : Below w.heap.size w w2 := hbel.trans (hbel2.mono hbel.size)
  go_wp2_with fail
  refine (zig_m3 _).mono ?_
  rintro e w3 ⟨rfl, rfl⟩
  go_wp2_with fail
  refine (zag_5 _).mono ?_
  rintro e w3 ⟨rfl, rfl⟩
  go_wp2_with fail
  go_ret
  exact ⟨rfl, hB⟩
end Go.Proofs.Ytjoklnimciaggaa.Vm
