/- The contracts of package dist's steps, and of what enumerates the cells: origin, leadingTo, reachedFrom. -/
import Derived.Test.YtgjolllacchdeaaLeadMath
import Derived.Test.YtgjolllacchdeaaSets
import Derived.Test.YtgjolllacchdeaaGridAts
import Derived.Test.YtgjolllacchdeaaIters
namespace Go.Proofs.Ytgjolllacchdeaa.Vm
open Go Go.RowKit Go.Maps

set_option maxRecDepth 100000 in
set_option maxHeartbeats 400000 in
theorem origin_any (W H : Int) (s : ByteArray) (cell way : Nat) (w : World) (hW : 1 ≤ W) (hW2 : W ≤ 256) (hc : cell ≤ 1000000) (hw : 1 ≤ way ∧ way ≤ 4) :
    Calls Try.prog 33 #[gridV W H s, .int .i64 (cell : Nat), .int .i64 (way : Nat)] w fun e w' => e = .returned (.int .i64 (originS W cell way)) ∧ Below w.heap.size w w' := by
  have hB : Below w.heap.size w (w.alloc (gridO W H s)) := (Below.refl _ _).alloc (Nat.le_refl _) _
  have hcase : way = 1 ∨ way = 2 ∨ way = 3 ∨ way = 4 := by omega
  clear hw
  rcases hcase with rfl | rfl | rfl | rfl
  all_goals
    go_enter Try.func33, Try.ntmps33
    go_wp2
    go_ret
    exact ⟨by simp [originS], hB⟩

theorem pair_eq {R : Int × Bool} {a : Int} {b : Bool} (h : R = (a, b)) : Ending.returned (.tuple #[.int .i64 a, .bool b]) = .returned (.tuple #[.int .i64 R.1, .bool R.2]) := by rw [h]

set_option maxRecDepth 100000 in
set_option maxHeartbeats 400000 in
theorem lead_any (W H : Int) (s : ByteArray) (bl : List Int) (cell way gb cb mb m : Nat) (A : World) (h : Okay W H s) (hc : cell < s.size) (hw : 1 ≤ way ∧ way ≤ 4)
    (hg : GridAt A gb W H s) (hcl : A.cell? ⟨cb, 0, none⟩ = some (.map (some mb))) (hm : ShutIn A mb m bl) (hgb : gb < A.heap.size) (hcb : cb < A.heap.size) :
    Calls Try.prog 32 #[.int .i64 (cell : Nat), .int .i64 (way : Nat), .pointer (some ⟨gb, 0, none⟩), .pointer (some ⟨cb, 0, none⟩)] A fun e w' =>
      e = .returned (.tuple #[.int .i64 (leadS W H (bytesOf s) bl cell way).1, .bool (leadS W H (bytesOf s) bl cell way).2]) ∧ Below A.heap.size A w' := by
  have hle := h.le
  have HO := Lib.hid fun A => origin_any W H s cell way A h.w1 h.w2 (by omega) hw
  have HG := Lib.hid fun A => goes_any W H (originS W cell way) way s A h
  have hwf : (Lit.int .i64 (cell : Nat)).wf = true := WalkArith.wf_i64 (by omega)
  have hle2 : leadS W H (bytesOf s) bl cell way = (originS W cell way, (goesS W H (bytesOf s) (originS W cell way) way).2 && !decide ((cell : Int) ∈ bl)) := rfl
  have HM := Lib.hid hm
  have HGA := Lib.hid hg
  obtain ⟨g1, g2, g3⟩ := hg
  obtain ⟨to, ok, hR⟩ : ∃ to ok, goesS W H (bytesOf s) (originS W cell way) way = (to, ok) := ⟨_, _, rfl⟩
  rw [hR] at hle2
  have hg2 := HG.out
  rw [hR] at hg2
  simp only [] at hg2 hle2
  have HG2 := Lib.hid hg2
  generalize originS W cell way = og at HO HG2 hle2
  clear hg2 HG hR hm h hw
  cases ok
  · have HE := Lib.hid hle2
    clear hle2
    go_enter Try.func32, Try.ntmps32
    go_wp2_with fail
    refine (HO.out _).mono ?_
    rintro e w1 ⟨rfl, hb1⟩
    obtain ⟨q1, q2, q3⟩ := HGA.out.below hb1 hgb
    go_wp2_with fail
    refine (HG2.out _).mono ?_
    rintro e w2 ⟨rfl, hb2⟩
    have hb := hb1.trans (hb2.mono hb1.size)
    go_wp2_with fail
    go_ret2
    exact ⟨pair_eq (by rw [HE.out]; rfl), hb⟩
  · have HE := Lib.hid hle2
    clear hle2
    go_enter Try.func32, Try.ntmps32
    go_wp2_with fail
    refine (HO.out _).mono ?_
    rintro e w1 ⟨rfl, hb1⟩
    obtain ⟨q1, q2, q3⟩ := HGA.out.below hb1 hgb
    go_wp2_with fail
    refine (HG2.out _).mono ?_
    rintro e w2 ⟨rfl, hb2⟩
    have hb := hb1.trans (hb2.mono hb1.size)
    have hc2 := (hb.cell (p := ⟨cb, 0, none⟩) hcb).trans hcl
    have hm2 : ShutIn w2 mb m bl := HM.out.keep (hb.block mb HM.out.lt)
    have HH := Lib.hid (has_any mb m bl cell w2 hm2 hwf)
    clear q1 q2 q3 hm2
    go_wp2_with fail
    refine HH.out.mono ?_
    rintro e w3 ⟨rfl, hb3⟩
    have hb4 := hb.trans (hb3.mono hb.size)
    go_wp2_with fail
    go_ret2
    exact ⟨pair_eq (by rw [HE.out]; simp), hb4⟩

set_option maxRecDepth 100000 in
set_option maxHeartbeats 400000 in
theorem from_any (W H : Int) (s : ByteArray) (bl : List Int) (cell way gb cb mb m : Nat) (A : World) (h : Okay W H s)
    (hg : GridAt A gb W H s) (hcl : A.cell? ⟨cb, 0, none⟩ = some (.map (some mb))) (hm : ShutIn A mb m bl) (hcb : cb < A.heap.size) :
    Calls Try.prog 34 #[.int .i64 (cell : Nat), .int .i64 (way : Nat), .pointer (some ⟨gb, 0, none⟩), .pointer (some ⟨cb, 0, none⟩)] A fun e w' =>
      e = .returned (.tuple #[.int .i64 (fromS W H (bytesOf s) bl cell way).1, .bool (fromS W H (bytesOf s) bl cell way).2]) ∧ Below A.heap.size A w' := by
  have hle := h.le
  have HG := Lib.hid fun A => goes_any W H cell way s A h
  have hle2 : fromS W H (bytesOf s) bl cell way = ((goesS W H (bytesOf s) cell way).1, (goesS W H (bytesOf s) cell way).2 && !decide ((goesS W H (bytesOf s) cell way).1 ∈ bl)) := rfl
  have HM := Lib.hid hm
  obtain ⟨g1, g2, g3⟩ := hg
  obtain ⟨to, ok, hR⟩ : ∃ to ok, goesS W H (bytesOf s) cell way = (to, ok) := ⟨_, _, rfl⟩
  rw [hR] at hle2
  have hg2 := HG.out
  rw [hR] at hg2
  simp only [] at hg2 hle2
  have HG2 := Lib.hid hg2
  have HE := Lib.hid hle2
  clear hg2 HG hm h hle2
  cases ok
  · clear hR
    go_enter Try.func34, Try.ntmps34
    go_wp2_with fail
    refine (HG2.out _).mono ?_
    rintro e w2 ⟨rfl, hb⟩
    go_wp2_with fail
    go_ret2
    exact ⟨pair_eq (by rw [HE.out]; rfl), hb⟩
  · have hto := goesS_nat hR
    rw [bytesOf_len] at hto
    have hwf : (Lit.int .i64 to).wf = true := WalkArith.wf_i64 (by omega)
    clear hR
    go_enter Try.func34, Try.ntmps34
    go_wp2_with fail
    refine (HG2.out _).mono ?_
    rintro e w2 ⟨rfl, hb⟩
    have hc2 := (hb.cell (p := ⟨cb, 0, none⟩) hcb).trans hcl
    have hm2 : ShutIn w2 mb m bl := HM.out.keep (hb.block mb HM.out.lt)
    have HH := Lib.hid (has_any mb m bl to w2 hm2 hwf)
    clear hm2
    go_wp2_with fail
    refine HH.out.mono ?_
    rintro e w3 ⟨rfl, hb3⟩
    have hb4 := hb.trans (hb3.mono hb.size)
    go_wp2_with fail
    go_ret2
    exact ⟨pair_eq (by rw [HE.out]; simp), hb4⟩
end Go.Proofs.Ytgjolllacchdeaa.Vm
