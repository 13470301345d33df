/- The contracts of the document's Far and Nearest (tuggerref04), and of dist.Far whatever the cells. -/
import Derived.Test.YtopgboepkckkjaaRefFields
import Derived.Test.YtopgboepkckkjaaNearests
import Derived.Test.YtopgboepkckkjaaWords
import Derived.Deep.RegionHeld3
namespace Go.Proofs.Ytopgboepkckkjaa.Vm
open Go Go.RowKit


set_option maxRecDepth 100000 in
set_option maxHeartbeats 400000 in
theorem rfar_any (W H fr to : Int) (s : ByteArray) (bl : List Int) (a : Option Addr) (n c B : Nat) (w : World) (h : Okay W H s) (hr : RowZ .i64 w B a n c bl) (hB : B ≤ w.heap.size) (hn : n ≤ 1000000) :
    Calls Try.prog 25 #[gridV W H s, .int .i64 fr, .int .i64 to, .slice a n c] w (FarPost w W H s bl fr to) := by
  have hle := h.le
  have hB0 : Below w.heap.size w (w.alloc (gridO W H s)) := (Below.refl _ _).alloc (Nat.le_refl _) _
  have hg0 := gridAt_new w W H s
  cases h2 : floorS (bytesOf s) to
  · have HE := Lib.hid (farG_no2 (W := W) (H := H) (bl := bl) (a := fr) h2)
    have HF := Lib.hid fun w => rfield_no W H to s a n c w (by unfold maxLen; omega) h2
    clear h2 h hr
    go_enter Try.func25, Try.ntmps25
    go_wp2_with fail
    refine (HF.out _).mono ?_
    rintro e w1 ⟨rfl, hb⟩
    have hb2 := hB0.trans (hb.mono hB0.size)
    go_wp2_with fail
    go_ret
    exact ⟨ret_int HE.out.symm, hb2⟩
  obtain ⟨t, rfl⟩ := Int.eq_ofNat_of_zero_le (floorS_in h2).1
  have HF := Lib.hid (rfield_yes W H t s bl a n c B (w.alloc (gridO W H s)) h h2 (hr.below (hB0.mono hB)) (by simp; omega) hn)
  cases h1 : floorS (bytesOf s) fr
  · have HE := Lib.hid (farG_no1 (W := W) (H := H) (bl := bl) (b := t) h1)
    have hfl := fun w => rfloor_any W H fr s w (by unfold maxLen; omega)
    rw [h1] at hfl
    have HFL := Lib.hid hfl
    clear h1 h2 h hr hfl
    go_enter Try.func25, Try.ntmps25
    go_wp2_with fail
    refine HF.out.mono ?_
    rintro e w1 ⟨lb, l, rfl, hl, hnz, hb⟩
    have hb2 := hB0.trans (hb.mono hB0.size)
    obtain ⟨g1, g2, g3⟩ := hg0.below hb (by simp)
    clear hl hnz
    go_wp2_with fail
    refine (HFL.out _).mono ?_
    rintro e w2 ⟨rfl, hb3⟩
    have hb4 := hb2.trans (hb3.mono hb2.size)
    go_wp2_with fail
    go_ret
    exact ⟨ret_int HE.out.symm, hb4⟩
  obtain ⟨f, rfl⟩ := Int.eq_ofNat_of_zero_le (floorS_in h1).1
  have HE := Lib.hid (farG_yes (W := W) (H := H) (bl := bl) h1 h2)
  have hf := floorS_in h1
  rw [bytesOf_len] at hf
  have hfl := fun w => rfloor_any W H f s w (by unfold maxLen; omega)
  rw [h1] at hfl
  have HFL := Lib.hid hfl
  clear h1 h2 h hr hfl
  go_enter Try.func25, Try.ntmps25
  go_wp2_with fail
  refine HF.out.mono ?_
  rintro e w1 ⟨lb, l, rfl, hl, hnz, hb⟩
  have hb2 := hB0.trans (hb.mono hB0.size)
  obtain ⟨g1, g2, g3⟩ := hg0.below hb (by simp)
  have HL := Lib.hid hl
  have HNZ := Lib.hid hnz
  clear hl hnz
  go_wp2_with fail
  refine (HFL.out _).mono ?_
  rintro e w2 ⟨rfl, hb3⟩
  have hb4 := hb2.trans (hb3.mono hb2.size)
  have hc := (HNZ.out.calls hb3).cell (i := f) (by rw [HL.out.1]; omega)
  rw [HL.out.at (by omega)] at hc
  clear g1 g2 g3
  go_wp2_with fail
  go_ret
  exact ⟨ret_int HE.out.symm, hb4⟩

theorem near_yes {d : Int → Int} {l : List Int} {x : Int} {R : Int × Int} {y : Int} {k : Nat} (hk : k < l.length) (hx : l.getD k 0 = x) (hR : R = nearS d (l.take k)) (hy : d x = y) (h : 0 ≤ y ∧ (R.2 < 0 ∨ y < R.2 ∨ (y = R.2 ∧ x < R.1))) : (x, y) = nearS d (l.take (k + 1)) := by
  rw [List.take_succ_eq_append_getElem hk, nearS_snoc, ← hR]
  simp only [List.getD, List.getElem?_eq_getElem hk, Option.getD_some] at hx
  rw [hx]
  unfold nearStep
  rw [hy, if_pos h]
theorem near_not {d : Int → Int} {l : List Int} {x : Int} {R : Int × Int} {y : Int} {k : Nat} (hk : k < l.length) (hx : l.getD k 0 = x) (hR : R = nearS d (l.take k)) (hy : d x = y) (h : ¬ (0 ≤ y ∧ (R.2 < 0 ∨ y < R.2 ∨ (y = R.2 ∧ x < R.1)))) : R = nearS d (l.take (k + 1)) := by
  rw [List.take_succ_eq_append_getElem hk, nearS_snoc, ← hR]
  simp only [List.getD, List.getElem?_eq_getElem hk, Option.getD_some] at hx
  rw [hx]
  unfold nearStep
  rw [hy, if_neg h]

theorem kept_calls5 {a wa : World} {f : FuncId} {args : Array Value} {v u : Value} {b1 b2 k : Nat} {W1 H1 : Int} {s1 : ByteArray} (h : Kept a wa) (g1 : GridAt a b1 W1 H1 s1) (g2 : a.cell? ⟨b2, k, none⟩ = some u)
    (l1 : b1 < a.heap.size) (l2 : b2 < a.heap.size) (hc : Calls Try.prog f args wa fun e w' => e = .returned v ∧ Below wa.heap.size wa w') :
    Calls Try.prog f args wa fun e w' => e = .returned v ∧ Kept a w' ∧ w'.cell? ⟨b1, 0, none⟩ = some (.int .i64 W1) ∧ w'.cell? ⟨b1, 1, none⟩ = some (.int .i64 H1) ∧ w'.cell? ⟨b1, 2, none⟩ = some (.string s1) ∧ w'.cell? ⟨b2, k, none⟩ = some u :=
  hc.mono fun e w' ⟨he, hb⟩ => by
    have hk : Kept a w' := Below.trans h (hb.mono h.size)
    have r1 := g1.below hk l1
    exact ⟨he, hk, r1.1, r1.2.1, r1.2.2, (Below.cell hk (p := ⟨b2, k, none⟩) l2).trans g2⟩

end Go.Proofs.Ytopgboepkckkjaa.Vm
