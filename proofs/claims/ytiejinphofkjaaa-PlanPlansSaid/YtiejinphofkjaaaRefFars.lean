/- The contracts of the document's Far and Nearest (tuggerref04), and of dist.Far whatever the cells. -/
import Derived.Test.YtiejinphofkjaaaRefFields
import Derived.Test.YtiejinphofkjaaaNearests
import Derived.Test.YtiejinphofkjaaaWords
import Derived.Deep.RegionHeld3
namespace Go.Proofs.Ytiejinphofkjaaa.Vm
open Go Go.RowKit


set_option maxRecDepth 100000 in
set_option maxHeartbeats 400000 in
theorem rfar_any (W H fr to : Int) (s : ByteArray) (bl : List Int) (a : Option Addr) (n c B : Nat) (w : World) (h : Okay W H s) (hr : RowZ .i64 w B a n c bl) (hB : B ≤ w.heap.size) (hn : n ≤ 1000000) :
    Calls Try.prog 18 #[gridV W H s, .int .i64 fr, .int .i64 to, .slice a n c] w (FarPost w W H s bl fr to) := by
  have hle := h.le
  have hB0 : Below w.heap.size w (w.alloc (gridO W H s)) := (Below.refl _ _).alloc (Nat.le_refl _) _
  have hg0 := gridAt_new w W H s
  cases h2 : floorS (bytesOf s) to
  · have HE := Lib.hid (farG_no2 (W := W) (H := H) (bl := bl) (a := fr) h2)
    have HF := Lib.hid fun w => rfield_no W H to s a n c w (by unfold maxLen; omega) h2
    clear h2 h hr
    go_enter Try.func18, Try.ntmps18
    go_wp2_with fail
    refine (HF.out _).mono ?_
    rintro e w1 ⟨rfl, hb⟩
    have hb2 := hB0.trans (hb.mono hB0.size)
    go_wp2_with fail
    go_ret
    exact ⟨ret_int HE.out.symm, hb2⟩
  obtain ⟨t, rfl⟩ := Int.eq_ofNat_of_zero_le (floorS_in h2).1
  have HF := Lib.hid (rfield_yes W H t s bl a n c B (w.alloc (gridO W H s)) h h2 (hr.below (hB0.mono hB)) (by simp; omega) hn)
  cases h1 : floorS (bytesOf s) fr
  · have HE := Lib.hid (farG_no1 (W := W) (H := H) (bl := bl) (b := t) h1)
    have hfl := fun w => rfloor_any W H fr s w (by unfold maxLen; omega)
    rw [h1] at hfl
    have HFL := Lib.hid hfl
    clear h1 h2 h hr hfl
    go_enter Try.func18, Try.ntmps18
    go_wp2_with fail
    refine HF.out.mono ?_
    rintro e w1 ⟨lb, l, rfl, hl, hnz, hb⟩
    have hb2 := hB0.trans (hb.mono hB0.size)
    obtain ⟨g1, g2, g3⟩ := hg0.below hb (by simp)
    clear hl hnz
    go_wp2_with fail
    refine (HFL.out _).mono ?_
    rintro e w2 ⟨rfl, hb3⟩
    have hb4 := hb2.trans (hb3.mono hb2.size)
    go_wp2_with fail
    go_ret
    exact ⟨ret_int HE.out.symm, hb4⟩
  obtain ⟨f, rfl⟩ := Int.eq_ofNat_of_zero_le (floorS_in h1).1
  have HE := Lib.hid (farG_yes (W := W) (H := H) (bl := bl) h1 h2)
  have hf := floorS_in h1
  rw [bytesOf_len] at hf
  have hfl := fun w => rfloor_any W H f s w (by unfold maxLen; omega)
  rw [h1] at hfl
  have HFL := Lib.hid hfl
  clear h1 h2 h hr hfl
  go_enter Try.func18, Try.ntmps18
  go_wp2_with fail
  refine HF.out.mono ?_
  rintro e w1 ⟨lb, l, rfl, hl, hnz, hb⟩
  have hb2 := hB0.trans (hb.mono hB0.size)
  obtain ⟨g1, g2, g3⟩ := hg0.below hb (by simp)
  have HL := Lib.hid hl
  have HNZ := Lib.hid hnz
  clear hl hnz
  go_wp2_with fail
  refine (HFL.out _).mono ?_
  rintro e w2 ⟨rfl, hb3⟩
  have hb4 := hb2.trans (hb3.mono hb2.size)
  have hc := (HNZ.out.calls hb3).cell (i := f) (by rw [HL.out.1]; omega)
  rw [HL.out.at (by omega)] at hc
  clear g1 g2 g3
  go_wp2_with fail
  go_ret
  exact ⟨ret_int HE.out.symm, hb4⟩

theorem near_yes {d : Int → Int} {l : List Int} {x : Int} {R : Int × Int} {y : Int} {k : Nat} (hk : k < l.length) (hx : l.getD k 0 = x) (hR : R = nearS d (l.take k)) (hy : d x = y) (h : 0 ≤ y ∧ (R.2 < 0 ∨ y < R.2 ∨ (y = R.2 ∧ x < R.1))) : (x, y) = nearS d (l.take (k + 1)) := by
  rw [List.take_succ_eq_append_getElem hk, nearS_snoc, ← hR]
  simp only [List.getD, List.getElem?_eq_getElem hk, Option.getD_some] at hx
  rw [hx]
  unfold nearStep
  rw [hy, if_pos h]
theorem near_not {d : Int → Int} {l : List Int} {x : Int} {R : Int × Int} {y : Int} {k : Nat} (hk : k < l.length) (hx : l.getD k 0 = x) (hR : R = nearS d (l.take k)) (hy : d x = y) (h : ¬ (0 ≤ y ∧ (R.2 < 0 ∨ y < R.2 ∨ (y = R.2 ∧ x < R.1)))) : R = nearS d (l.take (k + 1)) := by
  rw [List.take_succ_eq_append_getElem hk, nearS_snoc, ← hR]
  simp only [List.getD, List.getElem?_eq_getElem hk, Option.getD_some] at hx
  rw [hx]
  unfold nearStep
  rw [hy, if_neg h]

theorem kept_calls5 {a wa : World} {f : FuncId} {args : Array Value} {v u : Value} {b1 b2 k : Nat} {W1 H1 : Int} {s1 : ByteArray} (h : Kept a wa) (g1 : GridAt a b1 W1 H1 s1) (g2 : a.cell? ⟨b2, k, none⟩ = some u)
    (l1 : b1 < a.heap.size) (l2 : b2 < a.heap.size) (hc : Calls Try.prog f args wa fun e w' => e = .returned v ∧ Below wa.heap.size wa w') :
    Calls Try.prog f args wa fun e w' => e = .returned v ∧ Kept a w' ∧ w'.cell? ⟨b1, 0, none⟩ = some (.int .i64 W1) ∧ w'.cell? ⟨b1, 1, none⟩ = some (.int .i64 H1) ∧ w'.cell? ⟨b1, 2, none⟩ = some (.string s1) ∧ w'.cell? ⟨b2, k, none⟩ = some u :=
  hc.mono fun e w' ⟨he, hb⟩ => by
    have hk : Kept a w' := Below.trans h (hb.mono h.size)
    have r1 := g1.below hk l1
    exact ⟨he, hk, r1.1, r1.2.1, r1.2.2, (Below.cell hk (p := ⟨b2, k, none⟩) l2).trans g2⟩

set_option maxRecDepth 100000 in
set_option maxHeartbeats 2000000 in
theorem rnearest_any (W H fr : Int) (s : ByteArray) (bl of : List Int) (a a' : Option Addr) (n c n' c' B : Nat) (w : World) (h : Okay W H s)
    (hr : RowZ .i64 w B a n c bl) (hr' : RowZ .i64 w B a' n' c' of) (hB : B ≤ w.heap.size) (hn : n ≤ 1000000) (hn' : n' ≤ 1000000) :
    Calls Try.prog 45 #[gridV W H s, .int .i64 fr, .slice a' n' c', .slice a n c] w (NearPost w W H s bl of fr) := by
  have hB0 : Below w.heap.size w (w.alloc (gridO W H s)) := (Below.refl _ _).alloc (Nat.le_refl _) _
  have hg0 := gridAt_new w W H s
  have hz0 : (w.alloc (gridO W H s)).heap.size = w.heap.size + 1 := by simp
  have HR := Lib.hid (hr.below (hB0.mono hB))
  have HR' := Lib.hid (hr'.below (hB0.mono hB))
  have HOK := Lib.hid h
  have HL := Lib.hid hr'.1
  clear hr hr' h
  go_enter Try.func45, Try.ntmps45
  go_wp2_with fail
  generalize w.alloc (gridO W H s) = w1 at hB0 hg0 hz0 HR HR'
  have HG0 := Lib.hid hg0
  have HB0 := Lib.hid hB0
  clear hg0 hB0
  go_loopg [10, 11, 12] n' (fun k vb vl vi wr => ∃ (i : Nat) (R : Int × Int), vb = .int .i64 R.1 ∧ vl = .int .i64 R.2 ∧ vi = .int .i64 i ∧ i + k = n' ∧ Below w1.heap.size w1 wr ∧ Hid (R = nearS (fun x => farG W H (bytesOf s) bl fr x) (of.take i)))
  case atStart => exact ⟨0, (-1, -1), rfl, rfl, rfl, by omega, Below.refl _ _, rfl⟩
  case round =>
    obtain ⟨i, ⟨bst, lst⟩, rfl, rfl, rfl, hik, hbel, HNS⟩ := hrel
    by_cases hi : i < n'
    · obtain ⟨b2, off, rfl, hb2, hcs⟩ := HR'.out.cells (by omega)
      have hcx := (hbel.cell (p := ⟨b2, off + i, none⟩) (show b2 < w1.heap.size by omega)).trans (hcs i hi)
      generalize hx : of.getD i 0 = x at hcx
      obtain ⟨g1, g2, g3⟩ := HG0.out.below hbel (by omega)
      have hszr := hbel.size
      obtain ⟨y, hy⟩ : ∃ y, farG W H (bytesOf s) bl fr x = y := ⟨_, rfl⟩
      have hy0 := farG_ge W H (bytesOf s) bl fr x
      rw [hy] at hy0
      have HF := Lib.hid fun wa (hk : Kept wr wa) => kept_calls5 (b1 := w.heap.size) (b2 := b2) (k := off + i) hk ⟨g1, g2, g3⟩ hcx (by omega) (by omega)
        (rfar_any W H fr x s bl a n c B wa HOK.out (HR.out.below ((hbel.trans (Below.mono hk hszr)).mono (by omega))) (by have := hk.size; omega) hn)
      rw [hy] at HF
      have hYES := near_yes (d := fun x => farG W H (bytesOf s) bl fr x) (by rw [HL.out]; exact hi) hx HNS.out hy
      have hNOT := near_not (d := fun x => farG W H (bytesOf s) bl fr x) (by rw [HL.out]; exact hi) hx HNS.out hy
      simp only [] at hYES hNOT
      have HYES := Lib.hid hYES
      have HNOT := Lib.hid hNOT
      have k0 : Kept wr wr := Kept.refl _
      clear hYES hNOT hx hy hcs
      go_wp2_with fail
      go_region_held3 (fun w' => Kept wr w' ∧ w'.cell? ⟨w.heap.size, 0, none⟩ = some (.int .i64 W) ∧ w'.cell? ⟨w.heap.size, 1, none⟩ = some (.int .i64 H) ∧ w'.cell? ⟨w.heap.size, 2, none⟩ = some (.string s) ∧ w'.cell? ⟨b2, off + i, none⟩ = some (.int .i64 x))
        (first | (refine ⟨?_, ?_, ?_, ?_, ?_⟩ <;> first | assumption | exact Kept.drew (by assumption)))
        (first
          | (go_at_call 18; refine (HF.out _ ?_).mono ?_; (first | assumption | exact Kept.drew (by assumption)); rintro e wd ⟨rfl, kd, d1, d2, d3, d4⟩))
      all_goals
        have hbd : Below w1.heap.size w1 wd := hbel.trans (Below.mono kd hszr)
        have HBD := Lib.hid hbd
        clear kd k0 hbel hbd d1 d2 d3 g1 g2 g3 hcx HF
        by_cases hc1 : 0 ≤ y
        · by_cases hc2 : lst < 0
          · have HN := Lib.hid (HYES.out ⟨hc1, .inl hc2⟩)
            go_wp2_with fail
            go_roundg (gk - 1)
            case measure => omega
            case rel => exact ⟨i + 1, (x, y), rfl, rfl, by go_num, by omega, HBD.out, HN.out⟩
          · by_cases hc3 : y < lst
            · have HN := Lib.hid (HYES.out ⟨hc1, .inr (.inl hc3)⟩)
              go_wp2_with fail
              go_roundg (gk - 1)
              case measure => omega
              case rel => exact ⟨i + 1, (x, y), rfl, rfl, by go_num, by omega, HBD.out, HN.out⟩
            · by_cases hc4 : y = lst
              · have e4 : (y == lst) = true := by simpa using hc4
                have HC4 := Lib.hid hc4
                by_cases hc5 : x < bst
                · have HN := Lib.hid (HYES.out ⟨hc1, .inr (.inr ⟨hc4, hc5⟩)⟩)
                  clear hc4
                  go_wp2_with fail
                  go_roundg (gk - 1)
                  case measure => omega
                  case rel => exact ⟨i + 1, (x, y), rfl, rfl, by go_num, by omega, HBD.out, HN.out⟩
                · have HN := Lib.hid (HNOT.out (fun h => by omega))
                  clear hc4
                  go_wp2_with fail
                  go_roundg (gk - 1)
                  case measure => omega
                  case rel => exact ⟨i + 1, (bst, lst), rfl, rfl, by go_num, by omega, HBD.out, HN.out⟩
              · have e4 : (y == lst) = false := by simpa using hc4
                have HN := Lib.hid (HNOT.out (fun h => by omega))
                clear hc4
                go_wp2_with fail
                go_roundg (gk - 1)
                case measure => omega
                case rel => exact ⟨i + 1, (bst, lst), rfl, rfl, by go_num, by omega, HBD.out, HN.out⟩
        · have HN := Lib.hid (HNOT.out (fun h => hc1 h.1))
          go_wp2_with fail
          go_roundg (gk - 1)
          case measure => omega
          case rel => exact ⟨i + 1, (bst, lst), rfl, rfl, by go_num, by omega, HBD.out, HN.out⟩
    · obtain rfl : i = n' := by omega
      have HE : Hid ((bst, lst) = nearG W H (bytesOf s) bl of fr) := by
        have := HNS.out
        rw [List.take_of_length_le (by rw [HL.out]; omega)] at this
        exact this
      go_wp2_with fail
      go_ret2
      exact ⟨ret_ii HE.out, HB0.out.trans (hbel.mono (by omega))⟩
end Go.Proofs.Ytiejinphofkjaaa.Vm
