/- The contracts of state.areSame, of slices.Equal at tasks and at ints: are two lists one? -/
import Derived.Test.YtlfgdalpaacccaaStMath
import Derived.Test.YtlfgdalpaacccaaWords
import Derived.Test.YtlfgdalpaacccaaIntsZ
import Derived.Laws.StructEq
import Derived.Deep.QuietTactic
import Derived.BigQuiet
namespace Go.Proofs.Ytlfgdalpaacccaa.Vm
open Go Go.RowKit

instance : DecidableEq Rec := fun x y =>
  if h : x.a = y.a ∧ x.b = y.b ∧ x.c = y.c ∧ x.d = y.d ∧ x.e = y.e then .isTrue (Rec.same h.1 h.2.1 h.2.2.1 h.2.2.2.1 h.2.2.2.2)
  else .isFalse (fun e => h (by subst e; exact ⟨rfl, rfl, rfl, rfl, rfl⟩))
theorem rec_eq {x y : Rec} (h : x = y) : (x.a == y.a) = true ∧ (x.b == y.b) = true ∧ (x.c == y.c) = true ∧ (x.d == y.d) = true ∧ (x.e == y.e) = true := by
  subst h; simp
theorem rec_ne {x y : Rec} (h : x ≠ y) : (x.a == y.a) = false ∨ ((x.a == y.a) = true ∧ (x.b == y.b) = false) ∨ ((x.a == y.a) = true ∧ (x.b == y.b) = true ∧ (x.c == y.c) = false) ∨
    ((x.a == y.a) = true ∧ (x.b == y.b) = true ∧ (x.c == y.c) = true ∧ (x.d == y.d) = false) ∨ ((x.a == y.a) = true ∧ (x.b == y.b) = true ∧ (x.c == y.c) = true ∧ (x.d == y.d) = true ∧ (x.e == y.e) = false) := by
  have hh : ¬ (x.a = y.a ∧ x.b = y.b ∧ x.c = y.c ∧ x.d = y.d ∧ x.e = y.e) := fun e => h (Rec.same e.1 e.2.1 e.2.2.1 e.2.2.2.1 e.2.2.2.2)
  simp only [beq_eq_false_iff_ne, beq_iff_eq]
  by_cases h1 : x.a = y.a
  · by_cases h2 : x.b = y.b
    · by_cases h3 : x.c = y.c
      · by_cases h4 : x.d = y.d
        · exact .inr (.inr (.inr (.inr ⟨h1, h2, h3, h4, fun h5 => hh ⟨h1, h2, h3, h4, h5⟩⟩)))
        · exact .inr (.inr (.inr (.inl ⟨h1, h2, h3, h4⟩)))
      · exact .inr (.inr (.inl ⟨h1, h2, h3⟩))
    · exact .inr (.inl ⟨h1, h2⟩)
  · exact .inl h1
/-- Equal as far as k. -/
theorem take_moreR {xs ys : List Rec} {k n : Nat} (hx : xs.length = n) (hy : ys.length = n) (hk : k < n) (h : xs.take k = ys.take k) (he : xs.getD k zr = ys.getD k zr) : xs.take (k + 1) = ys.take (k + 1) := by
  rw [List.take_succ_eq_append_getElem (by omega), List.take_succ_eq_append_getElem (by omega), h]
  simp only [List.getD, List.getElem?_eq_getElem (show k < xs.length by omega), List.getElem?_eq_getElem (show k < ys.length by omega), Option.getD_some] at he
  rw [he]
theorem ne_atR {xs ys : List Rec} {k : Nat} (he : xs.getD k zr ≠ ys.getD k zr) : xs ≠ ys := fun h => he (by rw [h])

set_option maxRecDepth 100000 in
set_option maxHeartbeats 800000 in
theorem areSame_any (a1 a2 : Option Addr) (n1 c1 n2 c2 B : Nat) (xs ys : List Rec) (w : World) (h1 : RowR w B a1 n1 c1 xs) (h2 : RowR w B a2 n2 c2 ys) (hB : B ≤ w.heap.size) :
    Calls Try.prog 29 #[.slice a1 n1 c1, .slice a2 n2 c2] w fun e w' => e = .returned (.bool (decide (xs = ys))) ∧ Below w.heap.size w w' := by
  have hm1 := h1.len
  have hm2 := h2.len
  unfold maxLen at hm1 hm2
  have HX := Lib.hid h1.1
  have HY := Lib.hid h2.1
  by_cases hne : n1 = n2
  · subst hne
    have e0 : ((n1 : Int) != (n1 : Int)) = false := by simp
    go_enter Try.func29, Try.ntmps29
    go_wp2
    go_loopw [14] (fun i wr => ∃ k : Nat, k ≤ n1 ∧ i = .int .i64 k ∧ Below w.heap.size w wr ∧ Hid (xs.take k = ys.take k)) (fun i _ => n1 - (intOf i).toNat)
    case atStart => exact ⟨0, Nat.zero_le _, rfl, Below.refl _ _, rfl⟩
    case round =>
      obtain ⟨k, hk, rfl, hbel, HT⟩ := hrel
      by_cases hlt : k < n1
      · obtain ⟨b, off, rfl, hb, hcs⟩ := h1.cells (by omega)
        have hcell1 := (hcs k hlt).below hbel (by omega)
        obtain ⟨b', off', rfl, hb', hcs'⟩ := h2.cells (by omega)
        have hcell2 := (hcs' k hlt).below hbel (by omega)
        clear hcs hcs'
        have hsz := hbel.size
        have hb3 : b < wr.heap.size := by omega
        have hb3' : b' < wr.heap.size := by omega
        generalize hx : xs.getD k zr = x at hcell1
        generalize hy : ys.getD k zr = y at hcell2
        have HX1 := Lib.hid hx
        have HY1 := Lib.hid hy
        clear hx hy
        obtain ⟨p1, p2, p3, p4, p5⟩ := hcell1
        obtain ⟨q1, q2, q3, q4, q5⟩ := hcell2
        by_cases hxy : x = y
        · obtain ⟨e1, e2, e3, e4, e5⟩ := rec_eq hxy
          have HXY := Lib.hid hxy
          clear hxy
          go_wp2
          go_quiet (fail)
          go_wp2
          go_roundw
          case rel => exact ⟨k + 1, by omega, by go_num, below_drewN (hbel.alloc hsz _) _, take_moreR HX.out HY.out hlt HT.out (by rw [HX1.out, HY1.out, HXY.out])⟩
          case measure => simp [intOf]; omega
        · have HXY := Lib.hid hxy
          have hr := rec_ne hxy
          clear hxy
          rcases hr with e1 | ⟨e1, e2⟩ | ⟨e1, e2, e3⟩ | ⟨e1, e2, e3, e4⟩ | ⟨e1, e2, e3, e4, e5⟩
          all_goals
            go_wp2
            go_quiet (fail)
            go_wp2
            go_ret
            exact ⟨ret_bool (Eq.symm (decide_eq_false (ne_atR (k := k) (by rw [HX1.out, HY1.out]; exact HXY.out)))), below_drewN (hbel.alloc hsz _) _⟩
      · go_wp2
        go_ret
        have hkn : k = n1 := by omega
        exact ⟨ret_bool (Eq.symm (decide_eq_true (by have := HT.out; rw [List.take_of_length_le (by rw [HX.out]; omega), List.take_of_length_le (by rw [HY.out]; omega)] at this; exact this))), hbel⟩
  · have e0 : ((n1 : Int) != (n2 : Int)) = true := by rw [bne_iff_ne]; omega
    have HN := Lib.hid hne
    clear hne
    go_enter Try.func29, Try.ntmps29
    go_wp2
    go_ret
    exact ⟨ret_bool (Eq.symm (decide_eq_false (fun h => HN.out (by rw [← HX.out, ← HY.out, h])))), Below.refl _ _⟩

set_option maxRecDepth 100000 in
set_option maxHeartbeats 800000 in
theorem eqTasks_any (a1 a2 : Option Addr) (n1 c1 n2 c2 B : Nat) (xs ys : List Rec) (w : World) (h1 : RowR w B a1 n1 c1 xs) (h2 : RowR w B a2 n2 c2 ys) (hB : B ≤ w.heap.size) :
    Calls Try.prog 30 #[.slice a1 n1 c1, .slice a2 n2 c2] w fun e w' => e = .returned (.bool (decide (xs = ys))) ∧ Below w.heap.size w w' := by
  have hm1 := h1.len
  have hm2 := h2.len
  unfold maxLen at hm1 hm2
  have HX := Lib.hid h1.1
  have HY := Lib.hid h2.1
  by_cases hne : n1 = n2
  · subst hne
    have e0 : ((n1 : Int) != (n1 : Int)) = false := by simp
    go_enter Try.func30, Try.ntmps30
    go_wp2
    go_loopw [13] (fun i wr => ∃ k : Nat, k ≤ n1 ∧ i = .int .i64 k ∧ Below w.heap.size w wr ∧ Hid (xs.take k = ys.take k)) (fun i _ => n1 - (intOf i).toNat)
    case atStart => exact ⟨0, Nat.zero_le _, rfl, Below.refl _ _, rfl⟩
    case round =>
      obtain ⟨k, hk, rfl, hbel, HT⟩ := hrel
      by_cases hlt : k < n1
      · obtain ⟨b, off, rfl, hb, hcs⟩ := h1.cells (by omega)
        have hcell1 := (hcs k hlt).below hbel (by omega)
        obtain ⟨b', off', rfl, hb', hcs'⟩ := h2.cells (by omega)
        have hcell2 := (hcs' k hlt).below hbel (by omega)
        clear hcs hcs'
        have hsz := hbel.size
        have hb3 : b < wr.heap.size := by omega
        have hb3' : b' < wr.heap.size := by omega
        generalize hx : xs.getD k zr = x at hcell1
        generalize hy : ys.getD k zr = y at hcell2
        have HX1 := Lib.hid hx
        have HY1 := Lib.hid hy
        clear hx hy
        obtain ⟨p1, p2, p3, p4, p5⟩ := hcell1
        obtain ⟨q1, q2, q3, q4, q5⟩ := hcell2
        by_cases hxy : x = y
        · obtain ⟨e1, e2, e3, e4, e5⟩ := rec_eq hxy
          have HXY := Lib.hid hxy
          clear hxy
          go_wp2
          go_quiet (fail)
          go_wp2
          go_roundw
          case rel => exact ⟨k + 1, by omega, by go_num, below_drewN hbel _, take_moreR HX.out HY.out hlt HT.out (by rw [HX1.out, HY1.out, HXY.out])⟩
          case measure => simp [intOf]; omega
        · have HXY := Lib.hid hxy
          have hr := rec_ne hxy
          clear hxy
          rcases hr with e1 | ⟨e1, e2⟩ | ⟨e1, e2, e3⟩ | ⟨e1, e2, e3, e4⟩ | ⟨e1, e2, e3, e4, e5⟩
          all_goals
            go_wp2
            go_quiet (fail)
            go_wp2
            go_ret
            exact ⟨ret_bool (Eq.symm (decide_eq_false (ne_atR (k := k) (by rw [HX1.out, HY1.out]; exact HXY.out)))), below_drewN hbel _⟩
      · go_wp2
        go_ret
        have hkn : k = n1 := by omega
        exact ⟨ret_bool (Eq.symm (decide_eq_true (by have := HT.out; rw [List.take_of_length_le (by rw [HX.out]; omega), List.take_of_length_le (by rw [HY.out]; omega)] at this; exact this))), hbel⟩
  · have e0 : ((n1 : Int) != (n2 : Int)) = true := by rw [bne_iff_ne]; omega
    have HN := Lib.hid hne
    clear hne
    go_enter Try.func30, Try.ntmps30
    go_wp2
    go_ret
    exact ⟨ret_bool (Eq.symm (decide_eq_false (fun h => HN.out (by rw [← HX.out, ← HY.out, h])))), Below.refl _ _⟩

set_option maxRecDepth 100000 in
set_option maxHeartbeats 800000 in
theorem eqInts_any (a1 a2 : Option Addr) (n1 c1 n2 c2 B : Nat) (xs ys : List Int) (w : World) (h1 : RowZ .i64 w B a1 n1 c1 xs) (h2 : RowZ .i64 w B a2 n2 c2 ys) (hB : B ≤ w.heap.size) :
    Calls Try.prog 31 #[.slice a1 n1 c1, .slice a2 n2 c2] w fun e w' => e = .returned (.bool (decide (xs = ys))) ∧ Below w.heap.size w w' := by
  have hm1 := h1.2.2.1
  have hm2 := h2.2.2.1
  have hc1 := h1.2.1
  have hc2 := h2.2.1
  unfold maxLen at hm1 hm2
  have HX := Lib.hid h1.1
  have HY := Lib.hid h2.1
  by_cases hne : n1 = n2
  · subst hne
    have e0 : ((n1 : Int) != (n1 : Int)) = false := by simp
    go_enter Try.func31, Try.ntmps31
    go_wp2
    go_loopw [13] (fun i wr => ∃ k : Nat, k ≤ n1 ∧ i = .int .i64 k ∧ Below w.heap.size w wr ∧ Hid (xs.take k = ys.take k)) (fun i _ => n1 - (intOf i).toNat)
    case atStart => exact ⟨0, Nat.zero_le _, rfl, Below.refl _ _, rfl⟩
    case round =>
      obtain ⟨k, hk, rfl, hbel, HT⟩ := hrel
      by_cases hlt : k < n1
      · obtain ⟨b, off, rfl, hb, hcs⟩ := h1.cells (by omega)
        have hcell1 := (hbel.cell (p := ⟨b, off + k, none⟩) (show b < w.heap.size by omega)).trans (hcs k hlt)
        obtain ⟨b', off', rfl, hb', hcs'⟩ := h2.cells (by omega)
        have hcell2 := (hbel.cell (p := ⟨b', off' + k, none⟩) (show b' < w.heap.size by omega)).trans (hcs' k hlt)
        clear hcs hcs'
        generalize hx : xs.getD k 0 = x at hcell1
        generalize hy : ys.getD k 0 = y at hcell2
        have HX1 := Lib.hid hx
        have HY1 := Lib.hid hy
        clear hx hy
        by_cases hxy : x = y
        · have e1 : (x != y) = false := by simp; omega
          have HXY := Lib.hid hxy
          clear hxy
          go_wp2
          go_quiet (fail)
          go_wp2
          go_roundw
          case rel => exact ⟨k + 1, by omega, by go_num, below_drewN hbel _, take_moreZ HX.out HY.out hlt HT.out (by rw [HX1.out, HY1.out, HXY.out])⟩
          case measure => simp [intOf]; omega
        · have e1 : (x != y) = true := by rw [bne_iff_ne]; omega
          have HXY := Lib.hid hxy
          clear hxy
          go_wp2
          go_quiet (fail)
          go_wp2
          go_ret
          exact ⟨ret_bool (Eq.symm (decide_eq_false (ne_atZ (k := k) (by rw [HX1.out, HY1.out]; exact HXY.out)))), below_drewN hbel _⟩
      · go_wp2
        go_ret
        have hkn : k = n1 := by omega
        exact ⟨ret_bool (Eq.symm (decide_eq_true (by have := HT.out; rw [List.take_of_length_le (by rw [HX.out]; omega), List.take_of_length_le (by rw [HY.out]; omega)] at this; exact this))), hbel⟩
  · have e0 : ((n1 : Int) != (n2 : Int)) = true := by rw [bne_iff_ne]; omega
    have HN := Lib.hid hne
    clear hne
    go_enter Try.func31, Try.ntmps31
    go_wp2
    go_ret
    exact ⟨ret_bool (Eq.symm (decide_eq_false (fun h => HN.out (by rw [← HX.out, ← HY.out, h])))), Below.refl _ _⟩
end Go.Proofs.Ytlfgdalpaacccaa.Vm
