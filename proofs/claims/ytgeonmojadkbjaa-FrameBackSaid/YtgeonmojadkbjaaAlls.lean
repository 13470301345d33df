/- The contracts of the document's All (are two lists of bytes one?) and Size. -/
import Derived.Test.YtgeonmojadkbjaaRowss
import Derived.Test.YtgeonmojadkbjaaSames
namespace Go.Proofs.Ytgeonmojadkbjaa.Vm
open Go.RowKit

theorem take_more' {α : Type} {xs ys : List (List α)} {k n : Nat} (hx : xs.length = n) (hy : ys.length = n) (hk : k < n) (h : xs.take k = ys.take k) (he : xs.getD k [] = ys.getD k []) : xs.take (k + 1) = ys.take (k + 1) := by
  rw [List.take_succ_eq_append_getElem (by omega), List.take_succ_eq_append_getElem (by omega), h]
  simp only [List.getD, List.getElem?_eq_getElem (show k < xs.length by omega), List.getElem?_eq_getElem (show k < ys.length by omega), Option.getD_some] at he
  rw [he]

set_option maxRecDepth 100000 in
set_option maxHeartbeats 400000 in
theorem all_any (a1 a2 : Option Addr) (n1 c1 n2 c2 B : Nat) (xs ys : List (List Nat)) (w : World) (h1 : Rows w B a1 n1 c1 xs) (h2 : Rows w B a2 n2 c2 ys) :
    Calls Try.prog 12 #[.slice a1 n1 c1, .slice a2 n2 c2] w fun e w' => e = .returned (.bool (decide (xs = ys))) ∧ ∃ m, w' = w.drewN m := by
  have hm1 := h1.2.2.1
  have hm2 := h2.2.2.1
  have hc1 := h1.2.1
  have hc2 := h2.2.1
  unfold maxLen at hm1 hm2
  have HX := Lib.hid h1.1
  have HY := Lib.hid h2.1
  by_cases hne : n1 = n2
  · subst hne
    have e0 : ((n1 : Int) != (n1 : Int)) = false := by simp
    go_enter Try.func12, Try.ntmps12
    go_wp2
    go_loopw [5] (fun i wr => ∃ k : Nat, k ≤ n1 ∧ i = .int .i64 k ∧ Hid (∃ m, wr = w.drewN m) ∧ Hid (xs.take k = ys.take k)) (fun i _ => n1 - (intOf i).toNat)
    case atStart => exact ⟨0, Nat.zero_le _, rfl, ⟨0, rfl⟩, rfl⟩
    case round =>
      obtain ⟨k, hk, rfl, HW, HT⟩ := hrel
      by_cases hlt : k < n1
      · obtain ⟨b, off, rfl, hb, hcs⟩ := h1.cells (by omega)
        obtain ⟨a', c', hcell1, hr1⟩ := hcs k hlt
        obtain ⟨b', off', rfl, hb', hcs'⟩ := h2.cells (by omega)
        obtain ⟨a'', c'', hcell2, hr2⟩ := hcs' k hlt
        clear hcs hcs'
        have hkw : ∀ p : Addr, wr.cell? p = w.cell? p := by obtain ⟨m, rfl⟩ := HW.out; exact fun _ => rfl
        rw [← hkw] at hcell1 hcell2
        replace hr1 := hr1.keep (w' := wr) (fun p _ => hkw p)
        replace hr2 := hr2.keep (w' := wr) (fun p _ => hkw p)
        clear hkw
        have hS : ∀ j, Calls Try.prog 9 #[.slice a' (xs.getD k []).length c', .slice a'' (ys.getD k []).length c''] (wr.drewN j) fun e w' => e = .returned (.bool (decide (xs.getD k [] = ys.getD k []))) ∧ ∃ i, w' = (wr.drewN j).drewN i := fun j =>
          same_any a' a'' _ c' _ c'' B _ _ _ (hr1.keep (fun _ _ => rfl)) (hr2.keep (fun _ _ => rfl))
        generalize hx : xs.getD k [] = x at hcell1 hS
        generalize hy : ys.getD k [] = y at hcell2 hS
        have HX1 := Lib.hid hx
        have HY1 := Lib.hid hy
        clear hx hy hr1 hr2
        by_cases hxy : x = y
        · rw [decide_eq_true hxy] at hS
          have HS := Lib.hid hS
          have HXY := Lib.hid hxy
          clear hxy hS
          go_wp2_with fail
          go_quiet ((go_at_call 9; exact Calls.quiet_of (HS.out _)))
          go_wp2_with fail
          go_roundw
          case rel => exact ⟨k + 1, by omega, by go_num, (by obtain ⟨m, rfl⟩ := HW.out; exact ⟨m + nq, by rw [World.drewN_drewN]⟩), take_more' HX.out HY.out hlt HT.out (by rw [HX1.out, HY1.out, HXY.out])⟩
          case measure => simp [intOf]; omega
        · rw [decide_eq_false hxy] at hS
          have HS := Lib.hid hS
          have HXY := Lib.hid hxy
          clear hxy hS
          go_wp2_with fail
          go_quiet ((go_at_call 9; exact Calls.quiet_of (HS.out _)))
          go_wp2_with fail
          go_ret
          exact ⟨ret_bool (Eq.symm (decide_eq_false (fun he => HXY.out (by rw [← HX1.out, ← HY1.out, he])))), by obtain ⟨m, rfl⟩ := HW.out; exact ⟨m + nq, by rw [World.drewN_drewN]⟩⟩
      · go_wp2_with fail
        go_ret
        have hkn : k = n1 := by omega
        exact ⟨ret_bool (Eq.symm (decide_eq_true (by have := HT.out; rw [List.take_of_length_le (by rw [HX.out]; omega), List.take_of_length_le (by rw [HY.out]; omega)] at this; exact this))), HW.out⟩
  · have e0 : ((n1 : Int) != (n2 : Int)) = true := by rw [bne_iff_ne]; omega
    have HN := Lib.hid hne
    clear hne
    go_enter Try.func12, Try.ntmps12
    go_wp2
    go_ret
    exact ⟨ret_bool (Eq.symm (decide_eq_false (fun h => HN.out (by rw [← HX.out, ← HY.out, h])))), 0, rfl⟩

theorem all_same {w : World} {B : Nat} {a1 a2 : Option Addr} {n1 c1 n2 c2 : Nat} {xs : List (List Nat)} (h1 : Rows w B a1 n1 c1 xs) (h2 : Rows w B a2 n2 c2 xs) :
    Calls Try.prog 12 #[.slice a1 n1 c1, .slice a2 n2 c2] w fun e w' => e = .returned (.bool true) ∧ ∃ m, w' = w.drewN m := by
  have := all_any a1 a2 n1 c1 n2 c2 B xs xs w h1 h2
  rwa [decide_eq_true rfl] at this
end Go.Proofs.Ytgeonmojadkbjaa.Vm
