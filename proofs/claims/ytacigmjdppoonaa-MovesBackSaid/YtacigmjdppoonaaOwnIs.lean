/- Words for ints in new memory ('OwnI'), and the contract of tuggerref01.Ints: are two lists of ints one? Lists of ints that are handed back; a list by a test. No function of the program is named here. -/
import Derived.Test.YtacigmjdppoonaaOwns
import Derived.Test.YtacigmjdppoonaaWords
import Derived.Deep.QuietTactic
import Derived.BigQuiet
namespace Go.Proofs.Ytacigmjdppoonaa.Vm
open Go.RowKit

theorem info_int : (Try.prog.info? 3).map (fun i => (i.zero, i.size, i.bytes)) = some (some (.int .i64 0), 1, 8) := by kernel_rfl

def i64s (l : List Nat) : List Value := l.map fun z => Value.int .i64 (z : Nat)
/-- The call owns these ints. -/
def OwnI (w : World) (B : Nat) (v : Value) (l : List Nat) : Prop := w.ownsRow B 3 1 v l.length (i64s l)

theorem own_pushI {w : World} {B : Nat} {v : Value} {l : List Nat} {x : Nat} (h : w.ownsRow B 3 1 v (l.length + 1) (i64s l ++ [.int .i64 (x : Nat)])) : OwnI w B v (l ++ [x]) := by
  unfold OwnI
  simpa [i64s] using h

theorem push_stepI {w wr w1 : World} {B : Nat} {v v' : Value} {out : List Nat} {x : Nat} {o : Obj} {X : Int} (hX : X = (x : Nat)) (hown : OwnI wr B v out) (hbel : Below B w wr) (hB : B ≤ w.heap.size)
    (hown1 : w1.ownsRow B 3 1 v' (out.length + 1) (i64s out ++ [.int .i64 X])) (hg : (wr.alloc o).grownBy w1 v.ownBlock) : OwnI w1 B v' (out ++ [x]) ∧ Below B w w1 := by
  subst hX
  have hs := hbel.size
  exact ⟨own_pushI hown1, (hbel.alloc (by omega) o).grown hg (by simp; omega) (fun k hk => (World.ownsRow.lt hown k hk).1)⟩

theorem ownI_below {w w' : World} {B : Nat} {v : Value} {l : List Nat} (h : OwnI w B v l) (hb : Below w.heap.size w w') : OwnI w' B v l := by
  refine ⟨h.1, ?_⟩
  rcases h.2 with h2 | ⟨g, cap, cur, rfl, hg, hh, r⟩
  · exact .inl h2
  · exact .inr ⟨g, cap, cur, rfl, hg, by rw [hb.block g (Array.getElem?_eq_some_iff.1 hh).1]; exact hh, r⟩
theorem OwnI.mono {w : World} {B B' : Nat} {v : Value} {l : List Nat} (h : OwnI w B v l) (hB : B' ≤ B) : OwnI w B' v l := by
  refine ⟨h.1, ?_⟩
  rcases h.2 with h2 | ⟨g, cap, cur, hv, hb, r⟩
  · exact .inl h2
  · exact .inr ⟨g, cap, cur, hv, by omega, r⟩

set_option maxRecDepth 100000 in
set_option maxHeartbeats 400000 in
theorem ints_any (a1 a2 : Option Addr) (n1 c1 n2 c2 B : Nat) (xs ys : List Nat) (w : World) (h1 : Row .i64 w B a1 n1 c1 xs) (h2 : Row .i64 w B a2 n2 c2 ys) :
    Calls Try.prog 14 #[.slice a1 n1 c1, .slice a2 n2 c2] w fun e w' => e = .returned (.bool (sameB xs ys)) ∧ ∃ m, w' = w.drewN m := by
  have hm1 := h1.2.2.1
  have hm2 := h2.2.2.1
  have hc1 := h1.2.1
  have hc2 := h2.2.1
  unfold maxLen at hm1 hm2
  have HX := Lib.hid h1.1
  have HY := Lib.hid h2.1
  by_cases hne : n1 = n2
  · subst hne
    have e0 : ((n1 : Int) != (n1 : Int)) = false := by simp
    go_enter Try.func14, Try.ntmps14
    go_wp2
    go_loopw [5] (fun i wr => ∃ k m : Nat, k ≤ n1 ∧ i = .int .i64 k ∧ wr = w.drewN m ∧ Hid (xs.take k = ys.take k)) (fun i _ => n1 - (intOf i).toNat)
    case atStart => exact ⟨0, 0, Nat.zero_le _, rfl, rfl, rfl⟩
    case round =>
      obtain ⟨k, m, hk, rfl, rfl, HT⟩ := hrel
      by_cases hlt : k < n1
      · obtain ⟨b, off, rfl, hb, hcs⟩ := h1.cells (by omega)
        have hcell1 := hcs k hlt
        obtain ⟨b', off', rfl, hb', hcs'⟩ := h2.cells (by omega)
        have hcell2 := hcs' k hlt
        clear hcs hcs'
        generalize hx : xs.getD k 0 = x at hcell1
        generalize hy : ys.getD k 0 = y at hcell2
        have HX1 := Lib.hid hx
        have HY1 := Lib.hid hy
        clear hx hy
        by_cases hxy : x = y
        · have e1 : ((x : Int) != (y : Int)) = false := by simp; omega
          have HXY := Lib.hid hxy
          clear hxy
          go_wp2
          go_quiet (fail)
          go_wp2
          go_roundw
          case rel => exact ⟨k + 1, m + nq, by omega, by go_num, rfl, take_more HX.out HY.out hlt HT.out (by rw [HX1.out, HY1.out, HXY.out])⟩
          case measure => simp [intOf]; omega
        · have e1 : ((x : Int) != (y : Int)) = true := by rw [bne_iff_ne]; omega
          have HXY := Lib.hid hxy
          clear hxy
          go_wp2
          go_quiet (fail)
          go_wp2
          go_ret
          exact ⟨ret_bool (Eq.symm (decide_eq_false (ne_at (k := k) (by rw [HX1.out, HY1.out]; exact HXY.out)))), m + nq, by rw [World.drewN_drewN]⟩
      · go_wp2
        go_ret
        have hkn : k = n1 := by omega
        exact ⟨ret_bool (Eq.symm (decide_eq_true (by have := HT.out; rw [List.take_of_length_le (by rw [HX.out]; omega), List.take_of_length_le (by rw [HY.out]; omega)] at this; exact this))), _, rfl⟩
  · have e0 : ((n1 : Int) != (n2 : Int)) = true := by rw [bne_iff_ne]; omega
    have HN := Lib.hid hne
    clear hne
    go_enter Try.func14, Try.ntmps14
    go_wp2
    go_ret
    exact ⟨ret_bool (Eq.symm (decide_eq_false (fun h => HN.out (by rw [← HX.out, ← HY.out, h])))), 0, rfl⟩
end Go.Proofs.Ytacigmjdppoonaa.Vm

namespace Go.Proofs.Ytacigmjdppoonaa.Vm
open Go.RowKit

/-- Ints in new memory, as a list's reader has it. -/
def ListPost (w : World) (l : List Nat) (e : Ending) (w' : World) : Prop := ∃ v, e = .returned v ∧ OwnI w' w.heap.size v l ∧ Below w.heap.size w w'

theorem filter_snoc (p : Nat → Bool) (k : Nat) : (List.range (k + 1)).filter p = (List.range k).filter p ++ (if p k then [k] else []) := by
  rw [List.range_succ, List.filter_append]
  cases h : p k <;> simp [h]
theorem filter_len (p : Nat → Bool) (k : Nat) : ((List.range k).filter p).length ≤ k := by
  have := List.length_filter_le p (List.range k)
  simpa using this
end Go.Proofs.Ytacigmjdppoonaa.Vm
