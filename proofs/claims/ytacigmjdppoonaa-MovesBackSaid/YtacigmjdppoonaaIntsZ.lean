/- Words for ints with signs in new memory, and the contract of tuggerref01.Ints on them. -/
import Derived.Test.YtacigmjdppoonaaOwnIs
import Derived.Test.YtacigmjdppoonaaWords
import Derived.OneCell
import Derived.Laws.OwnMore
namespace Go.Proofs.Ytacigmjdppoonaa.Vm
open Go Go.RowKit

def intsZ (l : List Int) : List Value := l.map (Value.int .i64)
theorem intsZ_len (l : List Int) : (intsZ l).length = l.length := by simp [intsZ]
theorem intsZ_set (l : List Int) (i : Nat) (z : Int) : (intsZ l).set i (.int .i64 z) = intsZ (l.set i z) := by simp [intsZ, List.map_set]
/-- Ints, in a block of their own. -/
def NumsZ (w : World) (B lb : Nat) (l : List Int) : Prop := w.ownsRow B 3 1 (.slice (some ⟨lb, 0, none⟩) l.length l.length) l.length (intsZ l)

theorem own_upto {w w' : World} {base B size n : Nat} {e : TypeId} {v : Value} {xs : List Value} (h : w.ownsRow base e size v n xs) (hb : Below B w w') (hv : ∀ k, v.ownBlock = some k → k < B) : w'.ownsRow base e size v n xs := by
  refine ⟨h.1, ?_⟩
  rcases h.2 with h2 | ⟨g, cap, cur, rfl, hg, hh, r⟩
  · exact .inl h2
  · exact .inr ⟨g, cap, cur, rfl, hg, (hb.block g (hv g rfl)).trans hh, r⟩

section
variable {w w' : World} {B lb i n : Nat} {l : List Int}
theorem NumsZ.cell (h : NumsZ w B lb l) (hi : i < l.length) : w.cell? ⟨lb, i, none⟩ = some (.int .i64 (l.getD i 0)) :=
  (World.ownsRow.cellAt h i (by omega)).trans (by simp [intsZ, List.getD, hi])
theorem NumsZ.frozen (h : NumsZ w B lb l) (i : Nat) : w.frozen? ⟨lb, i, none⟩ = false := World.ownsRow.frozenAt h i
theorem NumsZ.base (h : NumsZ w B lb l) : B ≤ lb ∧ lb < w.heap.size := World.ownsRow.lt h lb rfl
theorem NumsZ.set (h : NumsZ w B lb l) (i : Nat) (z : Int) : NumsZ (w.setCell ⟨lb, i, none⟩ (.int .i64 z)) B lb (l.set i z) := by
  have := (World.ownsRow.stored h i (.int .i64 z)).1
  unfold NumsZ
  rw [List.length_set, ← intsZ_set]
  exact this
theorem NumsZ.below {B' : Nat} (h : NumsZ w B lb l) (hb : Below B' w w') (hl : lb < B') : NumsZ w' B lb l := own_upto h hb (fun k hk => by
    have e : lb = k := by simpa [Value.ownBlock] using hk
    omega)
theorem NumsZ.mono {B' : Nat} (h : NumsZ w B lb l) (hB : B' ≤ B) : NumsZ w B' lb l := by
  refine ⟨h.1, ?_⟩
  rcases h.2 with h2 | ⟨g, cap, cur, hv, hb, r⟩
  · exact .inl h2
  · exact .inr ⟨g, cap, cur, hv, by omega, r⟩
theorem NumsZ.calls (h : NumsZ w B lb l) (hb : Below w.heap.size w w') : NumsZ w' B lb l := h.below hb h.base.2
theorem NumsZ.alloc (h : NumsZ w B lb l) (o : Obj) : NumsZ (w.alloc o) B lb l := World.ownsRow.alloc h o
theorem NumsZ.row (h : NumsZ w B lb l) : RowZ .i64 w w.heap.size (some ⟨lb, 0, none⟩) l.length l.length l :=
  ⟨rfl, Nat.le_refl _, by
    rcases h.2 with ⟨h1, _⟩ | ⟨g, cap, cur, h1, _, _, _, hm, _⟩
    · cases h1
    · injection h1 with _ _ h3
      omega, fun _ => ⟨lb, 0, rfl, h.base.2, fun i hi => by rw [Nat.zero_add]; exact h.cell hi⟩⟩
end

/-- What is made and filled from the left. -/
def fillZ (N i : Nat) : List Int := (List.range N).map fun j => if j < i then -1 else 0
theorem fillZ_len (N i : Nat) : (fillZ N i).length = N := by simp [fillZ]
theorem fillZ_start (N : Nat) : fillZ N 0 = List.replicate N 0 := by
  unfold fillZ
  apply List.ext_getElem
  · simp
  · intro j h1 h2; simp
theorem fillZ_end (N : Nat) : fillZ N N = List.replicate N (-1) := by
  unfold fillZ
  apply List.ext_getElem
  · simp
  · intro j h1 h2
    simp at h1
    simp [h1]
theorem fillZ_set (N i : Nat) : (fillZ N i).set i (-1) = fillZ N (i + 1) := by
  unfold fillZ
  apply List.ext_getElem
  · simp
  · intro j h1 h2
    simp only [List.getElem_set, List.getElem_map, List.getElem_range]
    by_cases h : i = j
    · subst h; simp
    · rw [if_neg h]
      by_cases h3 : j < i
      · rw [if_pos h3, if_pos (by omega)]
      · rw [if_neg h3, if_neg (by omega)]
/-- A slice that has just been made. -/
theorem numsZ_made (w : World) (N : Nat) (hN : N ≤ 1000000) : NumsZ (w.alloc (.cells ⟨intsZ (List.replicate N 0)⟩ 3)) w.heap.size w.heap.size (List.replicate N 0) := by
  have := World.ownsRow_lit (base := w.heap.size) (e := 3) (size := 1) w ⟨intsZ (List.replicate N 0)⟩ N (Nat.le_refl _) (by unfold maxLen; omega) (by simp [intsZ])
  unfold NumsZ
  rw [List.length_replicate]
  exact this
theorem make_ints (w : World) (N : Nat) (hN : N ≤ 1000000) : (Instr.makeSlice 27 (.int .i64 (N : Int)) (.int .i64 (N : Int))).run Try.prog w = .ok (.slice (some ⟨w.heap.size, 0, none⟩) N N) (w.alloc (.cells ⟨intsZ (List.replicate N 0)⟩ 3)) := by
  obtain ⟨j0, hj0, hy0, hy1, hy2⟩ := info_parts info_int
  have hmk := run_make (P := Try.prog) w 27 3 j0 (.int .i64 0) Try.underlying27 hj0 hy0 .i64 .i64 N N (by omega) (Int.le_refl _) (by rw [hy2]; omega) (by omega)
  simp only [Int.toNat_natCast] at hmk
  rw [hy1] at hmk
  have hmc : (madeCells (Value.int .i64 0).cells (N * 1)) = ⟨intsZ (List.replicate N 0)⟩ := by
    apply Array.ext'
    simp only [Value.cells]
    rw [Nat.mul_one, toList_madeCells_one]
    simp [intsZ]
  rw [hmc] at hmk
  exact hmk

/-- Equal as far as k. -/
theorem take_moreZ {xs ys : List Int} {k n : Nat} (hx : xs.length = n) (hy : ys.length = n) (hk : k < n) (h : xs.take k = ys.take k) (he : xs.getD k 0 = ys.getD k 0) : xs.take (k + 1) = ys.take (k + 1) := by
  rw [List.take_succ_eq_append_getElem (by omega), List.take_succ_eq_append_getElem (by omega), h]
  simp only [List.getD, List.getElem?_eq_getElem (show k < xs.length by omega), List.getElem?_eq_getElem (show k < ys.length by omega), Option.getD_some] at he
  rw [he]
theorem ne_atZ {xs ys : List Int} {k : Nat} (he : xs.getD k 0 ≠ ys.getD k 0) : xs ≠ ys := fun h => he (by rw [h])

set_option maxRecDepth 100000 in
set_option maxHeartbeats 400000 in
theorem ints_anyZ (a1 a2 : Option Addr) (n1 c1 n2 c2 B : Nat) (xs ys : List Int) (w : World) (h1 : RowZ .i64 w B a1 n1 c1 xs) (h2 : RowZ .i64 w B a2 n2 c2 ys) :
    Calls Try.prog 14 #[.slice a1 n1 c1, .slice a2 n2 c2] w fun e w' => e = .returned (.bool (decide (xs = ys))) ∧ ∃ m, w' = w.drewN m := by
  have hm1 := h1.2.2.1
  have hm2 := h2.2.2.1
  have hc1 := h1.2.1
  have hc2 := h2.2.1
  unfold maxLen at hm1 hm2
  have HX := Lib.hid h1.1
  have HY := Lib.hid h2.1
  by_cases hne : n1 = n2
  · subst hne
    have e0 : ((n1 : Int) != (n1 : Int)) = false := by simp
    go_enter Try.func14, Try.ntmps14
    go_wp2
    go_loopw [5] (fun i wr => ∃ k m : Nat, k ≤ n1 ∧ i = .int .i64 k ∧ wr = w.drewN m ∧ Hid (xs.take k = ys.take k)) (fun i _ => n1 - (intOf i).toNat)
    case atStart => exact ⟨0, 0, Nat.zero_le _, rfl, rfl, rfl⟩
    case round =>
      obtain ⟨k, m, hk, rfl, rfl, HT⟩ := hrel
      by_cases hlt : k < n1
      · obtain ⟨b, off, rfl, hb, hcs⟩ := h1.cells (by omega)
        have hcell1 := hcs k hlt
        obtain ⟨b', off', rfl, hb', hcs'⟩ := h2.cells (by omega)
        have hcell2 := hcs' k hlt
        clear hcs hcs'
        generalize hx : xs.getD k 0 = x at hcell1
        generalize hy : ys.getD k 0 = y at hcell2
        have HX1 := Lib.hid hx
        have HY1 := Lib.hid hy
        clear hx hy
        by_cases hxy : x = y
        · have e1 : (x != y) = false := by simp; omega
          have HXY := Lib.hid hxy
          clear hxy
          go_wp2
          go_quiet (fail)
          go_wp2
          go_roundw
          case rel => exact ⟨k + 1, m + nq, by omega, by go_num, rfl, take_moreZ HX.out HY.out hlt HT.out (by rw [HX1.out, HY1.out, HXY.out])⟩
          case measure => simp [intOf]; omega
        · have e1 : (x != y) = true := by rw [bne_iff_ne]; omega
          have HXY := Lib.hid hxy
          clear hxy
          go_wp2
          go_quiet (fail)
          go_wp2
          go_ret
          exact ⟨ret_bool (Eq.symm (decide_eq_false (ne_atZ (k := k) (by rw [HX1.out, HY1.out]; exact HXY.out)))), m + nq, by rw [World.drewN_drewN]⟩
      · go_wp2
        go_ret
        have hkn : k = n1 := by omega
        exact ⟨ret_bool (Eq.symm (decide_eq_true (by have := HT.out; rw [List.take_of_length_le (by rw [HX.out]; omega), List.take_of_length_le (by rw [HY.out]; omega)] at this; exact this))), _, rfl⟩
  · have e0 : ((n1 : Int) != (n2 : Int)) = true := by rw [bne_iff_ne]; omega
    have HN := Lib.hid hne
    clear hne
    go_enter Try.func14, Try.ntmps14
    go_wp2
    go_ret
    exact ⟨ret_bool (Eq.symm (decide_eq_false (fun h => HN.out (by rw [← HX.out, ← HY.out, h])))), 0, rfl⟩
/-- A row lies in no block of another type. -/
theorem own_apart {w : World} {B size n k : Nat} {e t : TypeId} {v : Value} {xs : List Value} {cs : Array Value} {fr : Nat × Nat} (ho : w.ownsRow B e size v n xs) (hk : w.heap[k]? = some (.cells cs t fr)) (hne : e ≠ t) : v.ownBlock ≠ some k := fun ek => by
  rcases ho.2 with ⟨rfl, _⟩ | ⟨g, cap, cur, rfl, hb, hh, _⟩
  · cases ek
  · injection ek with ek
    have ek' : g = k := ek
    subst ek'
    rw [hk] at hh
    injection hh with hh
    injection hh with _ hh
    exact hne hh.symm
/-- Two rows of different types lie apart. -/
theorem own_own {w : World} {B size n B' size' n' : Nat} {e e' : TypeId} {v v' : Value} {xs xs' : List Value} (ho : w.ownsRow B e size v n xs) (ho' : w.ownsRow B' e' size' v' n' xs') (hne : e ≠ e') : v'.ownBlock = none ∨ v'.ownBlock ≠ v.ownBlock := by
  rcases ho'.2 with ⟨rfl, _⟩ | ⟨g, cap, cur, rfl, hb, hh, _⟩
  · exact .inl rfl
  · exact .inr fun e => own_apart ho hh hne e.symm
end Go.Proofs.Ytacigmjdppoonaa.Vm
