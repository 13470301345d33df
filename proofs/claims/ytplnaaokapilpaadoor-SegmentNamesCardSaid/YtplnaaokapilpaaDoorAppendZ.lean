/- Words for ints in new memory ('OwnI'), and the contract of tuggerref01.Ints: are two lists of ints one? Lists of ints that are handed back; a list by a test. No function of the program is named here. Words for ints with signs in new memory, and the contract of tuggerref01.Ints on them. Ints appended to ints that the call owns, whatever slice they come of: as one step of a region that draws its order. -/
import Derived.Test.YtplnaaokapilpaaDoorOwns
import Derived.Test.YtplnaaokapilpaaDoorWords
import Derived.Deep.QuietTactic
import Derived.BigQuiet
import Derived.OneCell
import Derived.Laws.OwnMore
import Derived.ArgAppend
import Derived.Deep.RegionHeld3
namespace Go.Proofs.YtplnaaokapilpaaDoor.Vm
open Go.RowKit

theorem info_int : (Tryd.prog.info? 3).map (fun i => (i.zero, i.size, i.bytes)) = some (some (.int .i64 0), 1, 8) := by kernel_rfl

def i64s (l : List Nat) : List Value := l.map fun z => Value.int .i64 (z : Nat)
/-- The call owns these ints. -/
def OwnI (w : World) (B : Nat) (v : Value) (l : List Nat) : Prop := w.ownsRow B 3 1 v l.length (i64s l)

theorem own_pushI {w : World} {B : Nat} {v : Value} {l : List Nat} {x : Nat} (h : w.ownsRow B 3 1 v (l.length + 1) (i64s l ++ [.int .i64 (x : Nat)])) : OwnI w B v (l ++ [x]) := by
  unfold OwnI
  simpa [i64s] using h

theorem push_stepI {w wr w1 : World} {B : Nat} {v v' : Value} {out : List Nat} {x : Nat} {o : Obj} {X : Int} (hX : X = (x : Nat)) (hown : OwnI wr B v out) (hbel : Below B w wr) (hB : B ≤ w.heap.size)
    (hown1 : w1.ownsRow B 3 1 v' (out.length + 1) (i64s out ++ [.int .i64 X])) (hg : (wr.alloc o).grownBy w1 v.ownBlock) : OwnI w1 B v' (out ++ [x]) ∧ Below B w w1 := by
  subst hX
  have hs := hbel.size
  exact ⟨own_pushI hown1, (hbel.alloc (by omega) o).grown hg (by simp; omega) (fun k hk => (World.ownsRow.lt hown k hk).1)⟩

theorem ownI_below {w w' : World} {B : Nat} {v : Value} {l : List Nat} (h : OwnI w B v l) (hb : Below w.heap.size w w') : OwnI w' B v l := by
  refine ⟨h.1, ?_⟩
  rcases h.2 with h2 | ⟨g, cap, cur, rfl, hg, hh, r⟩
  · exact .inl h2
  · exact .inr ⟨g, cap, cur, rfl, hg, by rw [hb.block g (Array.getElem?_eq_some_iff.1 hh).1]; exact hh, r⟩
theorem OwnI.mono {w : World} {B B' : Nat} {v : Value} {l : List Nat} (h : OwnI w B v l) (hB : B' ≤ B) : OwnI w B' v l := by
  refine ⟨h.1, ?_⟩
  rcases h.2 with h2 | ⟨g, cap, cur, hv, hb, r⟩
  · exact .inl h2
  · exact .inr ⟨g, cap, cur, hv, by omega, r⟩

set_option maxRecDepth 100000 in
set_option maxHeartbeats 400000 in
theorem ints_any (a1 a2 : Option Addr) (n1 c1 n2 c2 B : Nat) (xs ys : List Nat) (w : World) (h1 : Row .i64 w B a1 n1 c1 xs) (h2 : Row .i64 w B a2 n2 c2 ys) :
    Calls Tryd.prog 14 #[.slice a1 n1 c1, .slice a2 n2 c2] w fun e w' => e = .returned (.bool (sameB xs ys)) ∧ ∃ m, w' = w.drewN m := by
  have hm1 := h1.2.2.1
  have hm2 := h2.2.2.1
  have hc1 := h1.2.1
  have hc2 := h2.2.1
  unfold maxLen at hm1 hm2
  have HX := Lib.hid h1.1
  have HY := Lib.hid h2.1
  by_cases hne : n1 = n2
  · subst hne
    have e0 : ((n1 : Int) != (n1 : Int)) = false := by simp
    go_enter Tryd.func14, Tryd.ntmps14
    go_wp2
    go_loopw [5] (fun i wr => ∃ k m : Nat, k ≤ n1 ∧ i = .int .i64 k ∧ wr = w.drewN m ∧ Hid (xs.take k = ys.take k)) (fun i _ => n1 - (intOf i).toNat)
    case atStart => exact ⟨0, 0, Nat.zero_le _, rfl, rfl, rfl⟩
    case round =>
      obtain ⟨k, m, hk, rfl, rfl, HT⟩ := hrel
      by_cases hlt : k < n1
      · obtain ⟨b, off, rfl, hb, hcs⟩ := h1.cells (by omega)
        have hcell1 := hcs k hlt
        obtain ⟨b', off', rfl, hb', hcs'⟩ := h2.cells (by omega)
        have hcell2 := hcs' k hlt
        clear hcs hcs'
        generalize hx : xs.getD k 0 = x at hcell1
        generalize hy : ys.getD k 0 = y at hcell2
        have HX1 := Lib.hid hx
        have HY1 := Lib.hid hy
        clear hx hy
        by_cases hxy : x = y
        · have e1 : ((x : Int) != (y : Int)) = false := by simp; omega
          have HXY := Lib.hid hxy
          clear hxy
          go_wp2
          go_quiet (fail)
          go_wp2
          go_roundw
          case rel => exact ⟨k + 1, m + nq, by omega, by go_num, rfl, take_more HX.out HY.out hlt HT.out (by rw [HX1.out, HY1.out, HXY.out])⟩
          case measure => simp [intOf]; omega
        · have e1 : ((x : Int) != (y : Int)) = true := by rw [bne_iff_ne]; omega
          have HXY := Lib.hid hxy
          clear hxy
          go_wp2
          go_quiet (fail)
          go_wp2
          go_ret
          exact ⟨ret_bool (Eq.symm (decide_eq_false (ne_at (k := k) (by rw [HX1.out, HY1.out]; exact HXY.out)))), m + nq, by rw [World.drewN_drewN]⟩
      · go_wp2
        go_ret
        have hkn : k = n1 := by omega
        exact ⟨ret_bool (Eq.symm (decide_eq_true (by have := HT.out; rw [List.take_of_length_le (by rw [HX.out]; omega), List.take_of_length_le (by rw [HY.out]; omega)] at this; exact this))), _, rfl⟩
  · have e0 : ((n1 : Int) != (n2 : Int)) = true := by rw [bne_iff_ne]; omega
    have HN := Lib.hid hne
    clear hne
    go_enter Tryd.func14, Tryd.ntmps14
    go_wp2
    go_ret
    exact ⟨ret_bool (Eq.symm (decide_eq_false (fun h => HN.out (by rw [← HX.out, ← HY.out, h])))), 0, rfl⟩
end Go.Proofs.YtplnaaokapilpaaDoor.Vm

namespace Go.Proofs.YtplnaaokapilpaaDoor.Vm
open Go.RowKit

/-- Ints in new memory, as a list's reader has it. -/
def ListPost (w : World) (l : List Nat) (e : Ending) (w' : World) : Prop := ∃ v, e = .returned v ∧ OwnI w' w.heap.size v l ∧ Below w.heap.size w w'

theorem filter_snoc (p : Nat → Bool) (k : Nat) : (List.range (k + 1)).filter p = (List.range k).filter p ++ (if p k then [k] else []) := by
  rw [List.range_succ, List.filter_append]
  cases h : p k <;> simp [h]
theorem filter_len (p : Nat → Bool) (k : Nat) : ((List.range k).filter p).length ≤ k := by
  have := List.length_filter_le p (List.range k)
  simpa using this
end Go.Proofs.YtplnaaokapilpaaDoor.Vm

namespace Go.Proofs.YtplnaaokapilpaaDoor.Vm
open Go Go.RowKit

def intsZ (l : List Int) : List Value := l.map (Value.int .i64)
theorem intsZ_len (l : List Int) : (intsZ l).length = l.length := by simp [intsZ]
theorem intsZ_set (l : List Int) (i : Nat) (z : Int) : (intsZ l).set i (.int .i64 z) = intsZ (l.set i z) := by simp [intsZ, List.map_set]
/-- Ints, in a block of their own. -/
def NumsZ (w : World) (B lb : Nat) (l : List Int) : Prop := w.ownsRow B 3 1 (.slice (some ⟨lb, 0, none⟩) l.length l.length) l.length (intsZ l)

theorem own_upto {w w' : World} {base B size n : Nat} {e : TypeId} {v : Value} {xs : List Value} (h : w.ownsRow base e size v n xs) (hb : Below B w w') (hv : ∀ k, v.ownBlock = some k → k < B) : w'.ownsRow base e size v n xs := by
  refine ⟨h.1, ?_⟩
  rcases h.2 with h2 | ⟨g, cap, cur, rfl, hg, hh, r⟩
  · exact .inl h2
  · exact .inr ⟨g, cap, cur, rfl, hg, (hb.block g (hv g rfl)).trans hh, r⟩

section
variable {w w' : World} {B lb i n : Nat} {l : List Int}
theorem NumsZ.cell (h : NumsZ w B lb l) (hi : i < l.length) : w.cell? ⟨lb, i, none⟩ = some (.int .i64 (l.getD i 0)) :=
  (World.ownsRow.cellAt h i (by omega)).trans (by simp [intsZ, List.getD, hi])
theorem NumsZ.frozen (h : NumsZ w B lb l) (i : Nat) : w.frozen? ⟨lb, i, none⟩ = false := World.ownsRow.frozenAt h i
theorem NumsZ.base (h : NumsZ w B lb l) : B ≤ lb ∧ lb < w.heap.size := World.ownsRow.lt h lb rfl
theorem NumsZ.set (h : NumsZ w B lb l) (i : Nat) (z : Int) : NumsZ (w.setCell ⟨lb, i, none⟩ (.int .i64 z)) B lb (l.set i z) := by
  have := (World.ownsRow.stored h i (.int .i64 z)).1
  unfold NumsZ
  rw [List.length_set, ← intsZ_set]
  exact this
theorem NumsZ.below {B' : Nat} (h : NumsZ w B lb l) (hb : Below B' w w') (hl : lb < B') : NumsZ w' B lb l := own_upto h hb (fun k hk => by
    have e : lb = k := by simpa [Value.ownBlock] using hk
    omega)
theorem NumsZ.mono {B' : Nat} (h : NumsZ w B lb l) (hB : B' ≤ B) : NumsZ w B' lb l := by
  refine ⟨h.1, ?_⟩
  rcases h.2 with h2 | ⟨g, cap, cur, hv, hb, r⟩
  · exact .inl h2
  · exact .inr ⟨g, cap, cur, hv, by omega, r⟩
theorem NumsZ.calls (h : NumsZ w B lb l) (hb : Below w.heap.size w w') : NumsZ w' B lb l := h.below hb h.base.2
theorem NumsZ.alloc (h : NumsZ w B lb l) (o : Obj) : NumsZ (w.alloc o) B lb l := World.ownsRow.alloc h o
theorem NumsZ.row (h : NumsZ w B lb l) : RowZ .i64 w w.heap.size (some ⟨lb, 0, none⟩) l.length l.length l :=
  ⟨rfl, Nat.le_refl _, by
    rcases h.2 with ⟨h1, _⟩ | ⟨g, cap, cur, h1, _, _, _, hm, _⟩
    · cases h1
    · injection h1 with _ _ h3
      omega, fun _ => ⟨lb, 0, rfl, h.base.2, fun i hi => by rw [Nat.zero_add]; exact h.cell hi⟩⟩
end

/-- What is made and filled from the left. -/
def fillZ (N i : Nat) : List Int := (List.range N).map fun j => if j < i then -1 else 0
theorem fillZ_len (N i : Nat) : (fillZ N i).length = N := by simp [fillZ]
theorem fillZ_start (N : Nat) : fillZ N 0 = List.replicate N 0 := by
  unfold fillZ
  apply List.ext_getElem
  · simp
  · intro j h1 h2; simp
theorem fillZ_end (N : Nat) : fillZ N N = List.replicate N (-1) := by
  unfold fillZ
  apply List.ext_getElem
  · simp
  · intro j h1 h2
    simp at h1
    simp [h1]
theorem fillZ_set (N i : Nat) : (fillZ N i).set i (-1) = fillZ N (i + 1) := by
  unfold fillZ
  apply List.ext_getElem
  · simp
  · intro j h1 h2
    simp only [List.getElem_set, List.getElem_map, List.getElem_range]
    by_cases h : i = j
    · subst h; simp
    · rw [if_neg h]
      by_cases h3 : j < i
      · rw [if_pos h3, if_pos (by omega)]
      · rw [if_neg h3, if_neg (by omega)]
/-- A slice that has just been made. -/
theorem numsZ_made (w : World) (N : Nat) (hN : N ≤ 1000000) : NumsZ (w.alloc (.cells ⟨intsZ (List.replicate N 0)⟩ 3)) w.heap.size w.heap.size (List.replicate N 0) := by
  have := World.ownsRow_lit (base := w.heap.size) (e := 3) (size := 1) w ⟨intsZ (List.replicate N 0)⟩ N (Nat.le_refl _) (by unfold maxLen; omega) (by simp [intsZ])
  unfold NumsZ
  rw [List.length_replicate]
  exact this
theorem make_ints (w : World) (N : Nat) (hN : N ≤ 1000000) : (Instr.makeSlice 30 (.int .i64 (N : Int)) (.int .i64 (N : Int))).run Tryd.prog w = .ok (.slice (some ⟨w.heap.size, 0, none⟩) N N) (w.alloc (.cells ⟨intsZ (List.replicate N 0)⟩ 3)) := by
  obtain ⟨j0, hj0, hy0, hy1, hy2⟩ := info_parts info_int
  have hmk := run_make (P := Tryd.prog) w 30 3 j0 (.int .i64 0) Tryd.underlying30 hj0 hy0 .i64 .i64 N N (by omega) (Int.le_refl _) (by rw [hy2]; omega) (by omega)
  simp only [Int.toNat_natCast] at hmk
  rw [hy1] at hmk
  have hmc : (madeCells (Value.int .i64 0).cells (N * 1)) = ⟨intsZ (List.replicate N 0)⟩ := by
    apply Array.ext'
    simp only [Value.cells]
    rw [Nat.mul_one, toList_madeCells_one]
    simp [intsZ]
  rw [hmc] at hmk
  exact hmk

/-- Equal as far as k. -/
theorem take_moreZ {xs ys : List Int} {k n : Nat} (hx : xs.length = n) (hy : ys.length = n) (hk : k < n) (h : xs.take k = ys.take k) (he : xs.getD k 0 = ys.getD k 0) : xs.take (k + 1) = ys.take (k + 1) := by
  rw [List.take_succ_eq_append_getElem (by omega), List.take_succ_eq_append_getElem (by omega), h]
  simp only [List.getD, List.getElem?_eq_getElem (show k < xs.length by omega), List.getElem?_eq_getElem (show k < ys.length by omega), Option.getD_some] at he
  rw [he]
theorem ne_atZ {xs ys : List Int} {k : Nat} (he : xs.getD k 0 ≠ ys.getD k 0) : xs ≠ ys := fun h => he (by rw [h])

set_option maxRecDepth 100000 in
set_option maxHeartbeats 400000 in
theorem ints_anyZ (a1 a2 : Option Addr) (n1 c1 n2 c2 B : Nat) (xs ys : List Int) (w : World) (h1 : RowZ .i64 w B a1 n1 c1 xs) (h2 : RowZ .i64 w B a2 n2 c2 ys) :
    Calls Tryd.prog 14 #[.slice a1 n1 c1, .slice a2 n2 c2] w fun e w' => e = .returned (.bool (decide (xs = ys))) ∧ ∃ m, w' = w.drewN m := by
  have hm1 := h1.2.2.1
  have hm2 := h2.2.2.1
  have hc1 := h1.2.1
  have hc2 := h2.2.1
  unfold maxLen at hm1 hm2
  have HX := Lib.hid h1.1
  have HY := Lib.hid h2.1
  by_cases hne : n1 = n2
  · subst hne
    have e0 : ((n1 : Int) != (n1 : Int)) = false := by simp
    go_enter Tryd.func14, Tryd.ntmps14
    go_wp2
    go_loopw [5] (fun i wr => ∃ k m : Nat, k ≤ n1 ∧ i = .int .i64 k ∧ wr = w.drewN m ∧ Hid (xs.take k = ys.take k)) (fun i _ => n1 - (intOf i).toNat)
    case atStart => exact ⟨0, 0, Nat.zero_le _, rfl, rfl, rfl⟩
    case round =>
      obtain ⟨k, m, hk, rfl, rfl, HT⟩ := hrel
      by_cases hlt : k < n1
      · obtain ⟨b, off, rfl, hb, hcs⟩ := h1.cells (by omega)
        have hcell1 := hcs k hlt
        obtain ⟨b', off', rfl, hb', hcs'⟩ := h2.cells (by omega)
        have hcell2 := hcs' k hlt
        clear hcs hcs'
        generalize hx : xs.getD k 0 = x at hcell1
        generalize hy : ys.getD k 0 = y at hcell2
        have HX1 := Lib.hid hx
        have HY1 := Lib.hid hy
        clear hx hy
        by_cases hxy : x = y
        · have e1 : (x != y) = false := by simp; omega
          have HXY := Lib.hid hxy
          clear hxy
          go_wp2
          go_quiet (fail)
          go_wp2
          go_roundw
          case rel => exact ⟨k + 1, m + nq, by omega, by go_num, rfl, take_moreZ HX.out HY.out hlt HT.out (by rw [HX1.out, HY1.out, HXY.out])⟩
          case measure => simp [intOf]; omega
        · have e1 : (x != y) = true := by rw [bne_iff_ne]; omega
          have HXY := Lib.hid hxy
          clear hxy
          go_wp2
          go_quiet (fail)
          go_wp2
          go_ret
          exact ⟨ret_bool (Eq.symm (decide_eq_false (ne_atZ (k := k) (by rw [HX1.out, HY1.out]; exact HXY.out)))), m + nq, by rw [World.drewN_drewN]⟩
      · go_wp2
        go_ret
        have hkn : k = n1 := by omega
        exact ⟨ret_bool (Eq.symm (decide_eq_true (by have := HT.out; rw [List.take_of_length_le (by rw [HX.out]; omega), List.take_of_length_le (by rw [HY.out]; omega)] at this; exact this))), _, rfl⟩
  · have e0 : ((n1 : Int) != (n2 : Int)) = true := by rw [bne_iff_ne]; omega
    have HN := Lib.hid hne
    clear hne
    go_enter Tryd.func14, Tryd.ntmps14
    go_wp2
    go_ret
    exact ⟨ret_bool (Eq.symm (decide_eq_false (fun h => HN.out (by rw [← HX.out, ← HY.out, h])))), 0, rfl⟩
/-- A row lies in no block of another type. -/
theorem own_apart {w : World} {B size n k : Nat} {e t : TypeId} {v : Value} {xs : List Value} {cs : Array Value} {fr : Nat × Nat} (ho : w.ownsRow B e size v n xs) (hk : w.heap[k]? = some (.cells cs t fr)) (hne : e ≠ t) : v.ownBlock ≠ some k := fun ek => by
  rcases ho.2 with ⟨rfl, _⟩ | ⟨g, cap, cur, rfl, hb, hh, _⟩
  · cases ek
  · injection ek with ek
    have ek' : g = k := ek
    subst ek'
    rw [hk] at hh
    injection hh with hh
    injection hh with _ hh
    exact hne hh.symm
/-- Two rows of different types lie apart. -/
theorem own_own {w : World} {B size n B' size' n' : Nat} {e e' : TypeId} {v v' : Value} {xs xs' : List Value} (ho : w.ownsRow B e size v n xs) (ho' : w.ownsRow B' e' size' v' n' xs') (hne : e ≠ e') : v'.ownBlock = none ∨ v'.ownBlock ≠ v.ownBlock := by
  rcases ho'.2 with ⟨rfl, _⟩ | ⟨g, cap, cur, rfl, hb, hh, _⟩
  · exact .inl rfl
  · exact .inr fun e => own_apart ho hh hne e.symm
end Go.Proofs.YtplnaaokapilpaaDoor.Vm

namespace Go.Proofs.YtplnaaokapilpaaDoor.Vm
open Go Go.RowKit

/-- The call owns these ints. -/
def OwnZ (w : World) (B : Nat) (v : Value) (l : List Int) : Prop := w.ownsRow B 3 1 v l.length (intsZ l)
theorem ownZ_empty (w : World) {B : Nat} (hB : B ≤ w.heap.size) : OwnZ (w.alloc (.cells #[] 3)) B (.slice (some ⟨w.heap.size, 0, none⟩) 0 0) [] := by
  have := World.ownsRow_lit (base := B) (e := 3) (size := 1) w #[] 0 hB (by unfold maxLen; omega) rfl
  exact this
theorem OwnZ.row {w : World} {B : Nat} {v : Value} {l : List Int} (h : OwnZ w B v l) : ∃ a c, v = .slice a l.length c ∧ RowZ .i64 w w.heap.size a l.length c l := by
  rcases h.2 with ⟨rfl, hn⟩ | ⟨g, cap, cur, rfl, hb, hg, hnc, hm, hcs, htk⟩
  · have hn' : l.length = 0 := hn
    obtain rfl := List.eq_nil_of_length_eq_zero hn'
    exact ⟨none, 0, rfl, rfl, Nat.le_refl _, by simp [maxLen], fun h => absurd h (by simp)⟩
  · refine ⟨_, cap, rfl, rfl, hnc, hm, fun _ => ⟨g, 0, rfl, (Array.getElem?_eq_some_iff.1 hg).1, fun i hi => ?_⟩⟩
    have := World.ownsRow.cells h (g := g) rfl i (.int .i64 (l.getD i 0)) (by simp [intsZ, List.getD, hi])
    rwa [Row.add] at this
theorem cells_rowZ {w : World} {B : Nat} {ad : Addr} {n c : Nat} {l : List Int} (h : RowZ .i64 w B (some ad) n c l) : ∀ j u, (intsZ l)[j]? = some u → w.cell? (ad.add j) = some u := by
  intro j u hu
  have hj : j < l.length := by
    have := (List.getElem?_eq_some_iff.1 hu).1
    simpa [intsZ] using this
  obtain ⟨b, off, e1, _, hc⟩ := h.cells (by have := h.1; omega)
  injection e1 with e1
  subst e1
  rw [Row.add, hc j (by have := h.1; omega)]
  simp [intsZ, hj] at hu
  rw [← hu]
  simp [List.getD, hj]
theorem run_append_noneZ {P : Program} {w : World} (base : Nat) (t ty e : TypeId) (i : TypeInfo) (size : Nat) (ht : P.underlying t = some (.slice e)) (hi : P.info? e = some i)
    (v : Value) (n c : Nat) (xs : List Value) (hown : w.ownsRow base e size v n xs) : (Builtin.append_ #[t, t] ty #[v, .slice none 0 c]).run P w = .ok v w := by
  rcases hown.2 with ⟨rfl, rfl⟩ | ⟨g, cap, cur, rfl, _, _, hnc, _⟩
  · simp [Builtin.append_, run_underlying ht, sizeOf, typeInfo, hi, Builtin.lenOf, Builtin.firstCells]
  · simp [Builtin.append_, run_underlying ht, sizeOf, typeInfo, hi, Builtin.lenOf, Builtin.firstCells, hnc, storeCells]

/-- What an append leaves. -/
theorem run_append_z {w : World} (ty : TypeId) {B : Nat} {v : Value} {out : List Int} (hown : OwnZ w B v out) {ao : Option Addr} {m c B2 : Nat} {l : List Int} (hr : RowZ .i64 w B2 ao m c l) (hlen : out.length + m ≤ 1000000) (hB : B ≤ w.heap.size) :
    ∃ v' w', (Builtin.append_ #[30, 30] ty #[v, .slice ao m c]).run Tryd.prog w = .ok v' w' ∧ OwnZ w' B v' (out ++ l) ∧ Below B w w' := by
  obtain ⟨i0, hi0, hz0, hz1, hz2⟩ := info_parts info_int
  have hlm : l.length = m := hr.1
  cases ao with
  | none =>
    have hm0 : m = 0 := by
      rcases Nat.eq_zero_or_pos m with h0 | h0
      · exact h0
      · obtain ⟨b, off, e, _⟩ := hr.cells h0; cases e
    subst hm0
    obtain rfl := List.eq_nil_of_length_eq_zero hlm
    exact ⟨v, w, run_append_noneZ B 30 ty 3 i0 1 Tryd.underlying30 hi0 v out.length c (intsZ out) hown, by rw [List.append_nil]; exact hown, Below.refl _ _⟩
  | some ad =>
    obtain ⟨v', w', hrun, hown', hg, _⟩ := run_append_own (P := Tryd.prog) w B 30 ty 3 i0 (.int .i64 0) 1 8 Tryd.underlying30 hi0 hz0 hz1 hz2 rfl (by decide) v out.length (intsZ out) hown ad m c (intsZ l) (by rw [intsZ_len]; omega) (cells_rowZ hr)
      (fun u hu => by obtain ⟨_, _, rfl⟩ := List.mem_map.1 hu; rfl) (by unfold maxLen; omega) (by omega) hB
    refine ⟨v', w', hrun, ?_, (Below.refl _ _).grown hg hB (fun k hk => (World.ownsRow.lt hown k hk).1)⟩
    unfold OwnZ
    rw [List.length_append, hlm]
    simpa [intsZ] using hown'

theorem step_append_z {ops : Array Oper} {o : Oper} {a : Act} {w : World} {K : Act → World → Prop} {Q : Exit → Act → World → Prop} {E : Prop} (hgd : o.guard = none) (s x : Operand)
    (ho : o.op = .call { callee := .builtin .append, args := #[s, x], argTypes := #[30, 30] })
    {B : Nat} {v : Value} {out : List Int} (hs : a.eval s = v) (hown : OwnZ w B v out) {ao : Option Addr} {m c B2 : Nat} {l : List Int} (hx : a.eval x = .slice ao m c) (hr : RowZ .i64 w B2 ao m c l)
    (hlen : out.length + m ≤ 1000000) (hB : B ≤ w.heap.size) (h : ∀ v' w', OwnZ w' B v' (out ++ l) → Below B w w' → K (a.put o.dst v') w') :
    if Region.wanted o (yielded ops a.tmps) = true then Oper.wp Tryd.prog o a w K Q else E := by
  have hw : Region.wanted o (yielded ops a.tmps) = true := by simp [Region.wanted, hgd]
  rw [if_pos hw]
  obtain ⟨v', w', hrun, h1, h2⟩ := run_append_z o.type hown hr hlen hB
  unfold Oper.wp
  simp [execOp, ho, resolve, invoke, builtin, hs, hx, hrun, Result.andThen]
  exact h v' w' h1 h2
/-- The same, where what lay at A is held. -/
theorem step_append_kept {ops : Array Oper} {o : Oper} {a : Act} {w A : World} {K : Act → World → Prop} {Q : Exit → Act → World → Prop} {E : Prop} (hgd : o.guard = none) (s x : Operand)
    (ho : o.op = .call { callee := .builtin .append, args := #[s, x], argTypes := #[30, 30] })
    {v : Value} {out : List Int} (hs : a.eval s = v) (hown : OwnZ w A.heap.size v out) {ao : Option Addr} {m c B2 : Nat} {l : List Int} (hx : a.eval x = .slice ao m c) (hr : RowZ .i64 w B2 ao m c l)
    (hlen : out.length + m ≤ 1000000) (hk : Kept A w) (h : ∀ v' w', OwnZ w' A.heap.size v' (out ++ l) → Kept A w' → K (a.put o.dst v') w') :
    if Region.wanted o (yielded ops a.tmps) = true then Oper.wp Tryd.prog o a w K Q else E :=
  step_append_z hgd s x ho hs hown hx hr hlen hk.size fun v' w' h1 h2 => h v' w' h1 (hk.trans h2)
theorem OwnZ.drew {w : World} {B : Nat} {v : Value} {l : List Int} (h : OwnZ w B v l) : OwnZ w.drew B v l := World.ownsRow.drew h
theorem RowZ.takes {k : IntKind} {w : World} {B : Nat} {a : Option Addr} {n c : Nat} {zs : List Int} (h : RowZ k w B a n c zs) {i : Nat} (hi : i ≤ n) : RowZ k w B a i c (zs.take i) := by
  refine ⟨by have := h.1; simp; omega, by have := h.2.1; omega, h.2.2.1, fun hp => ?_⟩
  obtain ⟨b, off, e, hb, hc⟩ := h.cells (by omega)
  refine ⟨b, off, e, hb, fun j hj => ?_⟩
  rw [hc j (by omega)]
  simp [List.getD, hj]
theorem OwnZ.sliced {w : World} {B : Nat} {v : Value} {l : List Int} (h : OwnZ w B v l) {n : Nat} (hn : l.length = n) : ∃ a c, v = .slice a n c ∧ RowZ .i64 w w.heap.size a n c l := by
  subst hn
  exact h.row
theorem OwnZ.rowAt {w : World} {B n c : Nat} {a : Option Addr} {l : List Int} (h : OwnZ w B (.slice a n c) l) (hn : l.length = n) : RowZ .i64 w w.heap.size a n c l := by
  obtain ⟨a', c', e, hr⟩ := h.sliced hn
  injection e with e1 _ e3
  subst e1 e3
  exact hr
theorem OwnZ.at {w : World} {B n c i : Nat} {a : Option Addr} {l : List Int} (h : OwnZ w B (.slice a n c) l) (hn : l.length = n) (hi : i < n) (z : Int) :
    ∃ g, a = some ⟨g, 0, none⟩ ∧ B ≤ g ∧ w.frozen? ⟨g, i, none⟩ = false ∧ w.cell? ⟨g, i, none⟩ = some (.int .i64 (l.getD i 0)) ∧ OwnZ (w.setCell ⟨g, i, none⟩ (.int .i64 z)) B (.slice a n c) (l.set i z) := by
  subst hn
  have hs := h
  rcases h.2 with ⟨hv, h0⟩ | ⟨g, cap, cur, hv, hb, hg, hnc, hm, hcs, htk⟩
  · exact absurd h0 (by omega)
  · injection hv with h1 h2 h3
    subst h1 h3
    refine ⟨g, rfl, hb, World.ownsRow.frozenAt hs i, (World.ownsRow.cellAt hs i (by omega)).trans (by simp [intsZ, List.getD, hi]), ?_⟩
    have := (World.ownsRow.stored hs i (.int .i64 z)).1
    unfold OwnZ
    rw [List.length_set, ← intsZ_set]
    exact this
theorem OwnZ.calls {w w' : World} {B : Nat} {v : Value} {l : List Int} (h : OwnZ w B v l) (hb : Below w.heap.size w w') : OwnZ w' B v l := own_upto h hb (fun k hk => (World.ownsRow.lt h k hk).2)
theorem OwnZ.lower {w : World} {B B' : Nat} {v : Value} {l : List Int} (h : OwnZ w B v l) (hB : B' ≤ B) : OwnZ w B' v l := by
  refine ⟨h.1, ?_⟩
  rcases h.2 with h2 | ⟨g, cap, cur, hv, hb, r⟩
  · exact .inl h2
  · exact .inr ⟨g, cap, cur, hv, by omega, r⟩
theorem wpList_append_z {ops : Array Oper} {rest : List Oper} {o : Oper} {a : Act} {Q : Exit → Act → World → Prop} {w : World} (hgd : o.guard = none) (s x : Operand)
    (ho : o.op = .call { callee := .builtin .append, args := #[s, x], argTypes := #[30, 30] })
    {B : Nat} {v : Value} {out : List Int} (hs : a.eval s = v) (hown : OwnZ w B v out) {ao : Option Addr} {m c B2 : Nat} {l : List Int} (hx : a.eval x = .slice ao m c) (hr : RowZ .i64 w B2 ao m c l)
    (hlen : out.length + m ≤ 1000000) (hB : B ≤ w.heap.size)
    (h : ∀ v' w', OwnZ w' B v' (out ++ l) → Below B w w' → wpList Tryd.prog ops Q rest (a.put o.dst v') w') : wpList Tryd.prog ops Q (o :: rest) a w := by
  refine wpList_plain hgd fun K hK' => ?_
  obtain ⟨v', w', hrun, h1, h2⟩ := run_append_z o.type hown hr hlen hB
  unfold Oper.wp
  simp [execOp, ho, resolve, invoke, builtin, hs, hx, hrun, Result.andThen]
  exact hK' _ _ (h v' w' h1 h2)
/-- All these are ints that a machine has. -/
def WfZ (l : List Int) : Prop := ∀ z ∈ l, (Lit.int .i64 z).wf = true
theorem WfZ.at {l : List Int} (h : WfZ l) (k : Nat) (hk : k < l.length) : (Lit.int .i64 (l.getD k 0)).wf = true := h _ (by simp [List.getD, hk])
end Go.Proofs.YtplnaaokapilpaaDoor.Vm
