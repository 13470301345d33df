/- The contract of tuggerref09.Plans: slices of paths that the call owns, in two places. -/
import Derived.Test.YtiejinphofkjaaaPlanPlansC
import Derived.Test.YtiejinphofkjaaaRefStGoals
import Derived.Deep.RegionHeld3
namespace Go.Proofs.Ytiejinphofkjaaa.Vm
open Go Go.RowKit
set_option maxRecDepth 100000

/-- All blocks of ints are as they were. -/
def IntsKept (w w' : World) : Prop := ∀ (g : Nat) (arr : Array Value), w.heap[g]? = some (.cells arr 3 (0, 0)) → w'.heap[g]? = w.heap[g]?
theorem IntsKept.calls {w w' : World} (hb : Below w.heap.size w w') : IntsKept w w' := fun g _ h => hb.block g (Array.getElem?_eq_some_iff.1 h).1
theorem IntsKept.set {w : World} {lb i : Nat} {v : Value} {arr : Array Value} (h : w.heap[lb]? = some (.cells arr 29 (0, 0))) : IntsKept w (w.setCell ⟨lb, i, none⟩ v) := fun g a hg =>
  Below.heap_setCell w ⟨lb, i, none⟩ v g (fun e => by
    have e : g = lb := e
    subst e
    rw [h] at hg
    simp at hg)
theorem IntsKept.push {w w' : World} {B n : Nat} {v : Value} {xs : List Value} {o : Obj} (h1 : w.ownsRow B 29 1 v n xs) (hg : (w.alloc o).grownBy w' v.ownBlock) : IntsKept w w' := fun g a ha => by
  have hl := (Array.getElem?_eq_some_iff.1 ha).1
  refine (hg.block g (by simp; omega) (fun e => ?_)).trans (heap_alloc_old w o hl)
  rcases h1.2 with ⟨rfl, _⟩ | ⟨g', cap, cur, rfl, _, hg', _⟩
  · simp [Value.ownBlock] at e
  · simp only [Value.ownBlock, Option.some.injEq] at e
    subst e
    rw [ha] at hg'
    simp at hg'
theorem OwnZ.kept {w w' : World} {B : Nat} {v : Value} {l : List Int} (h : OwnZ w B v l) (hk : IntsKept w w') : OwnZ w' B v l := by
  refine ⟨h.1, ?_⟩
  rcases h.2 with h2 | ⟨g, cap, cur, rfl, hb, hh, r⟩
  · exact .inl h2
  · exact .inr ⟨g, cap, cur, rfl, hb, by rw [hk g cur hh]; exact hh, r⟩

/-- Slices of paths, in new memory, each in new memory. -/
def OwnQ (w : World) (B : Nat) (v : Value) (ls : List (List Int)) : Prop :=
  ∃ xs : List Value, w.ownsRow B 29 1 v ls.length xs ∧ ∀ (i : Nat) (l : List Int), ls[i]? = some l → ∃ u, xs[i]? = some u ∧ OwnZ w B u l
theorem OwnQ.nil (w : World) (B : Nat) : OwnQ w B (.slice none 0 0) [] := ⟨[], World.ownsRow_nil _ _ _ _, fun i l h => by simp at h⟩
theorem OwnQ.kept {w w' : World} {B : Nat} {v : Value} {ls : List (List Int)} (h : OwnQ w B v ls) (hk : IntsKept w w') (hq : ∀ k, B ≤ k → k < w.heap.size → w'.heap[k]? = w.heap[k]?) : OwnQ w' B v ls := by
  obtain ⟨xs, h1, h2⟩ := h
  refine ⟨xs, ⟨h1.1, ?_⟩, fun i l hl => ?_⟩
  · rcases h1.2 with h3 | ⟨g, cap, cur, rfl, hg, hh, r⟩
    · exact .inl h3
    · exact .inr ⟨g, cap, cur, rfl, hg, by rw [hq g hg (Array.getElem?_eq_some_iff.1 hh).1]; exact hh, r⟩
  · obtain ⟨u, hu, ho⟩ := h2 i l hl
    exact ⟨u, hu, ho.kept hk⟩
theorem OwnQ.calls {w w' : World} {B : Nat} {v : Value} {ls : List (List Int)} (h : OwnQ w B v ls) (hb : Below w.heap.size w w') : OwnQ w' B v ls := h.kept (.calls hb) (fun k _ hk => hb.block k hk)
theorem OwnQ.push {w w' : World} {B : Nat} {v v' u : Value} {ls : List (List Int)} {xs : List Value} {l : List Int} {o : Obj} (h1 : w.ownsRow B 29 1 v ls.length xs) (h2 : ∀ (i : Nat) (l : List Int), ls[i]? = some l → ∃ u, xs[i]? = some u ∧ OwnZ w B u l)
    (hu : OwnZ w B u l) (h : w'.ownsRow B 29 1 v' (ls.length + 1) (xs ++ [u])) (hg : (w.alloc o).grownBy w' v.ownBlock) : OwnQ w' B v' (ls ++ [l]) := by
  have hlx : xs.length = ls.length := by simpa using h1.1
  have hk : IntsKept w w' := .push h1 hg
  refine ⟨xs ++ [u], by simpa using h, fun i l' hl => ?_⟩
  by_cases hi : i < ls.length
  · rw [List.getElem?_append_left hi] at hl
    obtain ⟨u', hu', ho⟩ := h2 i l' hl
    exact ⟨u', by rw [List.getElem?_append_left (by omega)]; exact hu', ho.kept hk⟩
  · rw [List.getElem?_append_right (by omega)] at hl
    obtain ⟨h3, h4⟩ := List.getElem?_eq_some_iff.1 hl
    simp at h3 h4
    subst h4
    exact ⟨u, by rw [List.getElem?_append_right (by omega)]; simp [show i - xs.length = 0 by omega], hu.kept hk⟩
theorem OwnQ.rowL {w : World} {B : Nat} {v : Value} {ls : List (List Int)} (h : OwnQ w B v ls) : ∃ a c, v = .slice a ls.length c ∧ RowL w w.heap.size a ls.length c ls := by
  obtain ⟨xs, h1, h2⟩ := h
  rcases h1.2 with ⟨rfl, hn⟩ | ⟨g, cap, cur, rfl, hb, hg, hnc, hcm, hcs, htake⟩
  · obtain rfl := List.eq_nil_of_length_eq_zero hn
    exact ⟨none, 0, rfl, rowL_nil w _⟩
  · refine ⟨some ⟨g, 0, none⟩, cap, rfl, rfl, hnc, hcm, fun hn => ⟨g, 0, rfl, (Array.getElem?_eq_some_iff.1 hg).1, fun i hi => ?_⟩⟩
    obtain ⟨u, hu, ho⟩ := h2 i ls[i] (by simp [hi])
    obtain ⟨a', c', rfl, hr⟩ := ho.row
    have hc := World.ownsRow.cells h1 (g := g) rfl i _ hu
    rw [Row.add] at hc
    exact ⟨a', _, c', hc, by rw [show ls.getD i [] = ls[i] by simp [List.getD, hi]]; exact hr⟩

/-- In block lb lie n paths, each in new memory. -/
def PathsO (w : World) (B lb n : Nat) (f : Nat → List Int) : Prop :=
  ∃ arr : Array Value, w.heap[lb]? = some (.cells arr 29 (0, 0)) ∧ arr.size = n ∧ ∀ i, i < n → ∃ u, arr[i]? = some u ∧ OwnZ w B u (f i)
section
variable {w w' : World} {B lb n : Nat} {f g : Nat → List Int}
theorem PathsO.lt (h : PathsO w B lb n f) : lb < w.heap.size := by obtain ⟨arr, h1, _⟩ := h; exact (Array.getElem?_eq_some_iff.1 h1).1
theorem PathsO.at (h : PathsO w B lb n f) {i : Nat} (hi : i < n) : ∃ u, w.cell? ⟨lb, i, none⟩ = some u ∧ OwnZ w B u (f i) := by
  obtain ⟨arr, h1, h2, h3⟩ := h
  obtain ⟨u, h4, h5⟩ := h3 i hi
  exact ⟨u, cell_heap h1 h4, h5⟩
theorem PathsO.fz (h : PathsO w B lb n f) (i : Nat) : w.frozen? ⟨lb, i, none⟩ = false := by obtain ⟨arr, h1, _⟩ := h; exact frozen_heap h1
theorem PathsO.to (h : PathsO w B lb n f) (hg : ∀ i, i < n → g i = f i) : PathsO w B lb n g := by
  obtain ⟨arr, h1, h2, h3⟩ := h
  exact ⟨arr, h1, h2, fun i hi => by rw [hg i hi]; exact h3 i hi⟩
theorem PathsO.kept (h : PathsO w B lb n f) (hk : IntsKept w w') (hl : w'.heap[lb]? = w.heap[lb]?) : PathsO w' B lb n f := by
  obtain ⟨arr, h1, h2, h3⟩ := h
  exact ⟨arr, hl.trans h1, h2, fun i hi => by
    obtain ⟨u, h4, h5⟩ := h3 i hi
    exact ⟨u, h4, h5.kept hk⟩⟩
theorem PathsO.calls (h : PathsO w B lb n f) (hb : Below w.heap.size w w') : PathsO w' B lb n f := h.kept (.calls hb) (hb.block lb h.lt)
theorem PathsO.push {m : Nat} {v : Value} {xs : List Value} {o : Obj} (h : PathsO w B lb n f) (hlb : lb < B) (h1 : w.ownsRow B 29 1 v m xs) (hg : (w.alloc o).grownBy w' v.ownBlock) : PathsO w' B lb n f :=
  h.kept (.push h1 hg) ((hg.block lb (by have := h.lt; simp; omega) (fun e => by have := (World.ownsRow.lt h1 lb e.symm).1; omega)).trans (heap_alloc_old w o h.lt))
theorem PathsO.ints (h : PathsO w B lb n f) (i : Nat) (v : Value) : IntsKept w (w.setCell ⟨lb, i, none⟩ v) := by obtain ⟨arr, h1, _⟩ := h; exact .set h1
theorem PathsO.set (h : PathsO w B lb n f) {i : Nat} (hi : i < n) {u : Value} {q : List Int} (hr : OwnZ w B u q) : PathsO (w.setCell ⟨lb, i, none⟩ u) B lb n (fun j => if j = i then q else f j) := by
  have hk := h.ints i u
  obtain ⟨arr, h1, h2, h3⟩ := h
  refine ⟨arr.set! i u, ?_, by simpa using h2, fun j hj => ?_⟩
  · simp only [World.setCell, Array.getElem?_modify, if_true, h1, Option.map_some]
    rfl
  · by_cases e : j = i
    · subst e
      refine ⟨u, by simp [h2, hj], ?_⟩
      simp only [if_true]
      exact hr.kept hk
    · obtain ⟨u', h4, h5⟩ := h3 j hj
      refine ⟨u', ?_, ?_⟩
      · rw [Array.set!_eq_setIfInBounds, Array.getElem?_setIfInBounds_ne (fun e' => e e'.symm)]
        exact h4
      · simp only [e, if_false]
        exact h5.kept hk
theorem OwnQ.setPaths {v u : Value} {ls : List (List Int)} {i : Nat} (h : OwnQ w B v ls) (hp : PathsO w B lb n f) (hlb : lb < B) : OwnQ (w.setCell ⟨lb, i, none⟩ u) B v ls :=
  h.kept (hp.ints i u) (fun k hk _ => Below.heap_setCell w ⟨lb, i, none⟩ u k (fun e => by have e : k = lb := e; omega))
theorem PathsO.rowL (h : PathsO w B lb n f) (hn : n ≤ maxLen) : RowL w w.heap.size (some ⟨lb, 0, none⟩) n n ((List.range n).map f) := by
  have hl := h.lt
  refine ⟨by simp, Nat.le_refl _, hn, fun h0 => ⟨lb, 0, rfl, hl, fun i hi => ?_⟩⟩
  obtain ⟨u, h4, h5⟩ := h.at hi
  obtain ⟨a, c, rfl, hr⟩ := h5.row
  refine ⟨a, _, c, by rw [Nat.zero_add]; exact h4, ?_⟩
  rw [show ((List.range n).map f).getD i [] = f i by simp [List.getD, hi]]
  exact hr
end
theorem make_pathsO (w : World) (B N : Nat) (hN : N ≤ 1000000) : ∃ w', (Instr.makeSlice 25 (.int .i64 (N : Int)) (.int .i64 (N : Int))).run Try.prog w = .ok (.slice (some ⟨w.heap.size, 0, none⟩) N N) w' ∧ PathsO w' B w.heap.size N (fun _ => []) ∧ Below w.heap.size w w' ∧ w'.heap.size = w.heap.size + 1 := by
  obtain ⟨j0, hj0, hy0, hy1, hy2⟩ := info_parts info_row
  have hmk := run_make (P := Try.prog) w 25 29 j0 (.slice none 0 0) Try.underlying25 hj0 hy0 .i64 .i64 N N (by omega) (Int.le_refl _) (by rw [hy2]; omega) (by omega)
  simp only [Int.toNat_natCast] at hmk
  rw [hy1] at hmk
  have hmc : (madeCells (Value.slice none 0 0).cells (N * 1)) = ⟨List.replicate N (.slice none 0 0)⟩ := by
    apply Array.ext'
    simp only [Value.cells]
    rw [Nat.mul_one, toList_madeCells_one]
  rw [hmc] at hmk
  refine ⟨_, hmk, ⟨⟨List.replicate N (.slice none 0 0)⟩, ?_, by simp, fun i hi => ⟨.slice none 0 0, by simp [hi], World.ownsRow_nil _ _ _ _⟩⟩, (Below.refl _ _).alloc (Nat.le_refl _) _, by simp⟩
  show (w.heap.push _)[w.heap.size]? = _
  rw [Array.getElem?_push, if_pos rfl]

set_option maxRecDepth 100000 in
set_option maxHeartbeats 1000000 in
theorem rpath_own (W H fr to : Int) (s : ByteArray) (bl : List Int) (oth : List (List Int)) (a1 a2 : Option Addr) (n1 c1 n2 c2 B : Nat) (w : World) (hok : Okay W H s) (hr1 : RowZ .i64 w B a1 n1 c1 bl) (hr2 : RowL w B a2 n2 c2 oth) (hB : B ≤ w.heap.size) (hn1 : n1 ≤ 1000) (hn2 : n2 ≤ 1000) :
    Calls Try.prog 11 #[gridV W H s, .int .i64 fr, .int .i64 to, .slice a1 n1 c1, .slice a2 n2 c2] w fun e w' =>
      ∃ a n c l b, e = .returned (.tuple #[.slice a n c, .bool b]) ∧ PathOut (pathG W H (bytesOf s) bl oth fr to) l b ∧ OwnZ w' w.heap.size (.slice a n c) l ∧ Below w.heap.size w w' := by
  have hsz := hok.le
  have hlen : (bytesOf s).length = s.size := bytesOf_len s
  have hb0 : Below w.heap.size w (w.alloc (gridO W H s)) := (Below.refl _ _).alloc (Nat.le_refl _) _
  have hg0 := gridAt_new w W H s
  have hz0 : (w.alloc (gridO W H s)).heap.size = w.heap.size + 1 := by simp
  generalize hw1 : w.alloc (gridO W H s) = w1 at hg0 hb0 hz0
  have HW1 := Lib.hid hw1
  have HB0 := Lib.hid hb0
  have HG0 := Lib.hid hg0
  have HR1 := Lib.hid hr1
  have HR2 := Lib.hid hr2
  clear hw1 hr1 hr2
  cases hft : floorS (bytesOf s) to with
  | false =>
    have HFI := Lib.hid (rfield_no W H to s a1 n1 c1 w1 (by unfold maxLen; omega) hft)
    have HE : Hid (pathG W H (bytesOf s) bl oth fr to = none) := by unfold Hid pathG; rw [if_neg (fun h => by rw [hft] at h; cases h.1)]
    obtain ⟨g1, g2, g3⟩ := hg0
    clear hft hb0
    go_enter Try.func11, Try.ntmps11
    go_wp2_with fail
    rw [HW1.out]
    refine HFI.out.mono ?_
    rintro e w2 ⟨rfl, hb2⟩
    have HB2 := Lib.hid (HB0.out.trans (hb2.mono (by omega)))
    clear hb2
    go_wp2_with fail
    go_ret2
    exact ⟨none, 0, 0, [], false, rfl, .inl ⟨HE.out, rfl, rfl⟩, World.ownsRow_nil _ _ _ _, HB2.out⟩
  | true =>
    have hto := floorS_in hft
    obtain ⟨to', rfl⟩ := Int.eq_ofNat_of_zero_le hto.1
    have HFI := Lib.hid (rfield_yes W H to' s bl a1 n1 c1 B w1 hok hft (HR1.out.below (hb0.mono hB)) (by omega) (by omega))
    obtain ⟨g1, g2, g3⟩ := hg0
    have HOK := Lib.hid hok
    have HFT := Lib.hid hft
    clear hft hb0
    go_enter Try.func11, Try.ntmps11
    go_wp2_with fail
    rw [HW1.out]
    refine HFI.out.mono ?_
    rintro e w2 ⟨lb, l, rfl, hfi, hnum, hb2⟩
    have hz2 := hb2.size
    have HB2 := Lib.hid (HB0.out.trans (hb2.mono (by omega)))
    have HFL : Hid (l = fieldG W H (bytesOf s) bl (to' : Nat)) := IsField.only hfi (by rw [← hlen]; exact fieldG_is W H (bytesOf s) bl (to' : Nat))
    obtain ⟨g1, g2, g3⟩ := HG0.out.below hb2 (by omega)
    have HFLO := Lib.hid (rfloor_any W H fr s w2 (by unfold maxLen; omega))
    have hll : l.length = s.size := hfi.1
    have hnr := hnum.row
    rw [hll] at hnr
    have HNR := Lib.hid hnr
    have hgb := Lib.hid fun i => fieldG_bounds (W := W) (H := H) (bl := bl) (to := (to' : Nat)) (cells := bytesOf s) (by rw [Int.toNat_natCast]; omega) (by omega) i
    cases hff : floorS (bytesOf s) fr with
    | false =>
      have HE : Hid (pathG W H (bytesOf s) bl oth fr (to' : Nat) = none) := by unfold Hid pathG; rw [if_neg (fun h => by rw [hff] at h; cases h.2)]
      rw [hff] at HFLO
      clear hff hnum hb2 hfi HFI hnr
      go_wp2_with fail
      refine HFLO.out.mono ?_
      rintro e w3 ⟨rfl, hb3⟩
      have HB3 := Lib.hid (HB2.out.trans (hb3.mono (by omega)))
      clear hb3
      go_wp2_with fail
      go_ret2
      exact ⟨none, 0, 0, [], false, rfl, .inl ⟨HE.out, rfl, rfl⟩, World.ownsRow_nil _ _ _ _, HB3.out⟩
    | true =>
      have HE : Hid (pathG W H (bytesOf s) bl oth fr (to' : Nat) = (pathS W H (bytesOf s) l bl oth 6 fr).map fun x => fr :: x.1) := by unfold Hid pathG; rw [if_pos ⟨HFT.out, hff⟩, HFL.out]
      rw [hff] at HFLO
      have HS := Lib.hid fun w' hr1 hr2 hr3 hB' => rsearch_any W H s HOK.out l bl oth (some ⟨lb, 0, none⟩) a1 a2 s.size s.size n1 c1 n2 c2 w2.heap.size hll (fun i => by have := (hgb.out i).1; rw [← HFL.out] at this; omega) (fun i => by have := (hgb.out i).2; rw [← HFL.out] at this; exact this) (by omega) (by omega) 6 0 fr w' rfl hr1 hr2 hr3 hB'
      clear hff hnum hb2 hfi HFI hnr
      go_wp2_with fail
      refine HFLO.out.mono ?_
      rintro e w3 ⟨rfl, hb3⟩
      have hz3 := hb3.size
      have HB3 := Lib.hid (HB2.out.trans (hb3.mono (by omega)))
      obtain ⟨g1, g2, g3⟩ := GridAt.below (⟨g1, g2, g3⟩ : GridAt w2 w.heap.size W H s) hb3 (by omega)
      have HS3 := Lib.hid (HS.out w3 (HNR.out.below hb3) (((HR1.out.below (HB2.out.mono hB)).mono (by omega)).below hb3) (((HR2.out.below (HB2.out.mono hB)).mono (by omega)).below hb3) hz3)
      clear hb3 HS
      cases hps : pathS W H (bytesOf s) l bl oth 6 fr with
      | none =>
        rw [hps] at HS3 HE
        clear hps
        go_wp2_with fail
        refine HS3.out.mono ?_
        rintro e w4 ⟨v1, v2, v3, rfl, ⟨rfl, rfl, rfl⟩, hb4⟩
        have HB4 := Lib.hid (HB3.out.trans (hb4.mono (by omega)))
        clear hb4
        go_wp2_with fail
        go_ret2
        exact ⟨none, 0, 0, [], false, rfl, .inl ⟨HE.out, rfl, rfl⟩, World.ownsRow_nil _ _ _ _, HB4.out⟩
      | some x =>
        have hxl := (pathS_steps hps).len
        rw [hps] at HS3 HE
        clear hps
        obtain ⟨x1, x2⟩ := x
        simp only [] at hxl
        go_wp2_with fail
        refine HS3.out.mono ?_
        rintro e w4 ⟨v1, v2, v3, rfl, ⟨a, n, cc, rfl, rfl, rfl, hrow⟩, hb4⟩
        have hs4 := hb4.size
        have HB4 := Lib.hid (HB3.out.trans (hb4.mono (by omega)))
        have hrl : x1.length = n := hrow.1
        have HROW := Lib.hid fun o => (hrow.below ((Below.refl w4.heap.size w4).alloc (Nat.le_refl _) o))
        have HOW := Lib.hid (ownZ_lit w4 fr (Nat.le_refl _))
        have HBA := Lib.hid fun o => (Below.refl w4.heap.size w4).alloc (Nat.le_refl _) o
        clear hb4 hrow HS3
        go_wp2_with (at_builtin; refine wpList_append_z rfl (.tmp 45) (.tmp 46) rfl rfl HOW.out rfl (HROW.out _) (by simp only [List.length_cons, List.length_nil]; omega) (HBA.out _).size ?_; intro v' w5 ho5 hb5)
        obtain ⟨a5, c5, rfl, hr5⟩ := ho5.row
        have HO5 := Lib.hid (ho5.lower (Nat.le_trans HB3.out.size hs4))
        have HB5 := Lib.hid (HB4.out.trans (((HBA.out _).trans hb5).mono (by omega)))
        clear ho5 hb5 hr5
        go_wp2_with fail
        go_ret2
        exact ⟨a5, _, c5, _, true, rfl, .inr ⟨HE.out, rfl⟩, HO5.out, HB5.out⟩

set_option maxRecDepth 100000 in
set_option maxHeartbeats 1000000 in
theorem rest_own (x : Int) (w : World) :
    Calls Try.prog 33 #[.int .i64 x] w fun e w' => ∃ a c, e = .returned (.slice a 7 c) ∧ OwnZ w' w.heap.size (.slice a 7 c) (List.replicate 7 x) ∧ Below w.heap.size w w' := by
  go_enter Try.func33, Try.ntmps33
  go_wp2_with fail
  go_loopw [3, 4] (fun v i wr => ∃ k : Nat, k ≤ 7 ∧ i = .int .i64 k ∧ Hid (OwnZ wr w.heap.size v (List.replicate k x)) ∧ Hid (Below w.heap.size w wr)) (fun _ i _ => 7 - (intOf i).toNat)
  case atStart => exact ⟨0, Nat.zero_le _, rfl, World.ownsRow_nil _ _ _ _, Below.refl _ _⟩
  case round =>
    obtain ⟨k, hk, rfl, HO, HB⟩ := hrel
    by_cases hlt : k < 7
    · have hle : (k : Int) ≤ 6 := by omega
      have hsz := HB.out.size
      have HROW := Lib.hid ((ownZ_lit wr x (Nat.le_refl _)).rowAt (n := 1) rfl)
      have HOA := Lib.hid fun o => HO.out.calls ((Below.refl wr.heap.size wr).alloc (Nat.le_refl _) o)
      have HBA := Lib.hid fun o => HB.out.alloc HB.out.size o
      go_wp2_with (at_builtin; refine wpList_append_z rfl (.tmp 9) (.tmp 11) rfl rfl (HOA.out _) rfl HROW.out (by simp only [List.length_replicate]; omega) (HBA.out _).size ?_; intro v' w5 ho5 hb5)
      have HB5 := Lib.hid ((HBA.out _).trans hb5)
      have HO5 : Hid (OwnZ w5 w.heap.size v' (List.replicate (k + 1) x)) := by unfold Hid; rw [List.replicate_succ']; exact ho5
      clear ho5 hb5
      go_wp2_with fail
      go_roundw
      case rel => exact ⟨k + 1, by omega, by go_num, HO5.out, HB5.out⟩
      case measure => simp [intOf]; omega
    · obtain rfl : k = 7 := by omega
      obtain ⟨a, c, e, hr⟩ := HO.out.sliced (n := 7) (by simp)
      subst e
      have HR := Lib.hid HO.out
      clear hr
      go_wp2_with fail
      go_ret
      exact ⟨a, c, rfl, HR.out, HB.out⟩

set_option maxHeartbeats 4000000 in
theorem rplans_any (W H : Int) (g : ByteArray) (h : Sh) (s : St) (B : Nat) (w : World) (hok : Okay W H g) (hin : StIn w B h s) (hB : B ≤ w.heap.size) (hrp : RightP (floorS (bytesOf g)) s) (hn3 : h.n3 ≤ 1000) (hn1 : h.n1 ≤ 400) :
    Calls Try.prog 16 #[gridV W H g, shV h] w fun e w' => ∃ a c, e = .returned (.slice a h.n1 c) ∧ RowL w' w'.heap.size a h.n1 c (plansG W H (bytesOf g) s h.n1) ∧ Below w.heap.size w w' := by
  obtain ⟨i1, hi1, hy0, hy1, hy2⟩ := info_parts info_row
  obtain ⟨w2, hw2, hB2, hz2, hg2, hs2⟩ := gs_head w W H g h
  obtain ⟨w3, hmk, hpi, hb3, hz3⟩ := make_pathsO w2 (w.heap.size + 3) h.n1 (by omega)
  rw [hz2] at hmk hpi hz3 hb3
  have HGO := Lib.hid fun (k : Nat) V (hV : Below (w.heap.size + 2) w2 V) => rgoal_any W H g h s (k : Int) B V hok (hin.below ((hB2.trans (hV.mono (by omega))).mono hB)) (Nat.le_trans hB (hB2.trans (hV.mono (by omega))).size) (fun i hi => hrp.mode i hi) (by omega)
  have HB2 := Lib.hid hB2
  have HG2 := Lib.hid hg2
  have HS2 := Lib.hid hs2
  have HIN := Lib.hid hin
  have HOK := Lib.hid hok
  have HPI := Lib.hid hpi
  have HB3 := Lib.hid hb3
  have hlr : s.rs.length = h.n1 := hin.rs.1
  have hin1 : h.n1 ≤ h.c1 := hin.rs.2.1
  have hm1 := hin.rs.2.2.1
  unfold maxLen at hm1
  have hsB : B ≤ w.heap.size := hB
  obtain ⟨s0, s1, s2, s3⟩ := hs2
  obtain ⟨t, a1, n1, c1, a2, n2, c2, a3, n3, c3⟩ := h
  simp only [] at s1 hmk hn1 hn3 hin1 hm1 hlr hz3 HPI HGO
  rw [hw2] at s1 hmk
  clear hw2 hB2 hpi hb3 hin hok hg2 s0 s2 s3 hrp hB
  go_enter Try.func16, Try.ntmps16
  go_wp2_with fail
  go_loopw [6, 7] (fun v i wr => ∃ k : Nat, k ≤ n1 ∧ i = .int .i64 k ∧ Hid (OwnQ wr (w.heap.size + 3) v (oth1 W H (bytesOf g) s k)) ∧ Hid (PathsO wr (w.heap.size + 3) (w.heap.size + 2) n1 (p1F W H (bytesOf g) s k)) ∧ Hid (Below (w.heap.size + 2) w2 wr)) (fun _ i _ => n1 - (intOf i).toNat)
  case atStart => exact ⟨0, Nat.zero_le _, rfl, OwnQ.nil _ _, HPI.out.to (fun i _ => p1F_zero W H (bytesOf g) s i), HB3.out⟩
  case round =>
    obtain ⟨k, hk, rfl, HQ, HP, HB⟩ := hrel
    have hlb := HP.out.lt
    obtain ⟨g0, g1, g2⟩ := HG2.out.below HB.out (by omega)
    obtain ⟨s0, s1, s2, s3⟩ := HS2.out.below HB.out (by omega)
    simp only [] at s0 s1 s2 s3
    by_cases hlt : k < n1
    · obtain ⟨b, off, rfl, hb, hcs⟩ := HIN.out.rs.cells (by show 0 < n1; omega)
      have HRC := Lib.hid (hcs k hlt)
      have hkn : (k : Int) < (n1 : Int) := by omega
      have HC := Lib.hid (HGO.out k wr HB.out)
      have HNO := Lib.hid (p1F_no (W := W) (H := H) (l := bytesOf g) (s := s) (k := k))
      have HYE := Lib.hid (p1F_yes (W := W) (H := H) (l := bytesOf g) (s := s) (k := k))
      have HON := Lib.hid (oth1_no (W := W) (H := H) (l := bytesOf g) (s := s) (k := k))
      have HOY := Lib.hid (oth1_yes (W := W) (H := H) (l := bytesOf g) (s := s) (k := k))
      have HOL := Lib.hid (oth1_len (W := W) (H := H) (l := bytesOf g) (s := s) k)
      have HCE : Hid (cellR s k = (s.rs.getD k zr).a) := rfl
      obtain ⟨⟨x, bb⟩, hgl⟩ : ∃ G, goalG W H (bytesOf g) s (k : Int) = G := ⟨_, rfl⟩
      rw [hgl] at HC HNO HYE HON HOY
      simp only [] at HC HNO HYE HON HOY
      generalize s.rs.getD k zr = r at HRC HCE
      obtain ⟨ra, rb, rc, rd, re⟩ := r
      simp only [] at HCE
      clear hcs hgl
      cases bb with
      | true =>
        go_wp2_with fail
        refine HC.out.mono ?_
        rintro e wa ⟨rfl, hba⟩
        have HQ2 := Lib.hid (HQ.out.calls hba)
        have HP2 := Lib.hid ((HP.out.calls hba).to (fun i _ => HYE.out (by first | rfl | trivial) i))
        have HB4 := Lib.hid (HB.out.trans (hba.mono (by omega)))
        rw [← HOY.out (by first | rfl | trivial)] at HQ2
        clear hba
        go_wp2_with fail
        go_roundw
        case rel => exact ⟨k + 1, by omega, by go_num, HQ2, HP2, HB4⟩
        case measure => simp [intOf]; omega
      | false =>
        go_wp2_with fail
        refine HC.out.mono ?_
        rintro e wa ⟨rfl, hba⟩
        have hza := hba.size
        have HBA := Lib.hid (HB.out.trans (hba.mono (by omega)))
        obtain ⟨y0, y1, y2, y3⟩ := HS2.out.below HBA.out (by omega)
        simp only [] at y1
        have hrc := (HRC.out.below (HB2.out.trans (HBA.out.mono (by omega))) (by omega)).1
        simp only [] at hrc
        have HRE := Lib.hid (rest_own ra wa)
        have HQA := Lib.hid (HQ.out.calls hba)
        have HPA := Lib.hid (HP.out.calls hba)
        clear hba g0 g1 g2 s0 s1 s2 s3 y0 y2 y3
        go_wp2_with fail
        refine HRE.out.mono ?_
        rintro e wb ⟨au, cu, rfl, hou, hbb0⟩
        have hqb := HQA.out.calls hbb0
        have hpb := HPA.out.calls hbb0
        have hbb := HBA.out.trans (hbb0.mono (by omega))
        have hou := hou.lower (show w.heap.size + 3 ≤ wa.heap.size by omega)
        have hzb := hbb0.size
        have hll := HOL.out
        have HON2 := HON.out (by first | rfl | trivial)
        have HNO2 := Lib.hid (HNO.out (by first | rfl | trivial))
        rw [HCE.out] at HON2 HNO2
        generalize oth1 W H (bytesOf g) s k = ls at hqb HON2 hll
        have HON3 := Lib.hid HON2
        clear hbb0 y1 hrc HON2 HQ HP HQA HPA
        have hlbb := hpb.lt
        obtain ⟨u0, hcu, _⟩ := hpb.at hlt
        have hfz := hpb.fz k
        have HPV := Lib.hid (hpb.set hlt hou)
        have hqV := hqb.setPaths (u := .slice au 7 cu) (i := k) hpb (Nat.lt_succ_self _)
        have HOV := Lib.hid (hou.kept (hpb.ints k (.slice au 7 cu)))
        have HBV := Lib.hid (hbb.setCell (p := ⟨w.heap.size + 2, k, none⟩) (Nat.le_refl _) (.slice au 7 cu))
        have hnc : (wb.setCell ⟨w.heap.size + 2, k, none⟩ (.slice au 7 cu)).cell? ⟨w.heap.size + 2, k, none⟩ = some (.slice au 7 cu) := World.cell?_setCell_same _ _ _ hcu
        have hzV : (wb.setCell ⟨w.heap.size + 2, k, none⟩ (.slice au 7 cu)).heap.size = wb.heap.size := by simp [World.setCell]
        obtain ⟨xs, h1, h2⟩ := hqV
        clear hqb hpb hou
        go_wp2_with (at_builtin; (refine wpList_append_own _ rfl (.tmp 45) (.tmp 50) 25 rfl (w.heap.size + 3) 29 i1 (.slice none 0 0) 1 24 Try.underlying25 hi1 hy0 hy1 hy2 rfl (by decide) _ _ _ rfl (World.ownsRow.alloc h1 _) ⟨wb.heap.size, 0, none⟩ 1 1 [.slice au 7 cu] rfl rfl (by rw [← hzV]; exact one_cell _ _ _) (by simp [Value.oneCell']) (by simp only [maxLen]; omega) (by omega) (by first | (simp; omega) | (simp [World.setCell]; omega)) ?_; intro v6 w6 hown6 hgrow6 _))
        have HQ6 := Lib.hid (OwnQ.push h1 h2 HOV.out hown6 hgrow6)
        have HP6 := Lib.hid (HPV.out.push (Nat.lt_succ_self _) h1 hgrow6)
        have HB6 := Lib.hid ((HBV.out.alloc (by omega) _).grown hgrow6 (by simp; omega) (fun k hk => by have := (World.ownsRow.lt h1 k hk).1; omega))
        clear hown6 hgrow6 h1 h2 hnc
        go_wp2_with fail
        go_roundw
        case rel => exact ⟨k + 1, by omega, by go_num, by rw [HON3.out]; exact HQ6.out, HP6.out.to (fun i _ => HNO2.out i), HB6.out⟩
        case measure => simp [intOf]; omega
    · obtain rfl : k = n1 := by omega
      have HPS := Lib.hid (HP.out.to (g := p2F W H (bytesOf g) s k 0) (fun i hi => p2F_start hi))
      have HQS := Lib.hid HQ.out
      clear HP HQ
      go_wp2_with fail
      go_loopw [6, 10] (fun v i wr => ∃ j : Nat, j ≤ k ∧ i = .int .i64 j ∧ Hid (OwnQ wr (w.heap.size + 3) v (othG W H (bytesOf g) s k j)) ∧ Hid (PathsO wr (w.heap.size + 3) (w.heap.size + 2) k (p2F W H (bytesOf g) s k j)) ∧ Hid (Below (w.heap.size + 2) w2 wr)) (fun _ i _ => k - (intOf i).toNat)
      case atStart => exact ⟨0, Nat.zero_le _, rfl, HQS.out, HPS, HB⟩
      case round =>
        obtain ⟨j, hj, rfl, HQ, HP, HB⟩ := hrel
        have hlb := HP.out.lt
        obtain ⟨g0, g1, g2⟩ := HG2.out.below HB.out (by omega)
        obtain ⟨s0, s1, s2, s3⟩ := HS2.out.below HB.out (by omega)
        simp only [] at s0 s1 s2 s3
        by_cases hlt : j < k
        · obtain ⟨b, off, rfl, hb, hcs⟩ := HIN.out.rs.cells (by show 0 < k; omega)
          have HRC := Lib.hid (hcs j hlt)
          have hkn : (j : Int) < (k : Int) := by omega
          have HC := Lib.hid (HGO.out j wr HB.out)
          have HNO := Lib.hid (p2F_no (W := W) (H := H) (l := bytesOf g) (s := s) (n := k) (k := j))
          have HYE := Lib.hid (p2F_yes (W := W) (H := H) (l := bytesOf g) (s := s) (n := k) (k := j))
          have HOE : Hid (othG W H (bytesOf g) s k (j + 1) = if (goalG W H (bytesOf g) s (j : Int)).2 = true then othG W H (bytesOf g) s k j ++ [pthG W H (bytesOf g) s (othG W H (bytesOf g) s k j) j] else othG W H (bytesOf g) s k j) := by unfold Hid; rw [othG]
          have HQD : Hid (pthG W H (bytesOf g) s (othG W H (bytesOf g) s k j) j = (pathG W H (bytesOf g) s.bl (othG W H (bytesOf g) s k j) (cellR s j) (goalG W H (bytesOf g) s (j : Int)).1).getD (restL (cellR s j))) := rfl
          have HOL := Lib.hid (othG_len (W := W) (H := H) (l := bytesOf g) (s := s) k j)
          have HCE : Hid (cellR s j = (s.rs.getD j zr).a) := rfl
          obtain ⟨⟨x, bb⟩, hgl⟩ : ∃ G, goalG W H (bytesOf g) s (j : Int) = G := ⟨_, rfl⟩
          rw [hgl] at HC HNO HYE HOE HQD
          simp only [] at HC HNO HYE HOE HQD
          generalize s.rs.getD j zr = r at HRC HCE
          obtain ⟨ra, rb, rc, rd, re⟩ := r
          simp only [] at HCE
          rw [HCE.out] at HQD
          clear hcs hgl
          cases bb with
          | false =>
            go_wp2_with fail
            refine HC.out.mono ?_
            rintro e wa ⟨rfl, hba⟩
            have HQ2 := Lib.hid (HQ.out.calls hba)
            have HP2 := Lib.hid ((HP.out.calls hba).to (fun i _ => HNO.out (by first | rfl | trivial) i))
            have HB4 := Lib.hid (HB.out.trans (hba.mono (by omega)))
            have hoe := HOE.out
            rw [if_neg (by simp)] at hoe
            rw [← hoe] at HQ2
            clear hba hoe
            go_wp2_with fail
            go_roundw
            case rel => exact ⟨j + 1, by omega, by go_num, HQ2, HP2, HB4⟩
            case measure => simp [intOf]; omega
          | true =>
            obtain ⟨q, hq⟩ : ∃ q, pthG W H (bytesOf g) s (othG W H (bytesOf g) s k j) j = q := ⟨_, rfl⟩
            have hoe := HOE.out
            rw [if_pos rfl, hq] at hoe
            have hye := HYE.out (by first | rfl | trivial)
            rw [hq] at hye
            rw [hq] at HQD
            have HYE2 := Lib.hid hye
            have hol := HOL.out
            generalize othG W H (bytesOf g) s k j = ls at HQ hoe HQD hol
            have HOE2 := Lib.hid hoe
            clear hq hoe hye HYE HOE HOL
            go_wp2_with fail
            refine HC.out.mono ?_
            rintro e wa ⟨rfl, hba⟩
            have hza := hba.size
            have HBA := Lib.hid (HB.out.trans (hba.mono (by omega)))
            have HBWA := Lib.hid (HB2.out.trans (HBA.out.mono (by omega)))
            have hga := HG2.out.below HBA.out (by omega)
            have hsa := HS2.out.below HBA.out (by omega)
            have hrc := (HRC.out.below HBWA.out (by omega)).1
            obtain ⟨x0, x1, x2⟩ := hga
            obtain ⟨y0, y1, y2, y3⟩ := hsa
            simp only [] at y1 y3 hrc
            have hqa := HQ.out.calls hba
            obtain ⟨av, cv, rfl, hrl⟩ := hqa.rowL
            have HQA := Lib.hid hqa
            have HPA := Lib.hid (HP.out.calls hba)
            have hb2 : b < w.heap.size := by omega
            have HPC : Hid (∀ V, Kept wa V → Calls Try.prog 11 #[gridV W H g, .int .i64 ra, .int .i64 x, .slice a3 n3 c3, .slice av ls.length cv] V (fun e V' => ∃ a n c l b, e = .returned (.tuple #[.slice a n c, .bool b]) ∧ PathOut (pathG W H (bytesOf g) s.bl ls ra x) l b ∧ OwnZ V' (w.heap.size + 3) (.slice a n c) l ∧ Kept wa V')) := fun V hV =>
              (rpath_own W H ra x g s.bl ls a3 av n3 c3 ls.length cv wa.heap.size V HOK.out (((HIN.out.bl.mono hsB).below (HBWA.out.trans (Below.mono hV HBWA.out.size))).mono HBWA.out.size) (hrl.below hV) (Below.size hV) (by omega) (by omega)).mono fun e V' ⟨a, n, c, l, b, h1, h2, h3, h4⟩ => ⟨a, n, c, l, b, h1, h2, h3.lower (by have := Below.size hV; omega), Below.trans hV (h4.mono (Below.size hV))⟩
            have HKS : Hid (∀ V, Kept wa V → Kept wa V ∧ V.cell? ⟨w.heap.size, 0, none⟩ = some (.int .i64 W) ∧ V.cell? ⟨w.heap.size, 1, none⟩ = some (.int .i64 H) ∧ V.cell? ⟨w.heap.size, 2, none⟩ = some (.string g) ∧ V.cell? ⟨w.heap.size + 1, 1, none⟩ = some (.slice (some ⟨b, off, none⟩) k c1) ∧ V.cell? ⟨w.heap.size + 1, 3, none⟩ = some (.slice a3 n3 c3) ∧ V.cell? ⟨b, off + j * 5, none⟩ = some (.int .i64 ra)) := fun V hV =>
              ⟨hV, (Below.cell hV (p := ⟨w.heap.size, 0, none⟩) (show w.heap.size < wa.heap.size by omega)).trans x0, (Below.cell hV (p := ⟨w.heap.size, 1, none⟩) (show w.heap.size < wa.heap.size by omega)).trans x1, (Below.cell hV (p := ⟨w.heap.size, 2, none⟩) (show w.heap.size < wa.heap.size by omega)).trans x2, (Below.cell hV (p := ⟨w.heap.size + 1, 1, none⟩) (show w.heap.size + 1 < wa.heap.size by omega)).trans y1, (Below.cell hV (p := ⟨w.heap.size + 1, 3, none⟩) (show w.heap.size + 1 < wa.heap.size by omega)).trans y3, (Below.cell hV (p := ⟨b, off + j * 5, none⟩) (show b < wa.heap.size by omega)).trans hrc⟩
            have k0 : Kept wa wa := Kept.refl _
            clear hba g0 g1 g2 s0 s1 s2 s3 x0 x1 x2 y0 y1 y2 y3 hrc hqa hrl HQ HP
            go_wp2_with fail
            go_region_held3 (fun V => Kept wa V ∧ V.cell? ⟨w.heap.size, 0, none⟩ = some (.int .i64 W) ∧ V.cell? ⟨w.heap.size, 1, none⟩ = some (.int .i64 H) ∧ V.cell? ⟨w.heap.size, 2, none⟩ = some (.string g) ∧ V.cell? ⟨w.heap.size + 1, 1, none⟩ = some (.slice (some ⟨b, off, none⟩) k c1) ∧ V.cell? ⟨w.heap.size + 1, 3, none⟩ = some (.slice a3 n3 c3) ∧ V.cell? ⟨b, off + j * 5, none⟩ = some (.int .i64 ra))
              (first | exact HKS.out _ (by assumption) | exact HKS.out _ (Kept.drew (by assumption)))
              (first | (go_at_call 11; refine (HPC.out _ (by first | exact k0 | exact Kept.drew k0)).mono ?_; rintro e wb ⟨ap, np, cp, lp, bp, rfl, hop, hzp, kb⟩))
            have HKB : Hid (Below wa.heap.size wa wb) := kb
            have HQB := Lib.hid (HQA.out.calls HKB.out)
            have HPB := Lib.hid (HPA.out.calls HKB.out)
            have HBB := Lib.hid (HBA.out.trans (HKB.out.mono (by omega)))
            have hzb := HKB.out.size
            have hks := HKS.out wb kb
            rcases hop with ⟨hpn, rfl, rfl⟩ | ⟨hps, rfl⟩
            · obtain ⟨_, x0, x1, x2, y1, y3, hrc⟩ := hks
              obtain rfl : q = restL ra := by have := HQD.out; rw [hpn] at this; exact this
              have HRE := Lib.hid (rest_own ra wb)
              clear kb hzp hpn k0 x0 x1 x2 y3
              go_wp2_with fail
              refine HRE.out.mono ?_
              rintro e wc ⟨au, cu, rfl, hou, hbc⟩
              have hqb := HQB.out.calls hbc
              have hpb := HPB.out.calls hbc
              have hbb := HBB.out.trans (hbc.mono (by omega))
              have hou : OwnZ wc (w.heap.size + 3) (.slice au 7 cu) (restL ra) := hou.lower (by omega)
              have hzc := hbc.size
              clear hbc y1 hrc
              have hlbb := hpb.lt
              obtain ⟨u0, hcu, _⟩ := hpb.at hlt
              have hfz := hpb.fz j
              have HPV := Lib.hid (hpb.set hlt hou)
              have hqV := hqb.setPaths (u := .slice au 7 cu) (i := j) hpb (Nat.lt_succ_self _)
              have HOV := Lib.hid (hou.kept (hpb.ints j (.slice au 7 cu)))
              have HBV := Lib.hid (hbb.setCell (p := ⟨w.heap.size + 2, j, none⟩) (Nat.le_refl _) (.slice au 7 cu))
              have hnc : (wc.setCell ⟨w.heap.size + 2, j, none⟩ (.slice au 7 cu)).cell? ⟨w.heap.size + 2, j, none⟩ = some (.slice au 7 cu) := World.cell?_setCell_same _ _ _ hcu
              have hzV : (wc.setCell ⟨w.heap.size + 2, j, none⟩ (.slice au 7 cu)).heap.size = wc.heap.size := by simp [World.setCell]
              obtain ⟨xs, h1, h2⟩ := hqV
              clear hqb hpb hou
              go_wp2_with (at_builtin; (refine wpList_append_own _ rfl (.tmp 96) (.tmp 98) 25 rfl (w.heap.size + 3) 29 i1 (.slice none 0 0) 1 24 Try.underlying25 hi1 hy0 hy1 hy2 rfl (by decide) _ _ _ rfl (World.ownsRow.alloc h1 _) ⟨wc.heap.size, 0, none⟩ 1 1 [.slice au 7 cu] rfl rfl (by rw [← hzV]; exact one_cell _ _ _) (by simp [Value.oneCell']) (by simp only [maxLen]; omega) (by omega) (by first | (simp; omega) | (simp [World.setCell]; omega)) ?_; intro v6 w6 hown6 hgrow6 _))
              have HQ6 := Lib.hid (OwnQ.push h1 h2 HOV.out hown6 hgrow6)
              have HP6 := Lib.hid (HPV.out.push (Nat.lt_succ_self _) h1 hgrow6)
              have HB6 := Lib.hid ((HBV.out.alloc (by omega) _).grown hgrow6 (by simp; omega) (fun k hk => by have := (World.ownsRow.lt h1 k hk).1; omega))
              clear hown6 hgrow6 h1 h2 hnc
              go_wp2_with fail
              go_roundw
              case rel => exact ⟨j + 1, by omega, by go_num, by rw [HOE2.out]; exact HQ6.out, HP6.out.to (fun i _ => HYE2.out i), HB6.out⟩
              case measure => simp [intOf]; omega
            · obtain rfl : q = lp := by have := HQD.out; rw [hps] at this; exact this
              have hqb := HQB.out
              have hpb := HPB.out
              have hbb := HBB.out
              have hou := hzp
              clear kb hzp hps k0 hks
              have hlbb := hpb.lt
              obtain ⟨u0, hcu, _⟩ := hpb.at hlt
              have hfz := hpb.fz j
              have HPV := Lib.hid (hpb.set hlt hou)
              have hqV := hqb.setPaths (u := .slice ap np cp) (i := j) hpb (Nat.lt_succ_self _)
              have HOV := Lib.hid (hou.kept (hpb.ints j (.slice ap np cp)))
              have HBV := Lib.hid (hbb.setCell (p := ⟨w.heap.size + 2, j, none⟩) (Nat.le_refl _) (.slice ap np cp))
              have hnc : (wb.setCell ⟨w.heap.size + 2, j, none⟩ (.slice ap np cp)).cell? ⟨w.heap.size + 2, j, none⟩ = some (.slice ap np cp) := World.cell?_setCell_same _ _ _ hcu
              have hzV : (wb.setCell ⟨w.heap.size + 2, j, none⟩ (.slice ap np cp)).heap.size = wb.heap.size := by simp [World.setCell]
              obtain ⟨xs, h1, h2⟩ := hqV
              clear hqb hpb hou
              go_wp2_with (at_builtin; (refine wpList_append_own _ rfl (.tmp 96) (.tmp 98) 25 rfl (w.heap.size + 3) 29 i1 (.slice none 0 0) 1 24 Try.underlying25 hi1 hy0 hy1 hy2 rfl (by decide) _ _ _ rfl (World.ownsRow.alloc h1 _) ⟨wb.heap.size, 0, none⟩ 1 1 [.slice ap np cp] rfl rfl (by rw [← hzV]; exact one_cell _ _ _) (by simp [Value.oneCell']) (by simp only [maxLen]; omega) (by omega) (by first | (simp; omega) | (simp [World.setCell]; omega)) ?_; intro v6 w6 hown6 hgrow6 _))
              have HQ6 := Lib.hid (OwnQ.push h1 h2 HOV.out hown6 hgrow6)
              have HP6 := Lib.hid (HPV.out.push (Nat.lt_succ_self _) h1 hgrow6)
              have HB6 := Lib.hid ((HBV.out.alloc (by omega) _).grown hgrow6 (by simp; omega) (fun k hk => by have := (World.ownsRow.lt h1 k hk).1; omega))
              clear hown6 hgrow6 h1 h2 hnc
              go_wp2_with fail
              go_roundw
              case rel => exact ⟨j + 1, by omega, by go_num, by rw [HOE2.out]; exact HQ6.out, HP6.out.to (fun i _ => HYE2.out i), HB6.out⟩
              case measure => simp [intOf]; omega
        · obtain rfl : j = k := by omega
          have hres := (HP.out.to (g := planG W H (bytesOf g) s j) (fun i hi => (p2F_end hi).symm)).rowL (by unfold maxLen; omega)
          have HRES : Hid (RowL wr wr.heap.size (some ⟨w.heap.size + 2, 0, none⟩) j j (plansG W H (bytesOf g) s j)) := hres
          have HBE := Lib.hid (HB2.out.trans (HB.out.mono (by omega)))
          clear hres
          go_wp2_with fail
          go_ret
          exact ⟨_, _, rfl, HRES.out, HBE.out⟩
end Go.Proofs.Ytiejinphofkjaaa.Vm
