/- The contract of dist.Field. -/
import Derived.Test.YtgjolllacchdeaaSeqs
import Derived.Test.YtgjolllacchdeaaIntsZ
namespace Go.Proofs.Ytgjolllacchdeaa.Vm
open Go Go.RowKit Go.Maps Go.Shelf
attribute [local go_sem] Oper.semAt_some

/-- What has been told. -/
def toldZ (N : Nat) (pre : List (Nat × Nat)) : List Int := pre.foldl (fun l x => l.set x.1 (x.2 : Int)) (List.replicate N (-1))
theorem toldZ_snoc (N : Nat) (pre : List (Nat × Nat)) (x : Nat × Nat) : toldZ N (pre ++ [x]) = (toldZ N pre).set x.1 (x.2 : Int) := by simp [toldZ, List.foldl_append]
theorem toldZ_len (N : Nat) (pre : List (Nat × Nat)) : (toldZ N pre).length = N := by
  have : ∀ (pre : List (Nat × Nat)) (l : List Int), (pre.foldl (fun l x => l.set x.1 (x.2 : Int)) l).length = l.length := by
    intro pre
    induction pre with
    | nil => intro l; rfl
    | cons x pre ih => intro l; rw [List.foldl_cons, ih, List.length_set]
  rw [toldZ, this, List.length_replicate]
theorem snoc_ind {α : Type} {P : List α → Prop} (h0 : P []) (h : ∀ l x, P l → P (l ++ [x])) (l : List α) : P l := by
  rw [← List.reverse_reverse l]
  induction l.reverse with
  | nil => exact h0
  | cons x t ih => rw [List.reverse_cons]; exact h _ _ ih
theorem toldZ_at (N : Nat) (pre : List (Nat × Nat)) : ∀ c, c < N → (∃ e, (c, e) ∈ pre ∧ (toldZ N pre).getD c 0 = (e : Int)) ∨ ((∀ e, (c, e) ∉ pre) ∧ (toldZ N pre).getD c 0 = -1) := by
  refine snoc_ind (P := fun pre => ∀ c, c < N → (∃ e, (c, e) ∈ pre ∧ (toldZ N pre).getD c 0 = (e : Int)) ∨ ((∀ e, (c, e) ∉ pre) ∧ (toldZ N pre).getD c 0 = -1)) ?_ (fun l x ih => ?_) pre
  · intro c hc
    exact .inr ⟨by simp, by simp [toldZ, List.getD, hc]⟩
  · intro c hc
    rw [toldZ_snoc]
    by_cases hx : c = x.1
    · subst hx
      exact .inl ⟨x.2, by simp, by simp [List.getD, toldZ_len, hc]⟩
    · have e1 : ((toldZ N l).set x.1 (x.2 : Int)).getD c 0 = (toldZ N l).getD c 0 := by simp [List.getD, Ne.symm hx]
      rw [e1]
      rcases ih c hc with ⟨e, h1, h2⟩ | ⟨h1, h2⟩
      · exact .inl ⟨e, by simp [h1], h2⟩
      · refine .inr ⟨fun e he => ?_, h2⟩
        rcases List.mem_append.1 he with h3 | h3
        · exact h1 e h3
        · have : (c, e) = x := by simpa using h3
          exact hx (by rw [← this])
theorem toldZ_field {S : Nat → List Nat} {s N : Nat} {xs : List (Nat × Nat)} (h : AllCome S s N xs) : IsField S s N (toldZ N xs) := by
  refine ⟨toldZ_len _ _, fun c hc => ?_⟩
  rcases toldZ_at N xs c hc with ⟨e, h1, h2⟩ | ⟨h1, h2⟩
  · exact .inl ⟨e, h2, (h.1.at h1).2.2⟩
  · refine .inr ⟨h2, fun n hn => ?_⟩
    obtain ⟨k, _, hk⟩ := hn.far
    exact h1 k (h.2 c k hk)

set_option maxRecDepth 100000 in
set_option maxHeartbeats 400000 in
theorem field_no (W H to : Int) (s : ByteArray) (a : Option Addr) (n c : Nat) (w : World) (hs : s.size ≤ maxLen) (hf : floorS (bytesOf s) to = false) :
    Calls Try.prog 9 #[gridV W H s, .int .i64 to, .slice a n c] w fun e w' => e = .returned (.tuple #[.slice none 0 0, .int .i64 1]) ∧ Below w.heap.size w w' := by
  have hfl := fun w => floor_any W H to s w hs
  rw [hf] at hfl
  have HFL := Lib.hid hfl
  have hB : Below w.heap.size w (w.alloc (gridO W H s)) := (Below.refl _ _).alloc (Nat.le_refl _) _
  clear hfl hf
  unfold maxLen at hs
  go_enter Try.func9, Try.ntmps9
  go_wp2_with fail
  refine (HFL.out _).mono ?_
  rintro e w1 ⟨rfl, hb⟩
  have hb2 := hB.trans (hb.mono hB.size)
  go_wp2
  go_ret2
  exact ⟨rfl, hb2⟩

set_option maxRecDepth 100000 in
set_option maxHeartbeats 2000000 in
theorem field_yes (W H : Int) (to : Nat) (s : ByteArray) (bl : List Int) (a : Option Addr) (n c B : Nat) (w : World) (h : Okay W H s) (hf : floorS (bytesOf s) to = true) (hr : RowZ .i64 w B a n c bl) (hB : B ≤ w.heap.size) (hw : ∀ z ∈ bl, (Lit.int .i64 z).wf = true) (hn : n ≤ 1000000) :
    Calls Try.prog 9 #[gridV W H s, .int .i64 (to : Nat), .slice a n c] w fun e w' =>
      ∃ lb l, e = .returned (.tuple #[.slice (some ⟨lb, 0, none⟩) s.size s.size, .int .i64 0]) ∧ IsField (stepsS W H (bytesOf s) bl) to s.size l ∧ NumsZ w' w.heap.size lb l ∧ Below w.heap.size w w' := by
  have hle := h.le
  have hto := floorS_in hf
  rw [bytesOf_len] at hto
  have hfl := fun w => floor_any W H to s w (by unfold maxLen; omega)
  rw [hf] at hfl
  have HFL := Lib.hid hfl
  have HOK := Lib.hid h
  have hgb0 := gridAt_new w W H s
  have hBg : Below w.heap.size w (w.alloc (gridO W H s)) := (Below.refl _ _).alloc (Nat.le_refl _) _
  have hr0 : RowZ .i64 (w.alloc (gridO W H s)) B a n c bl := hr.keep (fun p hp => World.cell?_alloc_lt w _ p (by omega))
  have hz0 : (w.alloc (gridO W H s)).heap.size = w.heap.size + 1 := by simp
  have HW := Lib.hid hw
  clear hfl hf hr h hw
  refine (callsIn_wide (n := 9)).1 ?_
  refine callsIn_of_wp_marks Try.func9 rfl trivial ?_ rfl
  simp only [Try.ntmps9, List.size_toArray, List.length_cons, List.length_nil, Nat.reduceAdd, Nat.reduceSub, Array.replicate_succ, Array.replicate_zero, List.push_toArray, List.append_toArray, List.nil_append, List.cons_append]
  gi_wp2_with fail
  refine ⟨trivial, (callsIn_wide.2 (HFL.out _)).mono ?_⟩
  rintro e w1 ⟨rfl, hb1⟩
  have hg1 := hgb0.below (B := w.heap.size + 1) (hb1.mono (by simp)) (by omega)
  have hr1 : RowZ .i64 w1 B a n c bl := hr0.below (hb1.mono (by simp; omega))
  have hB1 := hBg.trans (hb1.mono (by simp))
  have hz1 : w.heap.size < w1.heap.size := by have := hb1.size; simp at this; omega
  have hmk := make_ints w1 s.size (by omega)
  have hnz := numsZ_made w1 s.size (by omega)
  have hbm : Below w1.heap.size w1 (w1.alloc (.cells ⟨intsZ (List.replicate s.size 0)⟩ 3)) := (Below.refl _ _).alloc (Nat.le_refl _) _
  have hz2 : (w1.alloc (.cells ⟨intsZ (List.replicate s.size 0)⟩ 3)).heap.size = w1.heap.size + 1 := by simp
  generalize w1.alloc (.cells ⟨intsZ (List.replicate s.size 0)⟩ 3) = w2 at hmk hnz hbm hz2
  obtain ⟨g1, g2, g3⟩ := id hg1
  have HNZ := Lib.hid hnz
  have HG1 := Lib.hid hg1
  have HR1 := Lib.hid hr1
  clear hgb0 hBg hr0 hz0 hnz hg1 hr1 hb1 g1 g2
  gi_wp2_with fail
  gi_loopg [22] s.size (fun k vi wr => ∃ i : Nat, vi = .int .i64 i ∧ i + k = s.size ∧ NumsZ wr w1.heap.size w1.heap.size (fillZ s.size i) ∧ wr.cell? ⟨w1.heap.size + 1, 0, none⟩ = some (.slice (some ⟨w1.heap.size, 0, none⟩) s.size s.size) ∧ Below w1.heap.size w1 wr ∧ w1.heap.size + 1 < wr.heap.size)
  case atStart =>
    exact ⟨0, rfl, by omega, by rw [fillZ_start]; exact HNZ.out.alloc _, cell_top _ _ _ (by omega), hbm.alloc (by omega) _, by simp; omega⟩
  case round =>
    obtain ⟨i, rfl, hik, hnz, hcl, hbel, hsz⟩ := hrel
    have HNZ := Lib.hid hnz
    by_cases hi : i < s.size
    · have q1 := hnz.cell (i := i) (by rw [fillZ_len]; exact hi)
      have q2 := hnz.frozen i
      clear hnz
      gi_wp2_with fail
      gi_roundg (gk - 1)
      case measure => omega
      case rel =>
        refine ⟨i + 1, by go_num, by omega, ?_, ?_, hbel.setCell (p := ⟨w1.heap.size, i, none⟩) (Nat.le_refl _) _, by simp [World.setCell]; omega⟩
        · rw [← fillZ_set]; exact HNZ.out.set i (-1)
        · rw [← hcl]; exact World.cell?_of_block (Below.heap_setCell _ _ _ _ (by simp))
    · obtain rfl : i = s.size := by omega
      clear hnz
      have hg2 := HG1.out.below hbel hz1
      have hr2 := HR1.out.below (hbel.mono (by omega))
      have hB2 := hB1.trans (hbel.mono (by omega))
      have HLT := Lib.hid (leadingTo_any W H s bl to B a n c wr (by omega) hr2 (by have := hB2.size; omega) HW.out hn)
      obtain ⟨g1, g2, g3⟩ := id hg2
      have HNZ2 := Lib.hid (fillZ_end s.size ▸ HNZ.out)
      clear HNZ hr2 hg2 HG1 HR1 hi
      gi_wp2_with fail
      refine ⟨trivial, (callsIn_wide.2 HLT.out).mono ?_⟩
      rintro e w3 ⟨c0, c1, c2, gb, cb, mb, m, rfl, hM, hb3⟩
      have hB3 := hB2.trans (hb3.mono (by have := hB2.size; omega))
      have HNZ3 := Lib.hid (HNZ2.out.below hb3 (by omega))
      have hcl3 := (hb3.cell (p := ⟨w1.heap.size + 1, 0, none⟩) hsz).trans hcl
      have HOF := Lib.hid (lead_offers 8 (by omega) HOK.out (by omega) hM)
      have HB3 := Lib.hid hB3
      clear HLT g1 g2 g3 HNZ2 hcl
      gi_wp2_with fail
      have hs3 := hb3.size
      have hcl4 : Hid (w3.cell? ⟨w1.heap.size + 1, 0, none⟩ = some (.slice (some ⟨w1.heap.size, 0, none⟩) s.size s.size)) := hcl3
      clear hcl3 hB3
      refine rounds_set rfl (by omega) (gf := 36) (lb := #[.pointer (some ⟨c0, 0, none⟩), .pointer (some ⟨c1, 0, none⟩), .pointer (some ⟨c2, 0, none⟩)]) rfl trivial (by intro args w; rfl) HOF.out hs3 (fun _ => rfl)
        (fun pre V => NumsZ V w1.heap.size w1.heap.size (toldZ s.size pre) ∧ V.cell? ⟨w1.heap.size + 1, 0, none⟩ = some (.slice (some ⟨w1.heap.size, 0, none⟩) s.size s.size) ∧ Below w.heap.size w V)
        (fun _ _ _ => False)
        (fun pre A A' h hb => ⟨h.1.below hb (by omega), (hb.cell (p := ⟨w1.heap.size + 1, 0, none⟩) (show w1.heap.size + 1 < w3.heap.size by omega)).trans h.2.1, h.2.2.trans (hb.mono (by omega))⟩)
        (fun _ _ _ _ h _ => h) ⟨HNZ3.out, hcl4.out, HB3.out⟩
        (fun x => [(33, .int .i64 (x.1 : Nat)), (34, .int .i64 (x.2 : Nat)), (10, .int .i64 (x.1 : Nat)), (11, .int .i64 (x.2 : Nat))]) ?assign ?body ?done ?stop
      case assign =>
        intro l x V K hK
        simp only [setAll, List.setIfInBounds_toArray, List.set_cons_succ, List.set_cons_zero] at hK
        simp only [pairV]
        gi_wp2
        exact hK
      case body =>
        rintro l pre ⟨x, d⟩ V ⟨hnz, hcl, hbel'⟩ hok
        obtain ⟨hx, hd, _⟩ := hok.last
        simp only [] at hx hd
        have q1 := hnz.cell (i := x) (by rw [toldZ_len]; exact hx)
        have q2 := hnz.frozen x
        have HNZ := Lib.hid hnz
        clear hnz hok
        simp only [setAll, List.setIfInBounds_toArray, List.set_cons_succ, List.set_cons_zero]
        gi_wp2
        refine ⟨(Tame.refl _ V).setCell (p := ⟨w1.heap.size, x, none⟩) (show w1.heap.size < wr.heap.size by omega) _, ?_, ?_, hbel'.setCell (p := ⟨w1.heap.size, x, none⟩) (show w.heap.size ≤ w1.heap.size by omega) _⟩
        · rw [toldZ_snoc]; exact HNZ.out.set x (d : Int)
        · rw [← hcl]; exact World.cell?_of_block (Below.heap_setCell _ _ _ _ (by simp))
      case done =>
        rintro D xs V hD hS ⟨hnz, hcl, hbel'⟩ hK
        gi_wp2
        refine ⟨by simp, .inl ⟨_, _, rfl, run_takeDeferred hK, ?_⟩⟩
        exact ⟨_, results_tmp2 rfl _ _ _, w1.heap.size, _, rfl, toldZ_field hS, (hnz.below (below_put hD V) (by omega)).mono (by omega), hbel'.trans (below_put (by omega) V)⟩
      case stop =>
        rintro D c pre V hD hSp h _
        exact h.elim
end Go.Proofs.Ytgjolllacchdeaa.Vm
