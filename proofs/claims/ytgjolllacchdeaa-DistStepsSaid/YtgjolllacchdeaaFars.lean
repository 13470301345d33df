/- The contract of dist.Far. -/
import Derived.Test.YtgjolllacchdeaaFields
namespace Go.Proofs.Ytgjolllacchdeaa.Vm
open Go Go.RowKit Go.Maps Go.Shelf
attribute [local go_sem] Oper.semAt_some

theorem farG_no1 {W H : Int} {l : List Nat} {bl : List Int} {a b : Int} (h : floorS l a = false) : farG W H l bl a b = -1 := by unfold farG; rw [if_neg (by rw [h]; simp)]
theorem farG_no2 {W H : Int} {l : List Nat} {bl : List Int} {a b : Int} (h : floorS l b = false) : farG W H l bl a b = -1 := by unfold farG; rw [if_neg (by rw [h]; simp)]
theorem farG_yes {W H : Int} {l : List Nat} {bl : List Int} {a b : Nat} (h1 : floorS l a = true) (h2 : floorS l b = true) : farG W H l bl a b = farI (stepsS W H l bl) b a := by unfold farG; rw [if_pos ⟨h1, h2⟩]; simp
theorem ret_int {a b : Int} (h : a = b) : Ending.returned (.int .i64 a) = .returned (.int .i64 b) := by rw [h]

/-- What Far hands back. -/
def FarPost (w : World) (W H : Int) (s : ByteArray) (bl : List Int) (a b : Int) (e : Ending) (w' : World) : Prop := e = .returned (.int .i64 (farG W H (bytesOf s) bl a b)) ∧ Below w.heap.size w w'

/-- Where Far begins: three boxes. -/
theorem far_head (W H fr : Int) (s : ByteArray) (w : World) : ∃ w3, w3 = ((w.alloc (gridO W H s)).alloc (.cells #[.int .i64 fr] 3)).alloc (.cells #[.int .i64 0] 3) ∧ Below w.heap.size w w3 ∧ w3.heap.size = w.heap.size + 3 ∧
    GridAt w3 w.heap.size W H s ∧ w3.cell? ⟨w.heap.size + 1, 0, none⟩ = some (.int .i64 fr) ∧ w3.cell? ⟨w.heap.size + 1 + 1, 0, none⟩ = some (.int .i64 0) ∧ w3.frozen? ⟨w.heap.size + 1 + 1, 0, none⟩ = false := by
  have h1 : Below w.heap.size w (w.alloc (gridO W H s)) := (Below.refl _ _).alloc (Nat.le_refl _) _
  have z1 : (w.alloc (gridO W H s)).heap.size = w.heap.size + 1 := by simp
  have g1 := gridAt_new w W H s
  generalize w.alloc (gridO W H s) = u1 at h1 z1 g1
  have h2 : Below u1.heap.size u1 (u1.alloc (.cells #[.int .i64 fr] 3)) := (Below.refl _ _).alloc (Nat.le_refl _) _
  have z2 : (u1.alloc (.cells #[.int .i64 fr] 3)).heap.size = w.heap.size + 2 := by simp [z1]
  have c2 : (u1.alloc (.cells #[.int .i64 fr] 3)).cell? ⟨w.heap.size + 1, 0, none⟩ = some (.int .i64 fr) := cell_top _ _ _ z1.symm
  generalize u1.alloc (.cells #[.int .i64 fr] 3) = u2 at h2 z2 c2
  have h3 : Below u2.heap.size u2 (u2.alloc (.cells #[.int .i64 0] 3)) := (Below.refl _ _).alloc (Nat.le_refl _) _
  have g2 := g1.below h2 (by omega)
  refine ⟨_, rfl, (h1.trans (h2.mono (by omega))).trans (h3.mono (by omega)), by simp [z2], g2.below h3 (by omega), cell_low c2 _, cell_top _ _ _ z2.symm, free_top _ _ _ z2.symm⟩

set_option maxRecDepth 100000 in
set_option maxHeartbeats 400000 in
theorem far_no (W H fr to : Int) (s : ByteArray) (bl : List Int) (a : Option Addr) (n c : Nat) (w : World) (hs : s.size ≤ maxLen) (hf : floorS (bytesOf s) fr = false ∨ floorS (bytesOf s) to = false) :
    Calls Try.prog 14 #[gridV W H s, .int .i64 fr, .int .i64 to, .slice a n c] w (FarPost w W H s bl fr to) := by
  have hfl := fun w => floor_any W H fr s w hs
  have hft := fun w => floor_any W H to s w hs
  obtain ⟨w3, hw3, hB3, hz3, hg3, -, hr3, hq3⟩ := far_head W H fr s w
  have HW3 := Lib.hid hw3
  cases hf1 : floorS (bytesOf s) fr
  · have HE := Lib.hid (farG_no1 (W := W) (H := H) (bl := bl) (b := to) hf1)
    rw [hf1] at hfl
    have HFL := Lib.hid hfl
    clear hfl hft hf hf1 hw3 hg3
    unfold maxLen at hs
    go_enter Try.func14, Try.ntmps14
    go_wp2_with fail
    refine (HFL.out _).mono ?_
    rintro e w1 ⟨rfl, hb⟩
    have hb' : Below w3.heap.size w3 w1 := by rw [HW3.out]; exact hb
    have q1 := (hb'.cell (p := ⟨w.heap.size + 1 + 1, 0, none⟩) (show w.heap.size + 1 + 1 < w3.heap.size by omega)).trans hr3
    have q2 := (hb'.frozen (p := ⟨w.heap.size + 1 + 1, 0, none⟩) (show w.heap.size + 1 + 1 < w3.heap.size by omega)).trans hq3
    have hB1 := hB3.trans (hb'.mono hB3.size)
    have q3 : (w1.setCell ⟨w.heap.size + 1 + 1, 0, none⟩ (.int .i64 (-1))).cell? ⟨w.heap.size + 1 + 1, 0, none⟩ = some (.int .i64 (-1)) := World.cell?_setCell_same' _ _ _ (by rw [q1]; rfl)
    clear hb hr3 hq3
    go_wp2_with fail
    refine bodyPost_ret (v := .int .i64 (-1)) ?_ rfl ⟨ret_int HE.out.symm, hB1.setCell (p := ⟨w.heap.size + 1 + 1, 0, none⟩) (show w.heap.size ≤ w.heap.size + 1 + 1 by omega) _⟩
    simp [results, Try.f14, go_sem, q3]
  · have hf2 : floorS (bytesOf s) to = false := by simpa [hf1] using hf
    have HE := Lib.hid (farG_no2 (W := W) (H := H) (bl := bl) (a := fr) hf2)
    rw [hf1] at hfl
    rw [hf2] at hft
    have HFL := Lib.hid hfl
    have HFT := Lib.hid hft
    clear hfl hft hf hf1 hf2 hw3
    unfold maxLen at hs
    go_enter Try.func14, Try.ntmps14
    go_wp2_with fail
    refine (HFL.out _).mono ?_
    rintro e w1 ⟨rfl, hb⟩
    have hb' : Below w3.heap.size w3 w1 := by rw [HW3.out]; exact hb
    have hB1 := hB3.trans (hb'.mono hB3.size)
    obtain ⟨g1, g2, g3⟩ := hg3.below hb' (by omega)
    clear hb
    go_wp2_with fail
    refine (HFT.out _).mono ?_
    rintro e w2 ⟨rfl, hb2⟩
    have q1 := (hb2.cell (p := ⟨w.heap.size + 1 + 1, 0, none⟩) (show w.heap.size + 1 + 1 < w1.heap.size by have := hb'.size; omega)).trans ((hb'.cell (p := ⟨w.heap.size + 1 + 1, 0, none⟩) (show w.heap.size + 1 + 1 < w3.heap.size by omega)).trans hr3)
    have q2 := (hb2.frozen (p := ⟨w.heap.size + 1 + 1, 0, none⟩) (show w.heap.size + 1 + 1 < w1.heap.size by have := hb'.size; omega)).trans ((hb'.frozen (p := ⟨w.heap.size + 1 + 1, 0, none⟩) (show w.heap.size + 1 + 1 < w3.heap.size by omega)).trans hq3)
    have hB2 := hB1.trans (hb2.mono hB1.size)
    have q3 : (w2.setCell ⟨w.heap.size + 1 + 1, 0, none⟩ (.int .i64 (-1))).cell? ⟨w.heap.size + 1 + 1, 0, none⟩ = some (.int .i64 (-1)) := World.cell?_setCell_same' _ _ _ (by rw [q1]; rfl)
    clear hr3 hq3 hb2 hb'
    go_wp2_with fail
    refine bodyPost_ret (v := .int .i64 (-1)) ?_ rfl ⟨ret_int HE.out.symm, hB2.setCell (p := ⟨w.heap.size + 1 + 1, 0, none⟩) (show w.heap.size ≤ w.heap.size + 1 + 1 by omega) _⟩
    simp [results, Try.f14, go_sem, q3]

set_option maxRecDepth 100000 in
set_option maxHeartbeats 2000000 in
theorem far_yes (W H : Int) (fr to : Nat) (s : ByteArray) (bl : List Int) (a : Option Addr) (n c B : Nat) (w : World) (h : Okay W H s) (hf1 : floorS (bytesOf s) fr = true) (hf2 : floorS (bytesOf s) to = true) (hr : RowZ .i64 w B a n c bl) (hB : B ≤ w.heap.size) (hw : ∀ z ∈ bl, (Lit.int .i64 z).wf = true) (hn : n ≤ 1000000) :
    Calls Try.prog 14 #[gridV W H s, .int .i64 (fr : Nat), .int .i64 (to : Nat), .slice a n c] w (FarPost w W H s bl fr to) := by
  have hle := h.le
  have hfr := floorS_in hf1
  have hto := floorS_in hf2
  rw [bytesOf_len] at hfr hto
  have HGY := Lib.hid (farG_yes (W := W) (H := H) (bl := bl) hf1 hf2)
  have hfl := fun w => floor_any W H fr s w (by unfold maxLen; omega)
  have hft := fun w => floor_any W H to s w (by unfold maxLen; omega)
  rw [hf1] at hfl
  rw [hf2] at hft
  have HFL := Lib.hid hfl
  have HFT := Lib.hid hft
  have HOK := Lib.hid h
  obtain ⟨w3, hw3, hB3, hz3, hg3, hp3, hr3, hq3⟩ := far_head W H fr s w
  have HW3 := Lib.hid hw3
  have HRW : RowZ .i64 w3 B a n c bl := hr.below (hB3.mono hB)
  have HW := Lib.hid hw
  clear hfl hft hf1 hf2 hr h hw hw3
  refine (callsIn_wide (n := 9)).1 ?_
  refine callsIn_of_wp_marks Try.func14 rfl trivial ?_ rfl
  simp only [Try.ntmps14, List.size_toArray, List.length_cons, List.length_nil, Nat.reduceAdd, Nat.reduceSub, Array.replicate_succ, Array.replicate_zero, List.push_toArray, List.append_toArray, List.nil_append, List.cons_append]
  gi_wp2_with fail
  refine ⟨trivial, (callsIn_wide.2 (HFL.out _)).mono ?_⟩
  rintro e w4 ⟨rfl, hb⟩
  have hb4 : Below w3.heap.size w3 w4 := by rw [HW3.out]; exact hb
  have hB4 := hB3.trans (hb4.mono hB3.size)
  have hg4 := hg3.below hb4 (by omega)
  obtain ⟨g1, g2, g3⟩ := id hg4
  have hz4 := hb4.size
  clear hb hg3
  gi_wp2_with fail
  refine ⟨trivial, (callsIn_wide.2 (HFT.out _)).mono ?_⟩
  rintro e w5 ⟨rfl, hb5⟩
  have hB5 := hB4.trans (hb5.mono hB4.size)
  have hb35 := hb4.trans (hb5.mono hz4)
  have hg5 := hg4.below hb5 (by omega)
  obtain ⟨g1, g2, g3⟩ := id hg5
  have hz5 := hb35.size
  have HLT := Lib.hid (leadingTo_any W H s bl to B a n c w5 (by omega) (HRW.below (hb35.mono (by omega))) (by omega) HW.out hn)
  clear hg4 hb5 hb4 HRW
  gi_wp2_with fail
  refine ⟨trivial, (callsIn_wide.2 HLT.out).mono ?_⟩
  rintro e w6 ⟨c0, c1, c2, gb, cb, mb, m, rfl, hM, hb6⟩
  have hb36 := hb35.trans (hb6.mono hz5)
  have hB6 := hB5.trans (hb6.mono hB5.size)
  have hs6 := hb6.size
  have p1 := (hb36.cell (p := ⟨w.heap.size + 1, 0, none⟩) (show w.heap.size + 1 < w3.heap.size by omega)).trans hp3
  have p2 := (hb36.cell (p := ⟨w.heap.size + 1 + 1, 0, none⟩) (show w.heap.size + 1 + 1 < w3.heap.size by omega)).trans hr3
  have p3 := (hb36.frozen (p := ⟨w.heap.size + 1 + 1, 0, none⟩) (show w.heap.size + 1 + 1 < w3.heap.size by omega)).trans hq3
  have HOF := Lib.hid (lead_offers 8 (by omega) HOK.out (by omega) hM)
  have HP := Lib.hid (And.intro p1 (And.intro p2 p3))
  clear HLT g1 g2 g3 hg5 hb35 hb36 hb6 p1 p2 p3 hp3 hr3 hq3
  gi_wp2_with fail
  refine rounds_set rfl (by omega) (gf := 36) (lb := #[.pointer (some ⟨c0, 0, none⟩), .pointer (some ⟨c1, 0, none⟩), .pointer (some ⟨c2, 0, none⟩)]) rfl trivial (by intro args w; rfl) HOF.out hs6 (fun _ => rfl)
    (fun pre V => (∀ e, (fr, e) ∉ pre) ∧ V.cell? ⟨w.heap.size + 1, 0, none⟩ = some (.int .i64 (fr : Nat)) ∧ V.cell? ⟨w.heap.size + 1 + 1, 0, none⟩ = some (.int .i64 0) ∧ V.frozen? ⟨w.heap.size + 1 + 1, 0, none⟩ = false ∧ Below w.heap.size w V)
    (fun cd pre V => cd = .ret ∧ ∃ e : Nat, FarS (stepsS W H (bytesOf s) bl) to fr e ∧ V.cell? ⟨w.heap.size + 1 + 1, 0, none⟩ = some (.int .i64 (e : Nat)) ∧ Below w.heap.size w V)
    (fun pre A A' h hb => ⟨h.1, (hb.cell (p := ⟨w.heap.size + 1, 0, none⟩) (show w.heap.size + 1 < w6.heap.size by omega)).trans h.2.1, (hb.cell (p := ⟨w.heap.size + 1 + 1, 0, none⟩) (show w.heap.size + 1 + 1 < w6.heap.size by omega)).trans h.2.2.1, (hb.frozen (p := ⟨w.heap.size + 1 + 1, 0, none⟩) (show w.heap.size + 1 + 1 < w6.heap.size by omega)).trans h.2.2.2.1, h.2.2.2.2.trans (hb.mono (by omega))⟩)
    (fun cd pre A A' h hb => ⟨h.1, by
      obtain ⟨e, h1, h2, h3⟩ := h.2
      exact ⟨e, h1, (hb.cell (p := ⟨w.heap.size + 1 + 1, 0, none⟩) (show w.heap.size + 1 + 1 < w6.heap.size by omega)).trans h2, h3.trans (hb.mono (by omega))⟩⟩)
    ⟨by simp, HP.out.1, HP.out.2.1, HP.out.2.2, hB6⟩
    (fun x => [(25, .int .i64 (x.1 : Nat)), (26, .int .i64 (x.2 : Nat)), (9, .int .i64 (x.1 : Nat)), (10, .int .i64 (x.2 : Nat))]) ?assign ?body ?done ?stop
  case assign =>
    intro l x V K hK
    simp only [setAll, List.setIfInBounds_toArray, List.set_cons_succ, List.set_cons_zero] at hK
    simp only [pairV]
    gi_wp2
    exact hK
  case body =>
    rintro l pre ⟨x, d⟩ V ⟨hno, k1, k2, k3, hbel'⟩ hok
    obtain ⟨hx, hd, hfar, _⟩ := hok.last
    simp only [] at hx hd hfar
    simp only [setAll, List.setIfInBounds_toArray, List.set_cons_succ, List.set_cons_zero]
    by_cases hxf : x = fr
    · subst hxf
      have HF := Lib.hid hfar
      have e0 : ((x : Int) == (x : Int)) = true := by simp
      clear hno hok hfar
      gi_wp2
      exact ⟨(Tame.refl _ V).setCell (p := ⟨w.heap.size + 1 + 1, 0, none⟩) (show w.heap.size + 1 + 1 < w5.heap.size by omega) _, rfl, d, HF.out, World.cell?_setCell_same' _ _ _ (by rw [k2]; rfl), hbel'.setCell (p := ⟨w.heap.size + 1 + 1, 0, none⟩) (show w.heap.size ≤ w.heap.size + 1 + 1 by omega) _⟩
    · have e0 : ((x : Int) == (fr : Int)) = false := by rw [beq_eq_false_iff_ne]; omega
      have HN := Lib.hid hno
      have HXF := Lib.hid hxf
      clear hno hok hfar hxf
      gi_wp2
      refine ⟨Tame.refl _ V, fun e he => ?_, k1, k2, k3, hbel'⟩
      rcases List.mem_append.1 he with h3 | h3
      · exact HN.out e h3
      · have : (fr, e) = (x, d) := by simpa using h3
        exact HXF.out (by injection this with h4; exact h4.symm)
  case done =>
    rintro D xs V hD hS ⟨hno, k1, k2, k3, hbel'⟩ hK
    have HE : Hid (farG W H (bytesOf s) bl fr to = -1) := by
      show farG W H (bytesOf s) bl fr to = -1
      rw [HGY.out]
      exact farI_no (fun n hn => by obtain ⟨k, _, hk⟩ := hn.far; exact hno k (hS.2 fr k hk))
    have hne : D ≠ w.heap.size + 1 + 1 := by omega
    have hK2 : (V.setCell ⟨w.heap.size + 1 + 1, 0, none⟩ (.int .i64 (-1))).heap[D]? = some (.deferred (some [])) := (Below.heap_setCell V _ _ D hne).trans hK
    have q3 : ((V.setCell ⟨w.heap.size + 1 + 1, 0, none⟩ (.int .i64 (-1))).putObj D (.deferred none)).cell? ⟨w.heap.size + 1 + 1, 0, none⟩ = some (.int .i64 (-1)) :=
      (World.cell?_of_block (World.putObj_heap_other (Ne.symm hne))).trans (World.cell?_setCell_same' _ _ _ (by rw [k2]; rfl))
    clear hno hK
    gi_wp2
    refine ⟨by simp, .inl ⟨_, _, rfl, run_takeDeferred hK2, ?_⟩⟩
    refine ⟨.int .i64 (-1), ?_, ret_int HE.out.symm, (hbel'.setCell (p := ⟨w.heap.size + 1 + 1, 0, none⟩) (show w.heap.size ≤ w.heap.size + 1 + 1 by omega) _).trans (below_put (by omega) _)⟩
    simp [results, Try.f14, go_sem, q3]
  case stop =>
    rintro D cd pre V hD hSp ⟨rfl, e, hfar, k2, hbel'⟩ hK
    have HE : Hid (farG W H (bytesOf s) bl fr to = e) := by
      show farG W H (bytesOf s) bl fr to = e
      rw [HGY.out]
      exact farI_far hfar
    have hne : D ≠ w.heap.size + 1 + 1 := by omega
    have q3 : (V.putObj D (.deferred none)).cell? ⟨w.heap.size + 1 + 1, 0, none⟩ = some (.int .i64 (e : Nat)) := (World.cell?_of_block (World.putObj_heap_other (Ne.symm hne))).trans k2
    clear hfar
    gi_wp2
    refine ⟨by simp, .inl ⟨_, _, rfl, run_takeDeferred hK, ?_⟩⟩
    refine ⟨.int .i64 (e : Nat), ?_, ret_int HE.out.symm, hbel'.trans (below_put (by omega) _)⟩
    simp [results, Try.f14, go_sem, q3]
end Go.Proofs.Ytgjolllacchdeaa.Vm
