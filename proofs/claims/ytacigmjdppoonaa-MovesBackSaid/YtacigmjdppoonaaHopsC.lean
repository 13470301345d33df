/- The program's move (in place, on cells of the call's own) and Go. -/
import Derived.Test.YtacigmjdppoonaaHopsB
namespace Go.Proofs.Ytacigmjdppoonaa.Vm
open Go Go.RowKit
set_option maxRecDepth 100000

theorem grow_set (w : World) (b i : Nat) (v : Value) : w.grownBy (w.setCell ⟨b, i, none⟩ v) (some b) :=
  ⟨rfl, rfl, rfl, by simp [World.setCell], fun k _ hne => Below.heap_setCell _ _ _ _ (fun e => hne (by rw [e]))⟩
theorem grow_calls {w w' : World} {r : Option Nat} (hb : Below w.heap.size w w') : w.grownBy w' r := ⟨hb.os, hb.tape, hb.output, hb.size, fun k hk _ => hb.block k hk⟩
theorem grow_trans {a b c : World} {row : Option Nat} (h : a.grownBy b row) (k : b.grownBy c row) : a.grownBy c row :=
  ⟨k.os.trans h.os, k.tape.trans h.tape, k.output.trans h.output, Nat.le_trans h.size k.size, fun i hi hne => (k.block i (Nat.lt_of_lt_of_le hi h.size) hne).trans (h.block i hi hne)⟩
theorem grow_below {w w' : World} {v : Value} {B n : Nat} {e : TypeId} {size : Nat} {xs : List Value} (hg : w.grownBy w' v.ownBlock) (ho : w.ownsRow B e size v n xs) (hB : B ≤ w.heap.size) : Below B w w' :=
  (Below.refl B w).grown hg hB (fun k hk => (World.ownsRow.lt ho k hk).1)

/-- Where the first k have gone. -/
def mvL (W H : Int) (l : List Nat) (cells ws : List Int) (k : Nat) : List Int := (List.range cells.length).map fun j => if j < k then (goesS W H l (cells.getD j 0) (ws.getD j 0)).1 else cells.getD j 0
def MoveOut (W H : Int) (l : List Nat) (cells ws L : List Int) (x : Int) : Prop := (cells.length = ws.length ∧ GoP W H l cells ws cells.length ∧ L = goK W H l cells ws cells.length ∧ x = 0) ∨ (¬ (cells.length = ws.length ∧ GoP W H l cells ws cells.length) ∧ x = 1)
section
variable {W H : Int} {l : List Nat} {cells ws : List Int} {k : Nat}
theorem mvL_len : (mvL W H l cells ws k).length = cells.length := by simp [mvL]
theorem mvL_zero : mvL W H l cells ws 0 = cells := by
  apply List.ext_getElem
  · simp [mvL]
  · intro j h1 h2; simp [mvL, List.getD, h2]
theorem mvL_end : mvL W H l cells ws cells.length = goK W H l cells ws cells.length := by
  unfold mvL goK
  apply List.map_congr_left
  intro j hj
  rw [if_pos (List.mem_range.1 hj)]
theorem mvL_at (h : k < cells.length) : (mvL W H l cells ws k).getD k 0 = cells.getD k 0 := by simp [mvL, List.getD, h]
theorem mvL_set (h : k < cells.length) : (mvL W H l cells ws k).set k (goesS W H l (cells.getD k 0) (ws.getD k 0)).1 = mvL W H l cells ws (k + 1) := by
  apply List.ext_getElem
  · simp [mvL]
  · intro j h1 h2
    rw [List.getElem_set]
    by_cases e : k = j
    · subst e; simp [mvL]
    · rw [if_neg e]
      simp only [mvL, List.getElem_map, List.getElem_range]
      by_cases hj : j < k
      · rw [if_pos hj, if_pos (by omega)]
      · rw [if_neg hj, if_neg (by omega)]
end

/-- What a move in place leaves. -/
def MovePost (w : World) (W H : Int) (l : List Nat) (B n1 c1 : Nat) (a1 : Option Addr) (cells ws : List Int) (e : Ending) (w' : World) : Prop :=
  ∃ x L, e = .returned (.int .i64 x) ∧ MoveOut W H l cells ws L x ∧ L.length = n1 ∧ OwnZ w' B (.slice a1 n1 c1) L ∧ w.grownBy w' (Value.slice a1 n1 c1).ownBlock

set_option maxHeartbeats 400000 in
theorem move_len (W H : Int) (g : ByteArray) (a1 a2 : Option Addr) (n1 c1 n2 c2 : Nat) (w : World) (hne : n1 ≠ n2) :
    Calls Try.prog 24 #[gridV W H g, .slice a1 n1 c1, .slice a2 n2 c2] w fun e w' => e = .returned (.int .i64 1) ∧ Below w.heap.size w w' := by
  have e0 : ((n1 : Int) != (n2 : Int)) = true := by rw [bne_iff_ne]; omega
  have HB : Hid (Below w.heap.size w (w.alloc (gridO W H g))) := (Below.refl _ _).alloc (Nat.le_refl _) _
  clear hne
  go_enter Try.func24, Try.ntmps24
  go_wp2_with fail
  go_ret
  exact ⟨rfl, HB.out⟩

set_option maxHeartbeats 2000000 in
theorem move_any (W H : Int) (g : ByteArray) (a1 a2 : Option Addr) (n1 c1 n2 c2 B : Nat) (cells ws : List Int) (w : World) (hok : Okay W H g) (h1 : OwnZ w B (.slice a1 n1 c1) cells) (hn1 : cells.length = n1) (h2 : RowZ .i64 w B a2 n2 c2 ws) (hB : B ≤ w.heap.size) (hn : n1 ≤ 100000) :
    Calls Try.prog 24 #[gridV W H g, .slice a1 n1 c1, .slice a2 n2 c2] w (MovePost w W H (bytesOf g) B n1 c1 a1 cells ws) := by
  have hl2 := h2.1
  by_cases hne : n1 ≠ n2
  · exact (move_len W H g a1 a2 n1 c1 n2 c2 w hne).mono fun e w' ⟨he, hb⟩ =>
      ⟨1, cells, he, .inr ⟨fun h => hne (by omega), rfl⟩, hn1, h1.calls hb, grow_calls hb⟩
  obtain rfl : n1 = n2 := Classical.byContradiction hne
  have e0 : ((n1 : Int) != (n1 : Int)) = false := by simp
  obtain ⟨w1, hw1⟩ : ∃ w1, w1 = w.alloc (gridO W H g) := ⟨_, rfl⟩
  have hb1 : Below w.heap.size w w1 := by rw [hw1]; exact (Below.refl _ _).alloc (Nat.le_refl _) _
  have hz1 : w1.heap.size = w.heap.size + 1 := by rw [hw1]; simp
  have hg1 : GridAt w1 w.heap.size W H g := by rw [hw1]; exact gridAt_new w W H g
  obtain ⟨a, c, e, hr1⟩ := h1.row
  injection e with e1 e2 e3
  subst e1 e3
  have hc1 := hr1.2.1
  have hx1 := hr1.2.2.1
  have hc2 := h2.2.1
  have hx2 := h2.2.2.1
  unfold maxLen at hx1 hx2
  have HC2 := Lib.hid fun h => h2.cells h
  have HL1 := Lib.hid hn1
  have HL2 := Lib.hid hl2
  have HB := Lib.hid hB
  have HB1 := Lib.hid hb1
  have HZ1 := Lib.hid hz1
  have HW1 := Lib.hid hw1
  have HG1 := Lib.hid hg1
  have HO1 := Lib.hid (h1.calls hb1)
  have HLT := Lib.hid fun k hk => (World.ownsRow.lt h1 k hk).2
  have HGO := Lib.hid fun (a t : Int) V => goes_any W H a t g V hok
  clear hw1 hb1 hz1 hg1 hl2 h1 h2 hB hok hne hr1 e2
  have hc1 : n1 ≤ c1 := by rw [← hn1]; exact hc1
  clear hn1
  go_enter Try.func24, Try.ntmps24
  go_wp2_with fail
  rw [← HW1.out]
  go_loopw [18] (fun i wr => ∃ k : Nat, k ≤ n1 ∧ i = .int .i64 k ∧ Hid (OwnZ wr B (.slice a1 n1 c1) (mvL W H (bytesOf g) cells ws k)) ∧ Hid (GoP W H (bytesOf g) cells ws k) ∧ Hid (w1.grownBy wr (Value.slice a1 n1 c1).ownBlock)) (fun i _ => n1 - (intOf i).toNat)
  case atStart => exact ⟨0, Nat.zero_le _, rfl, by rw [mvL_zero]; exact HO1.out, fun i hi => absurd hi (Nat.not_lt_zero _), .refl _ _⟩
  case round =>
    obtain ⟨k, hk, rfl, HO, HP, HGR⟩ := hrel
    have HBW : Hid (Below B w1 wr) := grow_below HGR.out HO1.out (by have := HB.out; have := HZ1.out; omega)
    have hsz := HGR.out.size
    by_cases hlt : k < n1
    · have hmlen : (mvL W H (bytesOf g) cells ws k).length = n1 := by rw [mvL_len]; exact HL1.out
      obtain ⟨b1, rfl, hb1, hf1, hq1, hset⟩ := HO.out.at hmlen hlt (goesS W H (bytesOf g) (cells.getD k 0) (ws.getD k 0)).1
      rw [mvL_at (by rw [HL1.out]; exact hlt)] at hq1
      rw [mvL_set (by rw [HL1.out]; exact hlt)] at hset
      obtain ⟨b2, o2, rfl, hb2, hq2⟩ := HC2.out (by omega)
      have hq2 : wr.cell? ⟨b2, o2 + k, none⟩ = some (.int .i64 (ws.getD k 0)) := (HBW.out.cell (p := ⟨b2, o2 + k, none⟩) hb2).trans ((HB1.out.cell (p := ⟨b2, o2 + k, none⟩) (show b2 < w.heap.size by have := HB.out; omega)).trans (hq2 k hlt))
      have hb1lt : b1 < w.heap.size := HLT.out b1 rfl
      have hgg : w.heap.size < wr.heap.size := by have := HZ1.out; omega
      have hgb : ∀ p : Nat, wr.cell? ⟨w.heap.size, p, none⟩ = w1.cell? ⟨w.heap.size, p, none⟩ := fun p => World.cell?_of_block (HGR.out.block w.heap.size (by rw [HZ1.out]; omega) (by simp [Value.ownBlock]; omega))
      have hg3 : GridAt wr w.heap.size W H g := by
        obtain ⟨g0, g1, g2⟩ := HG1.out
        exact ⟨(hgb _).trans g0, (hgb _).trans g1, (hgb _).trans g2⟩
      have HGA := Lib.hid hg3
      have hb1r : b1 < wr.heap.size := by omega
      have HK : Hid (∀ V, Kept wr V → (Kept wr V ∧ (V.cell? ⟨w.heap.size, 0, none⟩ = some (.int .i64 W) ∧ V.cell? ⟨w.heap.size, 1, none⟩ = some (.int .i64 H) ∧ V.cell? ⟨w.heap.size, 2, none⟩ = some (.string g)) ∧ V.cell? ⟨b1, k, none⟩ = some (.int .i64 (cells.getD k 0)))) := fun V hV =>
        ⟨hV, HGA.out.below hV hgg, (Below.cell (p := ⟨b1, k, none⟩) hV hb1r).trans hq1⟩
      have HFZ : Hid (∀ V, Kept wr V → V.frozen? ⟨b1, k, none⟩ = false) := fun V hV => (Below.frozen (p := ⟨b1, k, none⟩) hV hb1r).trans hf1
      have HGC := Lib.hid (HGO.out (cells.getD k 0) (ws.getD k 0))
      have HPS := Lib.hid fun h => goP_succ (W := W) (H := H) (l := bytesOf g) HP.out h
      have HPN : Hid ((goesS W H (bytesOf g) (cells.getD k 0) (ws.getD k 0)).2 = false → ¬ GoP W H (bytesOf g) cells ws n1) := fun h h' => by have := h' k hlt; rw [h] at this; cases this
      have HSET : Hid (∀ V, Kept wr V → OwnZ (V.setCell ⟨b1, k, none⟩ (.int .i64 (goesS W H (bytesOf g) (cells.getD k 0) (ws.getD k 0)).1)) B (.slice (some ⟨b1, 0, none⟩) n1 c1) (mvL W H (bytesOf g) cells ws (k + 1))) := fun V hV => by
        obtain ⟨b1', e, _, _, _, h5⟩ := (HO.out.calls hV).at hmlen hlt (goesS W H (bytesOf g) (cells.getD k 0) (ws.getD k 0)).1
        injection e with e
        injection e with e
        subst e
        rw [mvL_set (by rw [HL1.out]; exact hlt)] at h5
        exact h5
      obtain ⟨P, hP⟩ : ∃ P, goesS W H (bytesOf g) (cells.getD k 0) (ws.getD k 0) = P := ⟨_, rfl⟩
      rw [hP] at HGC HPS HPN HSET
      obtain ⟨p1, p2⟩ := P
      simp only [] at HGC HPS HPN HSET
      generalize cells.getD k 0 = x1 at hq1 HGC HK
      generalize ws.getD k 0 = x2 at hq2 HGC
      have kk : Kept wr wr := Kept.refl _
      obtain ⟨_, ⟨g0, g1, g2⟩, _⟩ := HK.out wr kk
      clear hP hgb hg3 hset hf1 hmlen
      go_wp2_with fail
      go_region_held3 (fun V => Kept wr V ∧ (V.cell? ⟨w.heap.size, 0, none⟩ = some (.int .i64 W) ∧ V.cell? ⟨w.heap.size, 1, none⟩ = some (.int .i64 H) ∧ V.cell? ⟨w.heap.size, 2, none⟩ = some (.string g)) ∧ V.cell? ⟨b1, k, none⟩ = some (.int .i64 x1))
        (first | exact HK.out _ (by assumption) | exact HK.out _ (Kept.drew (by assumption)))
        (first | (go_at_call 19; refine (HGC.out _).mono ?_; rintro e wa ⟨rfl, hba⟩; have ka : Kept wr wa := Below.trans (by first | exact kk | exact Kept.drew kk) (Below.mono hba (by first | exact Nat.le_refl _ | exact Below.size kk))))
      have hgra : wr.grownBy wa (Value.slice (some ⟨b1, 0, none⟩) n1 c1).ownBlock := grow_calls ka
      have HGA2 := Lib.hid (grow_trans HGR.out hgra)
      obtain ⟨_, _, hc5⟩ := HK.out wa ka
      have hfz := HFZ.out wa ka
      have HOA := Lib.hid (HO.out.calls ka)
      have HS5 := Lib.hid (HSET.out wa ka)
      clear ka kk hba g0 g1 g2 hq1 hq2 hgra
      cases p2 with
      | false =>
        have HN : Hid (¬ GoP W H (bytesOf g) cells ws n1) := HPN.out (by first | rfl | trivial)
        have HGF : Hid (w.grownBy wa (Value.slice (some ⟨b1, 0, none⟩) n1 c1).ownBlock) := grow_trans (grow_calls HB1.out) HGA2.out
        go_wp2_with fail
        go_ret
        refine ⟨1, _, rfl, .inr ⟨fun h => HN.out ?_, rfl⟩, ?_, HOA.out, HGF.out⟩
        · have := h.2
          rwa [HL1.out] at this
        · rw [mvL_len]; exact HL1.out
      | true =>
        have HP2 := Lib.hid (HPS.out (by first | rfl | trivial))
        have HG5 : Hid (w1.grownBy (wa.setCell ⟨b1, k, none⟩ (.int .i64 p1)) (Value.slice (some ⟨b1, 0, none⟩) n1 c1).ownBlock) := grow_trans HGA2.out (grow_set wa b1 k _)
        go_wp2_with fail
        go_roundw
        case rel => exact ⟨k + 1, by omega, by go_num, HS5.out, HP2.out, HG5.out⟩
        case measure => simp [intOf]; omega
    · obtain rfl : k = n1 := by omega
      have HGF : Hid (w.grownBy wr (Value.slice a1 k c1).ownBlock) := grow_trans (grow_calls HB1.out) HGR.out
      go_wp2_with fail
      go_ret
      refine ⟨0, _, rfl, .inl ⟨by rw [HL1.out, HL2.out], by rw [HL1.out]; exact HP.out, ?_, rfl⟩, ?_, HO.out, HGF.out⟩
      · rw [HL1.out]
        have := mvL_end (W := W) (H := H) (l := bytesOf g) (cells := cells) (ws := ws)
        rwa [HL1.out] at this
      · rw [mvL_len]; exact HL1.out

set_option maxHeartbeats 1000000 in
theorem mGo_any (W H : Int) (g : ByteArray) (a1 a2 : Option Addr) (n1 c1 n2 c2 B : Nat) (cells ws : List Int) (w : World) (hok : Okay W H g) (h1 : RowZ .i64 w B a1 n1 c1 cells) (h2 : RowZ .i64 w B a2 n2 c2 ws) (hB : B ≤ w.heap.size) (hn : n1 ≤ 100000) :
    Calls Try.prog 10 #[gridV W H g, .slice a1 n1 c1, .slice a2 n2 c2] w (HopPost w (GoOut W H (bytesOf g) cells ws)) := by
  obtain ⟨w1, hw1⟩ : ∃ w1, w1 = w.alloc (gridO W H g) := ⟨_, rfl⟩
  have hb1 : Below w.heap.size w w1 := by rw [hw1]; exact (Below.refl _ _).alloc (Nat.le_refl _) _
  have hz1 : w1.heap.size = w.heap.size + 1 := by rw [hw1]; simp
  have hg1 : GridAt w1 w.heap.size W H g := by rw [hw1]; exact gridAt_new w W H g
  have HL1 := Lib.hid h1.1
  have HCL := Lib.hid (cloneZ_any a1 n1 c1 w.heap.size cells w1 ((h1.mono hB).below hb1) (by omega) hn)
  have HR2 := Lib.hid fun V (hV : Below w.heap.size w V) => (h2.mono hB).below hV
  have HMV := Lib.hid fun (a : Option Addr) (c : Nat) V (ho : OwnZ V (w.heap.size + 1) (.slice a n1 c) cells) (hr : RowZ .i64 V (w.heap.size + 1) a2 n2 c2 ws) (hV : w.heap.size + 1 ≤ V.heap.size) => move_any W H g a a2 n1 c n2 c2 (w.heap.size + 1) cells ws V hok ho h1.1 hr hV hn
  have HB1 := Lib.hid hb1
  have HZ1 := Lib.hid hz1
  have HW1 := Lib.hid hw1
  have HG1 := Lib.hid hg1
  clear hw1 hb1 hg1 h1 h2 hB hok
  go_enter Try.func10, Try.ntmps10
  go_wp2_with fail
  rw [← HW1.out]
  refine HCL.out.mono ?_
  rintro e w2 ⟨a, c, rfl, ho, hb2⟩
  rw [hz1] at ho hb2
  have HO := Lib.hid ho
  have HB2 := Lib.hid (HB1.out.trans (hb2.mono (by omega)))
  have hz2 := hb2.size
  obtain ⟨g0, g1, g2⟩ := HG1.out.below hb2 (by omega)
  have HM := Lib.hid (HMV.out a c w2 ho ((HR2.out w2 HB2.out).mono (by omega)) (by omega))
  clear ho hb2
  go_wp2_with fail
  refine HM.out.mono ?_
  rintro e w3 ⟨x, L, rfl, hx, hL, ho3, hgr⟩
  have HB3 := Lib.hid (HB2.out.trans ((grow_below hgr HO.out (by omega)).mono (by omega)))
  have HO3 := Lib.hid ho3
  have HX := Lib.hid hx
  have HL := Lib.hid hL
  clear ho3 hgr hx hL g0 g1 g2 hz2 hz1
  by_cases h0 : x = 0
  · have e1 : (x != 0) = false := by simpa using h0
    have HE : Hid (GoOut W H (bytesOf g) cells ws L 0) := by
      rcases HX.out with ⟨q1, q2, q3, q4⟩ | ⟨_, q⟩
      · exact .inl ⟨q1, q2, q3, rfl⟩
      · exact absurd (h0.symm.trans q) (by decide)
    clear h0
    go_wp2_with fail
    go_ret2
    exact ⟨a, n1, c, L, 0, rfl, HE.out, HL.out, HO3.out.lower (by omega), HB3.out⟩
  · have e1 : (x != 0) = true := by simpa using h0
    have HE : Hid (GoOut W H (bytesOf g) cells ws [] x) := by
      rcases HX.out with ⟨_, _, _, q4⟩ | ⟨q1, q⟩
      · exact absurd q4 h0
      · exact .inr ⟨q1, rfl, q⟩
    clear h0
    go_wp2_with fail
    go_ret2
    exact hop_none HE.out HB3.out
end Go.Proofs.Ytacigmjdppoonaa.Vm
