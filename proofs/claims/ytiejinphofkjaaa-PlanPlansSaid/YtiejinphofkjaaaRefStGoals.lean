/- The contract of the document's Goal, on states that may be. -/
import Derived.Test.YtiejinphofkjaaaStGoals
import Derived.Test.YtiejinphofkjaaaRefFars
namespace Go.Proofs.Ytiejinphofkjaaa.Vm
open Go Go.RowKit

theorem kept_set5 {A V : World} {b : Nat} (h : Kept A V) (hb : A.heap.size ≤ b) (v0 v1 v2 v3 v4 : Value) : Kept A (((((V.setCell ⟨b, 0, none⟩ v0).setCell ⟨b, 1, none⟩ v1).setCell ⟨b, 2, none⟩ v2).setCell ⟨b, 3, none⟩ v3).setCell ⟨b, 4, none⟩ v4) :=
  ((((Below.setCell h (p := ⟨b, 0, none⟩) hb v0).setCell (p := ⟨b, 1, none⟩) hb v1).setCell (p := ⟨b, 2, none⟩) hb v2).setCell (p := ⟨b, 3, none⟩) hb v3).setCell (p := ⟨b, 4, none⟩) hb v4
theorem mode_find {ts : List Rec} {r : Rec} {i : Nat} (h : ModeP ts r i) (hb : r.b = 1 ∨ r.b = 2) : ∃ j : Nat, j < ts.length ∧ findS ts r.c = j := by
  unfold ModeP at h
  rcases h with h | ⟨_, j, hj, e, _⟩ | ⟨_, j, hj, e, _⟩ | h
  · omega
  · exact ⟨j, hj, e⟩
  · exact ⟨j, hj, e⟩
  · omega
theorem mode_five {ts : List Rec} {r : Rec} {i : Nat} (h : ModeP ts r i) : r.b = 0 ∨ r.b = 1 ∨ r.b = 2 ∨ r.b = 3 ∨ r.b = 4 := by
  unfold ModeP at h
  omega

set_option maxRecDepth 100000 in
set_option maxHeartbeats 2000000 in
theorem rgoal_any (W H : Int) (g : ByteArray) (h : Sh) (s : St) (x : Int) (B : Nat) (w : World) (hok : Okay W H g) (hin : StIn w B h s) (hB : B ≤ w.heap.size) (hrp : ∀ i, i < s.rs.length → ModeP s.ts (s.rs.getD i zr) i) (hn3 : h.n3 ≤ 1000000) :
    Calls Try.prog 32 #[gridV W H g, shV h, .int .i64 x] w fun e w' => e = .returned (.tuple #[.int .i64 (goalG W H (bytesOf g) s x).1, .bool (goalG W H (bytesOf g) s x).2]) ∧ Below w.heap.size w w' := by
  obtain ⟨w2, hw2, hB2, hz2, hg2, hs2⟩ := gs_head w W H g h
  have hgle := hok.le
  have hR := hin.rs.mono hB
  have HIN := Lib.hid (hin.mono hB)
  have hnl := hin.rs.len
  obtain ⟨t, a1, n1, c1, a2, n2, c2, a3, n3, c3⟩ := h
  obtain ⟨tick, rs, ts, bl⟩ := s
  simp only [] at hR hn3 hnl hrp
  have HRL := Lib.hid hR.1
  have HW2 := Lib.hid hw2
  have HG2 := Lib.hid hg2
  have HS2 := Lib.hid hs2
  have HOK := Lib.hid hok
  unfold maxLen at hnl
  obtain ⟨g1, g2, g3⟩ := hg2
  obtain ⟨s0, s1, s2, s3⟩ := hs2
  simp only [] at s0 s1 s2 s3
  have HBA := Lib.hid hB2
  rw [HW2.out] at HBA
  clear hin hw2 hok
  by_cases hx0 : x < 0
  · have HY : Hid (goalG W H (bytesOf g) ⟨tick, rs, ts, bl⟩ x = (0, false)) := goal_out (by show ¬ (0 ≤ x ∧ x < (rs.length : Int)); omega)
    generalize goalG W H (bytesOf g) ⟨tick, rs, ts, bl⟩ x = R at HY
    go_enter Try.func32, Try.ntmps32
    go_wp2_with fail
    go_ret2
    exact ⟨ret_ib HY.out, HBA.out⟩
  by_cases hx1 : (n1 : Int) ≤ x
  · have HY : Hid (goalG W H (bytesOf g) ⟨tick, rs, ts, bl⟩ x = (0, false)) := goal_out (by show ¬ (0 ≤ x ∧ x < (rs.length : Int)); rw [HRL.out]; omega)
    generalize goalG W H (bytesOf g) ⟨tick, rs, ts, bl⟩ x = R at HY
    go_enter Try.func32, Try.ntmps32
    go_wp2_with fail
    go_ret2
    exact ⟨ret_ib HY.out, HBA.out⟩
  obtain ⟨k, rfl⟩ := Int.eq_ofNat_of_zero_le (show 0 ≤ x by omega)
  have hkn : k < n1 := by omega
  have hk0 : (0 : Int) ≤ ((k : Nat) : Int) := by omega
  have hkl : k < rs.length := by rw [HRL.out]; exact hkn
  have hmode := hrp k hkl
  obtain ⟨b, off, rfl, hb, hcs⟩ := hR.cells (by omega)
  have hr : ∃ r, rs.getD k zr = r := ⟨_, rfl⟩
  obtain ⟨r, hr⟩ := hr
  have hcell0 := hcs k hkn
  rw [hr] at hcell0 hmode
  have hcell := hcell0.below hB2 (by omega)
  obtain ⟨p1, p2, p3, p4, p5⟩ := hcell0
  have HGI := Lib.hid (goal_in (W := W) (H := H) (l := bytesOf g) (s := ⟨tick, rs, ts, bl⟩) (k := k) hkl hr)
  obtain ⟨R, hRR⟩ : ∃ R, goalG W H (bytesOf g) ⟨tick, rs, ts, bl⟩ (k : Int) = R := ⟨_, rfl⟩
  rw [hRR] at HGI ⊢
  have hra := recAt_new w2 r 46
  have hba : Below w2.heap.size w2 (w2.alloc (.cells #[.int .i64 r.a, .int .i64 r.b, .int .i64 r.c, .int .i64 r.d, .int .i64 r.e] 46)) := (Below.refl _ _).alloc (Nat.le_refl _) _
  have hza : (w2.alloc (.cells #[.int .i64 r.a, .int .i64 r.b, .int .i64 r.c, .int .i64 r.d, .int .i64 r.e] 46)).heap.size = w.heap.size + 3 := by simp [hz2]
  rw [hz2] at hra
  have hga := HG2.out.below hba (by omega)
  have hsa := HS2.out.below hba (by omega)
  have hB3 := hB2.trans (hba.mono hB2.size)
  obtain ⟨w3, hw3⟩ : ∃ w3, w3 = w2.alloc (.cells #[.int .i64 r.a, .int .i64 r.b, .int .i64 r.c, .int .i64 r.d, .int .i64 r.e] 46) := ⟨_, rfl⟩
  rw [← hw3] at hra hza hga hsa hB3
  have HW3 : Hid (w3 = ((w.alloc (gridO W H g)).alloc (shO ⟨t, some ⟨b, off, none⟩, n1, c1, a2, n2, c2, a3, n3, c3⟩)).alloc (.cells #[.int .i64 r.a, .int .i64 r.b, .int .i64 r.c, .int .i64 r.d, .int .i64 r.e] 46)) := by unfold Hid; rw [← HW2.out]; exact hw3
  have HR3 := Lib.hid hra
  have HG3 := Lib.hid hga
  have HS3 := Lib.hid hsa
  have HB3 := Lib.hid hB3
  have HB3' := Lib.hid hB3
  rw [HW3.out] at HB3'
  have HMODE := Lib.hid hmode
  have h5 := mode_five hmode
  clear hRR hr hcs hR hra hga hsa hba hw3 hcell hrp hmode g1 g2 g3 s0 s1 s2 s3 hx0 hx1 hkl HW2 HBA hB2 hB3
  by_cases h0 : r.b = 0
  · have HY : Hid (R = (0, false)) := by
      unfold Hid
      rw [HGI.out]
      by_cases hh : 0 < r.e ∨ r.d = 0
      · rw [if_pos hh]
      · rw [if_neg hh, if_neg (by omega), if_neg (by omega)]
    have e0 : (r.b == 0) = true := by simpa using h0
    clear HGI h0 h5
    go_enter Try.func32, Try.ntmps32
    go_wp2_with fail
    go_ret2
    exact ⟨ret_ib HY.out, HB3'.out⟩
  have e0 : (r.b == 0) = false := by simpa using h0
  by_cases h4 : r.b = 4
  · have HY : Hid (R = (0, false)) := by
      unfold Hid
      rw [HGI.out]
      by_cases hh : 0 < r.e ∨ r.d = 0
      · rw [if_pos hh]
      · rw [if_neg hh, if_neg (by omega), if_neg (by omega)]
    have e4 : (r.b == 4) = true := by simpa using h4
    clear HGI h0 h4 h5
    go_enter Try.func32, Try.ntmps32
    go_wp2_with fail
    go_ret2
    exact ⟨ret_ib HY.out, HB3'.out⟩
  have e4 : (r.b == 4) = false := by simpa using h4
  by_cases he : 0 < r.e
  · have HY : Hid (R = (0, false)) := by unfold Hid; rw [HGI.out, if_pos (.inl he)]
    clear HGI h0 h4 h5
    go_enter Try.func32, Try.ntmps32
    go_wp2_with fail
    go_ret2
    exact ⟨ret_ib HY.out, HB3'.out⟩
  by_cases hd : r.d = 0
  · have HY : Hid (R = (0, false)) := by unfold Hid; rw [HGI.out, if_pos (.inr hd)]
    have ed : (r.d == 0) = true := by simpa using hd
    clear HGI h0 h4 h5 hd
    go_enter Try.func32, Try.ntmps32
    go_wp2_with fail
    go_ret2
    exact ⟨ret_ib HY.out, HB3'.out⟩
  have ed : (r.d == 0) = false := by simpa using hd
  have hgi := HGI.out
  rw [if_neg (by omega)] at hgi
  have k0 : Kept w3 w3 := Kept.refl _
  have hg3 := HG3.out
  have hr3 := HR3.out
  have hs3 := HS3.out
  clear HGI hd
  by_cases h3 : r.b = 3
  · have e3 : (r.b == 3) = true := by simpa using h3
    rw [if_neg (by omega), if_pos h3] at hgi
    have HY := Lib.hid hgi
    clear hgi h0 h3 h4 h5
    have hks : ∀ V, Kept w3 V → (Kept w3 V ∧ V.cell? ⟨w.heap.size, 0, none⟩ = some (.int .i64 W) ∧ V.cell? ⟨w.heap.size, 1, none⟩ = some (.int .i64 H) ∧ V.cell? ⟨w.heap.size, 2, none⟩ = some (.string g) ∧ V.cell? ⟨w.heap.size + 1, 3, none⟩ = some (.slice a3 n3 c3) ∧ V.cell? ⟨w.heap.size + 1 + 1, 0, none⟩ = some (.int .i64 r.a)) := fun V hV => by
      have hg' := hg3.below hV (by omega)
      have hs' := hs3.below hV (by omega)
      have hr' := hr3.below hV (by omega)
      exact ⟨hV, hg'.1, hg'.2.1, hg'.2.2, hs'.2.2.2, hr'.1⟩
    have hof : ∀ V, Kept w3 V → Calls Try.prog 46 #[gridV W H g, .int .u8 67] V fun e V' => ∃ a n c, e = .returned (.slice a n c) ∧ n ≤ 1000000 ∧ RowZ .i64 V' V'.heap.size a n c (ofZ (bytesOf g)) ∧ Kept w3 V' := fun V hV =>
      (of_row (rof_any W H 67 g V HOK.out)).mono fun e V' ⟨a, n, c, he, hn, hr, hb⟩ => by
        refine ⟨a, n, c, he, ?_, hr, Below.trans hV (hb.mono hV.size)⟩
        have h1 := ofZ_len (bytesOf g)
        unfold ofZ at h1
        rw [List.length_map, bytesOf_len] at h1
        omega
    have hnr : ∀ V a n c, Kept w3 V → n ≤ 1000000 → RowZ .i64 V V.heap.size a n c (ofZ (bytesOf g)) → Calls Try.prog 45 #[gridV W H g, .int .i64 r.a, .slice a n c, .slice a3 n3 c3] V fun e V' => e = .returned (.tuple #[.int .i64 (nearG W H (bytesOf g) bl (ofZ (bytesOf g)) r.a).1, .int .i64 (nearG W H (bytesOf g) bl (ofZ (bytesOf g)) r.a).2]) ∧ Kept w3 V' := fun V a n c hV hn hr =>
      (rnearest_any W H r.a g bl (ofZ (bytesOf g)) a3 a n3 c3 n c V.heap.size V HOK.out ((HIN.out.bl.below (HB3.out.trans (Below.mono hV (by omega)))).mono (by have := Below.size hV; have := HB3.out.size; omega)) hr (Nat.le_refl _) hn3 hn).mono fun e V' ⟨he, hb⟩ => ⟨he, Below.trans hV (hb.mono hV.size)⟩
    generalize nearG W H (bytesOf g) bl (ofZ (bytesOf g)) r.a = N at hnr HY
    have HKS := Lib.hid hks
    have HOF := Lib.hid hof
    have HNR := Lib.hid hnr
    clear hks hof hnr hg3 hr3 hs3
    go_enter Try.func32, Try.ntmps32
    go_wp2_with fail
    rw [← HW3.out]
    go_region_held3 (fun V => Kept w3 V ∧ V.cell? ⟨w.heap.size, 0, none⟩ = some (.int .i64 W) ∧ V.cell? ⟨w.heap.size, 1, none⟩ = some (.int .i64 H) ∧ V.cell? ⟨w.heap.size, 2, none⟩ = some (.string g) ∧ V.cell? ⟨w.heap.size + 1, 3, none⟩ = some (.slice a3 n3 c3) ∧ V.cell? ⟨w.heap.size + 1 + 1, 0, none⟩ = some (.int .i64 r.a))
      (first | exact HKS.out _ (by assumption) | exact HKS.out _ (Kept.drew (by assumption)))
      (first
        | (go_at_call 46; refine (HOF.out _ (by first | exact k0 | exact Kept.drew k0)).mono ?_; rintro e wa ⟨xa, xn, xc, rfl, hxn, hxr, ka⟩)
        | (go_at_call 45; refine (HNR.out _ _ _ _ (by first | exact ka | exact Kept.drew ka) hxn (by first | exact hxr | exact hxr.below (Below.refl _ _).drew)).mono ?_; rintro e wb ⟨rfl, kb⟩))
    all_goals
      by_cases hN : N.2 < 0
      · have HZ : Hid (R = (0, false)) := by unfold Hid; rw [HY.out, if_pos hN]
        go_wp2_with fail
        go_ret2
        refine ⟨ret_ib HZ.out, HB3.out.trans (Below.mono ?_ HB3.out.size)⟩
        first | exact kb | exact Kept.drew kb
      · have HZ : Hid (R = (N.1, true)) := by unfold Hid; rw [HY.out, if_neg hN]
        go_wp2_with fail
        go_ret2
        refine ⟨ret_ib HZ.out, HB3.out.trans (Below.mono ?_ HB3.out.size)⟩
        first | exact kb | exact Kept.drew kb
  have e3 : (r.b == 3) = false := by simpa using h3
  have h12 : r.b = 1 ∨ r.b = 2 := by omega
  rw [if_pos h12] at hgi
  obtain ⟨j, hj, hfj⟩ := mode_find HMODE.out h12
  have hjn : j < n2 := by have := HIN.out.ts.1; simp only [] at this; omega
  obtain ⟨b2, off2, e', hb2, hcs2⟩ := HIN.out.ts.cells (show 0 < n2 by omega)
  simp only [] at e'
  subst e'
  have hcj := (hcs2 j hjn).below HB3.out (by omega)
  have hy : ∃ y, ts.getD j zr = y := ⟨_, rfl⟩
  obtain ⟨y, hy⟩ := hy
  simp only [] at hcj
  rw [hy] at hcj
  have hj0 : (0 : Int) ≤ (j : Int) := by omega
  have hjn2 : (j : Int) < (n2 : Int) := by omega
  have hfd : ∀ V, Kept w3 V → Calls Try.prog 43 #[shV ⟨t, some ⟨b, off, none⟩, n1, c1, some ⟨b2, off2, none⟩, n2, c2, a3, n3, c3⟩, .int .i64 r.c] V fun e V' => e = .returned (.int .i64 (j : Int)) ∧ Kept w3 V' ∧ Below V.heap.size V V' := fun V hV => by
    have h1 := rfind_any ⟨t, some ⟨b, off, none⟩, n1, c1, some ⟨b2, off2, none⟩, n2, c2, a3, n3, c3⟩ ts r.c w.heap.size V (HIN.out.ts.below (HB3.out.trans (Below.mono hV (by omega)))) (by have := Below.size hV; omega)
    rw [hfj] at h1
    exact h1.mono fun e V' ⟨he, hb⟩ => ⟨he, Below.trans hV (hb.mono hV.size), hb⟩
  have hks : ∀ V, Kept w3 V → (Kept w3 V ∧ V.cell? ⟨w.heap.size + 1, 0, none⟩ = some (.int .i64 t) ∧ V.cell? ⟨w.heap.size + 1, 1, none⟩ = some (.slice (some ⟨b, off, none⟩) n1 c1) ∧ V.cell? ⟨w.heap.size + 1, 2, none⟩ = some (.slice (some ⟨b2, off2, none⟩) n2 c2) ∧ V.cell? ⟨w.heap.size + 1, 3, none⟩ = some (.slice a3 n3 c3) ∧ V.cell? ⟨w.heap.size + 1 + 1, 1, none⟩ = some (.int .i64 r.b) ∧ V.cell? ⟨w.heap.size + 1 + 1, 2, none⟩ = some (.int .i64 r.c) ∧
      V.cell? ⟨b2, off2 + j * 5, none⟩ = some (.int .i64 y.a) ∧ V.cell? ⟨b2, off2 + j * 5 + 1, none⟩ = some (.int .i64 y.b) ∧ V.cell? ⟨b2, off2 + j * 5 + 2, none⟩ = some (.int .i64 y.c) ∧ V.cell? ⟨b2, off2 + j * 5 + 3, none⟩ = some (.int .i64 y.d) ∧ V.cell? ⟨b2, off2 + j * 5 + 4, none⟩ = some (.int .i64 y.e)) := fun V hV => by
    have hs' := hs3.below hV (by omega)
    have hr' := hr3.below hV (by omega)
    have hc' := hcj.below hV (by omega)
    exact ⟨hV, hs'.1, hs'.2.1, hs'.2.2.1, hs'.2.2.2, hr'.2.1, hr'.2.2.1, hc'.1, hc'.2.1, hc'.2.2.1, hc'.2.2.2.1, hc'.2.2.2.2⟩
  have HY1 : Hid (r.b = 1 → R = (y.b, true)) := fun h1 => by
    rw [hgi]
    unfold errandS
    simp only []
    rw [hfj, if_neg (by omega), if_pos h1, Int.toNat_natCast, hy]
  have HY2 : Hid (r.b ≠ 1 → R = (y.c, true)) := fun h1 => by
    rw [hgi]
    unfold errandS
    simp only []
    rw [hfj, if_neg (by omega), if_neg h1, Int.toNat_natCast, hy]
  have hnew : ∀ V, Below (w3.heap.size + 1) (w3.alloc (.cells #[.int .i64 0, .int .i64 0, .int .i64 0, .int .i64 0, .int .i64 0] 90)) V →
      (V.cell? ⟨w3.heap.size, 0, none⟩ = some (.int .i64 0) ∧ V.cell? ⟨w3.heap.size, 1, none⟩ = some (.int .i64 0) ∧ V.cell? ⟨w3.heap.size, 2, none⟩ = some (.int .i64 0) ∧ V.cell? ⟨w3.heap.size, 3, none⟩ = some (.int .i64 0) ∧ V.cell? ⟨w3.heap.size, 4, none⟩ = some (.int .i64 0)) ∧
      V.frozen? ⟨w3.heap.size, 0, none⟩ = false ∧ V.frozen? ⟨w3.heap.size, 1, none⟩ = false ∧ V.frozen? ⟨w3.heap.size, 2, none⟩ = false ∧ V.frozen? ⟨w3.heap.size, 3, none⟩ = false ∧ V.frozen? ⟨w3.heap.size, 4, none⟩ = false := fun V hV => by
    have hc : ∀ i v, (w3.alloc (.cells #[.int .i64 0, .int .i64 0, .int .i64 0, .int .i64 0, .int .i64 0] 90)).cell? ⟨w3.heap.size, i, none⟩ = some v → V.cell? ⟨w3.heap.size, i, none⟩ = some v := fun i v h => (hV.cell (p := ⟨w3.heap.size, i, none⟩) (Nat.lt_succ_self _)).trans h
    have hf : ∀ i, V.frozen? ⟨w3.heap.size, i, none⟩ = false := fun i => (hV.frozen (p := ⟨w3.heap.size, i, none⟩) (Nat.lt_succ_self _)).trans (by simp)
    exact ⟨⟨hc 0 _ (by simp), hc 1 _ (by simp), hc 2 _ (by simp), hc 3 _ (by simp), hc 4 _ (by simp)⟩, hf 0, hf 1, hf 2, hf 3, hf 4⟩
  rw [hza] at hnew
  have HNEW := Lib.hid hnew
  have HKS := Lib.hid hks
  have HFD := Lib.hid hfd
  clear hnew hks hfd hgi hfj hj hcs2 hy hcj hg3 hs3 h0 h3 h4 h5
  go_enter Try.func32, Try.ntmps32
  go_wp2_with fail
  rw [← HW3.out]
  go_region_held3 (fun V => Kept w3 V ∧ V.cell? ⟨w.heap.size + 1, 0, none⟩ = some (.int .i64 t) ∧ V.cell? ⟨w.heap.size + 1, 1, none⟩ = some (.slice (some ⟨b, off, none⟩) n1 c1) ∧ V.cell? ⟨w.heap.size + 1, 2, none⟩ = some (.slice (some ⟨b2, off2, none⟩) n2 c2) ∧ V.cell? ⟨w.heap.size + 1, 3, none⟩ = some (.slice a3 n3 c3) ∧ V.cell? ⟨w.heap.size + 1 + 1, 1, none⟩ = some (.int .i64 r.b) ∧ V.cell? ⟨w.heap.size + 1 + 1, 2, none⟩ = some (.int .i64 r.c) ∧
      V.cell? ⟨b2, off2 + j * 5, none⟩ = some (.int .i64 y.a) ∧ V.cell? ⟨b2, off2 + j * 5 + 1, none⟩ = some (.int .i64 y.b) ∧ V.cell? ⟨b2, off2 + j * 5 + 2, none⟩ = some (.int .i64 y.c) ∧ V.cell? ⟨b2, off2 + j * 5 + 3, none⟩ = some (.int .i64 y.d) ∧ V.cell? ⟨b2, off2 + j * 5 + 4, none⟩ = some (.int .i64 y.e))
    (first | with_reducible exact HKS.out _ (kept_set5 (by with_reducible assumption) (Nat.le_of_eq hza) _ _ _ _ _) | with_reducible exact HKS.out _ (kept_set5 (Kept.drew (by with_reducible assumption)) (Nat.le_of_eq hza) _ _ _ _ _) | with_reducible exact HKS.out _ (by with_reducible assumption) | with_reducible exact HKS.out _ (Kept.drew (by with_reducible assumption)) | with_reducible exact HKS.out _ (Kept.alloc (by with_reducible assumption) _) | with_reducible exact HKS.out _ (Kept.alloc (Kept.drew (by with_reducible assumption)) _) | with_reducible exact HKS.out _ (Kept.drew (Kept.alloc (by with_reducible assumption) _)))
    (first
      | (go_at_call 43; refine (HFD.out _ (by first | exact k0 | exact Kept.drew k0)).mono ?_; rintro e wa ⟨rfl, ka, hbe⟩)
      | (go_at_call 43; refine (HFD.out _ (by first | exact Kept.alloc k0 _ | exact Kept.drew (Kept.alloc k0 _) | exact Kept.alloc (Kept.drew k0) _)).mono ?_; rintro e wa ⟨rfl, ka, hbe⟩; obtain ⟨⟨z0, z1, z2, z3, z4⟩, y0, y1, y2, y3, y4⟩ := HNEW.out wa (by first | exact ((Below.refl _ _).drew).trans (hbe.mono (Nat.le_of_eq (by simp [hza]))) | exact hbe.mono (Nat.le_of_eq (by simp [hza])))))
  all_goals
    have hHH := ‹Kept w3 _ ∧ _›
    have HKK := Lib.hid hHH.1
    by_cases h1 : r.b = 1
    · have HZ := Lib.hid (HY1.out h1)
      have e1 : (r.b == 1) = true := by simpa using h1
      clear h1 h12
      go_wp2_with fail
      go_ret2
      exact ⟨ret_ib HZ.out, HB3.out.trans (Below.mono HKK.out HB3.out.size)⟩
    · have HZ := Lib.hid (HY2.out h1)
      have e1 : (r.b == 1) = false := by simpa using h1
      clear h1 h12
      go_wp2_with fail
      go_ret2
      exact ⟨ret_ib HZ.out, HB3.out.trans (Below.mono HKK.out HB3.out.size)⟩
end Go.Proofs.Ytiejinphofkjaaa.Vm
