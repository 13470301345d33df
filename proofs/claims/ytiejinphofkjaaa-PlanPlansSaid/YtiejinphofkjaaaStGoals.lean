/- The contracts of both Goals. -/
import Derived.Test.YtiejinphofkjaaaStFinds
import Derived.Test.YtiejinphofkjaaaNearests
import Derived.Test.YtiejinphofkjaaaWords
import Derived.Test.YtiejinphofkjaaaOfs
import Derived.Test.YtiejinphofkjaaaAppendZ
import Derived.Test.YtiejinphofkjaaaRobots
import Derived.Deep.RegionHeld3
namespace Go.Proofs.Ytiejinphofkjaaa.Vm
open Go Go.RowKit

theorem ret_E {R E : Int × Bool} (h : R = E) : Ending.returned (.tuple #[.int .i64 E.1, .bool E.2]) = .returned (.tuple #[.int .i64 R.1, .bool R.2]) := by rw [h]
/-- The chargers of a grid. -/
def ofZ (l : List Nat) : List Int := (ofS l 67).map fun k : Nat => (k : Int)
theorem ofZ_len (l : List Nat) : (ofZ l).length ≤ l.length := by
  unfold ofZ ofS
  rw [List.length_map]
  exact filter_len _ _
theorem ofZ_wf {l : List Nat} (hl : l.length ≤ 1000000) : ∀ z ∈ ofZ l, (Lit.int .i64 z).wf = true := by
  intro z hz
  obtain ⟨k, hk, rfl⟩ := List.mem_map.1 hz
  have h1 := List.mem_range.1 (List.mem_filter.1 hk).1
  exact WalkArith.wf_i64 (by omega)
theorem ownI_rowZ {w : World} {B : Nat} {v : Value} {l : List Nat} (h : OwnI w B v l) : ∃ a n c, v = .slice a n c ∧ n = l.length ∧ RowZ .i64 w w.heap.size a n c (l.map fun k : Nat => (k : Int)) := by
  have h2 : OwnZ w B v (l.map fun k : Nat => (k : Int)) := by
    unfold OwnZ
    have e : intsZ (l.map fun k : Nat => (k : Int)) = i64s l := by simp [intsZ, i64s]
    rw [e, List.length_map]
    exact h
  obtain ⟨a, c, e, hr⟩ := h2.row
  rw [List.length_map] at e hr
  exact ⟨a, _, c, e, rfl, hr⟩

/-- Where a robot wants to go. -/
noncomputable def goalG (W H : Int) (l : List Nat) (s : St) (x : Int) : Int × Bool :=
  if 0 ≤ x ∧ x < s.rs.length then
    if 0 < (s.rs.getD x.toNat zr).e ∨ (s.rs.getD x.toNat zr).d = 0 then (0, false)
    else if (s.rs.getD x.toNat zr).b = 1 ∨ (s.rs.getD x.toNat zr).b = 2 then errandS s.ts (s.rs.getD x.toNat zr)
    else if (s.rs.getD x.toNat zr).b = 3 then
      if (nearG W H l s.bl (ofZ l) (s.rs.getD x.toNat zr).a).2 < 0 then (0, false) else ((nearG W H l s.bl (ofZ l) (s.rs.getD x.toNat zr).a).1, true)
    else (0, false)
  else (0, false)
section
variable {W H : Int} {l : List Nat} {s : St} {x : Int} {r : Rec} {k : Nat}
theorem goal_out (h : ¬ (0 ≤ x ∧ x < s.rs.length)) : goalG W H l s x = (0, false) := by unfold goalG; rw [if_neg h]
theorem goal_in (hk : k < s.rs.length) (hr : s.rs.getD k zr = r) : goalG W H l s (k : Int) =
    if 0 < r.e ∨ r.d = 0 then (0, false) else if r.b = 1 ∨ r.b = 2 then errandS s.ts r else if r.b = 3 then
      if (nearG W H l s.bl (ofZ l) r.a).2 < 0 then (0, false) else ((nearG W H l s.bl (ofZ l) r.a).1, true) else (0, false) := by
  unfold goalG
  rw [if_pos (by omega), Int.toNat_natCast, hr]
end

/-- What either Of hands back, as a row of ints. -/
theorem of_row {f : FuncId} {args : Array Value} {V : World} {l : List Nat} (h : Calls Try.prog f args V (ListPost V l)) :
    Calls Try.prog f args V fun e V' => ∃ a n c, e = .returned (.slice a n c) ∧ n = l.length ∧ RowZ .i64 V' V'.heap.size a n c (l.map fun k : Nat => (k : Int)) ∧ Below V.heap.size V V' :=
  h.mono fun e V' ⟨v, he, ho, hb⟩ => by
    obtain ⟨a, n, c, e', hn, hr⟩ := ownI_rowZ ho
    subst e'
    exact ⟨a, n, c, he, hn, hr, hb⟩

set_option maxRecDepth 100000 in
set_option maxHeartbeats 2000000 in
theorem goal_any (W H : Int) (g : ByteArray) (h : Sh) (s : St) (x : Int) (B : Nat) (w : World) (hok : Okay W H g) (hin : StIn w B h s) (hB : B ≤ w.heap.size) (hbw : ∀ z ∈ s.bl, (Lit.int .i64 z).wf = true) (hn3 : h.n3 ≤ 1000000) :
    Calls Try.prog 44 #[gridV W H g, shV h, .int .i64 x] w fun e w' => e = .returned (.tuple #[.int .i64 (goalG W H (bytesOf g) s x).1, .bool (goalG W H (bytesOf g) s x).2]) ∧ Below w.heap.size w w' := by
  obtain ⟨w2, hw2, hB2, hz2, hg2, hs2⟩ := gs_head w W H g h
  have hgle := hok.le
  have hR := hin.rs.mono hB
  have HIN := Lib.hid (hin.mono hB)
  have hnl := hin.rs.len
  have HNL := Lib.hid hnl
  have hlen : goalG W H (bytesOf g) s x = goalG W H (bytesOf g) s x := rfl
  obtain ⟨t, a1, n1, c1, a2, n2, c2, a3, n3, c3⟩ := h
  obtain ⟨tick, rs, ts, bl⟩ := s
  simp only [] at hR hbw hn3 hnl HNL
  have HRL := Lib.hid hR.1
  have HW2 := Lib.hid hw2
  have HG2 := Lib.hid hg2
  have HS2 := Lib.hid hs2
  have HOK := Lib.hid hok
  have HBW := Lib.hid hbw
  unfold maxLen at hnl
  obtain ⟨g1, g2, g3⟩ := hg2
  obtain ⟨s0, s1, s2, s3⟩ := hs2
  simp only [] at s0 s1 s2 s3
  clear hin hw2 hok hbw hlen
  by_cases hx : ¬ (0 ≤ x ∧ x < (n1 : Int))
  · have HY : Hid (goalG W H (bytesOf g) ⟨tick, rs, ts, bl⟩ x = (0, false)) := goal_out (by show ¬ (0 ≤ x ∧ x < (rs.length : Int)); rw [HRL.out]; exact hx)
    have HIR := Lib.hid fun V => isRobot_no a1 (n := n1) c1 V HNL.out hx
    clear hx
    generalize goalG W H (bytesOf g) ⟨tick, rs, ts, bl⟩ x = R at HY
    go_enter Try.func44, Try.ntmps44
    go_wp2_with fail
    rw [← HW2.out]
    refine (HIR.out _).mono ?_
    rintro e w' ⟨rfl, rfl⟩
    go_wp2_with fail
    go_ret2
    exact ⟨ret_ib HY.out, hB2⟩
  have hx := Classical.not_not.1 hx
  obtain ⟨k, rfl⟩ := Int.eq_ofNat_of_zero_le hx.1
  have hkn : k < n1 := by omega
  have hk0 : (0 : Int) ≤ ((k : Nat) : Int) := by omega
  have HIR := Lib.hid fun V => isRobot_yes a1 (n := n1) c1 V HNL.out hx
  obtain ⟨b, off, rfl, hb, hcs⟩ := hR.cells (by omega)
  have hr : ∃ r, rs.getD k zr = r := ⟨_, rfl⟩
  obtain ⟨r, hr⟩ := hr
  have hcell := (hcs k hkn).below hB2 (by omega)
  rw [hr] at hcell
  obtain ⟨p1, p2, p3, p4, p5⟩ := hcell
  have hbz : b < w2.heap.size := by omega
  have HGI := Lib.hid (goal_in (W := W) (H := H) (l := bytesOf g) (s := ⟨tick, rs, ts, bl⟩) (k := k) (by show k < rs.length; rw [HRL.out]; exact hkn) hr)
  obtain ⟨R, hRR⟩ : ∃ R, goalG W H (bytesOf g) ⟨tick, rs, ts, bl⟩ (k : Int) = R := ⟨_, rfl⟩
  rw [hRR] at HGI ⊢
  have hra := recAt_new w2 r 46
  have hba : Below w2.heap.size w2 (w2.alloc (.cells #[.int .i64 r.a, .int .i64 r.b, .int .i64 r.c, .int .i64 r.d, .int .i64 r.e] 46)) := (Below.refl _ _).alloc (Nat.le_refl _) _
  have hza : (w2.alloc (.cells #[.int .i64 r.a, .int .i64 r.b, .int .i64 r.c, .int .i64 r.d, .int .i64 r.e] 46)).heap.size = w.heap.size + 3 := by simp [hz2]
  rw [hz2] at hra
  have hga := HG2.out.below hba (by omega)
  have hsa := HS2.out.below hba (by omega)
  have hB3 := hB2.trans (hba.mono hB2.size)
  obtain ⟨w3, hw3⟩ : ∃ w3, w3 = w2.alloc (.cells #[.int .i64 r.a, .int .i64 r.b, .int .i64 r.c, .int .i64 r.d, .int .i64 r.e] 46) := ⟨_, rfl⟩
  rw [← hw3] at hra hza hga hsa hB3
  have HW3 := Lib.hid hw3
  have HR3 := Lib.hid hra
  have HG3 := Lib.hid hga
  have HS3 := Lib.hid hsa
  have HB3 := Lib.hid hB3
  clear hRR hr hcs hR hx hra hga hsa hba hw3
  go_enter Try.func44, Try.ntmps44
  go_wp2_with fail
  rw [← HW2.out]
  refine (HIR.out _).mono ?_
  rintro e w' ⟨rfl, rfl⟩
  by_cases he : 0 < r.e
  · have HY : Hid (R = (0, false)) := by unfold Hid; rw [HGI.out, if_pos (.inl he)]
    clear HGI
    go_wp2_with fail
    go_ret2
    rw [HW3.out] at HB3
    exact ⟨ret_ib HY.out, HB3.out⟩
  by_cases hd : r.d = 0
  · have HY : Hid (R = (0, false)) := by unfold Hid; rw [HGI.out, if_pos (.inr hd)]
    have e1 : (r.d == 0) = true := by simpa using hd
    clear HGI hd
    go_wp2_with fail
    go_ret2
    rw [HW3.out] at HB3
    exact ⟨ret_ib HY.out, HB3.out⟩
  have hgi := HGI.out
  rw [if_neg (by omega)] at hgi
  have e1 : (r.d == 0) = false := by simpa using hd
  clear HGI hd
  by_cases hm12 : r.b = 1 ∨ r.b = 2
  · rw [if_pos hm12] at hgi
    have HY := Lib.hid hgi
    have HER := Lib.hid fun (V : World) (hV : Below w.heap.size w V) => errand_any ⟨t, some ⟨b, off, none⟩, n1, c1, a2, n2, c2, a3, n3, c3⟩ ts r w.heap.size V (HIN.out.ts.below hV) hV.size
    clear hgi
    rcases hm12 with h1 | h2
    · have e2 : (r.b == 1) = true := by simpa using h1
      clear h1
      go_wp2_with fail
      rw [← HW3.out]
      refine (HER.out _ HB3.out).mono ?_
      rintro e w4 ⟨rfl, hv4⟩
      have hB4 := HB3.out.trans (hv4.mono HB3.out.size)
      generalize errandS ts r = E at HY
      go_wp2_with fail
      go_ret2
      exact ⟨ret_E HY.out, hB4⟩
    · have e2 : (r.b == 1) = false := by rw [beq_eq_false_iff_ne]; omega
      have e3 : (r.b == 2) = true := by simpa using h2
      clear h2
      go_wp2_with fail
      rw [← HW3.out]
      refine (HER.out _ HB3.out).mono ?_
      rintro e w4 ⟨rfl, hv4⟩
      have hB4 := HB3.out.trans (hv4.mono HB3.out.size)
      generalize errandS ts r = E at HY
      go_wp2_with fail
      go_ret2
      exact ⟨ret_E HY.out, hB4⟩
  rw [if_neg hm12] at hgi
  have e2 : (r.b == 1) = false := by rw [beq_eq_false_iff_ne]; omega
  have e3 : (r.b == 2) = false := by rw [beq_eq_false_iff_ne]; omega
  by_cases hm3 : r.b = 3
  · rw [if_pos hm3] at hgi
    have e4 : (r.b == 3) = true := by simpa using hm3
    have HY := Lib.hid hgi
    clear hgi hm3 hm12
    have k0 : Kept w3 w3 := Kept.refl _
    have hks : ∀ V, Kept w3 V → (Kept w3 V ∧ V.cell? ⟨w.heap.size, 0, none⟩ = some (.int .i64 W) ∧ V.cell? ⟨w.heap.size, 1, none⟩ = some (.int .i64 H) ∧ V.cell? ⟨w.heap.size, 2, none⟩ = some (.string g) ∧ V.cell? ⟨w.heap.size + 1, 3, none⟩ = some (.slice a3 n3 c3) ∧ V.cell? ⟨w.heap.size + 2, 0, none⟩ = some (.int .i64 r.a)) := fun V hV => by
      have hg' := HG3.out.below hV (by omega)
      have hs' := HS3.out.below hV (by omega)
      have hr' := HR3.out.below hV (by omega)
      exact ⟨hV, hg'.1, hg'.2.1, hg'.2.2, hs'.2.2.2, hr'.1⟩
    have hof : ∀ V, Kept w3 V → Calls Try.prog 54 #[gridV W H g, .int .u8 67] V fun e V' => ∃ a n c, e = .returned (.slice a n c) ∧ n ≤ 1000000 ∧ RowZ .i64 V' V'.heap.size a n c (ofZ (bytesOf g)) ∧ Kept w3 V' := fun V hV =>
      (of_row (of_any W H 67 g V HOK.out (by omega))).mono fun e V' ⟨a, n, c, he, hn, hr, hb⟩ => by
        refine ⟨a, n, c, he, ?_, hr, Below.trans hV (hb.mono hV.size)⟩
        have h1 := ofZ_len (bytesOf g)
        unfold ofZ at h1
        rw [List.length_map, bytesOf_len] at h1
        omega
    have hnr : ∀ V a n c, Kept w3 V → n ≤ 1000000 → RowZ .i64 V V.heap.size a n c (ofZ (bytesOf g)) → Calls Try.prog 53 #[gridV W H g, .int .i64 r.a, .slice a n c, .slice a3 n3 c3] V fun e V' => e = .returned (.tuple #[.int .i64 (nearG W H (bytesOf g) bl (ofZ (bytesOf g)) r.a).1, .int .i64 (nearG W H (bytesOf g) bl (ofZ (bytesOf g)) r.a).2]) ∧ Kept w3 V' := fun V a n c hV hn hr =>
      (nearest_any W H r.a g bl (ofZ (bytesOf g)) a3 a n3 c3 n c V.heap.size V HOK.out ((HIN.out.bl.below (HB3.out.trans (Below.mono hV (by omega)))).mono (by have := Below.size hV; have := HB3.out.size; omega)) hr (Nat.le_refl _) HBW.out (ofZ_wf (by rw [bytesOf_len]; omega)) hn3 hn).mono fun e V' ⟨he, hb⟩ => ⟨he, Below.trans hV (hb.mono hV.size)⟩
    generalize nearG W H (bytesOf g) bl (ofZ (bytesOf g)) r.a = N at hnr HY
    have HKS := Lib.hid hks
    have HOF := Lib.hid hof
    have HNR := Lib.hid hnr
    clear hks hof hnr
    go_wp2_with fail
    rw [← HW3.out]
    go_region_held3 (fun V => Kept w3 V ∧ V.cell? ⟨w.heap.size, 0, none⟩ = some (.int .i64 W) ∧ V.cell? ⟨w.heap.size, 1, none⟩ = some (.int .i64 H) ∧ V.cell? ⟨w.heap.size, 2, none⟩ = some (.string g) ∧ V.cell? ⟨w.heap.size + 1, 3, none⟩ = some (.slice a3 n3 c3) ∧ V.cell? ⟨w.heap.size + 2, 0, none⟩ = some (.int .i64 r.a))
      (first | exact HKS.out _ (by assumption) | exact HKS.out _ (Kept.drew (by assumption)))
      (first
        | (go_at_call 54; refine (HOF.out _ (by first | exact k0 | exact Kept.drew k0)).mono ?_; rintro e wa ⟨xa, xn, xc, rfl, hxn, hxr, ka⟩)
        | (go_at_call 53; refine (HNR.out _ _ _ _ (by first | exact ka | exact Kept.drew ka) hxn (by first | exact hxr | exact hxr.below (Below.refl _ _).drew)).mono ?_; rintro e wb ⟨rfl, kb⟩))
    all_goals
      have HKB : Hid (Kept w3 _) := Lib.hid (by first | exact kb | exact Kept.drew kb)
      by_cases hN : N.2 < 0
      · have HZ : Hid (R = (0, false)) := by unfold Hid; rw [HY.out, if_pos hN]
        go_wp2_with fail
        go_ret2
        refine ⟨ret_ib HZ.out, HB3.out.trans (Below.mono ?_ HB3.out.size)⟩
        first | exact kb | exact Kept.drew kb
      · have HZ : Hid (R = (N.1, true)) := by unfold Hid; rw [HY.out, if_neg hN]
        go_wp2_with fail
        go_ret2
        refine ⟨ret_ib HZ.out, HB3.out.trans (Below.mono ?_ HB3.out.size)⟩
        first | exact kb | exact Kept.drew kb
  · rw [if_neg hm3] at hgi
    have HY := Lib.hid hgi
    have e4 : (r.b == 3) = false := by simpa using hm3
    clear hgi hm12 hm3
    go_wp2_with fail
    go_ret2
    rw [HW3.out] at HB3
    exact ⟨ret_ib HY.out, HB3.out⟩
end Go.Proofs.Ytiejinphofkjaaa.Vm
