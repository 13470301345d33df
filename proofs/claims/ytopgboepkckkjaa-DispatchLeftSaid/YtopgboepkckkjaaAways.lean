/- Who can be given a task, which tasks wait, and how far all robots are from a cell: the contracts of package dispatch's ready, isReady, isWaiting, distances, and of slices.ContainsFunc at isReady. How far all robots are from a cell (package dispatch's distances), which of two is nearer (best's closure), and the best robot, over any function that tells the distances (best). The contract of dispatch.Best. -/
import Derived.Test.YtopgboepkckkjaaRefBests
import Derived.Test.YtopgboepkckkjaaRecSames
import Derived.Test.YtopgboepkckkjaaFars
import Derived.Test.YtopgboepkckkjaaAppendZ
import Derived.Test.YtopgboepkckkjaaTraffic
import Derived.Deep.RegionHeld3
import Derived.Laws.StructEq
namespace Go.Proofs.Ytopgboepkckkjaa.Vm
open Go Go.RowKit
set_option maxRecDepth 100000

/-- Is a robot idle, with a battery that is not low? -/
def readyB (r : Rec) : Bool := decide (r.b = 0 ∧ 100 ≤ r.d)
/-- The robot that it would have to be. -/
def readyR (r : Rec) : Rec := ⟨r.a, 0, r.c, max r.d 100, r.e⟩
abbrev recO (r : Rec) : Obj := .cells #[.int .i64 r.a, .int .i64 r.b, .int .i64 r.c, .int .i64 r.d, .int .i64 r.e] 45

set_option maxHeartbeats 400000 in
theorem ready_any (r : Rec) (w : World) :
    Calls Try.prog 41 #[recV r] w fun e w' => e = .returned (recV (readyR r)) ∧ Below w.heap.size w w' := by
  obtain ⟨a, b, c, d, m⟩ := r
  go_enter Try.func41, Try.ntmps41
  go_wp2_with fail
  all_goals
    first
      | exact bodyPost_ret (v := recV ⟨a, 0, c, d, m⟩) (by simp [results, Try.results41, go_sem]) rfl ⟨by rw [readyR, show max d 100 = d by omega], ((Below.refl _ _).alloc (Nat.le_refl _) _).alloc (by simp) _⟩
      | exact bodyPost_ret (v := recV ⟨a, 0, c, 100, m⟩) (by simp [results, Try.results41, go_sem]) rfl ⟨by rw [readyR, show max d 100 = 100 by omega], ((Below.refl _ _).alloc (Nat.le_refl _) _).alloc (by simp) _⟩

set_option maxHeartbeats 800000 in
theorem isReady_any (r : Rec) (w : World) :
    Calls Try.prog 34 #[recV r] w fun e w' => e = .returned (.bool (readyB r)) ∧ Below w.heap.size w w' := by
  obtain ⟨V1, hV1⟩ : ∃ V1, V1 = w.alloc (recO r) := ⟨_, rfl⟩
  have hb1 : Below w.heap.size w V1 := by rw [hV1]; exact (Below.refl _ _).alloc (Nat.le_refl _) _
  have hz1 : V1.heap.size = w.heap.size + 1 := by rw [hV1]; simp
  have k0 : V1.cell? ⟨w.heap.size, 0, none⟩ = some (.int .i64 r.a) := by rw [hV1]; simp
  have k1 : V1.cell? ⟨w.heap.size, 1, none⟩ = some (.int .i64 r.b) := by rw [hV1]; simp
  have k2 : V1.cell? ⟨w.heap.size, 2, none⟩ = some (.int .i64 r.c) := by rw [hV1]; simp
  have k3 : V1.cell? ⟨w.heap.size, 3, none⟩ = some (.int .i64 r.d) := by rw [hV1]; simp
  have k4 : V1.cell? ⟨w.heap.size, 4, none⟩ = some (.int .i64 r.e) := by rw [hV1]; simp
  have HKS : Hid (∀ V, Kept V1 V → (Kept V1 V ∧ V.cell? ⟨w.heap.size, 0, none⟩ = some (.int .i64 r.a) ∧ V.cell? ⟨w.heap.size, 1, none⟩ = some (.int .i64 r.b) ∧ V.cell? ⟨w.heap.size, 2, none⟩ = some (.int .i64 r.c) ∧ V.cell? ⟨w.heap.size, 3, none⟩ = some (.int .i64 r.d) ∧ V.cell? ⟨w.heap.size, 4, none⟩ = some (.int .i64 r.e))) := fun V hV =>
    ⟨hV, (Below.cell hV (p := ⟨w.heap.size, 0, none⟩) (show w.heap.size < V1.heap.size by omega)).trans k0, (Below.cell hV (p := ⟨w.heap.size, 1, none⟩) (show w.heap.size < V1.heap.size by omega)).trans k1, (Below.cell hV (p := ⟨w.heap.size, 2, none⟩) (show w.heap.size < V1.heap.size by omega)).trans k2, (Below.cell hV (p := ⟨w.heap.size, 3, none⟩) (show w.heap.size < V1.heap.size by omega)).trans k3, (Below.cell hV (p := ⟨w.heap.size, 4, none⟩) (show w.heap.size < V1.heap.size by omega)).trans k4⟩
  have HRC : Hid (∀ V, Kept V1 V → Calls Try.prog 41 #[recV r] V fun e V' => e = .returned (recV (readyR r)) ∧ Kept V1 V') := fun V hV =>
    (ready_any r V).mono fun e V' ⟨he, hb⟩ => ⟨he, Below.trans hV (hb.mono (Below.size hV))⟩
  have HB1 := Lib.hid hb1
  have HV1 := Lib.hid hV1
  have kk : Kept V1 V1 := Kept.refl _
  obtain ⟨a, b, c, d, m⟩ := r
  simp only [readyR] at HKS HRC k0 k1 k2 k3 k4
  have s1 : (a == a) = true := by simp
  have s3 : (c == c) = true := by simp
  have s5 : (m == m) = true := by simp
  by_cases h1 : b = 0
  · subst h1
    by_cases h2 : 100 ≤ d
    · have HE : Hid (readyB ⟨a, 0, c, d, m⟩ = true) := decide_eq_true ⟨rfl, h2⟩
      rw [show max d 100 = d by omega] at HRC
      have s4 : (d == d) = true := by simp
      clear hb1 hV1 k0 k1 k2 k3 k4 hz1 h2
      go_enter Try.func34, Try.ntmps34
      go_wp2_with fail
      rw [← HV1.out]
      go_region_held3 (fun V => Kept V1 V ∧ V.cell? ⟨w.heap.size, 0, none⟩ = some (.int .i64 a) ∧ V.cell? ⟨w.heap.size, 1, none⟩ = some (.int .i64 0) ∧ V.cell? ⟨w.heap.size, 2, none⟩ = some (.int .i64 c) ∧ V.cell? ⟨w.heap.size, 3, none⟩ = some (.int .i64 d) ∧ V.cell? ⟨w.heap.size, 4, none⟩ = some (.int .i64 m))
        (first | exact HKS.out _ (by assumption) | exact HKS.out _ (Kept.drew (by assumption)))
        (first | (go_at_call 41; refine (HRC.out _ (by first | exact kk | exact Kept.drew kk)).mono ?_; rintro e wb ⟨rfl, kb⟩))
      have HBW : Hid (Below w.heap.size w wb) := HB1.out.trans (Below.mono kb HB1.out.size)
      clear kb kk
      go_wp2_with fail
      go_ret
      exact ⟨ret_bool HE.out.symm, HBW.out⟩
    · have HE : Hid (readyB ⟨a, 0, c, d, m⟩ = false) := decide_eq_false fun h => h2 h.2
      rw [show max d 100 = 100 by omega] at HRC
      have s4 : (d == 100) = false := by rw [beq_eq_false_iff_ne]; omega
      clear hb1 hV1 k0 k1 k2 k3 k4 hz1 h2
      go_enter Try.func34, Try.ntmps34
      go_wp2_with fail
      rw [← HV1.out]
      go_region_held3 (fun V => Kept V1 V ∧ V.cell? ⟨w.heap.size, 0, none⟩ = some (.int .i64 a) ∧ V.cell? ⟨w.heap.size, 1, none⟩ = some (.int .i64 0) ∧ V.cell? ⟨w.heap.size, 2, none⟩ = some (.int .i64 c) ∧ V.cell? ⟨w.heap.size, 3, none⟩ = some (.int .i64 d) ∧ V.cell? ⟨w.heap.size, 4, none⟩ = some (.int .i64 m))
        (first | exact HKS.out _ (by assumption) | exact HKS.out _ (Kept.drew (by assumption)))
        (first | (go_at_call 41; refine (HRC.out _ (by first | exact kk | exact Kept.drew kk)).mono ?_; rintro e wb ⟨rfl, kb⟩))
      have HBW : Hid (Below w.heap.size w wb) := HB1.out.trans (Below.mono kb HB1.out.size)
      clear kb kk
      go_wp2_with fail
      go_ret
      exact ⟨ret_bool HE.out.symm, HBW.out⟩
  · have HE : Hid (readyB ⟨a, b, c, d, m⟩ = false) := decide_eq_false fun h => h1 h.1
    obtain ⟨mx, hmx⟩ : ∃ mx, max d 100 = mx := ⟨_, rfl⟩
    rw [hmx] at HRC
    have s2 : (b == 0) = false := by rw [beq_eq_false_iff_ne]; exact h1
    clear hb1 hV1 k0 k1 k2 k3 k4 hz1 h1 hmx
    go_enter Try.func34, Try.ntmps34
    go_wp2_with fail
    rw [← HV1.out]
    go_region_held3 (fun V => Kept V1 V ∧ V.cell? ⟨w.heap.size, 0, none⟩ = some (.int .i64 a) ∧ V.cell? ⟨w.heap.size, 1, none⟩ = some (.int .i64 b) ∧ V.cell? ⟨w.heap.size, 2, none⟩ = some (.int .i64 c) ∧ V.cell? ⟨w.heap.size, 3, none⟩ = some (.int .i64 d) ∧ V.cell? ⟨w.heap.size, 4, none⟩ = some (.int .i64 m))
      (first | exact HKS.out _ (by assumption) | exact HKS.out _ (Kept.drew (by assumption)))
      (first | (go_at_call 41; refine (HRC.out _ (by first | exact kk | exact Kept.drew kk)).mono ?_; rintro e wb ⟨rfl, kb⟩))
    have HBW : Hid (Below w.heap.size w wb) := HB1.out.trans (Below.mono kb HB1.out.size)
    clear kb kk
    go_wp2_with fail
    go_ret
    exact ⟨ret_bool HE.out.symm, HBW.out⟩

set_option maxHeartbeats 400000 in
theorem indexReady_any (a : Option Addr) (n c B : Nat) (rs : List Rec) (w : World) (hin : RowR w B a n c rs) (hB : B ≤ w.heap.size) :
    Calls Try.prog 42 #[.slice a n c, .func (.func 34) #[] #[]] w fun e w' => (∃ i : Int, e = .returned (.int .i64 i) ∧ (0 ≤ i ↔ ∃ k, k < n ∧ readyB (rs.getD k zr) = true)) ∧ Below w.heap.size w w' := by
  have hm2 := hin.len
  unfold maxLen at hm2
  have HC := Lib.hid hin.cells
  clear hin
  go_enter Try.func42, Try.ntmps42
  go_wp2_with fail
  go_loopw [8] (fun i wr => ∃ k : Nat, k ≤ n ∧ i = .int .i64 k ∧ Below w.heap.size w wr ∧ Hid (∀ j, j < k → ¬ readyB (rs.getD j zr) = true)) (fun i _ => n - (intOf i).toNat)
  case atStart => exact ⟨0, Nat.zero_le _, rfl, Below.refl _ _, fun j hj => absurd hj (Nat.not_lt_zero _)⟩
  case round =>
    obtain ⟨k, hk, rfl, hbel, HA⟩ := hrel
    by_cases hlt : k < n
    · obtain ⟨b1, off, rfl, hb, hcs⟩ := HC.out (by omega)
      have hcell := (hcs k hlt).below hbel (by omega)
      obtain ⟨x, hx⟩ : ∃ x, rs.getD k zr = x := ⟨_, rfl⟩
      rw [hx] at hcell
      have HX := Lib.hid hx
      obtain ⟨p1, p2, p3, p4, p5⟩ := hcell
      have HCALL := Lib.hid (isReady_any x wr)
      generalize hq : readyB x = q at HCALL
      have HQ := Lib.hid hq
      clear hcs hx hq
      cases q with
      | true =>
        go_wp2_with fail
        refine HCALL.out.mono ?_
        rintro e w1 ⟨rfl, hv1⟩
        have hb1 := hbel.trans (hv1.mono hbel.size)
        go_wp2_with fail
        go_ret
        exact ⟨⟨_, rfl, ⟨fun _ => ⟨k, hlt, by rw [HX.out]; exact HQ.out⟩, fun _ => by omega⟩⟩, hb1⟩
      | false =>
        go_wp2_with fail
        refine HCALL.out.mono ?_
        rintro e w1 ⟨rfl, hv1⟩
        have hb1 := hbel.trans (hv1.mono hbel.size)
        go_wp2_with fail
        go_roundw
        case rel => exact ⟨k + 1, by omega, by go_num, hb1, upto_more HA.out (by rw [HX.out, HQ.out]; simp)⟩
        case measure => simp [intOf]; omega
    · have hkn : k = n := by omega
      rw [hkn] at HA
      go_wp2_with fail
      go_ret
      exact ⟨⟨_, rfl, ⟨fun h => absurd h (by decide), fun ⟨j, hj, h⟩ => absurd h (HA.out j hj)⟩⟩, hbel⟩

set_option maxHeartbeats 400000 in
theorem containsReady_any (a : Option Addr) (n c B : Nat) (rs : List Rec) (w : World) (hin : RowR w B a n c rs) (hB : B ≤ w.heap.size) :
    Calls Try.prog 36 #[.slice a n c, .func (.func 34) #[] #[]] w fun e w' => (∃ q : Bool, e = .returned (.bool q) ∧ (q = true ↔ ∃ k, k < n ∧ readyB (rs.getD k zr) = true)) ∧ Below w.heap.size w w' := by
  have HC := Lib.hid (indexReady_any a n c B rs w hin hB)
  clear hin
  go_enter Try.func36, Try.ntmps36
  go_wp2_with fail
  refine HC.out.mono ?_
  rintro e w1 ⟨⟨i, rfl, hi⟩, hb1⟩
  have HI := Lib.hid hi
  have HB1 := Lib.hid hb1
  clear hi hb1
  by_cases h0 : 0 ≤ i
  · have e1 : decide (i ≥ 0) = true := by rw [decide_eq_true_eq]; exact h0
    go_wp2_with fail
    go_ret
    exact ⟨⟨_, rfl, ⟨fun _ => HI.out.1 h0, fun _ => rfl⟩⟩, HB1.out⟩
  · have e1 : decide (i ≥ 0) = false := by rw [decide_eq_false_iff_not]; exact h0
    go_wp2_with fail
    go_ret
    exact ⟨⟨_, rfl, ⟨fun h => by simp at h, fun h => absurd (HI.out.2 h) (by omega)⟩⟩, HB1.out⟩

/-- Does a task wait? -/
def WaitP (ts : List Rec) (x : Int) : Prop := 0 ≤ x ∧ x < (ts.length : Int) ∧ (ts.getD x.toNat zr).d = 1
set_option maxHeartbeats 400000 in
theorem isWaiting_any (a : Option Addr) (n c B : Nat) (ts : List Rec) (x : Int) (w : World) (hin : RowR w B a n c ts) (hB : B ≤ w.heap.size) :
    Calls Try.prog 35 #[.slice a n c, .int .i64 x] w fun e w' => e = .returned (.bool (yes (WaitP ts x))) ∧ Below w.heap.size w w' := by
  have hl : ts.length = n := hin.1
  by_cases h0 : 0 ≤ x
  · obtain ⟨k, rfl⟩ := Int.eq_ofNat_of_zero_le h0
    have e1 : decide ((k : Int) ≥ 0) = true := by rw [decide_eq_true_eq]; exact h0
    by_cases h1 : k < n
    · have e2 : (k : Int) < (n : Int) := by omega
      obtain ⟨b, off, rfl, hb, hcs⟩ := hin.cells (by omega)
      have f4 := (hcs k h1).2.2.2.1
      by_cases h2 : (ts.getD k zr).d = 1
      · have HE : Hid (yes (WaitP ts (k : Int)) = true) := yes_true ⟨h0, by omega, by rw [Int.toNat_natCast]; exact h2⟩
        rw [h2] at f4
        clear hcs hl
        go_enter Try.func35, Try.ntmps35
        go_wp2_with fail
        go_ret
        exact ⟨ret_bool HE.out.symm, Below.refl _ _⟩
      · have HE : Hid (yes (WaitP ts (k : Int)) = false) := yes_false fun h => h2 (by have := h.2.2; rwa [Int.toNat_natCast] at this)
        generalize (ts.getD k zr).d = d at f4 h2
        have e3 : (d == 1) = false := by simpa using h2
        clear hcs hl
        go_enter Try.func35, Try.ntmps35
        go_wp2_with fail
        go_ret
        exact ⟨ret_bool HE.out.symm, Below.refl _ _⟩
    · have HE : Hid (yes (WaitP ts (k : Int)) = false) := yes_false fun h => h1 (by have := h.2.1; omega)
      have e2 : decide ((k : Int) < (n : Int)) = false := by rw [decide_eq_false_iff_not]; omega
      clear hl
      go_enter Try.func35, Try.ntmps35
      go_wp2_with fail
      go_ret
      exact ⟨ret_bool HE.out.symm, Below.refl _ _⟩
  · have HE : Hid (yes (WaitP ts x) = false) := yes_false fun h => h0 h.1
    have e1 : decide (x ≥ 0) = false := by rw [decide_eq_false_iff_not]; exact h0
    clear hl
    go_enter Try.func35, Try.ntmps35
    go_wp2_with fail
    go_ret
    exact ⟨ret_bool HE.out.symm, Below.refl _ _⟩
end Go.Proofs.Ytopgboepkckkjaa.Vm

namespace Go.Proofs.Ytopgboepkckkjaa.Vm
open Go Go.RowKit
set_option maxRecDepth 100000

/-- The distances of all robots from a cell. -/
def DistL (W H : Int) (l : List Nat) (s : St) (to : Int) (L : List Int) : Prop := L.length = s.rs.length ∧ ∀ k, k < s.rs.length → L.getD k 0 = farG W H l s.bl (s.rs.getD k zr).a to
theorem getD_setZ {L : List Int} {k j : Nat} {x : Int} (hk : k < L.length) : (L.set k x).getD j 0 = if j = k then x else L.getD j 0 := by
  by_cases e : j = k
  · subst e; simp [List.getD, hk]
  · rw [if_neg e]; simp [List.getD, List.getElem?_set_ne (fun h => e h.symm)]

set_option maxHeartbeats 2000000 in
theorem distances_any (W H : Int) (g : ByteArray) (h : Sh) (s : St) (to : Int) (B : Nat) (w : World) (hok : Okay W H g) (hin : StIn w B h s) (hB : B ≤ w.heap.size) (hrp : RightP (floorS (bytesOf g)) s) (hto : floorS (bytesOf g) to = true) (hn3 : h.n3 ≤ 1000000) :
    Calls Try.prog 24 #[gridV W H g, shV h, .int .i64 to] w fun e w' =>
      (∃ lb L, e = .returned (.slice (some ⟨lb, 0, none⟩) h.n1 h.n1) ∧ NumsZ w' w.heap.size lb L ∧ DistL W H (bytesOf g) s to L) ∧ Below w.heap.size w w' := by
  obtain ⟨w2, hw2, hB2, hz2, hg2, hs2⟩ := gs_head w W H g h
  have hti := floorS_in hto
  obtain ⟨t, rfl⟩ := Int.eq_ofNat_of_zero_le hti.1
  have hin2 := hin.below (hB2.mono hB)
  have hwf : ∀ z ∈ s.bl, (Lit.int .i64 z).wf = true := fun z hz => by
    obtain ⟨i, hi, rfl⟩ := List.getElem_of_mem hz
    have h1 := (hrp.shut i hi).1
    rw [show s.bl.getD i 0 = s.bl[i] by simp [List.getD, hi]] at h1
    have h2 := floorS_in h1
    have := hok.le
    rw [bytesOf_len] at h2
    exact WalkArith.wf_i64 (by omega)
  have HFY := Lib.hid (field_yes W H t g s.bl h.a3 h.n3 h.c3 B w2 hok hto hin2.bl (Nat.le_trans hB hB2.size) hwf hn3)
  have hrl : s.rs.length = h.n1 := hin.rs.1
  have hrn := hrp.rn
  have HFL : Hid (∀ k, k < s.rs.length → ∃ c : Nat, (s.rs.getD k zr).a = (c : Int) ∧ c < g.size ∧ ∀ l : List Int, IsField (stepsS W H (bytesOf g) s.bl) t g.size l → l.getD c 0 = farG W H (bytesOf g) s.bl (s.rs.getD k zr).a (t : Nat)) := fun k hk => by
    have h1 := (hrp.rest k hk).1
    have h2 := floorS_in h1
    rw [bytesOf_len] at h2
    obtain ⟨c, hc⟩ := Int.eq_ofNat_of_zero_le h2.1
    have hc : (s.rs.getD k zr).a = (c : Int) := hc
    refine ⟨c, hc, by omega, fun l hl => ?_⟩
    rw [hl.at (by omega)]
    unfold farG
    rw [if_pos ⟨h1, hto⟩, hc, Int.toNat_natCast, Int.toNat_natCast]
  have HIN := Lib.hid hin
  have HB2 := Lib.hid hB2
  have HS2 := Lib.hid hs2
  have HW2 := Lib.hid hw2
  obtain ⟨s0, s1, s2, s3⟩ := hs2
  obtain ⟨g0, g1, g2⟩ := hg2
  obtain ⟨t', a1, n1, c1, a2, n2, c2, a3, n3, c3⟩ := h
  simp only [] at s0 s1 s2 s3 hrl HFY
  rw [hw2] at s0 s1 s2 s3 g0 g1 g2
  have hsB : B ≤ w.heap.size := hB
  clear hw2 hB2 hin hin2 hrp hto hti hwf hok hn3 hB
  go_enter Try.func24, Try.ntmps24
  go_wp2_with fail
  rw [← HW2.out]
  refine HFY.out.mono ?_
  rintro e w3 ⟨lb, l, rfl, hfd, hnum, hb3⟩
  have HFD := Lib.hid hfd
  have hll : l.length = g.size := hfd.1
  have hlb := hnum.base
  have HNU := Lib.hid hnum
  have HB3 := Lib.hid (HB2.out.trans (hb3.mono HB2.out.size))
  have HK3 := Lib.hid hb3
  have hz3 : w.heap.size + 2 ≤ w3.heap.size := by have := hb3.size; omega
  obtain ⟨x0, x1, x2, x3⟩ := HS2.out.below hb3 (by omega)
  simp only [] at x0 x1 x2 x3
  have hmk := make_ints w3 n1 (by omega)
  obtain ⟨w4, hw4⟩ : ∃ w4, w4 = w3.alloc (.cells ⟨intsZ (List.replicate n1 0)⟩ 3) := ⟨_, rfl⟩
  have HM4 : Hid (NumsZ w4 w3.heap.size w3.heap.size (List.replicate n1 0)) := by unfold Hid; rw [hw4]; exact numsZ_made w3 n1 (by omega)
  have HB4 : Hid (Below w3.heap.size w3 w4) := by unfold Hid; rw [hw4]; exact (Below.refl _ _).alloc (Nat.le_refl _) _
  have HS4 : Hid (StAt w4 (w.heap.size + 1) ⟨t', a1, n1, c1, a2, n2, c2, a3, n3, c3⟩) := (HS2.out.below hb3 (by omega)).below HB4.out (by omega)
  have HW4 := Lib.hid hw4
  obtain ⟨y0, y1, y2, y3⟩ := HS4.out
  simp only [] at y0 y1 y2 y3
  rw [hw4] at y0 y1 y2 y3
  clear hfd hnum hb3 s0 s1 s2 s3 g0 g1 g2 hw4
  go_wp2_with fail
  rw [← HW4.out]
  clear hmk x0 x1 x2 x3 y0 y1 y2 y3
  go_loopw [27] (fun i wr => ∃ (k : Nat) (L : List Int), k ≤ n1 ∧ i = .int .i64 k ∧ Hid (NumsZ wr w3.heap.size w3.heap.size L) ∧ Hid (L.length = n1) ∧ Hid (∀ j, j < k → L.getD j 0 = farG W H (bytesOf g) s.bl (s.rs.getD j zr).a (t : Nat)) ∧ Hid (Below w3.heap.size w3 wr)) (fun i _ => n1 - (intOf i).toNat)
  case atStart => exact ⟨0, _, Nat.zero_le _, rfl, HM4, Lib.hid (by simp), Lib.hid (fun j hj => absurd hj (Nat.not_lt_zero _)), HB4⟩
  case round =>
    obtain ⟨k, L, hk, rfl, HM, HLL, HL, HB⟩ := hrel
    have hsz := HB.out.size
    by_cases hlt : k < n1
    · have hkn : (k : Int) < (n1 : Int) := by omega
      obtain ⟨b, off, rfl, hb, hcs⟩ := (HIN.out.rs.below ((HB3.out.trans (HB.out.mono (by omega))).mono hsB)).cells (by show 0 < n1; omega)
      obtain ⟨r0, r1, r2, r3, r4⟩ := hcs k hlt
      obtain ⟨c, hc, hcg, hcf⟩ := HFL.out k (by omega)
      have hfe := hcf l HFD.out
      obtain ⟨N, hN⟩ : ∃ N, farG W H (bytesOf g) s.bl (s.rs.getD k zr).a (t : Nat) = N := ⟨_, rfl⟩
      rw [hN] at hfe
      have HLN : Hid (∀ j, j < k + 1 → ((L.set k (-1)).set k N).getD j 0 = farG W H (bytesOf g) s.bl (s.rs.getD j zr).a (t : Nat)) := fun j hj => by
        rw [getD_setZ (by rw [List.length_set, HLL.out]; exact hlt)]
        by_cases e : j = k
        · rw [if_pos e, e, hN]
        · rw [if_neg e, getD_setZ (by rw [HLL.out]; exact hlt), if_neg e]
          exact HL.out j (by omega)
      generalize hr : s.rs.getD k zr = r at r0 r1 r2 r3 r4 hc
      obtain ⟨ra, rb, rc, rd, re⟩ := r
      simp only [] at r0 r1 r2 r3 r4 hc
      subst hc
      have e1 : decide ((c : Int) ≥ 0) = true := by rw [decide_eq_true_eq]; omega
      have e2 : (c : Int) < (g.size : Int) := by omega
      have hcl := (HB.out.cell (p := ⟨lb, c, none⟩) hlb.2).trans (HNU.out.cell (i := c) (by omega))
      have hmc := HM.out.cell (i := k) (by rw [HLL.out]; exact hlt)
      have hmf := HM.out.frozen k
      have hlb2 : lb < wr.heap.size := by omega
      have hw3r : w3.heap.size < wr.heap.size := HM.out.base.2
      have hne : lb ≠ w3.heap.size := by omega
      have HM2 := Lib.hid (((HM.out.set k (-1)).set k N).alloc (.cells #[.int .i64 (c : Nat), .int .i64 rb, .int .i64 rc, .int .i64 rd, .int .i64 re] 45))
      have HL2 : Hid (((L.set k (-1)).set k N).length = n1) := by unfold Hid; rw [List.length_set, List.length_set]; exact HLL.out
      have hbs := (HB.out.setCell (p := ⟨w3.heap.size, k, none⟩) (Nat.le_refl _) (.int .i64 (-1))).setCell (p := ⟨w3.heap.size, k, none⟩) (Nat.le_refl _) (.int .i64 N)
      have HB2' := Lib.hid (hbs.alloc hbs.size (.cells #[.int .i64 (c : Nat), .int .i64 rb, .int .i64 rc, .int .i64 rd, .int .i64 re] 45))
      rw [hfe] at hcl
      clear hcs hfe hcf hr hbs hN
      go_wp2_with fail
      go_roundw
      case rel => exact ⟨k + 1, _, by omega, by go_num, HM2, HL2, HLN, HB2'⟩
      case measure => simp [intOf]; omega
    · obtain rfl : k = n1 := by omega
      have HBE := Lib.hid (HB3.out.trans (HB.out.mono (by omega)))
      have hme := HM.out
      go_wp2_with fail
      go_ret
      exact ⟨⟨_, L, rfl, NumsZ.mono HM.out (by omega), by rw [HLL.out]; exact hrl.symm, fun j hj => HL.out j (by omega)⟩, HBE.out⟩
end Go.Proofs.Ytopgboepkckkjaa.Vm
