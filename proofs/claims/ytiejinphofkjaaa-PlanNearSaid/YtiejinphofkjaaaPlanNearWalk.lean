/- The walk of the law PlanNear. -/
import Derived.Test.YtiejinphofkjaaaOpenLists9
import Derived.Test.YtiejinphofkjaaaArgs
import Derived.Deep.RegionHeld3
namespace Go.Proofs.Ytiejinphofkjaaa.Vm
open Go Go.RowKit Go.Maps
set_option maxRecDepth 100000

theorem comes_at {far : List Int} : ∀ {d : Int} {l : List Int}, 0 ≤ d → ComesP far d l → ∀ k, k < l.length → far.getD (l.getD k 0).toNat 0 = (if d - ((k + 1 : Nat) : Int) ≤ 0 then 0 else d - ((k + 1 : Nat) : Int))
  | d, [], _, _ => fun k hk => absurd hk (by simp)
  | d, t :: r, hd, h => fun k hk => by
    obtain ⟨h1, h2⟩ := h
    cases k with
    | zero =>
      rw [show (t :: r).getD 0 0 = t from rfl, h1]
      by_cases e : d ≤ 0
      · rw [if_pos e, if_pos (by omega)]
      · rw [if_neg e]
        by_cases e2 : d - ((0 + 1 : Nat) : Int) ≤ 0
        · rw [if_pos e2]; omega
        · rw [if_neg e2]; omega
    | succ k =>
      rw [show (t :: r).getD (k + 1) 0 = r.getD k 0 from rfl]
      have h3 := comes_at (d := if d ≤ 0 then 0 else d - 1) (by split <;> omega) h2 k (by simpa using hk)
      rw [h3]
      by_cases e : d ≤ 0
      · rw [if_pos e, if_pos (by omega), if_pos (by omega)]
      · rw [if_neg e]
        by_cases e2 : d - ((k + 1 + 1 : Nat) : Int) ≤ 0
        · rw [if_pos e2, if_pos (by omega)]
        · rw [if_neg e2, if_neg (by omega)]; omega
/-- Where nobody is in the way, and it is not out of reach, there is a path, and each of its cells is nearer. -/
theorem near_path {W H : Int} {s : ByteArray} {bl : List Int} {fr to n : Int} (hN : s.size ≤ 65536) (hf : farG W H (bytesOf s) bl fr to = n) (hn : 0 ≤ n) :
    ∃ l, pathG W H (bytesOf s) bl [] fr to = some l ∧ l.length = 7 ∧ ∀ k, k < 7 → farG W H (bytesOf s) bl (l.getD k 0) to = (if n - (k : Int) ≤ 0 then 0 else n - (k : Int)) := by
  have f1 : floorS (bytesOf s) fr = true := by
    cases h : floorS (bytesOf s) fr with
    | true => rfl
    | false => rw [farG_no1 h] at hf; omega
  have f2 : floorS (bytesOf s) to = true := by
    cases h : floorS (bytesOf s) to with
    | true => rfl
    | false => rw [farG_no2 h] at hf; omega
  have i1 := floorS_in f1
  have i2 := floorS_in f2
  obtain ⟨c, rfl⟩ := Int.eq_ofNat_of_zero_le i1.1
  obtain ⟨t, rfl⟩ := Int.eq_ofNat_of_zero_le i2.1
  have hfl := fieldG_is W H (bytesOf s) bl (t : Nat)
  rw [Int.toNat_natCast] at hfl
  have hlen : (bytesOf s).length = s.size := bytesOf_len s
  have hfar : ∀ x : Nat, floorS (bytesOf s) (x : Int) = true → farG W H (bytesOf s) bl (x : Nat) (t : Nat) = (fieldG W H (bytesOf s) bl (t : Nat)).getD x 0 := fun x hx => by
    have := floorS_in hx
    rw [farG_yes hx f2, hfl.at (by omega)]
  rw [hfar c f1] at hf
  obtain ⟨x, hx, _, hcm⟩ := pathS_near (k := 6) (c := c) hfl (by omega) (fun i _ => (fieldG_bounds (by rw [Int.toNat_natCast]; omega) (by omega) i).1) (by omega) f1 (by omega)
  have hst := pathS_steps hx
  refine ⟨(c : Int) :: x.1, ?_, by rw [List.length_cons, hst.len], fun k hk => ?_⟩
  · unfold pathG
    rw [if_pos ⟨f2, f1⟩, hx]
    rfl
  · cases k with
    | zero =>
      rw [show ((c : Int) :: x.1).getD 0 0 = (c : Int) from rfl, hfar c f1, hf]
      by_cases e : n ≤ 0
      · rw [if_pos (by omega)]; omega
      · rw [if_neg (by omega)]; omega
    | succ k =>
      rw [show ((c : Int) :: x.1).getD (k + 1) 0 = x.1.getD k 0 from rfl]
      obtain ⟨⟨way, _, hg⟩, _⟩ := hst.at k (by omega) (by omega)
      have hfloor := (goesS_step hg).1
      obtain ⟨z, hz⟩ := Int.eq_ofNat_of_zero_le (floorS_in hfloor).1
      rw [hz] at hfloor
      have h3 := comes_at (by omega) hcm k (by rw [hst.len]; omega)
      rw [hz] at h3 ⊢
      rw [hfar z hfloor, ← hf]
      rw [Int.toNat_natCast] at h3
      exact h3

set_option maxHeartbeats 2000000 in
theorem planNear_walk (W H : Int) (s : ByteArray) (fr to : Int) (a : Option Addr) (n c : Nat) (zs : List Int) (w : World) (hW : wfI W) (hH : wfI H) (hs : s.size ≤ maxLen) (hfr : wfI fr) (hto : wfI to) (hi : IsRow .i64 w a n c zs) :
    Calls Try.prog 6 #[gridV W H s, .agg #[.int .i64 fr, .int .i64 to], .slice a n c] w fun e w' => e = .returned (.bool true) ∧ Below w.heap.size w w' := by
  obtain ⟨hrow, hwf, hmx⟩ := hi.rowZ
  obtain ⟨bl, hbl⟩ : ∃ bl, zs.take n = bl := ⟨_, rfl⟩
  rw [hbl] at hrow hwf
  obtain ⟨w1, hw1, hb1, hz1, hg1, ha0, ha1⟩ := args9_head w W H s fr to
  have HAW := Lib.hid (awake9_any w1)
  have HB1 := Lib.hid hb1
  have HZ1 := Lib.hid hz1
  have HG1 := Lib.hid hg1
  have HA1 := Lib.hid (And.intro ha0 ha1)
  have HW1 := Lib.hid hw1
  have HRW := Lib.hid hrow
  have HBW := Lib.hid hwf
  have HS := Lib.hid hs
  have HFR := Lib.hid hfr
  have HTO := Lib.hid hto
  clear hb1 hz1 hg1 ha0 ha1 hw1 hrow hwf hs hfr hto hW hH hi hbl
  go_enter Try.func6, Try.ntmps6
  go_wp2_with fail
  rw [← HW1.out]
  refine HAW.out.mono ?_
  rintro e w2 ⟨rfl, hb2⟩
  have hz1 := HZ1.out
  have hz2 := hb2.size
  obtain ⟨g0, g1, g2⟩ := HG1.out.below hb2 (by omega)
  obtain ⟨w2', hw2'⟩ : ∃ w2', w2' = w2.alloc (.cells #[.slice a n c] 29) := ⟨_, rfl⟩
  have hb2' : Below w2.heap.size w2 w2' := by rw [hw2']; exact (Below.refl _ _).alloc (Nat.le_refl _) _
  have hbw2 := (HB1.out.trans (hb2.mono HB1.out.size)).trans (hb2'.mono (by omega))
  have hrl : RowL w2' w2'.heap.size (some ⟨w2.heap.size, 0, none⟩) 1 1 [bl] := by
    refine rowL_mk (arr := #[.slice a n c]) (t := 29) (by rw [hw2']; exact heap_new _ _ rfl) rfl (by rw [hw2']; simp) (by simp [maxLen]) fun i hi => ?_
    obtain rfl : i = 0 := by omega
    exact ⟨_, _, _, rfl, (HRW.out.below hbw2).mono hbw2.size⟩
  have HLI := Lib.hid (light9_any W H s _ 1 1 w2'.heap.size [bl] w2' hrl (Nat.le_refl _) HS.out)
  have HB2 := Lib.hid (hb2.trans (hb2'.mono hz2))
  have HBW2 := Lib.hid hbw2
  have HW2 := Lib.hid hw2'
  clear hz1 hz2 hb2 hbw2 hb2' hrl hw2'
  go_wp2_with fail
  rw [← HW2.out]
  refine HLI.out.mono ?_
  rintro e w3 ⟨b, rfl, hlb, hb3⟩
  have hz1 := HZ1.out
  have hz3 := hb3.size
  have hz2 := HB2.out.size
  have HBW3 := Lib.hid (HBW2.out.trans (hb3.mono HBW2.out.size))
  have hb13 := HB2.out.trans (hb3.mono hz2)
  have HB13 := Lib.hid hb13
  obtain ⟨k0, k1, k2⟩ := HG1.out.below hb13 (by omega)
  have HLB := Lib.hid hlb
  clear hz1 hz3 hz2 hb3 hb13 hlb g0 g1 g2
  cases b with
  | false =>
    go_wp2_with fail
    go_ret
    exact ⟨rfl, HBW3.out⟩
  | true =>
    obtain ⟨hs60, _, hq12⟩ := HLB.out rfl
    have hn12 : n ≤ 12 := by have := hq12 bl (by simp); have := HRW.out.1; omega
    have HRI := Lib.hid (rright_any W H s w3 HS.out)
    obtain ⟨r, hr⟩ : ∃ r, rightS W H (bytesOf s) = r := ⟨_, rfl⟩
    rw [hr] at HRI
    have HR := Lib.hid hr
    clear hr hq12 HLB
    cases r with
    | false =>
      go_wp2_with fail
      refine HRI.out.mono ?_
      rintro e w4 ⟨rfl, hb4⟩
      have HB4 := Lib.hid (HBW3.out.trans (hb4.mono HBW3.out.size))
      clear hb4
      go_wp2_with fail
      go_ret
      exact ⟨rfl, HB4.out⟩
    | true =>
      have hok := Okay.of HR.out
      have HOK := Lib.hid hok
      go_wp2_with fail
      refine HRI.out.mono ?_
      rintro e w4 ⟨rfl, hb4⟩
      have hz1 := HZ1.out
      have hz13 := HB13.out.size
      have hb14 := HB13.out.trans (hb4.mono hz13)
      obtain ⟨j0, j1, j2⟩ := HG1.out.below hb14 (by omega)
      have ja0 := (hb14.cell (p := ⟨w.heap.size + 1, 0, none⟩) (show w.heap.size + 1 < w1.heap.size by omega)).trans HA1.out.1
      have ja1 := (hb14.cell (p := ⟨w.heap.size + 1, 1, none⟩) (show w.heap.size + 1 < w1.heap.size by omega)).trans HA1.out.2
      have hbw4 := HBW3.out.trans (hb4.mono HBW3.out.size)
      have HFA := Lib.hid (rfar_any W H fr to s bl a n c w.heap.size w4 hok (HRW.out.below hbw4) hbw4.size (by omega))
      have HB14 := Lib.hid hb14
      have HBW4 := Lib.hid hbw4
      clear hz1 hz13 hb4 hb14 hbw4 k0 k1 k2 hok
      go_wp2_with fail
      refine HFA.out.mono ?_
      rintro e w5 ⟨rfl, hb5⟩
      have hz1 := HZ1.out
      have hz14 := HB14.out.size
      have hb15 := HB14.out.trans (hb5.mono hz14)
      obtain ⟨m0, m1, m2⟩ := HG1.out.below hb15 (by omega)
      have ma0 := (hb15.cell (p := ⟨w.heap.size + 1, 0, none⟩) (show w.heap.size + 1 < w1.heap.size by omega)).trans HA1.out.1
      have ma1 := (hb15.cell (p := ⟨w.heap.size + 1, 1, none⟩) (show w.heap.size + 1 < w1.heap.size by omega)).trans HA1.out.2
      have hbw5 := HBW4.out.trans (hb5.mono HBW4.out.size)
      have HPA := Lib.hid (path_kept (A := w5) planPath_any (Kept.refl _) HOK.out (HRW.out.below hbw5) (rowL_nil w5 w.heap.size) hbw5.size (by omega) (by omega) (by intro q hq; cases hq) HBW.out (by intro q hq; cases hq) HFR.out HTO.out)
      obtain ⟨N, hN⟩ : ∃ N, farG W H (bytesOf s) bl fr to = N := ⟨_, rfl⟩
      have HNG : Hid (0 ≤ N → _) := fun hn => near_path (W := W) (H := H) (s := s) (bl := bl) (fr := fr) (to := to) (by omega) hN hn
      rw [hN]
      have HB15 := Lib.hid hb15
      have HBW5 := Lib.hid hbw5
      clear hz1 hz14 hb5 hb15 hbw5 hN j0 j1 j2 ja0 ja1
      go_wp2_with fail
      refine HPA.out.mono ?_
      rintro e w6 ⟨a6, n6, c6, l6, b6, rfl, ho6, hr6, hk6⟩
      have hb6 : Below w5.heap.size w5 w6 := hk6
      have HBW6 := Lib.hid (HBW5.out.trans (hb6.mono HBW5.out.size))
      have HB16 := Lib.hid (HB15.out.trans (hb6.mono HB15.out.size))
      by_cases hneg : N < 0
      · clear ho6 hr6 hk6 hb6 m0 m1 m2 ma0 ma1
        have e0 : decide (N < 0) = true := decide_eq_true hneg
        go_wp2_with fail
        go_ret
        exact ⟨rfl, HBW6.out⟩
      · have e0 : decide (N < 0) = false := decide_eq_false hneg
        obtain ⟨L, hL, hL7, hLk⟩ := HNG.out (by omega)
        rw [hL] at ho6
        obtain ⟨rfl, rfl⟩ := out_some ho6
        obtain rfl : n6 = 7 := hr6.1.symm.trans hL7
        have HR6 := Lib.hid hr6
        have HLK := Lib.hid hLk
        have hc6 := hr6.2.1
        have hx6 := hr6.2.2.1
        unfold maxLen at hx6
        have hNn : 0 ≤ N := by omega
        have hNb : N ≤ 65536 := by
          have h0 := hLk 0 (by omega)
          have : ∀ x, farG W H (bytesOf s) bl x to ≤ s.size := fun x => by
            unfold farG
            split
            · next hfl =>
              have := floorS_in hfl.2
              have hle := farI_most (W := W) (H := H) (s := bytesOf s) (bl := bl) (to := to.toNat) (c := x.toNat) (by omega)
              rw [bytesOf_len] at hle
              exact hle
            · omega
          have h1 := this (l6.getD 0 0)
          rw [h0] at h1
          split at h1 <;> omega
        clear ho6 hr6 hk6 hb6 m0 m1 m2 ma0 ma1 hL hL7 hLk
        go_wp2_with fail
        go_loopw [12] (fun v wr => ∃ k : Nat, k ≤ 7 ∧ v = .int .i64 k ∧ Hid (Kept w6 wr)) (fun v _ => 7 - (intOf v).toNat)
        case atStart => exact ⟨0, Nat.zero_le _, rfl, Kept.refl _⟩
        case round =>
          obtain ⟨k, hk, rfl, HK⟩ := hrel
          by_cases hlt : k < 7
          · obtain ⟨pb, po, rfl, hpb, hpc⟩ := HR6.out.cells (by omega)
            have hpz := hpc k hlt
            have hlk := HLK.out k hlt
            obtain ⟨z, hz⟩ : ∃ z, l6.getD k 0 = z := ⟨_, rfl⟩
            rw [hz] at hpz hlk
            obtain ⟨D, hD⟩ : ∃ D, N - (k : Int) = D := ⟨_, rfl⟩
            have ew : IntKind.i64.wrap (N - (k : Int)) = D := by simp only [IntKind.wrap_i64]; omega
            obtain ⟨M, hM⟩ : ∃ M, (if N - (k : Int) ≤ 0 then 0 else N - (k : Int)) = M := ⟨_, rfl⟩
            rw [hM] at hlk
            rw [hD] at hM
            have hz1 := HZ1.out
            have hz16 := HB16.out.size
            have hgr := HG1.out
            have HKS : Hid (∀ V, Kept w6 V → Kept w6 V ∧ V.cell? ⟨w.heap.size, 0, none⟩ = some (.int .i64 W) ∧ V.cell? ⟨w.heap.size, 1, none⟩ = some (.int .i64 H) ∧ V.cell? ⟨w.heap.size, 2, none⟩ = some (.string s) ∧ V.cell? ⟨w.heap.size + 1, 1, none⟩ = some (.int .i64 to) ∧ V.cell? ⟨pb, po + k, none⟩ = some (.int .i64 z)) := fun V hV => by
              obtain ⟨q0, q1, q2⟩ := HG1.out.below (HB16.out.trans (Below.mono hV hz16)) (by omega)
              exact ⟨hV, q0, q1, q2, ((HB16.out.trans (Below.mono hV hz16)).cell (p := ⟨w.heap.size + 1, 1, none⟩) (show w.heap.size + 1 < w1.heap.size by omega)).trans HA1.out.2, (Below.cell hV (p := ⟨pb, po + k, none⟩) hpb).trans hpz⟩
            have HF : Hid (∀ V, Kept w6 V → Calls Try.prog 18 #[gridV W H s, .int .i64 z, .int .i64 to, .slice a n c] V fun e V' => e = .returned (.int .i64 M) ∧ Kept w6 V') := fun V hV =>
              (rfar_any W H z to s bl a n c w.heap.size V HOK.out (HRW.out.below (HBW6.out.trans (Below.mono hV HBW6.out.size))) (Nat.le_trans HBW6.out.size (Below.size hV)) (by omega)).mono fun e V' ⟨he, hb⟩ => ⟨by rw [he, hlk], Below.trans hV (hb.mono (Below.size hV))⟩
            have k0 := HK.out
            have hk7 : (k : Int) < 7 := by omega
            have HM := Lib.hid hM
            clear hpc hpz hlk hz hz1 hz16 hgr hD hM
            by_cases hd1 : D < 0
            · obtain rfl : M = 0 := by have := HM.out; rw [if_pos (by omega)] at this; exact this.symm
              have e1 : ((0 : Int) != 0) = false := by simp
              go_wp2_with fail
              go_region_held3 (fun V => Kept w6 V ∧ V.cell? ⟨w.heap.size, 0, none⟩ = some (.int .i64 W) ∧ V.cell? ⟨w.heap.size, 1, none⟩ = some (.int .i64 H) ∧ V.cell? ⟨w.heap.size, 2, none⟩ = some (.string s) ∧ V.cell? ⟨w.heap.size + 1, 1, none⟩ = some (.int .i64 to) ∧ V.cell? ⟨pb, po + k, none⟩ = some (.int .i64 z))
                (first | exact HKS.out _ (by assumption) | exact HKS.out _ (Kept.drew (by assumption)))
                (first | (go_at_call 18; refine (HF.out _ (by first | exact k0 | exact Kept.drew k0)).mono ?_; rintro e wa ⟨rfl, ka⟩))
              all_goals go_wp2_with fail
              all_goals refine ⟨⟨k + 1, by omega, by go_num, ka⟩, ?_⟩
              all_goals (simp [intOf]; omega)
            · by_cases hd2 : D = 0
              · subst hd2
                obtain rfl : M = 0 := by have := HM.out; rw [if_pos (by omega)] at this; exact this.symm
                have e1 : ((0 : Int) != 0) = false := by simp
                go_wp2_with fail
                go_region_held3 (fun V => Kept w6 V ∧ V.cell? ⟨w.heap.size, 0, none⟩ = some (.int .i64 W) ∧ V.cell? ⟨w.heap.size, 1, none⟩ = some (.int .i64 H) ∧ V.cell? ⟨w.heap.size, 2, none⟩ = some (.string s) ∧ V.cell? ⟨w.heap.size + 1, 1, none⟩ = some (.int .i64 to) ∧ V.cell? ⟨pb, po + k, none⟩ = some (.int .i64 z))
                  (first | exact HKS.out _ (by assumption) | exact HKS.out _ (Kept.drew (by assumption)))
                  (first | (go_at_call 18; refine (HF.out _ (by first | exact k0 | exact Kept.drew k0)).mono ?_; rintro e wa ⟨rfl, ka⟩))
                all_goals go_wp2_with fail
                all_goals refine ⟨⟨k + 1, by omega, by go_num, ka⟩, ?_⟩
                all_goals (simp [intOf]; omega)
              · have hd3 : 0 < D := by omega
                obtain rfl : M = D := by have := HM.out; rw [if_neg (by omega)] at this; exact this.symm
                have e1 : (M != M) = false := by simp
                have e2 : ¬ M < 0 := by omega
                go_wp2_with fail
                go_region_held3 (fun V => Kept w6 V ∧ V.cell? ⟨w.heap.size, 0, none⟩ = some (.int .i64 W) ∧ V.cell? ⟨w.heap.size, 1, none⟩ = some (.int .i64 H) ∧ V.cell? ⟨w.heap.size, 2, none⟩ = some (.string s) ∧ V.cell? ⟨w.heap.size + 1, 1, none⟩ = some (.int .i64 to) ∧ V.cell? ⟨pb, po + k, none⟩ = some (.int .i64 z))
                  (first | exact HKS.out _ (by assumption) | exact HKS.out _ (Kept.drew (by assumption)))
                  (first | (go_at_call 18; refine (HF.out _ (by first | exact k0 | exact Kept.drew k0)).mono ?_; rintro e wa ⟨rfl, ka⟩))
                all_goals go_wp2_with fail
                all_goals refine ⟨⟨k + 1, by omega, by go_num, ka⟩, ?_⟩
                all_goals (simp [intOf]; omega)
          · obtain rfl : k = 7 := by omega
            have HBE := Lib.hid (HBW6.out.trans (Below.mono HK.out HBW6.out.size))
            go_wp2_with fail
            go_ret
            exact ⟨rfl, HBE.out⟩
end Go.Proofs.Ytiejinphofkjaaa.Vm
