/- The walk of the law PlanClear. -/
import Derived.Test.YtiejinphofkjaaaOpenLists9
import Derived.Deep.RegionHeld3
namespace Go.Proofs.Ytiejinphofkjaaa.Vm
open Go Go.RowKit Go.Maps
set_option maxRecDepth 100000

/-- The steps of a path that there is. -/
theorem clear_steps {W H : Int} {s : ByteArray} {bl : List Int} {oth : List (List Int)} {fr to : Int} {l : List Int} (h : pathG W H (bytesOf s) bl oth fr to = some l) :
    l.length = 7 ∧ l.getD 0 0 = fr ∧ ∀ j, j < 6 → (∃ way : Nat, way ≤ 4 ∧ goesS W H (bytesOf s) (l.getD j 0) (way : Nat) = (l.getD (j + 1) 0, true)) ∧ MayP bl oth j (l.getD j 0) (l.getD (j + 1) 0) := by
  unfold pathG at h
  split at h
  · obtain ⟨x, hx, rfl⟩ := Option.map_eq_some_iff.1 h
    have hst := pathS_steps hx
    refine ⟨by rw [List.length_cons, hst.len], rfl, fun j hj => ?_⟩
    have := hst.at j hj (by omega)
    rw [show 6 - 6 + j = j by omega] at this
    exact this
  · cases h
theorem getD_memI {l : List Int} {k : Nat} (hk : k < l.length) : l.getD k 0 ∈ l := by simp [List.getD, hk]
/-- Some direction below w goes there. -/
def SomeW (W H : Int) (s : ByteArray) (y z : Int) (w : Nat) : Prop := ∃ x : Nat, x < w ∧ goesS W H (bytesOf s) y (x : Nat) = (z, true)
theorem someW_succ {W H : Int} {s : ByteArray} {y z : Int} {w : Nat} {sm : Bool} {o : Int} {ok : Bool} (hR : goesS W H (bytesOf s) y (w : Nat) = (o, ok)) (h : sm = true ↔ SomeW W H s y z w) :
    (sm || (ok && o == z)) = true ↔ SomeW W H s y z (w + 1) := by
  rw [Bool.or_eq_true, Bool.and_eq_true, beq_iff_eq]
  constructor
  · rintro (h1 | ⟨rfl, rfl⟩)
    · obtain ⟨x, hx, e⟩ := h.1 h1
      exact ⟨x, by omega, e⟩
    · exact ⟨w, by omega, hR⟩
  · rintro ⟨x, hx, e⟩
    by_cases hxw : x < w
    · exact .inl (h.2 ⟨x, hxw, e⟩)
    · obtain rfl : x = w := by omega
      rw [hR] at e
      injection e with e1 e2
      exact .inr ⟨e2, e1⟩

set_option maxHeartbeats 4000000 in
theorem planClear_walk (W H : Int) (s : ByteArray) (fr to : Int) (a : Option Addr) (n c : Nat) (ls : List (List Int)) (w : World) (hW : wfI W) (hH : wfI H) (hs : s.size ≤ maxLen) (hfr : wfI fr) (hto : wfI to) (hl : RowL w w.heap.size a n c ls ∧ ∀ q ∈ ls, WfZ q) :
    Calls Try.prog 5 #[gridV W H s, .agg #[.int .i64 fr, .int .i64 to], .slice a n c] w fun e w' => e = .returned (.bool true) ∧ Below w.heap.size w w' := by
  obtain ⟨w1, hw1, hb1, hz1, hg1, ha0, ha1⟩ := args9_head w W H s fr to
  have HAW := Lib.hid (awake9_any w1)
  have HB1 := Lib.hid hb1
  have HZ1 := Lib.hid hz1
  have HG1 := Lib.hid hg1
  have HA1 := Lib.hid (And.intro ha0 ha1)
  have HW1 := Lib.hid hw1
  have HL := Lib.hid hl.1
  have HLW := Lib.hid hl.2
  have HS := Lib.hid hs
  have HFR := Lib.hid hfr
  have HTO := Lib.hid hto
  clear hb1 hz1 hg1 ha0 ha1 hw1 hl hs hfr hto hW hH
  go_enter Try.func5, Try.ntmps5
  go_wp2_with fail
  rw [← HW1.out]
  refine HAW.out.mono ?_
  rintro e w2 ⟨rfl, hb2⟩
  have hz1 := HZ1.out
  obtain ⟨g0, g1, g2⟩ := HG1.out.below hb2 (by omega)
  have hbw2 := HB1.out.trans (hb2.mono HB1.out.size)
  have HLI := Lib.hid (light9_any W H s a n c w.heap.size ls w2 (HL.out.below hbw2) hbw2.size HS.out)
  have HB2 := Lib.hid hb2
  have HBW2 := Lib.hid hbw2
  clear hz1 hb2 hbw2
  go_wp2_with fail
  refine HLI.out.mono ?_
  rintro e w3 ⟨b, rfl, hlb, hb3⟩
  have hz1 := HZ1.out
  have hz3 := hb3.size
  have hz2 := HB2.out.size
  have HBW3 := Lib.hid (HBW2.out.trans (hb3.mono HBW2.out.size))
  have hb13 := HB2.out.trans (hb3.mono hz2)
  have HB13 := Lib.hid hb13
  obtain ⟨k0, k1, k2⟩ := HG1.out.below hb13 (by omega)
  have HLB := Lib.hid hlb
  clear hz1 hz3 hz2 hb3 hb13 hlb
  cases b with
  | false =>
    go_wp2_with fail
    go_ret
    exact ⟨rfl, HBW3.out⟩
  | true =>
    obtain ⟨hs60, hn8, hq12⟩ := HLB.out rfl
    have HQ := Lib.hid hq12
    by_cases hn0 : n = 0
    · subst hn0
      clear hq12 HLB
      go_wp2_with fail
      go_ret
      exact ⟨rfl, HBW3.out⟩
    · have hne : ((n : Int) == 0) = false := by simpa using hn0
      have HRI := Lib.hid (rright_any W H s w3 HS.out)
      obtain ⟨r, hr⟩ : ∃ r, rightS W H (bytesOf s) = r := ⟨_, rfl⟩
      rw [hr] at HRI
      have HR := Lib.hid hr
      have hn0' : 0 < n := by omega
      clear hr hn0 hq12 HLB
      cases r with
      | false =>
        go_wp2_with fail
        refine HRI.out.mono ?_
        rintro e w4 ⟨rfl, hb4⟩
        have HB4 := Lib.hid (HBW3.out.trans (hb4.mono HBW3.out.size))
        clear hb4
        go_wp2_with fail
        go_ret
        exact ⟨rfl, HB4.out⟩
      | true =>
        go_wp2_with fail
        refine HRI.out.mono ?_
        rintro e w4 ⟨rfl, hb4⟩
        have hok := Okay.of HR.out
        have hz1 := HZ1.out
        have hz13 := HB13.out.size
        have hb14 := HB13.out.trans (hb4.mono hz13)
        obtain ⟨j0, j1, j2⟩ := HG1.out.below hb14 (by omega)
        have ja0 := (hb14.cell (p := ⟨w.heap.size + 1, 0, none⟩) (show w.heap.size + 1 < w1.heap.size by omega)).trans HA1.out.1
        have ja1 := (hb14.cell (p := ⟨w.heap.size + 1, 1, none⟩) (show w.heap.size + 1 < w1.heap.size by omega)).trans HA1.out.2
        have hbw4 := HBW3.out.trans (hb4.mono HBW3.out.size)
        have hl4 := HL.out.below hbw4
        obtain ⟨b, off, rfl, hblt, hcs⟩ := hl4.cells hn0'
        obtain ⟨a0, n0, c0, hc0, hr0⟩ := hcs 0 hn0'
        rw [Nat.add_zero] at hc0
        have hnc := hl4.2.1
        have hcm := hl4.2.2.1
        unfold maxLen at hcm
        have hl0 : w.heap.size < w4.heap.size := by have := hb14.size; omega
        have hl1 : w.heap.size + 1 < w4.heap.size := by have := hb14.size; omega
        have HB14 := Lib.hid hb14
        have HBW4 := Lib.hid hbw4
        have HL4 := Lib.hid hl4
        clear hz1 hz13 hb4 hb14 hbw4 hl4 hcs k0 k1 k2 g0 g1 g2
        have i0 : (0 : Int) < (n : Int) := by omega
        have i1 : (1 : Int) ≤ (n : Int) := by omega
        have i2 : 1 ≤ n := by omega
        have i3 : 1 ≤ c := by omega
        by_cases hc1 : c = 1
        · subst hc1
          obtain rfl : n = 1 := by omega
          have HLD : Hid (∀ V, Below w.heap.size w V → RowL V w.heap.size (some ⟨b, off, none⟩) 0 0 (ls.drop 1)) := fun V hV => by
            have hd : ls.drop 1 = [] := List.drop_of_length_le (by have := HL.out.1; omega)
            rw [hd]
            exact rowL_empty _ _ _ (by simp [maxLen])
          have hq0 := HQ.out (ls.getD 0 []) (getD_memL (by have := HL.out.1; omega))
          have hn00 : (ls.getD 0 []).length = n0 := hr0.1
          have hwq := HLW.out (ls.getD 0 []) (getD_memL (by have := HL.out.1; omega))
          have hqd : ∀ q ∈ ls.drop 1, q.length ≤ 1000 := fun q hq => by have := HQ.out q (List.mem_of_mem_drop hq); omega
          have hwd : ∀ q ∈ ls.drop 1, WfZ q := fun q hq => HLW.out q (List.mem_of_mem_drop hq)
          have HR0 : Hid (∀ V, Below w4.heap.size w4 V → RowZ .i64 V w.heap.size a0 n0 c0 (ls.getD 0 [])) := fun V hV => hr0.below (hV.mono HBW4.out.size)
          have HPA : Hid (∀ V, Kept w4 V → Calls Try.prog 10 #[gridV W H s, .int .i64 fr, .int .i64 to, .slice a0 n0 c0, .slice (some ⟨b, off, none⟩) 0 0] V (PathPost w4 (pathG W H (bytesOf s) (ls.getD 0 []) (ls.drop 1) fr to))) := fun V hV => path_kept planPath_any hV hok (HR0.out V hV) (HLD.out V (HBW4.out.trans (Below.mono hV HBW4.out.size))) (Nat.le_trans HBW4.out.size (Below.size hV)) (by omega) (by omega) hqd hwq hwd HFR.out HTO.out
          have HKS : Hid (∀ V, Kept w4 V → Kept w4 V ∧ V.cell? ⟨w.heap.size, 0, none⟩ = some (.int .i64 W) ∧ V.cell? ⟨w.heap.size, 1, none⟩ = some (.int .i64 H) ∧ V.cell? ⟨w.heap.size, 2, none⟩ = some (.string s) ∧ V.cell? ⟨w.heap.size + 1, 0, none⟩ = some (.int .i64 fr) ∧ V.cell? ⟨w.heap.size + 1, 1, none⟩ = some (.int .i64 to) ∧ V.cell? ⟨b, off, none⟩ = some (.slice a0 n0 c0)) := fun V hV =>
            ⟨hV, (Below.cell hV (p := ⟨w.heap.size, 0, none⟩) hl0).trans j0, (Below.cell hV (p := ⟨w.heap.size, 1, none⟩) hl0).trans j1, (Below.cell hV (p := ⟨w.heap.size, 2, none⟩) hl0).trans j2, (Below.cell hV (p := ⟨w.heap.size + 1, 0, none⟩) hl1).trans ja0, (Below.cell hV (p := ⟨w.heap.size + 1, 1, none⟩) hl1).trans ja1, (Below.cell hV (p := ⟨b, off, none⟩) (show b < w4.heap.size by omega)).trans hc0⟩
          have HOK := Lib.hid hok
          have k0 : Kept w4 w4 := Kept.refl _
          clear hq0 hwq hqd hwd hr0 hok j0 j1 j2 ja0 ja1 hc0
          have hn012 : n0 ≤ 12 := by have := HQ.out (ls.getD 0 []) (getD_memL (by have := HL.out.1; omega)); omega
          have HLC : Hid (∀ i, i < 1 → ∃ ai ni ci, (∀ V, Kept w4 V → V.cell? ⟨b, off + i, none⟩ = some (.slice ai ni ci)) ∧ RowZ .i64 w4 w.heap.size ai ni ci (ls.getD i [])) := fun i hi => by
            obtain ⟨b', off', e, hb', hcs'⟩ := HL4.out.cells (by omega)
            injection e with e
            injection e with e1 e2
            subst e1 e2
            obtain ⟨ai, ni, ci, hci, hri⟩ := hcs' i hi
            exact ⟨ai, ni, ci, fun V hV => (Below.cell hV (p := ⟨b, off + i, none⟩) (show b < w4.heap.size by omega)).trans hci, hri⟩
          clear hn00
          go_wp2_with fail
          go_region_held3 (fun V => Kept w4 V ∧ V.cell? ⟨w.heap.size, 0, none⟩ = some (.int .i64 W) ∧ V.cell? ⟨w.heap.size, 1, none⟩ = some (.int .i64 H) ∧ V.cell? ⟨w.heap.size, 2, none⟩ = some (.string s) ∧ V.cell? ⟨w.heap.size + 1, 0, none⟩ = some (.int .i64 fr) ∧ V.cell? ⟨w.heap.size + 1, 1, none⟩ = some (.int .i64 to) ∧ V.cell? ⟨b, off, none⟩ = some (.slice a0 n0 c0))
            (first | exact HKS.out _ (by assumption) | exact HKS.out _ (Kept.drew (by assumption)))
            (first | (go_at_call 10; refine (HPA.out _ (by first | exact k0 | exact Kept.drew k0)).mono ?_; rintro e w5 ⟨a5, n5, c5, l5, b5, rfl, ho5, hr5, k5⟩))
          have HB45 := Lib.hid (show Below w4.heap.size w4 w5 from k5)
          have HBW5 := Lib.hid (HBW4.out.trans (HB45.out.mono HBW4.out.size))
          have HK5 := Lib.hid k5
          rcases ho5 with ⟨_, rfl, rfl⟩ | ⟨hp5, rfl⟩
          · obtain rfl : n5 = 0 := hr5.1.symm
            clear hr5 k5 k0 HKS
            go_wp2_with fail
            go_ret
            exact ⟨rfl, HBW5.out⟩
          · obtain ⟨hl7, hlf, hst⟩ := clear_steps hp5
            obtain rfl : n5 = 7 := hr5.1.symm.trans hl7
            obtain ⟨pb, po, rfl, hpb, hpc⟩ := hr5.cells (by omega)
            have HP : Hid (∀ V, Kept w5 V → ∀ j, j < 7 → V.cell? ⟨pb, po + j, none⟩ = some (.int .i64 (l5.getD j 0))) := fun V hV j hj => (Below.cell hV (p := ⟨pb, po + j, none⟩) hpb).trans (hpc j hj)
            have HST := Lib.hid hst
            have HKB : Hid (∀ V, Kept w5 V → Kept w4 V) := fun V hV => Below.trans HK5.out (Below.mono hV (Below.size HK5.out))
            have hc5 := hr5.2.1
            have hx5 := hr5.2.2.1
            unfold maxLen at hx5
            have hp0 := HP.out w5 (Kept.refl _) 0 (by omega)
            rw [hlf] at hp0
            have hp0 : w5.cell? ⟨pb, po, none⟩ = some (.int .i64 fr) := hp0
            obtain ⟨_, x0, x1, x2, x3, x4, x5⟩ := HKS.out w5 k5
            have ez : (fr != fr) = false := by simp
            clear hr5 k5 k0 hst hp5 hl7 hlf hpc
            go_wp2_with fail
            go_quiet (fail)
            have HK6 : Hid (Kept w5 (w5.drewN nq)) := below_drewN (Kept.refl w5) nq
            clear hp0 x0 x1 x2 x3 x4 x5
            obtain ⟨w6, hw6⟩ : ∃ w6, w6 = w5.drewN nq := ⟨_, rfl⟩
            rw [← hw6] at HK6 ⊢
            clear hw6
            go_wp2_with fail
            go_loopg [11] 6 (fun gg v wr => ∃ k : Nat, k + gg = 7 ∧ 1 ≤ k ∧ v = .int .i64 k ∧ Hid (Kept w5 wr))
            case atStart => exact ⟨1, by omega, by omega, rfl, HK6⟩
            case round =>
              obtain ⟨k, hk, hk1, rfl, HK⟩ := hrel
              obtain ⟨wq, hwq⟩ : ∃ wq, wq = wr := ⟨_, rfl⟩
              rw [← hwq] at HK ⊢
              clear hwq
              by_cases hlt : k < 7
              · obtain ⟨j, hj⟩ : ∃ j, j + 1 = k := ⟨k - 1, by omega⟩
                have hst := HST.out j (by omega)
                rw [hj] at hst
                obtain ⟨⟨way0, hway0, hgo⟩, hm0, hm⟩ := hst
                have HPZ : Hid (∀ V, Kept w5 V → V.cell? ⟨pb, po + k, none⟩ = some (.int .i64 (l5.getD k 0)) ∧ V.cell? ⟨pb, po + j, none⟩ = some (.int .i64 (l5.getD j 0))) := fun V hV => ⟨HP.out V hV k hlt, HP.out V hV j (by omega)⟩
                generalize l5.getD k 0 = z at HPZ hgo hm0 hm
                generalize l5.getD j 0 = y at HPZ hgo hm0 hm
                have HM0 := Lib.hid hm0
                have HM := Lib.hid hm
                have HGO := Lib.hid (show SomeW W H s y z 5 from ⟨way0, by omega, hgo⟩)
                have HJ := Lib.hid hj
                have hk7 : (k : Int) < 7 := by omega
                have hj7 : (j : Int) < 7 := by omega
                have ew : IntKind.i64.wrap ((k : Int) - 1) = (j : Int) := by simp only [IntKind.wrap_i64]; omega
                have HG : Hid (∀ V, Kept w5 V → Kept w5 V ∧ V.cell? ⟨w.heap.size, 0, none⟩ = some (.int .i64 W) ∧ V.cell? ⟨w.heap.size, 1, none⟩ = some (.int .i64 H) ∧ V.cell? ⟨w.heap.size, 2, none⟩ = some (.string s) ∧ V.cell? ⟨pb, po + j, none⟩ = some (.int .i64 y)) := fun V hV => by
                  obtain ⟨_, q0, q1, q2, _, _, _⟩ := HKS.out V (HKB.out V hV)
                  exact ⟨hV, q0, q1, q2, (HPZ.out V hV).2⟩
                have HGC : Hid (∀ (x : Nat) V, Kept w5 V → Calls Try.prog 17 #[gridV W H s, .int .i64 y, .int .i64 x] V fun e V' => e = .returned (.tuple #[.int .i64 (goesS W H (bytesOf s) y (x : Nat)).1, .bool (goesS W H (bytesOf s) y (x : Nat)).2]) ∧ Kept w5 V') := fun x V hV => (goes_any W H y (x : Nat) s V HOK.out).mono fun e V' ⟨he, hb⟩ => ⟨he, Below.trans hV (hb.mono (Below.size hV))⟩
                clear hm0 hm hgo hj hway0
                go_wp2_with fail
                go_loopg [12, 13] 5 (fun gg vs vw wz => ∃ (way : Nat) (sm : Bool), way + gg = 5 ∧ vw = .int .i64 way ∧ vs = .bool sm ∧ Hid (Kept w5 wz) ∧ Hid (sm = true ↔ SomeW W H s y z way))
                case atStart => exact ⟨0, false, by omega, rfl, rfl, HK, Lib.hid ⟨fun h => (by cases h), fun ⟨x, hx, _⟩ => absurd hx (Nat.not_lt_zero _)⟩⟩
                case round =>
                  obtain ⟨way, sm, hwk, rfl, rfl, HKW, HSM⟩ := hrel
                  obtain ⟨wz, hwz⟩ : ∃ wz, wz = wr := ⟨_, rfl⟩
                  rw [← hwz] at HKW ⊢
                  clear hwz
                  by_cases hw : way ≤ 4
                  · have hwi : (way : Int) ≤ 4 := by omega
                    have HC := Lib.hid (HGC.out way)
                    obtain ⟨o, ok, hR⟩ : ∃ o ok, goesS W H (bytesOf s) y (way : Nat) = (o, ok) := ⟨_, _, rfl⟩
                    have HSN := Lib.hid (someW_succ hR HSM.out)
                    rw [hR] at HC
                    simp only [] at HC
                    have k0 := HKW.out
                    clear hR HSM
                    go_wp2_with fail
                    go_region_held3 (fun V => Kept w5 V ∧ V.cell? ⟨w.heap.size, 0, none⟩ = some (.int .i64 W) ∧ V.cell? ⟨w.heap.size, 1, none⟩ = some (.int .i64 H) ∧ V.cell? ⟨w.heap.size, 2, none⟩ = some (.string s) ∧ V.cell? ⟨pb, po + j, none⟩ = some (.int .i64 y))
                      (first | exact HG.out _ (by assumption) | exact HG.out _ (Kept.drew (by assumption)))
                      (first | (go_at_call 17; refine (HC.out _ (by first | exact k0 | exact Kept.drew k0)).mono ?_; rintro e wa ⟨rfl, ka⟩))
                    all_goals have hz := (HPZ.out wa ka).1
                    all_goals (clear k0)
                    all_goals (cases sm <;> cases ok)
                    all_goals (by_cases hoz : o = z)
                    all_goals (try (have eoz : (o == z) = true := by simpa using hoz))
                    all_goals (try (have eoz : (o == z) = false := by simpa using hoz))
                    all_goals go_wp2_with fail
                    all_goals go_roundg (gk - 1)
                    all_goals (first | (case measure => omega) | skip)
                    all_goals (refine ⟨way + 1, _, by omega, by go_num, rfl, ka, ?_⟩; have hs := HSN.out; unfold Hid; simpa [hoz] using hs)
                  · obtain rfl : way = 5 := by omega
                    obtain rfl : sm = true := HSM.out.2 HGO.out
                    clear HSM
                    go_wp2_with fail
                    go_loopg [12, 16] n0 (fun gg vs vi wi => ∃ i : Nat, i + gg = n0 ∧ vi = .int .i64 i ∧ vs = .bool true ∧ Hid (Kept w5 wi))
                    case atStart => exact ⟨0, by omega, rfl, rfl, HKW⟩
                    case round =>
                      obtain ⟨i, hi, rfl, rfl, HKI⟩ := hrel
                      obtain ⟨wi, hwi⟩ : ∃ wi, wi = wr := ⟨_, rfl⟩
                      rw [← hwi] at HKI ⊢
                      clear hwi
                      have hls := (HKS.out wi (HKB.out wi HKI.out)).2.2.2.2.2.2
                      by_cases hin : i < n0
                      · have hr0 := HR0.out wi (HKB.out wi HKI.out)
                        obtain ⟨b0, o0, rfl, hb0, hcs0⟩ := hr0.cells (by omega)
                        have hc0 := hcs0 i hin
                        have hmem : (ls.getD 0 []).getD i 0 ∈ ls.getD 0 [] := by have := hr0.1; exact getD_memI (by omega)
                        have hmm := HM0.out
                        generalize (ls.getD 0 []).getD i 0 = zi at hc0 hmem
                        obtain ⟨hz, hy⟩ := HPZ.out wi HKI.out
                        by_cases hne : zi = z
                        · subst hne
                          obtain rfl := hmm hmem
                          have e1 : (y != y) = false := by simp
                          have e2 : (y == y) = true := by simp
                          clear hr0 hcs0 hmem hmm
                          go_wp2_with fail
                          go_quiet (fail)
                          have HQ2 : Hid (Kept w5 (wi.drewN nq)) := below_drewN HKI.out nq
                          go_wp2_with fail
                          go_roundg (gk - 1)
                          case rel => exact ⟨i + 1, by omega, by go_num, rfl, HQ2⟩
                          case measure => omega
                        · have e1 : (zi != z) = true := by simpa using hne
                          clear hr0 hcs0 hmem hmm
                          go_wp2_with fail
                          go_quiet (fail)
                          have HQ2 : Hid (Kept w5 (wi.drewN nq)) := below_drewN HKI.out nq
                          go_wp2_with fail
                          go_roundg (gk - 1)
                          case rel => exact ⟨i + 1, by omega, by go_num, rfl, HQ2⟩
                          case measure => omega
                      · obtain rfl : i = n0 := by omega
                        go_wp2_with fail
                        go_loopg [12, 17] 1 (fun gg vs vi wi => 1 ≤ gg ∧ vi = .int .i64 1 ∧ vs = .bool true ∧ Hid (Kept w5 wi))
                        case atStart => exact ⟨by omega, rfl, rfl, HKI⟩
                        case round =>
                          obtain ⟨hgk, rfl, rfl, HKJ⟩ := hrel
                          clear hls
                          go_wp2_with fail
                          go_roundg (7 - (k + 1))
                          case rel => exact ⟨k + 1, by omega, by omega, by go_num, HKJ⟩
                          case measure => omega
              · obtain rfl : k = 7 := by omega
                have HBE := Lib.hid (HBW5.out.trans (Below.mono HK.out HBW5.out.size))
                go_wp2_with fail
                go_ret
                exact ⟨rfl, HBE.out⟩
        · have hc2 : 1 < c := by omega
          have HLD : Hid (∀ V, Below w.heap.size w V → RowL V w.heap.size (some ⟨b, off + 1, none⟩) (n - 1) (c - 1) (ls.drop 1)) := fun V hV => by
            obtain ⟨a', e, h⟩ := (HL.out.below hV).drop (k := 1) (by omega) (by omega)
            rw [e b off rfl] at h
            exact h
          have hq0 := HQ.out (ls.getD 0 []) (getD_memL (by have := HL.out.1; omega))
          have hn00 : (ls.getD 0 []).length = n0 := hr0.1
          have hwq := HLW.out (ls.getD 0 []) (getD_memL (by have := HL.out.1; omega))
          have hqd : ∀ q ∈ ls.drop 1, q.length ≤ 1000 := fun q hq => by have := HQ.out q (List.mem_of_mem_drop hq); omega
          have hwd : ∀ q ∈ ls.drop 1, WfZ q := fun q hq => HLW.out q (List.mem_of_mem_drop hq)
          have HR0 : Hid (∀ V, Below w4.heap.size w4 V → RowZ .i64 V w.heap.size a0 n0 c0 (ls.getD 0 [])) := fun V hV => hr0.below (hV.mono HBW4.out.size)
          have HPA : Hid (∀ V, Kept w4 V → Calls Try.prog 10 #[gridV W H s, .int .i64 fr, .int .i64 to, .slice a0 n0 c0, .slice (some ⟨b, off + 1, none⟩) (n - 1) (c - 1)] V (PathPost w4 (pathG W H (bytesOf s) (ls.getD 0 []) (ls.drop 1) fr to))) := fun V hV => path_kept planPath_any hV hok (HR0.out V hV) (HLD.out V (HBW4.out.trans (Below.mono hV HBW4.out.size))) (Nat.le_trans HBW4.out.size (Below.size hV)) (by omega) (by omega) hqd hwq hwd HFR.out HTO.out
          have HKS : Hid (∀ V, Kept w4 V → Kept w4 V ∧ V.cell? ⟨w.heap.size, 0, none⟩ = some (.int .i64 W) ∧ V.cell? ⟨w.heap.size, 1, none⟩ = some (.int .i64 H) ∧ V.cell? ⟨w.heap.size, 2, none⟩ = some (.string s) ∧ V.cell? ⟨w.heap.size + 1, 0, none⟩ = some (.int .i64 fr) ∧ V.cell? ⟨w.heap.size + 1, 1, none⟩ = some (.int .i64 to) ∧ V.cell? ⟨b, off, none⟩ = some (.slice a0 n0 c0)) := fun V hV =>
            ⟨hV, (Below.cell hV (p := ⟨w.heap.size, 0, none⟩) hl0).trans j0, (Below.cell hV (p := ⟨w.heap.size, 1, none⟩) hl0).trans j1, (Below.cell hV (p := ⟨w.heap.size, 2, none⟩) hl0).trans j2, (Below.cell hV (p := ⟨w.heap.size + 1, 0, none⟩) hl1).trans ja0, (Below.cell hV (p := ⟨w.heap.size + 1, 1, none⟩) hl1).trans ja1, (Below.cell hV (p := ⟨b, off, none⟩) (show b < w4.heap.size by omega)).trans hc0⟩
          have HOK := Lib.hid hok
          have k0 : Kept w4 w4 := Kept.refl _
          clear hq0 hwq hqd hwd hr0 hok j0 j1 j2 ja0 ja1 hc0
          have hn012 : n0 ≤ 12 := by have := HQ.out (ls.getD 0 []) (getD_memL (by have := HL.out.1; omega)); omega
          have HLC : Hid (∀ i, i < n → ∃ ai ni ci, (∀ V, Kept w4 V → V.cell? ⟨b, off + i, none⟩ = some (.slice ai ni ci)) ∧ RowZ .i64 w4 w.heap.size ai ni ci (ls.getD i [])) := fun i hi => by
            obtain ⟨b', off', e, hb', hcs'⟩ := HL4.out.cells (by omega)
            injection e with e
            injection e with e1 e2
            subst e1 e2
            obtain ⟨ai, ni, ci, hci, hri⟩ := hcs' i hi
            exact ⟨ai, ni, ci, fun V hV => (Below.cell hV (p := ⟨b, off + i, none⟩) (show b < w4.heap.size by omega)).trans hci, hri⟩
          clear hn00
          go_wp2_with fail
          go_region_held3 (fun V => Kept w4 V ∧ V.cell? ⟨w.heap.size, 0, none⟩ = some (.int .i64 W) ∧ V.cell? ⟨w.heap.size, 1, none⟩ = some (.int .i64 H) ∧ V.cell? ⟨w.heap.size, 2, none⟩ = some (.string s) ∧ V.cell? ⟨w.heap.size + 1, 0, none⟩ = some (.int .i64 fr) ∧ V.cell? ⟨w.heap.size + 1, 1, none⟩ = some (.int .i64 to) ∧ V.cell? ⟨b, off, none⟩ = some (.slice a0 n0 c0))
            (first | exact HKS.out _ (by assumption) | exact HKS.out _ (Kept.drew (by assumption)))
            (first | (go_at_call 10; refine (HPA.out _ (by first | exact k0 | exact Kept.drew k0)).mono ?_; rintro e w5 ⟨a5, n5, c5, l5, b5, rfl, ho5, hr5, k5⟩))
          have HB45 := Lib.hid (show Below w4.heap.size w4 w5 from k5)
          have HBW5 := Lib.hid (HBW4.out.trans (HB45.out.mono HBW4.out.size))
          have HK5 := Lib.hid k5
          rcases ho5 with ⟨_, rfl, rfl⟩ | ⟨hp5, rfl⟩
          · obtain rfl : n5 = 0 := hr5.1.symm
            clear hr5 k5 k0 HKS
            go_wp2_with fail
            go_ret
            exact ⟨rfl, HBW5.out⟩
          · obtain ⟨hl7, hlf, hst⟩ := clear_steps hp5
            obtain rfl : n5 = 7 := hr5.1.symm.trans hl7
            obtain ⟨pb, po, rfl, hpb, hpc⟩ := hr5.cells (by omega)
            have HP : Hid (∀ V, Kept w5 V → ∀ j, j < 7 → V.cell? ⟨pb, po + j, none⟩ = some (.int .i64 (l5.getD j 0))) := fun V hV j hj => (Below.cell hV (p := ⟨pb, po + j, none⟩) hpb).trans (hpc j hj)
            have HST := Lib.hid hst
            have HKB : Hid (∀ V, Kept w5 V → Kept w4 V) := fun V hV => Below.trans HK5.out (Below.mono hV (Below.size HK5.out))
            have hc5 := hr5.2.1
            have hx5 := hr5.2.2.1
            unfold maxLen at hx5
            have hp0 := HP.out w5 (Kept.refl _) 0 (by omega)
            rw [hlf] at hp0
            have hp0 : w5.cell? ⟨pb, po, none⟩ = some (.int .i64 fr) := hp0
            obtain ⟨_, x0, x1, x2, x3, x4, x5⟩ := HKS.out w5 k5
            have ez : (fr != fr) = false := by simp
            clear hr5 k5 k0 hst hp5 hl7 hlf hpc
            go_wp2_with fail
            go_quiet (fail)
            have HK6 : Hid (Kept w5 (w5.drewN nq)) := below_drewN (Kept.refl w5) nq
            clear hp0 x0 x1 x2 x3 x4 x5
            obtain ⟨w6, hw6⟩ : ∃ w6, w6 = w5.drewN nq := ⟨_, rfl⟩
            rw [← hw6] at HK6 ⊢
            clear hw6
            go_wp2_with fail
            go_loopg [11] 6 (fun gg v wr => ∃ k : Nat, k + gg = 7 ∧ 1 ≤ k ∧ v = .int .i64 k ∧ Hid (Kept w5 wr))
            case atStart => exact ⟨1, by omega, by omega, rfl, HK6⟩
            case round =>
              obtain ⟨k, hk, hk1, rfl, HK⟩ := hrel
              obtain ⟨wq, hwq⟩ : ∃ wq, wq = wr := ⟨_, rfl⟩
              rw [← hwq] at HK ⊢
              clear hwq
              by_cases hlt : k < 7
              · obtain ⟨j, hj⟩ : ∃ j, j + 1 = k := ⟨k - 1, by omega⟩
                have hst := HST.out j (by omega)
                rw [hj] at hst
                obtain ⟨⟨way0, hway0, hgo⟩, hm0, hm⟩ := hst
                have HPZ : Hid (∀ V, Kept w5 V → V.cell? ⟨pb, po + k, none⟩ = some (.int .i64 (l5.getD k 0)) ∧ V.cell? ⟨pb, po + j, none⟩ = some (.int .i64 (l5.getD j 0))) := fun V hV => ⟨HP.out V hV k hlt, HP.out V hV j (by omega)⟩
                generalize l5.getD k 0 = z at HPZ hgo hm0 hm
                generalize l5.getD j 0 = y at HPZ hgo hm0 hm
                have HM0 := Lib.hid hm0
                have HM := Lib.hid hm
                have HGO := Lib.hid (show SomeW W H s y z 5 from ⟨way0, by omega, hgo⟩)
                have HJ := Lib.hid hj
                have hk7 : (k : Int) < 7 := by omega
                have hj7 : (j : Int) < 7 := by omega
                have ew : IntKind.i64.wrap ((k : Int) - 1) = (j : Int) := by simp only [IntKind.wrap_i64]; omega
                have HG : Hid (∀ V, Kept w5 V → Kept w5 V ∧ V.cell? ⟨w.heap.size, 0, none⟩ = some (.int .i64 W) ∧ V.cell? ⟨w.heap.size, 1, none⟩ = some (.int .i64 H) ∧ V.cell? ⟨w.heap.size, 2, none⟩ = some (.string s) ∧ V.cell? ⟨pb, po + j, none⟩ = some (.int .i64 y)) := fun V hV => by
                  obtain ⟨_, q0, q1, q2, _, _, _⟩ := HKS.out V (HKB.out V hV)
                  exact ⟨hV, q0, q1, q2, (HPZ.out V hV).2⟩
                have HGC : Hid (∀ (x : Nat) V, Kept w5 V → Calls Try.prog 17 #[gridV W H s, .int .i64 y, .int .i64 x] V fun e V' => e = .returned (.tuple #[.int .i64 (goesS W H (bytesOf s) y (x : Nat)).1, .bool (goesS W H (bytesOf s) y (x : Nat)).2]) ∧ Kept w5 V') := fun x V hV => (goes_any W H y (x : Nat) s V HOK.out).mono fun e V' ⟨he, hb⟩ => ⟨he, Below.trans hV (hb.mono (Below.size hV))⟩
                clear hm0 hm hgo hj hway0
                go_wp2_with fail
                go_loopg [12, 13] 5 (fun gg vs vw wz => ∃ (way : Nat) (sm : Bool), way + gg = 5 ∧ vw = .int .i64 way ∧ vs = .bool sm ∧ Hid (Kept w5 wz) ∧ Hid (sm = true ↔ SomeW W H s y z way))
                case atStart => exact ⟨0, false, by omega, rfl, rfl, HK, Lib.hid ⟨fun h => (by cases h), fun ⟨x, hx, _⟩ => absurd hx (Nat.not_lt_zero _)⟩⟩
                case round =>
                  obtain ⟨way, sm, hwk, rfl, rfl, HKW, HSM⟩ := hrel
                  obtain ⟨wz, hwz⟩ : ∃ wz, wz = wr := ⟨_, rfl⟩
                  rw [← hwz] at HKW ⊢
                  clear hwz
                  by_cases hw : way ≤ 4
                  · have hwi : (way : Int) ≤ 4 := by omega
                    have HC := Lib.hid (HGC.out way)
                    obtain ⟨o, ok, hR⟩ : ∃ o ok, goesS W H (bytesOf s) y (way : Nat) = (o, ok) := ⟨_, _, rfl⟩
                    have HSN := Lib.hid (someW_succ hR HSM.out)
                    rw [hR] at HC
                    simp only [] at HC
                    have k0 := HKW.out
                    clear hR HSM
                    go_wp2_with fail
                    go_region_held3 (fun V => Kept w5 V ∧ V.cell? ⟨w.heap.size, 0, none⟩ = some (.int .i64 W) ∧ V.cell? ⟨w.heap.size, 1, none⟩ = some (.int .i64 H) ∧ V.cell? ⟨w.heap.size, 2, none⟩ = some (.string s) ∧ V.cell? ⟨pb, po + j, none⟩ = some (.int .i64 y))
                      (first | exact HG.out _ (by assumption) | exact HG.out _ (Kept.drew (by assumption)))
                      (first | (go_at_call 17; refine (HC.out _ (by first | exact k0 | exact Kept.drew k0)).mono ?_; rintro e wa ⟨rfl, ka⟩))
                    all_goals have hz := (HPZ.out wa ka).1
                    all_goals (clear k0)
                    all_goals (cases sm <;> cases ok)
                    all_goals (by_cases hoz : o = z)
                    all_goals (try (have eoz : (o == z) = true := by simpa using hoz))
                    all_goals (try (have eoz : (o == z) = false := by simpa using hoz))
                    all_goals go_wp2_with fail
                    all_goals go_roundg (gk - 1)
                    all_goals (first | (case measure => omega) | skip)
                    all_goals (refine ⟨way + 1, _, by omega, by go_num, rfl, ka, ?_⟩; have hs := HSN.out; unfold Hid; simpa [hoz] using hs)
                  · obtain rfl : way = 5 := by omega
                    obtain rfl : sm = true := HSM.out.2 HGO.out
                    clear HSM
                    go_wp2_with fail
                    go_loopg [12, 16] n0 (fun gg vs vi wi => ∃ i : Nat, i + gg = n0 ∧ vi = .int .i64 i ∧ vs = .bool true ∧ Hid (Kept w5 wi))
                    case atStart => exact ⟨0, by omega, rfl, rfl, HKW⟩
                    case round =>
                      obtain ⟨i, hi, rfl, rfl, HKI⟩ := hrel
                      obtain ⟨wi, hwi⟩ : ∃ wi, wi = wr := ⟨_, rfl⟩
                      rw [← hwi] at HKI ⊢
                      clear hwi
                      have hls := (HKS.out wi (HKB.out wi HKI.out)).2.2.2.2.2.2
                      by_cases hin : i < n0
                      · have hr0 := HR0.out wi (HKB.out wi HKI.out)
                        obtain ⟨b0, o0, rfl, hb0, hcs0⟩ := hr0.cells (by omega)
                        have hc0 := hcs0 i hin
                        have hmem : (ls.getD 0 []).getD i 0 ∈ ls.getD 0 [] := by have := hr0.1; exact getD_memI (by omega)
                        have hmm := HM0.out
                        generalize (ls.getD 0 []).getD i 0 = zi at hc0 hmem
                        obtain ⟨hz, hy⟩ := HPZ.out wi HKI.out
                        by_cases hne : zi = z
                        · subst hne
                          obtain rfl := hmm hmem
                          have e1 : (y != y) = false := by simp
                          have e2 : (y == y) = true := by simp
                          clear hr0 hcs0 hmem hmm
                          go_wp2_with fail
                          go_quiet (fail)
                          have HQ2 : Hid (Kept w5 (wi.drewN nq)) := below_drewN HKI.out nq
                          go_wp2_with fail
                          go_roundg (gk - 1)
                          case rel => exact ⟨i + 1, by omega, by go_num, rfl, HQ2⟩
                          case measure => omega
                        · have e1 : (zi != z) = true := by simpa using hne
                          clear hr0 hcs0 hmem hmm
                          go_wp2_with fail
                          go_quiet (fail)
                          have HQ2 : Hid (Kept w5 (wi.drewN nq)) := below_drewN HKI.out nq
                          go_wp2_with fail
                          go_roundg (gk - 1)
                          case rel => exact ⟨i + 1, by omega, by go_num, rfl, HQ2⟩
                          case measure => omega
                      · obtain rfl : i = n0 := by omega
                        go_wp2_with fail
                        go_loopg [12, 17] n (fun gg vs vi wi => ∃ i : Nat, 1 ≤ i ∧ i + gg = n + 1 ∧ i ≤ n ∧ vi = .int .i64 i ∧ vs = .bool true ∧ Hid (Kept w5 wi))
                        case atStart => exact ⟨1, by omega, by omega, by omega, rfl, rfl, HKI⟩
                        case round =>
                          obtain ⟨i, hi1, hi, hin, rfl, rfl, HKJ⟩ := hrel
                          obtain ⟨wj, hwj⟩ : ∃ wj, wj = wr := ⟨_, rfl⟩
                          rw [← hwj] at HKJ ⊢
                          clear hwj hls
                          by_cases hlt2 : i < n
                          · obtain ⟨ai, ni, ci, hci, hri⟩ := HLC.out i hlt2
                            have hcj := hci wj (HKB.out wj HKJ.out)
                            have hrj := hri.below (Below.mono (HKB.out wj HKJ.out) HBW4.out.size)
                            have hmem : ls.getD i [] ∈ ls.drop 1 := by
                              have hll := HL.out.1
                              have e : ls.getD i [] = (ls.drop 1).getD (i - 1) [] := by
                                rw [List.getD_eq_getElem?_getD, List.getD_eq_getElem?_getD, List.getElem?_drop, show 1 + (i - 1) = i by omega]
                              rw [e]
                              exact getD_memL (by rw [List.length_drop]; omega)
                            have hmq := HM.out _ hmem
                            have hcap := hrj.2.1
                            have hcmx := hrj.2.2.1
                            unfold maxLen at hcmx
                            have hlen := hrj.1
                            generalize ls.getD i [] = q at hrj hmem hmq hlen
                            obtain ⟨hz, hy⟩ := HPZ.out wj HKJ.out
                            by_cases hkq : k < ni
                            · have hji : j < ni := by have := HJ.out; omega
                              have hki : (k : Int) < (ni : Int) := by omega
                              have hji2 : (j : Int) < (ni : Int) := by omega
                              obtain ⟨b0, o0, rfl, hb0, hcs0⟩ := hrj.cells (by omega)
                              have hck := hcs0 k hkq
                              have hcj2 := hcs0 j hji
                              obtain ⟨hq1, hq2⟩ := hmq (by have := HJ.out; omega)
                              rw [HJ.out] at hq1 hq2
                              generalize q.getD k 0 = zk at hck hq1 hq2
                              generalize q.getD j 0 = zj at hcj2 hq2
                              have e1 : (zk != z) = true := by simpa using hq1
                              by_cases hky : zk = y
                              · have e2 : (zk == y) = true := by simpa using hky
                                have e3 : (zj == z) = false := by
                                  rw [beq_eq_false_iff_ne]
                                  exact fun h => hq2 ⟨hky, h⟩
                                clear hrj hcs0 hmem hmq hq1 hq2 hky hci hri
                                go_wp2_with fail
                                go_quiet (fail)
                                have HQ2 : Hid (Kept w5 (wj.drewN nq)) := below_drewN HKJ.out nq
                                go_wp2_with fail
                                go_roundg (gk - 1)
                                case rel => exact ⟨i + 1, by omega, by omega, by omega, by go_num, rfl, HQ2⟩
                                case measure => omega
                              · have e2 : (zk == y) = false := by simpa using hky
                                clear hrj hcs0 hmem hmq hq1 hq2 hky hci hri
                                go_wp2_with fail
                                go_quiet (fail)
                                have HQ2 : Hid (Kept w5 (wj.drewN nq)) := below_drewN HKJ.out nq
                                go_wp2_with fail
                                go_roundg (gk - 1)
                                case rel => exact ⟨i + 1, by omega, by omega, by omega, by go_num, rfl, HQ2⟩
                                case measure => omega
                            · have hki : ¬ (k : Int) < (ni : Int) := by omega
                              clear hrj hmem hmq hci hri
                              go_wp2_with fail
                              go_roundg (gk - 1)
                              case rel => exact ⟨i + 1, by omega, by omega, by omega, by go_num, rfl, HKJ⟩
                              case measure => omega
                          · obtain rfl : i = n := by omega
                            go_wp2_with fail
                            go_roundg (7 - (k + 1))
                            case rel => exact ⟨k + 1, by omega, by omega, by go_num, HKJ⟩
                            case measure => omega
              · obtain rfl : k = 7 := by omega
                have HBE := Lib.hid (HBW5.out.trans (Below.mono HK.out HBW5.out.size))
                go_wp2_with fail
                go_ret
                exact ⟨rfl, HBE.out⟩
end Go.Proofs.Ytiejinphofkjaaa.Vm
