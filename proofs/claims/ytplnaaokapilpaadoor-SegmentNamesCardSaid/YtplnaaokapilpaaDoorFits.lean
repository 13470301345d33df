/- The contracts of codec's fit, rise, stateFits. The contract of codec's stateFits. The contract of codec's recordFits. -/
import Derived.Test.YtplnaaokapilpaaDoorCodMath
import Derived.Test.YtplnaaokapilpaaDoorStWords
import Derived.Test.YtplnaaokapilpaaDoorWords
import Derived.Test.YtplnaaokapilpaaDoorAppendZ
import Derived.Test.YtplnaaokapilpaaDoorPushes
import Derived.Test.YtplnaaokapilpaaDoorCodWords
import Derived.Deep.LoopGhost
import Derived.Deep.QuietTactic
import Derived.BigQuiet
namespace Go.Proofs.YtplnaaokapilpaaDoor.Vm
open Go Go.RowKit

/-- Are all of these in the range? -/
def fitB (l : List Int) : Bool := decide (∀ x ∈ l, InR x)
theorem fitB_no {l : List Int} {k : Nat} (hk : k < l.length) (h : ¬ InR (l.getD k 0)) : fitB l = false := by
  unfold fitB
  refine decide_eq_false fun h1 => h (h1 _ ?_)
  simp [List.getD, hk]
theorem fitB_yes {l : List Int} (h : ∀ i, i < l.length → InR (l.getD i 0)) : fitB l = true := by
  unfold fitB
  refine decide_eq_true fun x hx => ?_
  obtain ⟨i, hi, rfl⟩ := List.getElem_of_mem hx
  have := h i hi
  simpa [List.getD, hi] using this
theorem fitB_iff {l : List Int} : fitB l = true ↔ ∀ x ∈ l, InR x := by simp [fitB]
set_option maxRecDepth 100000 in
set_option maxHeartbeats 1000000 in
theorem fit_any (a : Option Addr) (n c B : Nat) (l : List Int) (w : World) (h : RowZ .i64 w B a n c l) :
    Calls Tryd.prog 47 #[.slice a n c] w fun e w' => e = .returned (.bool (fitB l)) ∧ w = w' := by
  have hl : l.length = n := h.1
  have hnm := h.2.2.1
  have hnc := h.2.1
  unfold maxLen at hnm
  have HL := Lib.hid hl
  go_enter Tryd.func47, Tryd.ntmps47
  go_wp2_with fail
  go_loopg [4, 7] n (fun gg vx vi wr => wr = w ∧ ∃ k : Nat, k + gg = n ∧ vi = .int .i64 k ∧ Hid (∀ i, i < k → InR (l.getD i 0)))
  case atStart => exact ⟨rfl, 0, by omega, rfl, fun i hi => absurd hi (by omega)⟩
  case round =>
    obtain ⟨rfl, k, hkg, rfl, HA⟩ := hrel
    by_cases hlt : k < n
    · obtain ⟨b, off, rfl, hb, hcs⟩ := h.cells (by omega)
      have hc := hcs k hlt
      generalize hx : l.getD k 0 = x at hc
      have HX := Lib.hid hx
      have hlt' : (k : Int) < (n : Int) := by omega
      clear hx hcs
      by_cases h0 : x < 0
      · go_wp2_with fail
        go_ret
        exact ⟨ret_bool (fitB_no (k := k) (by rw [HL.out]; exact hlt) (by rw [HX.out]; omega)).symm, rfl⟩
      · by_cases h1 : 2147483647 < x
        · go_wp2_with fail
          go_ret
          exact ⟨ret_bool (fitB_no (k := k) (by rw [HL.out]; exact hlt) (by rw [HX.out]; omega)).symm, rfl⟩
        · go_wp2_with fail
          go_roundg (gk - 1)
          case measure => omega
          case rel =>
            refine ⟨rfl, k + 1, by omega, by go_num, fun i hi => ?_⟩
            rcases Nat.lt_or_ge i k with hik | hik
            · exact HA.out i hik
            · rw [show i = k by omega, HX.out]
              exact ⟨by omega, by omega⟩
    · obtain rfl : n = k := by omega
      go_wp2_with fail
      go_ret
      exact ⟨ret_bool (fitB_yes (fun i hi => HA.out i (by rw [← HL.out]; exact hi))).symm, rfl⟩

/-- Strictly increasing. -/
abbrev UpL (l : List Int) : Prop := ∀ i, 0 < i → i < l.length → l.getD (i - 1) 0 < l.getD i 0
noncomputable def riseB (l : List Int) : Bool := @decide (UpL l) (Classical.propDecidable _)
theorem riseB_yes {l : List Int} (h : UpL l) : riseB l = true := @decide_eq_true (UpL l) (Classical.propDecidable _) h
theorem riseB_no {l : List Int} (h : ¬ UpL l) : riseB l = false := @decide_eq_false (UpL l) (Classical.propDecidable _) h
end Go.Proofs.YtplnaaokapilpaaDoor.Vm

namespace Go.Proofs.YtplnaaokapilpaaDoor.Vm
open Go Go.RowKit

theorem robIn_iff (r : Rec) : RobIn r ↔ fitB [r.a, r.b, r.c, r.d, r.e] = true := by
  rw [fitB_iff]
  simp [RobIn]
theorem jobIn_iff (r : Rec) : JobIn r ↔ fitB [r.a, r.b, r.c, r.d] = true ∧ (r.e = -1 ∨ fitB [r.e] = true) := by
  rw [fitB_iff, fitB_iff]
  simp [JobIn, InR]
  constructor
  · rintro ⟨a, b, c, d, e, f⟩
    exact ⟨⟨a, b, c, d⟩, by omega⟩
  · rintro ⟨⟨a, b, c, d⟩, h⟩
    exact ⟨a, b, c, d, by omega, by omega⟩
theorem canS_fits {s : St} (h1 : ∀ i, i < s.rs.length → RobIn (s.rs.getD i zr)) (h2 : ∀ i, i < s.ts.length → JobIn (s.ts.getD i zr)) (h3 : fitB [s.tick] = true) (h4 : fitB s.bl = true) (h5 : UpL s.bl) (hn : s.rs.length ≤ 1000 ∧ s.ts.length ≤ 1000 ∧ s.bl.length ≤ 1000) : CanS s := by
  rw [fitB_iff] at h3 h4
  refine ⟨h3 _ (by simp), by omega, by omega, by omega, fun r hr => ?_, fun r hr => ?_, upIn_of _ _ (fun x hx => (h4 x hx).2) (fun h => ?_) h5⟩
  · obtain ⟨i, hi, rfl⟩ := List.getElem_of_mem hr
    have := h1 i hi
    simpa [List.getD, hi] using this
  · obtain ⟨i, hi, rfl⟩ := List.getElem_of_mem hr
    have := h2 i hi
    simpa [List.getD, hi] using this
  · have := (h4 (s.bl.getD 0 0) (by simp [List.getD, h])).1
    omega
theorem canS_rob {s : St} (h : CanS s) : ∀ i, i < s.rs.length → RobIn (s.rs.getD i zr) := fun i hi => h.rob _ (by simp [List.getD, hi])
theorem canS_jobs {s : St} (h : CanS s) : ∀ i, i < s.ts.length → JobIn (s.ts.getD i zr) := fun i hi => h.job _ (by simp [List.getD, hi])
theorem canS_bl {s : St} (h : CanS s) : fitB s.bl = true := fitB_iff.2 fun x hx => ⟨by have := ((upIn_up h.up).1 x hx).1; omega, ((upIn_up h.up).1 x hx).2⟩
noncomputable def canB (s : St) : Bool := @decide (CanS s) (Classical.propDecidable _)
theorem canB_yes {s : St} (h : CanS s) : canB s = true := @decide_eq_true (CanS s) (Classical.propDecidable _) h
theorem canB_no {s : St} (h : ¬ CanS s) : canB s = false := @decide_eq_false (CanS s) (Classical.propDecidable _) h

end Go.Proofs.YtplnaaokapilpaaDoor.Vm

namespace Go.Proofs.YtplnaaokapilpaaDoor.Vm
open Go Go.RowKit

noncomputable def canRB (x : Rcd) : Bool := @decide (CanR x) (Classical.propDecidable _)
theorem canRB_yes {x : Rcd} (h : CanR x) : canRB x = true := @decide_eq_true (CanR x) (Classical.propDecidable _) h
theorem canRB_no {x : Rcd} (h : ¬ CanR x) : canRB x = false := @decide_eq_false (CanR x) (Classical.propDecidable _) h
theorem canR_fits {x : Rcd} (h1 : ∀ i, i < x.cs.length → 0 ≤ x.cs.getD i 0 ∧ x.cs.getD i 0 ≤ 255) (h2 : ∀ i, i < x.ws.length → 0 ≤ x.ws.getD i 0 ∧ x.ws.getD i 0 ≤ 4) (h3 : fitB [x.tick] = true) (h4 : x.cs.length = x.ins.length) : CanR x := by
  rw [fitB_iff] at h3
  refine ⟨h3 _ (by simp), h4, fun c hc => ?_, fun v hv => ?_⟩
  · obtain ⟨i, hi, rfl⟩ := List.getElem_of_mem hc
    have := h1 i hi
    simpa [List.getD, hi] using this
  · obtain ⟨i, hi, rfl⟩ := List.getElem_of_mem hv
    have := h2 i hi
    simpa [List.getD, hi] using this

set_option maxRecDepth 100000 in
set_option maxHeartbeats 4000000 in
theorem recFits_any (h : Rh) (x : Rcd) (w : World) (hin : RhIn w w.heap.size h x) :
    Calls Tryd.prog 29 #[rhV h] w fun e w' => e = .returned (.bool (canRB x)) ∧ Below w.heap.size w w' := by
  have hB1 : Below w.heap.size w (w.alloc (rhO h)) := (Below.refl _ _).alloc (Nat.le_refl _) _
  have hs1 := rhAt_new w h
  obtain ⟨w1, hw1⟩ : ∃ w1, w1 = w.alloc (rhO h) := ⟨_, rfl⟩
  have hz1 : w1.heap.size = w.heap.size + 1 := by rw [hw1]; simp
  rw [← hw1] at hB1 hs1
  have HW := Lib.hid hw1
  have HB1 := Lib.hid hB1
  have HS := Lib.hid hs1
  have HIN := Lib.hid (hin.below hB1)
  have HN1 := Lib.hid hin.ins.1
  have HN2 := Lib.hid hin.cs.1
  have HN3 := Lib.hid hin.ws.1
  have HT := Lib.hid hin.tick
  have hm1 := hin.ins.2.2.1
  have hm2 := hin.cs.2.2.1
  have hm3 := hin.ws.2.2.1
  have hc1 := hin.ins.2.1
  have hc2 := hin.cs.2.1
  have hc3 := hin.ws.2.1
  unfold maxLen at hm1 hm2 hm3
  obtain ⟨t, a1, n1, c1, a2, n2, c2, a3, n3, c3, ck⟩ := h
  simp only [] at HN1 HN2 HN3 HT hm1 hm2 hm3 hc1 hc2 hc3
  obtain ⟨s0, s1, s2, s3, s4⟩ := hs1
  simp only [] at s0 s1 s2 s3 s4
  clear hin hB1 hw1
  go_enter Tryd.func29, Tryd.ntmps29
  go_wp2_with fail
  rw [← HW.out]
  have hr := rowZ_lit w1 [t] 3 (by simp)
  have HF := Lib.hid (fit_any _ 1 1 _ [t] _ hr)
  have hbl : Below w1.heap.size w1 (w1.alloc (.cells #[.int .i64 t] 3)) := (Below.refl _ _).alloc (Nat.le_refl _) _
  have HBN : Hid (Below w.heap.size w (w1.alloc (.cells #[.int .i64 t] 3))) := HB1.out.trans (hbl.mono (by omega))
  have hqs : w.heap.size < w1.heap.size := by omega
  have hz1a : w1.heap.size ≤ w.heap.size + 1 := by omega
  clear hr hbl hz1
  go_loopg [10] n2 (fun gg i wr => wr = w1 ∧ ∃ k : Nat, i = .int .i64 k ∧ k + gg = n2 ∧ Hid (∀ j, j < k → 0 ≤ x.cs.getD j 0 ∧ x.cs.getD j 0 ≤ 255))
  case atStart => exact ⟨rfl, 0, rfl, by omega, fun j hj => absurd hj (by omega)⟩
  case round =>
    obtain ⟨hwr, k, rfl, hkg, HA1⟩ := hrel
    obtain rfl : w1 = wr := hwr.symm
    clear hwr
    by_cases hlt : k < n2
    · obtain ⟨rb, ro, rfl, hrb, hcs⟩ := HIN.out.cs.cells (show 0 < n2 by omega)
      have x0 := hcs k hlt
      obtain ⟨y, hy⟩ : ∃ y, x.cs.getD k 0 = y := ⟨_, rfl⟩
      rw [hy] at x0
      have HY := Lib.hid hy
      have hlt' : (k : Int) < (n2 : Int) := by omega
      have HNO : Hid (¬ (0 ≤ y ∧ y ≤ 255) → ¬ CanR x) := fun hj hc => by
        have := hc.cs (x.cs.getD k 0) (by simp [List.getD, show k < x.cs.length by rw [HN2.out]; exact hlt])
        rw [HY.out] at this
        exact hj this
      clear hcs hy
      by_cases h0 : y < 0
      · have HX : Hid (¬ CanR x) := HNO.out (by omega)
        go_wp2_with fail
        go_ret
        exact ⟨ret_bool (canRB_no HX.out).symm, HB1.out⟩
      · by_cases h1 : 255 < y
        · have HX : Hid (¬ CanR x) := HNO.out (by omega)
          go_wp2_with fail
          go_ret
          exact ⟨ret_bool (canRB_no HX.out).symm, HB1.out⟩
        · go_wp2_with fail
          go_roundg (gk - 1)
          case measure => omega
          case rel =>
            refine ⟨rfl, k + 1, by go_num, by omega, fun j hj => ?_⟩
            rcases Nat.lt_or_ge j k with hjk | hjk
            · exact HA1.out j hjk
            · rw [show j = k by omega, HY.out]; exact ⟨by omega, by omega⟩
    · obtain rfl : n2 = k := by omega
      go_wp2_with fail
      go_loopg [24] n3 (fun gg i wr => wr = w1 ∧ ∃ k : Nat, i = .int .i64 k ∧ k + gg = n3 ∧ Hid (∀ j, j < k → 0 ≤ x.ws.getD j 0 ∧ x.ws.getD j 0 ≤ 4))
      case atStart => exact ⟨rfl, 0, rfl, by omega, fun j hj => absurd hj (by omega)⟩
      case round =>
        obtain ⟨hwr, k, rfl, hkg, HA2⟩ := hrel
        obtain rfl : w1 = wr := hwr.symm
        clear hwr
        by_cases hlt : k < n3
        · obtain ⟨rb, ro, rfl, hrb, hcs⟩ := HIN.out.ws.cells (show 0 < n3 by omega)
          have x0 := hcs k hlt
          obtain ⟨y, hy⟩ : ∃ y, x.ws.getD k 0 = y := ⟨_, rfl⟩
          rw [hy] at x0
          have HY := Lib.hid hy
          have hlt' : (k : Int) < (n3 : Int) := by omega
          have HNO : Hid (¬ (0 ≤ y ∧ y ≤ 4) → ¬ CanR x) := fun hj hc => by
            have := hc.ws (x.ws.getD k 0) (by simp [List.getD, show k < x.ws.length by rw [HN3.out]; exact hlt])
            rw [HY.out] at this
            exact hj this
          clear hcs hy
          by_cases h0 : y < 0
          · have HX : Hid (¬ CanR x) := HNO.out (by omega)
            go_wp2_with fail
            go_ret
            exact ⟨ret_bool (canRB_no HX.out).symm, HB1.out⟩
          · by_cases h1 : 4 < y
            · have HX : Hid (¬ CanR x) := HNO.out (by omega)
              go_wp2_with fail
              go_ret
              exact ⟨ret_bool (canRB_no HX.out).symm, HB1.out⟩
            · go_wp2_with fail
              go_roundg (gk - 1)
              case measure => omega
              case rel =>
                refine ⟨rfl, k + 1, by go_num, by omega, fun j hj => ?_⟩
                rcases Nat.lt_or_ge j k with hjk | hjk
                · exact HA2.out j hjk
                · rw [show j = k by omega, HY.out]; exact ⟨by omega, by omega⟩
        · obtain rfl : n3 = k := by omega
          go_wp2_with fail
          have HY : Hid (x.cs.length = x.ins.length → fitB [t] = true → CanR x) := fun h4 h3 => canR_fits (fun i hi => HA1.out i (by have := HN2.out; omega)) (fun i hi => HA2.out i (by have := HN3.out; omega)) (by rw [← HT.out]; exact h3) h4
          by_cases h1 : fitB [t] = true
          · rw [h1] at HF
            have H1 := Lib.hid h1
            clear h1
            refine HF.out.mono ?_
            rintro e y ⟨rfl, rfl⟩
            by_cases h2 : n2 = n1
            · have HX : Hid (CanR x) := HY.out (by rw [HN2.out, HN1.out]; exact h2) H1.out
              have h2' : ((n2 : Int) == (n1 : Int)) = true := by simp; omega
              clear h2
              go_wp2_with fail
              go_ret
              exact ⟨ret_bool (canRB_yes HX.out).symm, HBN.out⟩
            · have HX : Hid (¬ CanR x) := fun hc => h2 (by have h3 := hc.cn; rw [HN2.out, HN1.out] at h3; exact h3)
              have h2' : ((n2 : Int) == (n1 : Int)) = false := by simp; omega
              clear h2
              go_wp2_with fail
              go_ret
              exact ⟨ret_bool (canRB_no HX.out).symm, HBN.out⟩
          · have HX : Hid (¬ CanR x) := fun hc => h1 (fitB_iff.2 (by have := hc.tick; rw [HT.out]; simpa using this))
            rw [Bool.not_eq_true] at h1
            rw [h1] at HF
            clear h1
            refine HF.out.mono ?_
            rintro e y ⟨rfl, rfl⟩
            go_wp2_with fail
            go_ret
            exact ⟨ret_bool (canRB_no HX.out).symm, HBN.out⟩
end Go.Proofs.YtplnaaokapilpaaDoor.Vm
