/- The contracts of codec's fit, rise, stateFits. The contract of codec's stateFits. The contract of codec's recordFits. -/
import Derived.Test.YtdhaoacnedgogaaCodMath
import Derived.Test.YtdhaoacnedgogaaStWords
import Derived.Test.YtdhaoacnedgogaaWords
import Derived.Test.YtdhaoacnedgogaaIntsZ
import Derived.Test.YtdhaoacnedgogaaPushes
import Derived.Test.YtdhaoacnedgogaaCodWords
import Derived.Deep.LoopGhost
import Derived.Deep.QuietTactic
import Derived.BigQuiet
namespace Go.Proofs.Ytdhaoacnedgogaa.Vm
open Go Go.RowKit

/-- Are all of these in the range? -/
def fitB (l : List Int) : Bool := decide (∀ x ∈ l, InR x)
theorem fitB_no {l : List Int} {k : Nat} (hk : k < l.length) (h : ¬ InR (l.getD k 0)) : fitB l = false := by
  unfold fitB
  refine decide_eq_false fun h1 => h (h1 _ ?_)
  simp [List.getD, hk]
theorem fitB_yes {l : List Int} (h : ∀ i, i < l.length → InR (l.getD i 0)) : fitB l = true := by
  unfold fitB
  refine decide_eq_true fun x hx => ?_
  obtain ⟨i, hi, rfl⟩ := List.getElem_of_mem hx
  have := h i hi
  simpa [List.getD, hi] using this
theorem fitB_iff {l : List Int} : fitB l = true ↔ ∀ x ∈ l, InR x := by simp [fitB]
set_option maxRecDepth 100000 in
set_option maxHeartbeats 1000000 in
theorem fit_any (a : Option Addr) (n c B : Nat) (l : List Int) (w : World) (h : RowZ .i64 w B a n c l) :
    Calls Try.prog 42 #[.slice a n c] w fun e w' => e = .returned (.bool (fitB l)) ∧ w = w' := by
  have hl : l.length = n := h.1
  have hnm := h.2.2.1
  have hnc := h.2.1
  unfold maxLen at hnm
  have HL := Lib.hid hl
  go_enter Try.func42, Try.ntmps42
  go_wp2_with fail
  go_loopg [4, 7] n (fun gg vx vi wr => wr = w ∧ ∃ k : Nat, k + gg = n ∧ vi = .int .i64 k ∧ Hid (∀ i, i < k → InR (l.getD i 0)))
  case atStart => exact ⟨rfl, 0, by omega, rfl, fun i hi => absurd hi (by omega)⟩
  case round =>
    obtain ⟨rfl, k, hkg, rfl, HA⟩ := hrel
    by_cases hlt : k < n
    · obtain ⟨b, off, rfl, hb, hcs⟩ := h.cells (by omega)
      have hc := hcs k hlt
      generalize hx : l.getD k 0 = x at hc
      have HX := Lib.hid hx
      have hlt' : (k : Int) < (n : Int) := by omega
      clear hx hcs
      by_cases h0 : x < 0
      · go_wp2_with fail
        go_ret
        exact ⟨ret_bool (fitB_no (k := k) (by rw [HL.out]; exact hlt) (by rw [HX.out]; omega)).symm, rfl⟩
      · by_cases h1 : 2147483647 < x
        · go_wp2_with fail
          go_ret
          exact ⟨ret_bool (fitB_no (k := k) (by rw [HL.out]; exact hlt) (by rw [HX.out]; omega)).symm, rfl⟩
        · go_wp2_with fail
          go_roundg (gk - 1)
          case measure => omega
          case rel =>
            refine ⟨rfl, k + 1, by omega, by go_num, fun i hi => ?_⟩
            rcases Nat.lt_or_ge i k with hik | hik
            · exact HA.out i hik
            · rw [show i = k by omega, HX.out]
              exact ⟨by omega, by omega⟩
    · obtain rfl : n = k := by omega
      go_wp2_with fail
      go_ret
      exact ⟨ret_bool (fitB_yes (fun i hi => HA.out i (by rw [← HL.out]; exact hi))).symm, rfl⟩

/-- Strictly increasing. -/
abbrev UpL (l : List Int) : Prop := ∀ i, 0 < i → i < l.length → l.getD (i - 1) 0 < l.getD i 0
noncomputable def riseB (l : List Int) : Bool := @decide (UpL l) (Classical.propDecidable _)
theorem riseB_yes {l : List Int} (h : UpL l) : riseB l = true := @decide_eq_true (UpL l) (Classical.propDecidable _) h
theorem riseB_no {l : List Int} (h : ¬ UpL l) : riseB l = false := @decide_eq_false (UpL l) (Classical.propDecidable _) h
set_option maxRecDepth 100000 in
set_option maxHeartbeats 1000000 in
theorem rise_any (a : Option Addr) (n c B : Nat) (l : List Int) (w : World) (h : RowZ .i64 w B a n c l) :
    Calls Try.prog 43 #[.slice a n c] w fun e w' => e = .returned (.bool (riseB l)) ∧ Below w.heap.size w w' := by
  have hl : l.length = n := h.1
  have hnm := h.2.2.1
  have hnc := h.2.1
  unfold maxLen at hnm
  have HL := Lib.hid hl
  go_enter Try.func43, Try.ntmps43
  go_wp2_with fail
  go_loopg [3] n (fun gg vi wr => ∃ k m : Nat, 1 ≤ k ∧ n + 1 ≤ k + gg ∧ vi = .int .i64 k ∧ wr = w.drewN m ∧ Hid (∀ i, 0 < i → i < k → i < n → l.getD (i - 1) 0 < l.getD i 0))
  case atStart => exact ⟨1, 0, by omega, by omega, rfl, rfl, fun i h1 h2 => absurd h2 (by omega)⟩
  case round =>
    obtain ⟨k, m, hk1, hkg, rfl, rfl, HA⟩ := hrel
    by_cases hlt : k < n
    · obtain ⟨b, off, rfl, hb, hcs⟩ := h.cells (by omega)
      have hc := hcs k hlt
      have hc2 := hcs (k - 1) (by omega)
      generalize hx : l.getD k 0 = x at hc
      generalize hy : l.getD (k - 1) 0 = y at hc2
      have HX := Lib.hid hx
      have HY := Lib.hid hy
      have hlt' : (k : Int) < (n : Int) := by omega
      have hw1 : IntKind.i64.wrap ((k : Int) - 1) = (k : Int) - 1 := by simp only [IntKind.wrap_i64]; omega
      have hw2 : ((k : Int) - 1).toNat = k - 1 := by omega
      have hw3 : (0 : Int) ≤ (k : Int) - 1 ∧ (k : Int) - 1 < (n : Int) := by omega
      clear hx hy hcs
      by_cases hyx : y < x
      · have hyx' : ¬ x ≤ y := by omega
        go_wp2_with fail
        go_quiet (fail)
        go_wp2_with fail
        go_roundg (gk - 1)
        case measure => omega
        case rel =>
          refine ⟨k + 1, m + nq, by omega, by omega, by go_num, by first | rfl | (rw [World.drewN_drewN]) | (simp), fun i h1 h2 h3 => ?_⟩
          rcases Nat.lt_or_ge i k with hik | hik
          · exact HA.out i h1 hik h3
          · rw [show i = k by omega, HX.out, HY.out]
            exact hyx
      · have hyx' : x ≤ y := by omega
        go_wp2_with fail
        go_quiet (fail)
        go_wp2_with fail
        go_ret
        refine ⟨ret_bool (riseB_no (fun hu => ?_)).symm, below_drewN (below_drewN (Below.refl _ _) m) _⟩
        have := hu k (by omega) (by rw [HL.out]; exact hlt)
        rw [HX.out, HY.out] at this
        omega
    · have hgo : ¬ ((k : Int) < (n : Int)) := by omega
      go_wp2_with fail
      go_ret
      exact ⟨ret_bool (riseB_yes (fun i h1 h2 => HA.out i h1 (by have := HL.out; omega) (by rw [← HL.out]; exact h2))).symm, below_drewN (Below.refl _ _) m⟩
end Go.Proofs.Ytdhaoacnedgogaa.Vm

namespace Go.Proofs.Ytdhaoacnedgogaa.Vm
open Go Go.RowKit

theorem robIn_iff (r : Rec) : RobIn r ↔ fitB [r.a, r.b, r.c, r.d, r.e] = true := by
  rw [fitB_iff]
  simp [RobIn]
theorem jobIn_iff (r : Rec) : JobIn r ↔ fitB [r.a, r.b, r.c, r.d] = true ∧ (r.e = -1 ∨ fitB [r.e] = true) := by
  rw [fitB_iff, fitB_iff]
  simp [JobIn, InR]
  constructor
  · rintro ⟨a, b, c, d, e, f⟩
    exact ⟨⟨a, b, c, d⟩, by omega⟩
  · rintro ⟨⟨a, b, c, d⟩, h⟩
    exact ⟨a, b, c, d, by omega, by omega⟩
theorem canS_fits {s : St} (h1 : ∀ i, i < s.rs.length → RobIn (s.rs.getD i zr)) (h2 : ∀ i, i < s.ts.length → JobIn (s.ts.getD i zr)) (h3 : fitB [s.tick] = true) (h4 : fitB s.bl = true) (h5 : UpL s.bl) (hn : s.rs.length ≤ 1000 ∧ s.ts.length ≤ 1000 ∧ s.bl.length ≤ 1000) : CanS s := by
  rw [fitB_iff] at h3 h4
  refine ⟨h3 _ (by simp), by omega, by omega, by omega, fun r hr => ?_, fun r hr => ?_, upIn_of _ _ (fun x hx => (h4 x hx).2) (fun h => ?_) h5⟩
  · obtain ⟨i, hi, rfl⟩ := List.getElem_of_mem hr
    have := h1 i hi
    simpa [List.getD, hi] using this
  · obtain ⟨i, hi, rfl⟩ := List.getElem_of_mem hr
    have := h2 i hi
    simpa [List.getD, hi] using this
  · have := (h4 (s.bl.getD 0 0) (by simp [List.getD, h])).1
    omega
theorem canS_rob {s : St} (h : CanS s) : ∀ i, i < s.rs.length → RobIn (s.rs.getD i zr) := fun i hi => h.rob _ (by simp [List.getD, hi])
theorem canS_jobs {s : St} (h : CanS s) : ∀ i, i < s.ts.length → JobIn (s.ts.getD i zr) := fun i hi => h.job _ (by simp [List.getD, hi])
theorem canS_bl {s : St} (h : CanS s) : fitB s.bl = true := fitB_iff.2 fun x hx => ⟨by have := ((upIn_up h.up).1 x hx).1; omega, ((upIn_up h.up).1 x hx).2⟩
noncomputable def canB (s : St) : Bool := @decide (CanS s) (Classical.propDecidable _)
theorem canB_yes {s : St} (h : CanS s) : canB s = true := @decide_eq_true (CanS s) (Classical.propDecidable _) h
theorem canB_no {s : St} (h : ¬ CanS s) : canB s = false := @decide_eq_false (CanS s) (Classical.propDecidable _) h

set_option maxRecDepth 100000 in
set_option maxHeartbeats 4000000 in
theorem stateFits_any (h : Sh) (s : St) (w : World) (hin : StIn w w.heap.size h s) (hn : s.rs.length ≤ 1000 ∧ s.ts.length ≤ 1000 ∧ s.bl.length ≤ 1000) :
    Calls Try.prog 23 #[shV h] w fun e w' => e = .returned (.bool (canB s)) ∧ Below w.heap.size w w' := by
  have hB1 : Below w.heap.size w (w.alloc (shO h)) := (Below.refl _ _).alloc (Nat.le_refl _) _
  have hs1 := stAt_new w h
  obtain ⟨w1, hw1⟩ : ∃ w1, w1 = w.alloc (shO h) := ⟨_, rfl⟩
  have hz1 : w1.heap.size = w.heap.size + 1 := by rw [hw1]; simp
  rw [← hw1] at hB1 hs1
  have HW := Lib.hid hw1
  have HB1 := Lib.hid hB1
  have HS := Lib.hid hs1
  have HIN := Lib.hid (hin.below hB1)
  have HN := Lib.hid hn
  have HN1 := Lib.hid hin.rs.1
  have HN2 := Lib.hid hin.ts.1
  have HN3 := Lib.hid hin.bl.1
  have HT := Lib.hid hin.tick
  have hn1 : h.n1 ≤ 1000 := by have := hin.rs.1; omega
  have hn2 : h.n2 ≤ 1000 := by have := hin.ts.1; omega
  obtain ⟨t, a1, n1, c1, a2, n2, c2, a3, n3, c3⟩ := h
  simp only [] at HN1 HN2 HN3 HT hn1 hn2
  obtain ⟨s0, s1, s2, s3⟩ := hs1
  simp only [] at s0 s1 s2 s3
  clear hin hB1 hw1 hn
  go_enter Try.func23, Try.ntmps23
  go_wp2_with fail
  rw [← HW.out]
  go_loopg [10] n1 (fun gg i wr => ∃ k : Nat, i = .int .i64 k ∧ k + gg = n1 ∧ Hid (∀ j, j < k → RobIn (s.rs.getD j zr)) ∧ Hid (Below w1.heap.size w1 wr))
  case atStart => exact ⟨0, rfl, by omega, fun j hj => absurd hj (by omega), Below.refl _ _⟩
  case round =>
    obtain ⟨k, rfl, hkg, HA, HB⟩ := hrel
    by_cases hlt : k < n1
    · obtain ⟨rb, ro, rfl, hrb, hcs⟩ := HIN.out.rs.cells (show 0 < n1 by omega)
      obtain ⟨x0, x1, x2, x3, x4⟩ := (hcs k hlt).below HB.out (by omega)
      have hrbw : rb < wr.heap.size := by have := HB.out.size; omega
      obtain ⟨x, hx⟩ : ∃ x, s.rs.getD k zr = x := ⟨_, rfl⟩
      rw [hx] at x0 x1 x2 x3 x4
      have HX := Lib.hid hx
      have hlt' : (k : Int) < (n1 : Int) := by omega
      have hz : (wr.alloc (.cells #[.int .i64 x.a, .int .i64 x.b, .int .i64 x.c, .int .i64 x.d, .int .i64 x.e] 51)).heap.size = wr.heap.size + 1 := by simp
      have hr := rowZ_lit (wr.alloc (.cells #[.int .i64 x.a, .int .i64 x.b, .int .i64 x.c, .int .i64 x.d, .int .i64 x.e] 51)) [x.a, x.b, x.c, x.d, x.e] 3 (by simp)
      rw [hz] at hr
      have HF := Lib.hid (fit_any _ 5 5 _ [x.a, x.b, x.c, x.d, x.e] _ hr)
      have HBN : Hid (Below w1.heap.size w1 ((wr.alloc (.cells #[.int .i64 x.a, .int .i64 x.b, .int .i64 x.c, .int .i64 x.d, .int .i64 x.e] 51)).alloc (.cells #[.int .i64 x.a, .int .i64 x.b, .int .i64 x.c, .int .i64 x.d, .int .i64 x.e] 3))) := (HB.out.alloc HB.out.size _).alloc (by rw [hz]; have := HB.out.size; omega) _
      clear hr hz hcs hx
      by_cases hok : RobIn x
      · rw [(robIn_iff x).1 hok] at HF
        have HOK := Lib.hid hok
        clear hok
        go_wp2_with fail
        refine HF.out.mono ?_
        rintro e y ⟨rfl, rfl⟩
        go_wp2_with fail
        go_roundg (gk - 1)
        case measure => omega
        case rel =>
          refine ⟨k + 1, by go_num, by omega, fun j hj => ?_, HBN.out⟩
          rcases Nat.lt_or_ge j k with hjk | hjk
          · exact HA.out j hjk
          · rw [show j = k by omega, HX.out]; exact HOK.out
      · have hfb : fitB [x.a, x.b, x.c, x.d, x.e] = false := by rw [← Bool.not_eq_true]; exact fun h => hok ((robIn_iff x).2 h)
        rw [hfb] at HF
        have HOK := Lib.hid hok
        clear hok hfb
        go_wp2_with fail
        refine HF.out.mono ?_
        rintro e y ⟨rfl, rfl⟩
        go_wp2_with fail
        go_ret
        refine ⟨ret_bool (canB_no (fun hc => ?_)).symm, HB1.out.trans (HBN.out.mono (by omega))⟩
        have := canS_rob hc k (by rw [HN1.out]; exact hlt)
        rw [HX.out] at this
        exact HOK.out this
    · obtain rfl : n1 = k := by omega
      obtain ⟨_, _, p2, _⟩ := HS.out.below HB.out (by omega)
      simp only [] at p2
      have HA1 := Lib.hid HA.out
      have HBX := Lib.hid HB.out
      clear HA HB
      go_wp2_with fail
      clear p2
      obtain ⟨w2, hw2⟩ : ∃ w2, w2 = wr := ⟨_, rfl⟩
      rw [← hw2] at HBX ⊢
      clear hw2
      go_loopg [31] n2 (fun gg i wr => ∃ k : Nat, i = .int .i64 k ∧ k + gg = n2 ∧ Hid (∀ j, j < k → JobIn (s.ts.getD j zr)) ∧ Hid (Below w1.heap.size w1 wr))
      case atStart => exact ⟨0, rfl, by omega, fun j hj => absurd hj (by omega), HBX.out⟩
      case round =>
        clear HBX
        obtain ⟨k, rfl, hkg, HA, HB⟩ := hrel
        by_cases hlt : k < n2
        · obtain ⟨rb, ro, rfl, hrb, hcs⟩ := HIN.out.ts.cells (show 0 < n2 by omega)
          obtain ⟨x0, x1, x2, x3, x4⟩ := (hcs k hlt).below HB.out (by omega)
          have hrbw : rb < wr.heap.size := by have := HB.out.size; omega
          obtain ⟨x, hx⟩ : ∃ x, s.ts.getD k zr = x := ⟨_, rfl⟩
          rw [hx] at x0 x1 x2 x3 x4
          have HX := Lib.hid hx
          have hlt' : (k : Int) < (n2 : Int) := by omega
          obtain ⟨A0, hA0⟩ : ∃ A0, A0 = wr.alloc (.cells #[.int .i64 x.a, .int .i64 x.b, .int .i64 x.c, .int .i64 x.d, .int .i64 x.e] 53) := ⟨_, rfl⟩
          have hz : A0.heap.size = wr.heap.size + 1 := by rw [hA0]; simp
          obtain ⟨A1, hA1⟩ : ∃ A1, A1 = A0.alloc (.cells #[.int .i64 x.a, .int .i64 x.b, .int .i64 x.c, .int .i64 x.d] 3) := ⟨_, rfl⟩
          have hz2 : A1.heap.size = wr.heap.size + 2 := by rw [hA1]; simp [hz]
          have HBA0 : Hid (Below w1.heap.size w1 A0) := by rw [hA0]; exact HB.out.alloc HB.out.size _
          have hbs := HB.out.size
          have HBA1 : Hid (Below w1.heap.size w1 A1) := by rw [hA1]; exact HBA0.out.alloc (by omega) _
          have HXA : Hid (BoxAt A1 wr.heap.size #[.int .i64 x.a, .int .i64 x.b, .int .i64 x.c, .int .i64 x.d, .int .i64 x.e] 53) := by
            have h1 := boxAt_new wr #[.int .i64 x.a, .int .i64 x.b, .int .i64 x.c, .int .i64 x.d, .int .i64 x.e] 53
            rw [← hA0] at h1
            have h2 : Below A0.heap.size A0 A1 := by rw [hA1]; exact (Below.refl _ _).alloc (Nat.le_refl _) _
            exact h1.calls h2
          have hr := rowZ_lit A0 [x.a, x.b, x.c, x.d] 3 (by simp)
          rw [hz] at hr
          have hr1 : RowZ .i64 A1 (wr.heap.size + 2) (some ⟨wr.heap.size + 1, 0, none⟩) 4 4 [x.a, x.b, x.c, x.d] := by rw [hA1]; exact hr
          have HF := Lib.hid (fit_any _ 4 4 _ [x.a, x.b, x.c, x.d] _ hr1)
          have hq := rowZ_lit A1 [x.e] 3 (by simp)
          rw [hz2] at hq
          have HG := Lib.hid (fit_any _ 1 1 _ [x.e] _ hq)
          have HBN : Hid (Below w1.heap.size w1 (A1.alloc (.cells #[.int .i64 x.e] 3))) := HBA1.out.alloc (by omega) _
          have HWA : Hid ((wr.alloc (.cells #[.int .i64 x.a, .int .i64 x.b, .int .i64 x.c, .int .i64 x.d, .int .i64 x.e] 53)).alloc (.cells #[.int .i64 x.a, .int .i64 x.b, .int .i64 x.c, .int .i64 x.d] 3) = A1) := by rw [hA1, hA0]; exact rfl
          clear hr hr1 hq hz hcs hx hA0 hA1 HBA0
          have HNO : Hid (¬ JobIn x → ¬ CanS s) := fun hj hc => by
            have := canS_jobs hc k (by rw [HN2.out]; exact hlt)
            rw [HX.out] at this
            exact hj this
          by_cases h4 : fitB [x.a, x.b, x.c, x.d] = true
          · have H4 := Lib.hid h4
            rw [h4] at HF
            clear h4
            by_cases he : x.e = -1
            · have HOK : Hid (JobIn x) := (jobIn_iff x).2 ⟨H4.out, .inl he⟩
              have y4 : A1.cell? ⟨wr.heap.size, 4, none⟩ = some (.int .i64 (-1)) := (HXA.out.cell (i := 4) rfl).trans (by show some (Value.int .i64 x.e) = _; rw [he])
              clear he
              go_wp2_with fail
              rw [HWA.out]
              refine HF.out.mono ?_
              rintro e y ⟨rfl, rfl⟩
              clear x0 x1 x2 x3 x4
              go_wp2_with fail
              go_roundg (gk - 1)
              case measure => omega
              case rel =>
                refine ⟨k + 1, by go_num, by omega, fun j hj => ?_, HBA1.out⟩
                rcases Nat.lt_or_ge j k with hjk | hjk
                · exact HA.out j hjk
                · rw [show j = k by omega, HX.out]; exact HOK.out
            · have y4 : A1.cell? ⟨wr.heap.size, 4, none⟩ = some (.int .i64 x.e) := HXA.out.cell (i := 4) rfl
              have hne : (x.e != -1) = true := by simp; omega
              by_cases h5 : fitB [x.e] = true
              · have HOK : Hid (JobIn x) := (jobIn_iff x).2 ⟨H4.out, .inr h5⟩
                rw [h5] at HG
                clear he h5
                go_wp2_with fail
                rw [HWA.out]
                refine HF.out.mono ?_
                rintro e y ⟨rfl, rfl⟩
                clear x0 x1 x2 x3 x4
                go_wp2_with fail
                first | rw [hz2] | skip
                refine HG.out.mono ?_
                rintro e y ⟨rfl, rfl⟩
                go_wp2_with fail
                go_roundg (gk - 1)
                case measure => omega
                case rel =>
                  refine ⟨k + 1, by go_num, by omega, fun j hj => ?_, HBN.out⟩
                  rcases Nat.lt_or_ge j k with hjk | hjk
                  · exact HA.out j hjk
                  · rw [show j = k by omega, HX.out]; exact HOK.out
              · have HOK : Hid (¬ JobIn x) := fun hj => by
                  rcases ((jobIn_iff x).1 hj).2 with h | h
                  · exact he h
                  · exact h5 h
                rw [Bool.not_eq_true] at h5
                rw [h5] at HG
                clear he h5
                go_wp2_with fail
                rw [HWA.out]
                refine HF.out.mono ?_
                rintro e y ⟨rfl, rfl⟩
                clear x0 x1 x2 x3 x4
                go_wp2_with fail
                first | rw [hz2] | skip
                refine HG.out.mono ?_
                rintro e y ⟨rfl, rfl⟩
                go_wp2_with fail
                go_ret
                exact ⟨ret_bool (canB_no (HNO.out HOK.out)).symm, HB1.out.trans (HBN.out.mono (by omega))⟩
          · have HOK : Hid (¬ JobIn x) := fun hj => h4 ((jobIn_iff x).1 hj).1
            rw [Bool.not_eq_true] at h4
            rw [h4] at HF
            clear h4
            go_wp2_with fail
            rw [HWA.out]
            refine HF.out.mono ?_
            rintro e y ⟨rfl, rfl⟩
            clear x0 x1 x2 x3 x4
            go_wp2_with fail
            go_ret
            exact ⟨ret_bool (canB_no (HNO.out HOK.out)).symm, HB1.out.trans (HBA1.out.mono (by omega))⟩
        · obtain rfl : n2 = k := by omega
          have HBX := Lib.hid HB.out
          obtain ⟨w3, hw3⟩ : ∃ w3, w3 = wr := ⟨_, rfl⟩
          rw [← hw3] at HBX ⊢
          clear HB hw3
          obtain ⟨p0, _, _, p3⟩ := HS.out.below HBX.out (by omega)
          simp only [] at p0 p3
          have hbs := HBX.out.size
          have hr := rowZ_lit w3 [t] 3 (by simp)
          have HF := Lib.hid (fit_any _ 1 1 _ [t] _ hr)
          have hbl : Below w3.heap.size w3 (w3.alloc (.cells #[.int .i64 t] 3)) := (Below.refl _ _).alloc (Nat.le_refl _) _
          have HBN : Hid (Below w1.heap.size w1 (w3.alloc (.cells #[.int .i64 t] 3))) := HBX.out.trans (hbl.mono hbs)
          obtain ⟨_, _, _, r3⟩ := HS.out.below HBN.out (by omega)
          simp only [] at r3
          have hbl2 := HIN.out.bl.below ((HBN.out).mono (show w.heap.size ≤ w1.heap.size by omega))
          have HG := Lib.hid (fit_any _ n3 c3 _ s.bl _ hbl2)
          have HU := Lib.hid (rise_any _ n3 c3 _ s.bl _ hbl2)
          have HA2 := Lib.hid HA.out
          have hnm := HIN.out.bl.2.2.1
          have hnc := HIN.out.bl.2.1
          unfold maxLen at hnm
          simp only [] at hnm hnc
          have hqs : w.heap.size < w3.heap.size := by omega
          clear hr hbl hbl2 HA r3
          by_cases h1 : fitB [t] = true
          · by_cases h2 : fitB s.bl = true
            · rw [h1] at HF
              rw [h2] at HG
              have HB3 : Hid (canB s = riseB s.bl) := by
                unfold Hid
                by_cases h3 : UpL s.bl
                · rw [riseB_yes h3]
                  exact canB_yes (canS_fits (fun i hi => HA1.out i (by have := HN1.out; omega)) (fun i hi => HA2.out i (by have := HN2.out; omega)) (by rw [← HT.out]; exact h1) h2 h3 HN.out)
                · rw [riseB_no h3]
                  exact canB_no (fun hc => h3 (canS_up hc))
              clear h1 h2
              go_wp2_with fail
              refine HF.out.mono ?_
              rintro e y ⟨rfl, rfl⟩
              go_wp2_with fail
              refine HG.out.mono ?_
              rintro e y ⟨rfl, rfl⟩
              go_wp2_with fail
              refine HU.out.mono ?_
              rintro e y ⟨rfl, hby⟩
              have HBY := Lib.hid hby
              rw [← HB3.out]
              clear hby
              go_wp2_with fail
              go_ret
              exact ⟨rfl, HB1.out.trans ((HBN.out.trans (HBY.out.mono HBN.out.size)).mono (by omega))⟩
            · have HNO : Hid (¬ CanS s) := fun hc => h2 (canS_bl hc)
              rw [Bool.not_eq_true] at h2
              rw [h1] at HF
              rw [h2] at HG
              clear h1 h2
              go_wp2_with fail
              refine HF.out.mono ?_
              rintro e y ⟨rfl, rfl⟩
              go_wp2_with fail
              refine HG.out.mono ?_
              rintro e y ⟨rfl, rfl⟩
              go_wp2_with fail
              go_ret
              exact ⟨ret_bool (canB_no HNO.out).symm, HB1.out.trans (HBN.out.mono (by omega))⟩
          · have HNO : Hid (¬ CanS s) := fun hc => h1 (fitB_iff.2 (by have := hc.tick; rw [HT.out]; simpa using this))
            rw [Bool.not_eq_true] at h1
            rw [h1] at HF
            clear h1
            go_wp2_with fail
            refine HF.out.mono ?_
            rintro e y ⟨rfl, rfl⟩
            go_wp2_with fail
            go_ret
            exact ⟨ret_bool (canB_no HNO.out).symm, HB1.out.trans (HBN.out.mono (by omega))⟩
end Go.Proofs.Ytdhaoacnedgogaa.Vm

namespace Go.Proofs.Ytdhaoacnedgogaa.Vm
open Go Go.RowKit

noncomputable def canRB (x : Rcd) : Bool := @decide (CanR x) (Classical.propDecidable _)
theorem canRB_yes {x : Rcd} (h : CanR x) : canRB x = true := @decide_eq_true (CanR x) (Classical.propDecidable _) h
theorem canRB_no {x : Rcd} (h : ¬ CanR x) : canRB x = false := @decide_eq_false (CanR x) (Classical.propDecidable _) h
theorem canR_fits {x : Rcd} (h1 : ∀ i, i < x.cs.length → 0 ≤ x.cs.getD i 0 ∧ x.cs.getD i 0 ≤ 255) (h2 : ∀ i, i < x.ws.length → 0 ≤ x.ws.getD i 0 ∧ x.ws.getD i 0 ≤ 4) (h3 : fitB [x.tick] = true) (h4 : x.cs.length = x.ins.length) : CanR x := by
  rw [fitB_iff] at h3
  refine ⟨h3 _ (by simp), h4, fun c hc => ?_, fun v hv => ?_⟩
  · obtain ⟨i, hi, rfl⟩ := List.getElem_of_mem hc
    have := h1 i hi
    simpa [List.getD, hi] using this
  · obtain ⟨i, hi, rfl⟩ := List.getElem_of_mem hv
    have := h2 i hi
    simpa [List.getD, hi] using this

set_option maxRecDepth 100000 in
set_option maxHeartbeats 4000000 in
theorem recFits_any (h : Rh) (x : Rcd) (w : World) (hin : RhIn w w.heap.size h x) :
    Calls Try.prog 28 #[rhV h] w fun e w' => e = .returned (.bool (canRB x)) ∧ Below w.heap.size w w' := by
  have hB1 : Below w.heap.size w (w.alloc (rhO h)) := (Below.refl _ _).alloc (Nat.le_refl _) _
  have hs1 := rhAt_new w h
  obtain ⟨w1, hw1⟩ : ∃ w1, w1 = w.alloc (rhO h) := ⟨_, rfl⟩
  have hz1 : w1.heap.size = w.heap.size + 1 := by rw [hw1]; simp
  rw [← hw1] at hB1 hs1
  have HW := Lib.hid hw1
  have HB1 := Lib.hid hB1
  have HS := Lib.hid hs1
  have HIN := Lib.hid (hin.below hB1)
  have HN1 := Lib.hid hin.ins.1
  have HN2 := Lib.hid hin.cs.1
  have HN3 := Lib.hid hin.ws.1
  have HT := Lib.hid hin.tick
  have hm1 := hin.ins.2.2.1
  have hm2 := hin.cs.2.2.1
  have hm3 := hin.ws.2.2.1
  have hc1 := hin.ins.2.1
  have hc2 := hin.cs.2.1
  have hc3 := hin.ws.2.1
  unfold maxLen at hm1 hm2 hm3
  obtain ⟨t, a1, n1, c1, a2, n2, c2, a3, n3, c3, ck⟩ := h
  simp only [] at HN1 HN2 HN3 HT hm1 hm2 hm3 hc1 hc2 hc3
  obtain ⟨s0, s1, s2, s3, s4⟩ := hs1
  simp only [] at s0 s1 s2 s3 s4
  clear hin hB1 hw1
  go_enter Try.func28, Try.ntmps28
  go_wp2_with fail
  rw [← HW.out]
  have hr := rowZ_lit w1 [t] 3 (by simp)
  have HF := Lib.hid (fit_any _ 1 1 _ [t] _ hr)
  have hbl : Below w1.heap.size w1 (w1.alloc (.cells #[.int .i64 t] 3)) := (Below.refl _ _).alloc (Nat.le_refl _) _
  have HBN : Hid (Below w.heap.size w (w1.alloc (.cells #[.int .i64 t] 3))) := HB1.out.trans (hbl.mono (by omega))
  have hqs : w.heap.size < w1.heap.size := by omega
  have hz1a : w1.heap.size ≤ w.heap.size + 1 := by omega
  clear hr hbl hz1
  go_loopg [10] n2 (fun gg i wr => wr = w1 ∧ ∃ k : Nat, i = .int .i64 k ∧ k + gg = n2 ∧ Hid (∀ j, j < k → 0 ≤ x.cs.getD j 0 ∧ x.cs.getD j 0 ≤ 255))
  case atStart => exact ⟨rfl, 0, rfl, by omega, fun j hj => absurd hj (by omega)⟩
  case round =>
    obtain ⟨hwr, k, rfl, hkg, HA1⟩ := hrel
    obtain rfl : w1 = wr := hwr.symm
    clear hwr
    by_cases hlt : k < n2
    · obtain ⟨rb, ro, rfl, hrb, hcs⟩ := HIN.out.cs.cells (show 0 < n2 by omega)
      have x0 := hcs k hlt
      obtain ⟨y, hy⟩ : ∃ y, x.cs.getD k 0 = y := ⟨_, rfl⟩
      rw [hy] at x0
      have HY := Lib.hid hy
      have hlt' : (k : Int) < (n2 : Int) := by omega
      have HNO : Hid (¬ (0 ≤ y ∧ y ≤ 255) → ¬ CanR x) := fun hj hc => by
        have := hc.cs (x.cs.getD k 0) (by simp [List.getD, show k < x.cs.length by rw [HN2.out]; exact hlt])
        rw [HY.out] at this
        exact hj this
      clear hcs hy
      by_cases h0 : y < 0
      · have HX : Hid (¬ CanR x) := HNO.out (by omega)
        go_wp2_with fail
        go_ret
        exact ⟨ret_bool (canRB_no HX.out).symm, HB1.out⟩
      · by_cases h1 : 255 < y
        · have HX : Hid (¬ CanR x) := HNO.out (by omega)
          go_wp2_with fail
          go_ret
          exact ⟨ret_bool (canRB_no HX.out).symm, HB1.out⟩
        · go_wp2_with fail
          go_roundg (gk - 1)
          case measure => omega
          case rel =>
            refine ⟨rfl, k + 1, by go_num, by omega, fun j hj => ?_⟩
            rcases Nat.lt_or_ge j k with hjk | hjk
            · exact HA1.out j hjk
            · rw [show j = k by omega, HY.out]; exact ⟨by omega, by omega⟩
    · obtain rfl : n2 = k := by omega
      go_wp2_with fail
      go_loopg [24] n3 (fun gg i wr => wr = w1 ∧ ∃ k : Nat, i = .int .i64 k ∧ k + gg = n3 ∧ Hid (∀ j, j < k → 0 ≤ x.ws.getD j 0 ∧ x.ws.getD j 0 ≤ 4))
      case atStart => exact ⟨rfl, 0, rfl, by omega, fun j hj => absurd hj (by omega)⟩
      case round =>
        obtain ⟨hwr, k, rfl, hkg, HA2⟩ := hrel
        obtain rfl : w1 = wr := hwr.symm
        clear hwr
        by_cases hlt : k < n3
        · obtain ⟨rb, ro, rfl, hrb, hcs⟩ := HIN.out.ws.cells (show 0 < n3 by omega)
          have x0 := hcs k hlt
          obtain ⟨y, hy⟩ : ∃ y, x.ws.getD k 0 = y := ⟨_, rfl⟩
          rw [hy] at x0
          have HY := Lib.hid hy
          have hlt' : (k : Int) < (n3 : Int) := by omega
          have HNO : Hid (¬ (0 ≤ y ∧ y ≤ 4) → ¬ CanR x) := fun hj hc => by
            have := hc.ws (x.ws.getD k 0) (by simp [List.getD, show k < x.ws.length by rw [HN3.out]; exact hlt])
            rw [HY.out] at this
            exact hj this
          clear hcs hy
          by_cases h0 : y < 0
          · have HX : Hid (¬ CanR x) := HNO.out (by omega)
            go_wp2_with fail
            go_ret
            exact ⟨ret_bool (canRB_no HX.out).symm, HB1.out⟩
          · by_cases h1 : 4 < y
            · have HX : Hid (¬ CanR x) := HNO.out (by omega)
              go_wp2_with fail
              go_ret
              exact ⟨ret_bool (canRB_no HX.out).symm, HB1.out⟩
            · go_wp2_with fail
              go_roundg (gk - 1)
              case measure => omega
              case rel =>
                refine ⟨rfl, k + 1, by go_num, by omega, fun j hj => ?_⟩
                rcases Nat.lt_or_ge j k with hjk | hjk
                · exact HA2.out j hjk
                · rw [show j = k by omega, HY.out]; exact ⟨by omega, by omega⟩
        · obtain rfl : n3 = k := by omega
          go_wp2_with fail
          have HY : Hid (x.cs.length = x.ins.length → fitB [t] = true → CanR x) := fun h4 h3 => canR_fits (fun i hi => HA1.out i (by have := HN2.out; omega)) (fun i hi => HA2.out i (by have := HN3.out; omega)) (by rw [← HT.out]; exact h3) h4
          by_cases h1 : fitB [t] = true
          · rw [h1] at HF
            have H1 := Lib.hid h1
            clear h1
            refine HF.out.mono ?_
            rintro e y ⟨rfl, rfl⟩
            by_cases h2 : n2 = n1
            · have HX : Hid (CanR x) := HY.out (by rw [HN2.out, HN1.out]; exact h2) H1.out
              have h2' : ((n2 : Int) == (n1 : Int)) = true := by simp; omega
              clear h2
              go_wp2_with fail
              go_ret
              exact ⟨ret_bool (canRB_yes HX.out).symm, HBN.out⟩
            · have HX : Hid (¬ CanR x) := fun hc => h2 (by have h3 := hc.cn; rw [HN2.out, HN1.out] at h3; exact h3)
              have h2' : ((n2 : Int) == (n1 : Int)) = false := by simp; omega
              clear h2
              go_wp2_with fail
              go_ret
              exact ⟨ret_bool (canRB_no HX.out).symm, HBN.out⟩
          · have HX : Hid (¬ CanR x) := fun hc => h1 (fitB_iff.2 (by have := hc.tick; rw [HT.out]; simpa using this))
            rw [Bool.not_eq_true] at h1
            rw [h1] at HF
            clear h1
            refine HF.out.mono ?_
            rintro e y ⟨rfl, rfl⟩
            go_wp2_with fail
            go_ret
            exact ⟨ret_bool (canRB_no HX.out).symm, HBN.out⟩
end Go.Proofs.Ytdhaoacnedgogaa.Vm
