/- The walk of the law MovesFold. -/
import Derived.Test.YtacigmjdppoonaaAwakeTwelve
import Derived.Test.YtacigmjdppoonaaLight12
import Derived.Test.YtacigmjdppoonaaFoldMath
import Derived.Deep.RegionHeld3
namespace Go.Proofs.Ytacigmjdppoonaa.Vm
open Go Go.RowKit
set_option maxRecDepth 100000

theorem keptF {a b c : World} (h : Kept a b) (h2 : Kept b c) : Kept a c := Below.trans h (Below.mono h2 (Below.size h))
theorem OwnQ.lower {w : World} {B B' : Nat} {v : Value} {ls : List (List Int)} (h : OwnQ w B v ls) (hB : B' ≤ B) : OwnQ w B' v ls := by
  obtain ⟨xs, q1, q2⟩ := h
  refine ⟨xs, ⟨q1.1, ?_⟩, fun i l hl => ?_⟩
  · rcases q1.2 with h2 | ⟨gg, cap, cur, hv, hb, r⟩
    · exact .inl h2
    · exact .inr ⟨gg, cap, cur, hv, by omega, r⟩
  · obtain ⟨u, h1, h2⟩ := q2 i l hl
    exact ⟨u, h1, h2.lower hB⟩
/-- What a walk answers, owned, where what lay at A is kept. -/
def WalkO (A : World) (P : List (List Int) → Int → Prop) (e : Ending) (w' : World) : Prop :=
  ∃ a n c ls x, e = .returned (.tuple #[.slice a n c, .int .i64 x]) ∧ P ls x ∧ ls.length = n ∧ OwnQ w' A.heap.size (.slice a n c) ls ∧ Kept A w'
theorem walk_own {f : Nat} {args : Array Value} {A V : World} {P : List (List Int) → Int → Prop} (h : Calls Try.prog f args V (WalkPost V P)) (hA : Kept A V) : Calls Try.prog f args V (WalkO A P) :=
  h.mono fun e V' ⟨a, n, c, ls, x, h1, h2, h3, h4, h5⟩ => ⟨a, n, c, ls, x, h1, h2, h3, h4.lower (Below.size hA), keptF hA h5⟩
theorem OwnQ.rowQ {w : World} {B n c : Nat} {a : Option Addr} {ls : List (List Int)} (h : OwnQ w B (.slice a n c) ls) : RowL w w.heap.size a n c ls := by
  obtain ⟨a', c', e', hr⟩ := h.rowL
  injection e' with e1 e2 e3
  subst e1 e2 e3
  exact hr

set_option maxHeartbeats 8000000 in
theorem movesFold_walk (W H : Int) (s : ByteArray) (a : Option Addr) (n c : Nat) (ls : List (List Int)) (w : World) (hW : wfI W) (hH : wfI H) (hs : s.size ≤ maxLen) (hl : RowL w w.heap.size a n c ls ∧ ∀ q ∈ ls, WfZ q) :
    Calls Try.prog 5 #[gridV W H s, .slice a n c] w fun e w' => e = .returned (.bool true) ∧ Below w.heap.size w w' := by
  obtain ⟨w1, hw1⟩ : ∃ w1, w1 = w.alloc (gridO W H s) := ⟨_, rfl⟩
  have hb1 : Below w.heap.size w w1 := by rw [hw1]; exact (Below.refl _ _).alloc (Nat.le_refl _) _
  have hz1 : w1.heap.size = w.heap.size + 1 := by rw [hw1]; simp
  have hg1 : GridAt w1 w.heap.size W H s := by rw [hw1]; exact gridAt_new w W H s
  obtain ⟨i1, hi1, hy0, hy1, hy2⟩ := info_parts info_row
  have HAW := Lib.hid (awake12_any w1)
  have HW1 := Lib.hid hw1
  have HB1 := Lib.hid hb1
  have HZ1 := Lib.hid hz1
  have HG1 := Lib.hid hg1
  have HL := Lib.hid hl.1
  have HLI := Lib.hid fun V (hV : Below w.heap.size w V) => light12_any W H s a n c w.heap.size ls V (hl.1.below hV) hV.size hs
  clear hw1 hb1 hz1 hg1 hl hs hW hH
  go_enter Try.func5, Try.ntmps5
  go_wp2_with fail
  rw [← HW1.out]
  refine HAW.out.mono ?_
  rintro e w2 ⟨rfl, hb2⟩
  have HB2 : Hid (Below w.heap.size w w2) := HB1.out.trans (hb2.mono HB1.out.size)
  have HG2 : Hid (GridAt w2 w.heap.size W H s) := HG1.out.below hb2 (by have := HZ1.out; omega)
  have HZ2 : Hid (w.heap.size + 1 ≤ w2.heap.size) := by have := hb2.size; have := HZ1.out; unfold Hid; omega
  obtain ⟨g0, g1, g2⟩ := HG2.out
  clear hb2
  go_wp2_with fail
  refine (HLI.out w2 HB2.out).mono ?_
  rintro e w3 ⟨lb, rfl, hlb, hb3⟩
  have HB3 : Hid (Below w.heap.size w w3) := HB2.out.trans (hb3.mono HB2.out.size)
  have HG3 : Hid (GridAt w3 w.heap.size W H s) := HG2.out.below hb3 (by have := HZ2.out; omega)
  have HZ3 : Hid (w.heap.size + 1 ≤ w3.heap.size) := Nat.le_trans HZ2.out hb3.size
  have HLB := Lib.hid hlb
  clear hb3 hlb g0 g1 g2
  cases lb with
  | false =>
    go_wp2_with fail
    go_ret
    exact ⟨rfl, HB3.out⟩
  | true =>
    obtain ⟨h400, h30, hall, hok⟩ := HLB.out rfl
    by_cases hn0 : n = 0
    · subst hn0
      clear h400 h30 hall hok
      go_wp2_with fail
      go_ret
      exact ⟨rfl, HB3.out⟩
    · have e1 : ((n : Int) == 0) = false := by rw [beq_eq_false_iff_ne]; omega
      obtain ⟨b, off, rfl, hb, hcs⟩ := HL.out.cells (by omega)
      obtain ⟨a0, n0, c0, q0, hr0⟩ := hcs 0 (by omega)
      have hnc := HL.out.2.1
      have hnx := HL.out.2.2.1
      unfold maxLen at hnx
      rw [Nat.add_zero] at q0
      have hln := HL.out.1
      have hn60 : n0 ≤ 60 := by
        rw [← hr0.1]
        exact hall _ (by have : 0 < ls.length := by omega
                         simp [List.getD, this])
      have HKS : Hid (∀ V, Kept w3 V → Below w.heap.size w V ∧ (V.cell? ⟨w.heap.size, 0, none⟩ = some (.int .i64 W) ∧ V.cell? ⟨w.heap.size, 1, none⟩ = some (.int .i64 H) ∧ V.cell? ⟨w.heap.size, 2, none⟩ = some (.string s)) ∧ V.cell? ⟨b, off, none⟩ = some (.slice a0 n0 c0)) := fun V hV => by
        have hbw : Below w.heap.size w V := HB3.out.trans (Below.mono hV HB3.out.size)
        exact ⟨hbw, HG3.out.below hV (by have := HZ3.out; omega), (hbw.cell (p := ⟨b, off, none⟩) hb).trans q0⟩
      -- the slices of what came in
      obtain ⟨A1, hA1, _, hsl1⟩ := run_cutQ (some ⟨b, off, none⟩) n c 1 (by omega)
      have HR1 : RowL w w.heap.size A1 (n - 1) (c - 1) (ls.drop 1) := by
        have := HL.out.part (lo := 1) (hi := n) (a' := A1) (by omega) (Nat.le_refl _) (fun b' o' e h => hA1 b' o' e h hnc)
        rwa [List.take_of_length_le (by rw [List.length_drop]; omega)] at this
      have HCW : Hid (∀ (ra rl : Option Addr) (m1 d1 m2 d2 : Nat) (c1 : List Int) (l2 : List (List Int)) (A V : World), Kept w3 V → Kept A V → RowZ .i64 V V.heap.size ra m1 d1 c1 → RowL V V.heap.size rl m2 d2 l2 → m1 ≤ 100000 → m2 ≤ 100000 →
          Calls Try.prog 12 #[gridV W H s, .slice ra m1 d1, .slice rl m2 d2] V (WalkO A (WalkOut W H (bytesOf s) c1 l2))) := fun ra rl m1 d1 m2 d2 c1 l2 A V h3 hA h1 h2 hm1 hm2 =>
        walk_own (mWalk_any W H s ra rl m1 d1 m2 d2 V.heap.size c1 l2 V hok h1 h2 (Nat.le_refl _) hm1 hm2) hA
      have HR0 : Hid (∀ V, Kept w3 V → RowZ .i64 V V.heap.size a0 n0 c0 (ls.getD 0 [])) := fun V hV => by
        have hbw := (HKS.out V hV).1
        exact (hr0.below hbw).mono hbw.size
      have HRL : Hid (∀ V, Kept w3 V → RowL V V.heap.size A1 (n - 1) (c - 1) (ls.drop 1)) := fun V hV => by
        have hbw := (HKS.out V hV).1
        exact (HR1.below hbw).mono hbw.size
      have HPT : Hid (∀ V (lo hi : Nat) (a' : Option Addr), Kept w3 V → lo ≤ hi → hi ≤ n → (lo < hi → a' = some ⟨b, off + lo, none⟩) → RowL V V.heap.size a' (hi - lo) (c - lo) ((ls.drop lo).take (hi - lo))) := fun V lo hi a' hV h1 h2 h3 => by
        have hbw := (HKS.out V hV).1
        exact ((HL.out.part h1 h2 (fun b' o' e h => by injection e with e; injection e with e1 e2; subst e1 e2; exact h3 h)).below hbw).mono hbw.size
      generalize ls.getD 0 [] = l0 at HR0
      have HLN := Lib.hid hln
      have HN30 := Lib.hid h30
      have HL0 : Hid (l0.length ≤ 60) := by rw [← (HR0.out w3 (Kept.refl _)).1] at hn60; exact hn60
      have hn0i : (0 : Int) < (n : Int) := by omega
      have hn0n : 0 < n := by omega
      have kk : Kept w3 w3 := Kept.refl _
      have HC5 := Lib.hid fun V (h3 : Kept w3 V) => HCW.out a0 A1 n0 c0 (n - 1) (c - 1) l0 (ls.drop 1) w3 V h3 h3 (HR0.out V h3) (HRL.out V h3) (by omega) (by omega)
      have hsl1' : ∀ V, (Instr.sliceAt 24 (.slice (some ⟨b, off, none⟩) n c) (some (.int .i64 1)) none none).run Try.prog V = .ok (.slice A1 (n - 1) (c - 1)) V := hsl1
      obtain ⟨_, ⟨g0, g1, g2⟩, q0⟩ := HKS.out w3 kk
      clear h400 h30 hall hok hcs hr0 HLB HAW HLI hsl1 hA1 HR1 hln
      go_wp2_with fail
      go_region_held3 (fun V => Kept w3 V ∧ Below w.heap.size w V ∧ (V.cell? ⟨w.heap.size, 0, none⟩ = some (.int .i64 W) ∧ V.cell? ⟨w.heap.size, 1, none⟩ = some (.int .i64 H) ∧ V.cell? ⟨w.heap.size, 2, none⟩ = some (.string s)) ∧ V.cell? ⟨b, off, none⟩ = some (.slice a0 n0 c0))
        (first | exact ⟨by assumption, HKS.out _ (by assumption)⟩ | exact ⟨Kept.drew (by assumption), HKS.out _ (Kept.drew (by assumption))⟩)
        (first | (go_at_call 12; refine (HC5.out _ (by first | exact kk | exact Kept.drew kk)).mono ?_; rintro e w5 ⟨a7, n7, c7, l7, x8, rfl, hp5, hn5, ho5, k5⟩))
      have HP5 := Lib.hid hp5
      have HN5 := Lib.hid hn5
      have HK5 := Lib.hid k5
      have HR7 : Hid (∀ V, Kept w5 V → RowL V V.heap.size a7 n7 c7 l7) := fun V hV => (ho5.rowQ.below hV).mono (Below.size hV)
      have HLD : Hid ((ls.drop 1).length = n - 1) := by unfold Hid; rw [List.length_drop, HLN.out]
      have HDD : Hid (∀ q, 1 ≤ q → ls.drop q = (ls.drop 1).drop (q - 1)) := fun q hq => by rw [List.drop_drop]; congr 1; omega
      clear hp5 hn5 k5 ho5 g0 g1 g2 q0 kk HC5
      generalize hld : ls.drop 1 = ld at *
      have HLDE := Lib.hid hld
      clear hld
      go_wp2_with fail
      go_loopg [9] n (fun gg v9 wr => ∃ q : Nat, 1 ≤ q ∧ q + gg = n + 1 ∧ v9 = .int .i64 q ∧ Hid (q = 1 ∨ ∃ o, WalkOut W H (bytesOf s) l0 (ld.take (q - 2)) o 0) ∧ Hid (Kept w5 wr))
      case atStart => exact ⟨1, Nat.le_refl _, by omega, rfl, .inl rfl, Kept.refl _⟩
      case round =>
        obtain ⟨q, hq1, hqg, rfl, HO, HKR⟩ := hrel
        have k3 : Kept w3 wr := keptF HK5.out HKR.out
        have HT3 := Lib.hid k3
        have kr : Kept wr wr := Kept.refl _
        by_cases hqn : q ≤ n
        · have d1 : decide ((q : Int) ≤ (n : Int)) = true := by rw [decide_eq_true_eq]; omega
          have hqi : (q : Int) ≤ (n : Int) := by omega
          obtain ⟨A2, hA2, hsl2⟩ := run_cutQ2 (some ⟨b, off, none⟩) n c 1 q hq1 (by omega)
          have HR2 : Hid (∀ V, Kept w3 V → RowL V V.heap.size A2 (q - 1) (c - 1) (ld.take (q - 1))) := fun V hV => by
            have := HPT.out V 1 q A2 hV hq1 hqn (fun h => hA2 b off rfl h)
            rwa [HLDE.out] at this
          have HC9 := Lib.hid fun V (h3 : Kept w3 V) (hr : Kept wr V) => HCW.out a0 A2 n0 c0 (q - 1) (c - 1) l0 (ld.take (q - 1)) wr V h3 hr (HR0.out V h3) (HR2.out V h3) (by omega) (by have := HN30.out; omega)
          have hsl2' : ∀ V, (Instr.sliceAt 24 (.slice (some ⟨b, off, none⟩) n c) (some (.int .i64 1)) (some (.int .i64 (q : Int))) none).run Try.prog V = .ok (.slice A2 (q - 1) (c - 1)) V := hsl2
          obtain ⟨_, ⟨g0, g1, g2⟩, q0⟩ := HKS.out wr k3
          clear hsl2 hA2
          go_wp2_with fail
          go_region_held3 (fun V => Kept w3 V ∧ Below w.heap.size w V ∧ (V.cell? ⟨w.heap.size, 0, none⟩ = some (.int .i64 W) ∧ V.cell? ⟨w.heap.size, 1, none⟩ = some (.int .i64 H) ∧ V.cell? ⟨w.heap.size, 2, none⟩ = some (.string s)) ∧ V.cell? ⟨b, off, none⟩ = some (.slice a0 n0 c0))
            (first | exact ⟨by assumption, HKS.out _ (by assumption)⟩ | exact ⟨Kept.drew (by assumption), HKS.out _ (Kept.drew (by assumption))⟩)
            (first | (go_at_call 12; refine (HC9.out _ (by first | exact k3 | exact Kept.drew k3) (by first | exact kr | exact Kept.drew kr)).mono ?_; rintro e w9 ⟨a10, n10, c10, l10, x11, rfl, hp9, hn9, ho9, k9⟩; have k39 : Kept w3 w9 := keptF k3 k9))
          have HP9 := Lib.hid hp9
          have HN9 := Lib.hid hn9
          have HO9 := Lib.hid ho9
          have HK9 := Lib.hid k9
          have HT9 := Lib.hid k39
          have HB9 := Lib.hid (HKS.out w9 k39).1
          clear hp9 hn9 ho9 k9 g0 g1 g2 q0 kr k3 hsl2' HC9
          by_cases hx : x11 = 0
          · have d2 : (x11 != 0) = false := by simpa using hx
            have HP9z : Hid (WalkOut W H (bytesOf s) l0 (ld.take (q - 1)) l10 0) := by unfold Hid; rw [← hx]; exact HP9.out
            obtain ⟨p, hp⟩ : ∃ p, q - 1 = p := ⟨_, rfl⟩
            have hnq : n10 = q := by
              rw [← HN9.out, HP9z.out.length, List.length_take, HLD.out]
              omega
            subst hnq
            rw [hp] at HP9z HR2
            have HP := Lib.hid hp
            have d3 : ((n10 : Int) != (n10 : Int)) = false := by simp
            have ew : IntKind.i64.wrap ((n10 : Int) - 1) = (p : Int) := by simp only [IntKind.wrap_i64]; omega
            have HQG := Lib.hid (And.intro hqg hqn)
            have eq1 : IntKind.i64.wrap ((n10 : Int) + 1) = ((n10 + 1 : Nat) : Int) := by simp only [IntKind.wrap_i64]; have := HN30.out; omega
            have hix : p < n10 := by omega
            have hixi : (p : Int) < (n10 : Int) := by omega
            have hra := HO9.out.rowQ
            obtain ⟨ba, oa, rfl, hba, hqa⟩ := hra.cells (by omega)
            obtain ⟨ax, nx, cx, hcx, hrx⟩ := hqa p (by omega)
            obtain ⟨A3, hA3, _, hsl3⟩ := run_cutQ (some ⟨b, off, none⟩) n c n10 hqn
            have HR3 : Hid (∀ V, Kept w3 V → RowL V V.heap.size A3 (n - n10) (c - n10) (ld.drop p)) := fun V hV => by
              have := HPT.out V n10 n A3 hV hqn (Nat.le_refl _) (fun h => hA3 b off rfl h hnc)
              rw [List.take_of_length_le (by rw [List.length_drop, HLN.out]; exact Nat.le_refl _), HDD.out n10 hq1, hp] at this
              exact this
            have HRX : Hid (∀ V, Kept w9 V → RowZ .i64 V V.heap.size ax nx cx (l10.getD p [])) := fun V hV => (hrx.below hV).mono (Below.size hV)
            have hnx60 : nx ≤ 100000 := by
              have h1 := HP9z.out.lens (l10.getD p []) (by
                have : p < l10.length := by rw [HN9.out]; omega
                simp [List.getD, this])
              rw [hrx.1] at h1
              have := HL0.out
              omega
            have HC14 := Lib.hid fun V (h3 : Kept w3 V) (h9 : Kept w9 V) => HCW.out ax A3 nx cx (n - n10) (c - n10) (l10.getD p []) (ld.drop p) w9 V h3 h9 (HRX.out V h9) (HR3.out V h3) hnx60 (by have := HN30.out; omega)
            have hma := hra.2.1
            have hmx := hra.2.2.1
            unfold maxLen at hmx
            have HKA : Hid (∀ V, Kept w9 V → Kept w9 V ∧ V.cell? ⟨ba, oa + p, none⟩ = some (.slice ax nx cx)) := fun V hV => ⟨hV, (Below.cell (p := ⟨ba, oa + p, none⟩) hV hba).trans hcx⟩
            have kk9 : Kept w9 w9 := Kept.refl _
            obtain ⟨_, ⟨g0, g1, g2⟩, _⟩ := HKS.out w9 k39
            clear hra hqa hrx hba hx hA3 hp
            have qa := (HKA.out w9 kk9).2
            go_wp2_with fail
            go_region_held3 (fun V => Kept w3 V ∧ Kept w9 V ∧ V.cell? ⟨ba, oa + p, none⟩ = some (.slice ax nx cx) ∧ Below w.heap.size w V ∧ (V.cell? ⟨w.heap.size, 0, none⟩ = some (.int .i64 W) ∧ V.cell? ⟨w.heap.size, 1, none⟩ = some (.int .i64 H) ∧ V.cell? ⟨w.heap.size, 2, none⟩ = some (.string s)) ∧ V.cell? ⟨b, off, none⟩ = some (.slice a0 n0 c0))
              (first | exact ⟨by assumption, (HKA.out _ (by assumption)).1, (HKA.out _ (by assumption)).2, HKS.out _ (by assumption)⟩ | exact ⟨Kept.drew (by assumption), (HKA.out _ (Kept.drew (by assumption))).1, (HKA.out _ (Kept.drew (by assumption))).2, HKS.out _ (Kept.drew (by assumption))⟩)
              (first | (go_at_call 12; refine (HC14.out _ (by first | exact k39 | exact Kept.drew k39) (by first | exact kk9 | exact Kept.drew kk9)).mono ?_; rintro e w14 ⟨a12, n12, c12, l12, x13, rfl, hp14, hn14, ho14, k14⟩; have k314 : Kept w3 w14 := keptF k39 k14))
            have HP14 := Lib.hid hp14
            have HN14 := Lib.hid hn14
            have HO14 := Lib.hid ho14
            have HK14 := Lib.hid k14
            have HT14 := Lib.hid k314
            have HB14 := Lib.hid (HKS.out w14 k314).1
            have HJ : Hid (∃ out, WalkOut W H (bytesOf s) l0 ld out x13 ∧ (x13 = 0 → out = l10 ++ l12.drop 1)) := HP9z.out.join (by rw [HLD.out]; have := HP.out; omega) HP14.out
            obtain ⟨out, ho1, ho2⟩ := HJ.out
            obtain ⟨e7, e8⟩ := HP5.out.one ho1
            have HE7 := Lib.hid e7
            have HO2 := Lib.hid ho2
            have hx8 : x13 = x8 := e8.symm
            subst hx8
            have d4 : (x13 != x13) = false := by simp
            clear hp14 hn14 ho14 k14 k314 g0 g1 g2 qa kk9 k39 hcx ho1 ho2 e7 e8 HC14
            by_cases hx : x13 = 0
            · have d5 : (x13 == 0) = true := by simpa using hx
              have HX := Lib.hid hx
              have hn12 : 1 ≤ n12 := by
                have h1 := HP14.out
                rw [hx] at h1
                have h2 := h1.length
                rw [HN14.out] at h2
                omega
              obtain ⟨ab, hab⟩ : ∃ ab, a12 = some ab := by
                obtain ⟨b', o', e, _⟩ := HO14.out.rowQ.cells (by omega)
                exact ⟨_, e⟩
              subst hab
              obtain ⟨A4, hA4, hs4, hsl4⟩ := run_cutQ (some ab) n12 c12 1 hn12
              obtain ⟨ad, had⟩ := Option.isSome_iff_exists.1 (hs4 rfl)
              subst had
              have hsl4' : ∀ V, (Instr.sliceAt 24 (.slice (some ab) n12 c12) (some (.int .i64 1)) none none).run Try.prog V = .ok (.slice (some ad) (n12 - 1) (c12 - 1)) V := hsl4
              obtain ⟨xb, r1, r2⟩ := HO14.out
              obtain ⟨xa, s1, s2⟩ := HO9.out.calls HK14.out
              have hxb : xb.length = l12.length := by simpa using r1.1
              have HNW : Hid (∀ j u, (xb.drop 1)[j]? = some u → w14.cell? (ad.add j) = some u) := fun j u hj => by
                rw [List.getElem?_drop] at hj
                have hlt := (List.getElem?_eq_some_iff.1 hj).1
                rcases r1.2 with ⟨hv, _⟩ | ⟨gb, cap, cur, hv, hgb, hgh, hgn, hgm, hgs, hgt⟩
                · injection hv with h _ _; cases h
                · injection hv with h1 h2 h3
                  injection h1 with h1
                  subst h1 h3
                  have hcc := World.ownsRow.cells r1 (g := gb) rfl (1 + j) u hj
                  have e := hA4 gb 0 rfl (by rw [← HN14.out]; omega) (by rw [← HN14.out]; exact hgn)
                  injection e with e
                  rw [e, Row.add]
                  rw [Row.add] at hcc
                  simpa using hcc
              have HOC : Hid (∀ u ∈ xb.drop 1, u.oneCell' = true) := fun u hu => by
                obtain ⟨i, hi, e⟩ := List.getElem_of_mem (List.mem_of_mem_drop hu)
                have hil : i < l12.length := by rw [← hxb]; exact hi
                obtain ⟨u', h1, h2⟩ := r2 i (l12[i]) (by simp [hil])
                rw [List.getElem?_eq_getElem hi, e] at h1
                injection h1 with h1
                subst h1
                obtain ⟨a', c', rfl⟩ := own_slice h2
                rfl
              have HXL : Hid ((xb.drop 1).length = (n12 - 1) * 1) := by unfold Hid; rw [List.length_drop, hxb, HN14.out, Nat.mul_one]
              have HL12 : Hid ((l12.drop 1).length = n12 - 1) := by unfold Hid; rw [List.length_drop, HN14.out]
              have HRB : Hid (∀ (i : Nat) (l : List Int), (l12.drop 1)[i]? = some l → ∃ u, (xb.drop 1)[i]? = some u ∧ OwnZ w14 wr.heap.size u l) := fun i l hl => by
                rw [List.getElem?_drop] at hl
                obtain ⟨u, h1, h2⟩ := r2 _ l hl
                exact ⟨u, by rw [List.getElem?_drop]; exact h1, h2.lower (Below.size HK9.out)⟩
              rw [HN9.out] at s1
              have HS1 := Lib.hid s1
              have HS2 := Lib.hid s2
              have HNB : Hid (n10 ≤ 40 ∧ n12 ≤ 40) := by
                have h1 := HP14.out
                rw [hx] at h1
                have h2 := h1.length
                rw [HN14.out, List.length_drop, HLD.out] at h2
                have := HN30.out
                unfold Hid
                omega
              have HSZ : Hid (wr.heap.size ≤ w14.heap.size) := Nat.le_trans (Below.size HK9.out) (Below.size HK14.out)
              have HOUT : Hid (l7 = l10 ++ l12.drop 1) := by unfold Hid; rw [HE7.out, HO2.out hx]
              clear hx hsl4 hA4 hs4 r1 r2 s1 s2 hxb hsl1' hn12
              go_wp2_with (at_builtin; (refine wpList_append_own _ rfl (.tmp 90) (.tmp 92) 24 rfl wr.heap.size 27 i1 (.slice none 0 0) 1 24 Try.underlying24 hi1 hy0 hy1 hy2 rfl (by decide) _ _ _ rfl HS1.out ad (n12 - 1) (c12 - 1) (xb.drop 1) rfl HXL.out HNW.out HOC.out (by have := HNB.out; simp only [maxLen]; omega) (by have := HNB.out; omega) HSZ.out ?_; intro v6 w6 hown6 hgrow6 _; obtain ⟨a6, c6, rfl⟩ := own_slice hown6))
              have hgr6 : w14.grownBy w6 (Value.slice (some ⟨ba, oa, none⟩) n10 c10).ownBlock := hgrow6
              have HQ6 : Hid (OwnQ w6 wr.heap.size (.slice a6 (n10 + (n12 - 1)) c6) (l10 ++ l12.drop 1)) := OwnQ.join (la := l10) (lb := l12.drop 1) (xa := xa) (xb := xb.drop 1) (by rw [HN9.out]; exact HS1.out) HS2.out HRB.out HL12.out (by rw [HN9.out]; exact hown6) hgr6
              have hk6 : Kept w5 w6 := (keptF HKR.out (keptF HK9.out HK14.out)).grown hgr6 (Nat.le_trans (Below.size HKR.out) HSZ.out) (fun q hq => Nat.le_trans (Below.size HKR.out) (World.ownsRow.lt HS1.out q hq).1)
              have HK6 := Lib.hid hk6
              have HN7 : Hid (n10 + (n12 - 1) = n7) := by
                have h1 := congrArg List.length HOUT.out
                rw [List.length_append, HL12.out, HN9.out, HN5.out] at h1
                exact h1.symm
              have hc18 := listsSame_any a7 a6 n7 c7 c6 w6.heap.size l7 w6 (HR7.out w6 hk6) (by
                have := HQ6.out.rowQ
                rw [← HOUT.out, HN7.out] at this
                exact this) (by rw [← HN7.out]; have := HNB.out; omega)
              have HC18 := Lib.hid hc18
              rw [HN7.out]
              clear hown6 hgrow6 hgr6 hk6 hc18
              refine HC18.out.mono ?_
              rintro e w18 ⟨rfl, hb18⟩
              have HPN : Hid (n10 + 1 = 1 ∨ ∃ o, WalkOut W H (bytesOf s) l0 (ld.take (n10 + 1 - 2)) o 0) := .inr ⟨l10, by rw [show n10 + 1 - 2 = p by have := HP.out; omega]; exact HP9z.out⟩
              have HKN : Hid (Kept w5 w18) := keptF HK6.out hb18
              clear hb18
              go_wp2_with fail
              go_roundg (gk - 1)
              case rel => exact ⟨n10 + 1, by omega, by have := HQG.out; omega, by first | rfl | go_num, HPN, HKN⟩
              case measure => have := HQG.out; omega
            · have d5 : (x13 == 0) = false := by simpa using hx
              have HPN : Hid (n10 + 1 = 1 ∨ ∃ o, WalkOut W H (bytesOf s) l0 (ld.take (n10 + 1 - 2)) o 0) := .inr ⟨l10, by rw [show n10 + 1 - 2 = p by have := HP.out; omega]; exact HP9z.out⟩
              have HKN : Hid (Kept w5 w14) := keptF (keptF HKR.out HK9.out) HK14.out
              clear hx
              go_wp2_with fail
              go_roundg (gk - 1)
              case rel => exact ⟨n10 + 1, by omega, by have := HQG.out; omega, by first | rfl | go_num, HPN, HKN⟩
              case measure => have := HQG.out; omega
          · have d2 : (x11 != 0) = true := by simpa using hx
            have hfl := HP9.out.fail hx
            obtain ⟨e7, e8⟩ := HP5.out.one hfl
            have d6 : (x8 == x11) = true := by simpa using e8
            have h70 : n7 = 0 := by rw [← HN5.out, e7]; rfl
            subst h70
            clear hfl e7 e8 hx
            go_wp2_with fail
            go_ret
            exact ⟨rfl, HB9.out⟩
        · obtain rfl : q = n + 1 := by omega
          have d1 : decide (((n + 1 : Nat) : Int) ≤ (n : Int)) = false := by rw [decide_eq_false_iff_not]; omega
          have hx0 : x8 = 0 := by
            rcases HO.out with h | ⟨o, h⟩
            · omega
            · rw [List.take_of_length_le (by rw [HLD.out]; omega)] at h
              exact (HP5.out.one h).2
          have d5 : (x8 == 0) = true := by simpa using hx0
          have HBE := Lib.hid (HKS.out wr k3).1
          clear hx0
          go_wp2_with fail
          go_ret
          exact ⟨rfl, HBE.out⟩
end Go.Proofs.Ytacigmjdppoonaa.Vm
