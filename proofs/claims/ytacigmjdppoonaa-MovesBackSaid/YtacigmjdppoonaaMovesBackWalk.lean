/- The walk of the law MovesBack. -/
import Derived.Test.YtacigmjdppoonaaAwakeTwelve
import Derived.Test.YtacigmjdppoonaaLight12
import Derived.Deep.RegionHeld3
import Derived.BigQuiet
import Derived.Deep.QuietTactic
namespace Go.Proofs.Ytacigmjdppoonaa.Vm
open Go Go.RowKit
set_option maxRecDepth 100000

section
variable {W H : Int} {l : List Nat}
theorem goes_way {c w : Int} (h : (goesS W H l c w).2 = true) : 0 ≤ w ∧ w ≤ 4 := by
  unfold goesS at h
  split at h
  · cases h
  · rename_i h1
    omega
/-- Ways that go are those that are told, or lesser ones go there, too. -/
theorem go_ways {c w to' : List Int} (h : GoOut W H l c w to' 0) : WaysOut W H l c to' (waysK W H l c to' c.length) 0 ∧ ∀ i, i < c.length → (waysK W H l c to' c.length).getD i 0 ≤ w.getD i 0 ∧ goesS W H l (c.getD i 0) ((waysK W H l c to' c.length).getD i 0) = (to'.getD i 0, true) := by
  rcases h with ⟨h1, h2, rfl, _⟩ | ⟨_, _, h⟩
  · have key : ∀ i, i < c.length → 0 ≤ wayI W H l (c.getD i 0) ((goK W H l c w c.length).getD i 0) ∧ wayI W H l (c.getD i 0) ((goK W H l c w c.length).getD i 0) ≤ w.getD i 0 := fun i hi => by
      rw [goK_at hi]
      obtain ⟨k, hk⟩ := Int.eq_ofNat_of_zero_le (goes_way (h2 i hi)).1
      have h4 := (goes_way (h2 i hi)).2
      rw [hk] at h4 ⊢
      refine wayI_some (by omega) ?_
      have h3 := h2 i hi
      rw [hk] at h3
      exact Prod.ext rfl h3
    refine ⟨.inl ⟨by rw [goK_len], fun i hi => (key i hi).1, rfl, rfl⟩, fun i hi => ?_⟩
    rw [waysK_at hi]
    exact ⟨(key i hi).2, wayI_goes (key i hi).1⟩
  · cases h
end

theorem keptB {a b c : World} (h : Kept a b) (h2 : Kept b c) : Kept a c := Below.trans h (Below.mono h2 (Below.size h))

def HopB (A : World) (P : List Int → Int → Prop) (e : Ending) (w' : World) : Prop :=
  ∃ a n c l x, e = .returned (.tuple #[.slice a n c, .int .i64 x]) ∧ P l x ∧ l.length = n ∧ RowZ .i64 w' w'.heap.size a n c l ∧ Kept A w'
theorem hop_atB {f : Nat} {args : Array Value} {A V : World} {P : List Int → Int → Prop} (h : Calls Try.prog f args V (HopPost V P)) (hA : Kept A V) : Calls Try.prog f args V (HopB A P) :=
  h.mono fun e V' ⟨a, n, c, l, x, h1, h2, h3, h4, h5⟩ => ⟨a, n, c, l, x, h1, h2, h3, h4.rowAt h3, keptB hA h5⟩

set_option maxHeartbeats 8000000 in
theorem movesBack_walk (W H : Int) (s : ByteArray) (a1 : Option Addr) (n1 c1 : Nat) (z1 : List Int) (a2 : Option Addr) (n2 c2 : Nat) (z2 : List Int) (w : World) (hW : (Lit.int .i64 W).wf = true) (hH : (Lit.int .i64 H).wf = true) (hs : s.size ≤ maxLen)
    (hi1 : IsRow .i64 w a1 n1 c1 z1) (hi2 : IsRow .i64 w a2 n2 c2 z2) :
    Calls Try.prog 4 #[gridV W H s, .agg #[.slice a1 n1 c1, .slice a2 n2 c2]] w fun e w' => e = .returned (.bool true) ∧ Below w.heap.size w w' := by
  have hr1 := RowZ.of_isRow hi1
  have hr2 := RowZ.of_isRow hi2
  generalize z1.take n1 = l1 at hr1
  generalize z2.take n2 = l2 at hr2
  obtain ⟨w1, hw1⟩ : ∃ w1, w1 = (w.alloc (gridO W H s)).alloc (.cells #[.slice a1 n1 c1, .slice a2 n2 c2] 38) := ⟨_, rfl⟩
  have hb1 : Below w.heap.size w w1 := by rw [hw1]; exact ((Below.refl _ _).alloc (Nat.le_refl _) _).alloc (by simp) _
  have hz1 : w1.heap.size = w.heap.size + 2 := by rw [hw1]; simp
  have hg1 : GridAt w1 w.heap.size W H s := by rw [hw1]; exact (gridAt_new w W H s).below (B := w.heap.size + 1) ((Below.refl _ _).alloc (by simp) _) (by simp)
  have hh1 : w1.heap[w.heap.size + 1]? = some (.cells #[.slice a1 n1 c1, .slice a2 n2 c2] 38 (0, 0)) := by rw [hw1]; exact heap_new _ _ (by simp)
  have HAW := Lib.hid (awake12_any w1)
  have HW1 := Lib.hid hw1
  have HB1 := Lib.hid hb1
  have HZ1 := Lib.hid hz1
  have HKS : Hid (∀ V, Kept w1 V → Below w.heap.size w V ∧ GridAt V w.heap.size W H s ∧ V.cell? ⟨w.heap.size + 1, 0, none⟩ = some (.slice a1 n1 c1) ∧ V.cell? ⟨w.heap.size + 1, 1, none⟩ = some (.slice a2 n2 c2)) := fun V hV =>
    ⟨hb1.trans (Below.mono hV hb1.size), hg1.below hV (by omega), (Below.cell (p := ⟨w.heap.size + 1, 0, none⟩) hV (show w.heap.size + 1 < _ by omega)).trans (cell_heap hh1 rfl), (Below.cell (p := ⟨w.heap.size + 1, 1, none⟩) hV (show w.heap.size + 1 < _ by omega)).trans (cell_heap hh1 rfl)⟩
  have HR1 : Hid (∀ V, Kept w1 V → RowZ .i64 V V.heap.size a1 n1 c1 l1) := fun V hV => by
    have hbw := (HKS.out V hV).1
    exact (hr1.below hbw).mono hbw.size
  have HR2 : Hid (∀ V, Kept w1 V → RowZ .i64 V V.heap.size a2 n2 c2 l2) := fun V hV => by
    have hbw := (HKS.out V hV).1
    exact (hr2.below hbw).mono hbw.size
  have HLI := Lib.hid fun V (hV : Kept w1 V) => light12_any W H s (some ⟨w.heap.size + 1, 0, none⟩) 2 2 V.heap.size [l1, l2] V ⟨rfl, Nat.le_refl _, by simp [maxLen], fun _ => ⟨w.heap.size + 1, 0, rfl, by have := (HKS.out V hV).1.size; have := Below.size hV; omega, fun i hi => by
    match i, hi with
    | 0, _ => exact ⟨_, _, _, (HKS.out V hV).2.2.1, HR1.out V hV⟩
    | 1, _ => exact ⟨_, _, _, (HKS.out V hV).2.2.2, HR2.out V hV⟩⟩⟩ (Nat.le_refl _) hs
  have HN1 := Lib.hid hr1.1
  have HN2 := Lib.hid hr2.1
  have hcc1 := hr1.2.1
  have hcc2 := hr2.2.1
  have hcx1 := hr1.2.2.1
  have hcx2 := hr2.2.2.1
  unfold maxLen at hcx1 hcx2
  clear hw1 hb1 hz1 hg1 hh1 hi1 hi2 hr1 hr2 hs hW hH
  go_enter Try.func4, Try.ntmps4
  go_wp2_with fail
  rw [← HW1.out]
  refine HAW.out.mono ?_
  rintro e w2 ⟨rfl, hb2⟩
  have k2 : Kept w1 w2 := hb2
  have HT2 := Lib.hid k2
  obtain ⟨_, ⟨g0, g1, g2⟩, q1, q2⟩ := HKS.out w2 k2
  have kk : Kept w2 w2 := Kept.refl _
  clear hb2
  go_wp2_with fail
  go_region_held3 (fun V => Kept w1 V ∧ Below w.heap.size w V ∧ (V.cell? ⟨w.heap.size, 0, none⟩ = some (.int .i64 W) ∧ V.cell? ⟨w.heap.size, 1, none⟩ = some (.int .i64 H) ∧ V.cell? ⟨w.heap.size, 2, none⟩ = some (.string s)) ∧ V.cell? ⟨w.heap.size + 1, 0, none⟩ = some (.slice a1 n1 c1) ∧ V.cell? ⟨w.heap.size + 1, 1, none⟩ = some (.slice a2 n2 c2))
    (first | exact ⟨by assumption, HKS.out _ (by assumption)⟩ | exact ⟨Kept.drew (by assumption), HKS.out _ (Kept.drew (by assumption))⟩)
    (first | (go_at_call 7; refine (HLI.out _ (by first | exact k2 | exact Kept.drew k2)).mono ?_; rintro e w3 ⟨lb, rfl, hlb, hb3⟩; have k3 : Kept w1 w3 := (by first | exact keptB k2 hb3 | exact keptB (Kept.drew k2) hb3)))
  have HLB := Lib.hid hlb
  have HT3 := Lib.hid k3
  clear hlb hb3 g0 g1 g2 q1 q2 kk k2
  cases lb with
  | false =>
    have HBE := Lib.hid (HKS.out w3 k3).1
    go_wp2_with fail
    go_ret
    exact ⟨rfl, HBE.out⟩
  | true =>
    obtain ⟨h400, _, hall, hok⟩ := HLB.out rfl
    have HL1 : Hid (l1.length ≤ 60) := hall l1 (by simp)
    have HL2 : Hid (l2.length ≤ 60) := hall l2 (by simp)
    have HCW : Hid (∀ (ra rl : Option Addr) (m1 d1 m2 d2 : Nat) (y1 y2 : List Int) (A V : World), Kept A V → RowZ .i64 V V.heap.size ra m1 d1 y1 → RowZ .i64 V V.heap.size rl m2 d2 y2 → m1 ≤ 100000 →
        Calls Try.prog 8 #[gridV W H s, .slice ra m1 d1, .slice rl m2 d2] V (HopB A (WaysOut W H (bytesOf s) y1 y2))) := fun ra rl m1 d1 m2 d2 y1 y2 A V hA h1 h2 hm1 =>
      hop_atB (mWays_any W H s ra rl m1 d1 m2 d2 V.heap.size y1 y2 V hok h1 h2 (Nat.le_refl _) hm1) hA
    have HCG : Hid (∀ (ra rl : Option Addr) (m1 d1 m2 d2 : Nat) (y1 y2 : List Int) (A V : World), Kept A V → RowZ .i64 V V.heap.size ra m1 d1 y1 → RowZ .i64 V V.heap.size rl m2 d2 y2 → m1 ≤ 100000 →
        Calls Try.prog 10 #[gridV W H s, .slice ra m1 d1, .slice rl m2 d2] V (HopB A (GoOut W H (bytesOf s) y1 y2))) := fun ra rl m1 d1 m2 d2 y1 y2 A V hA h1 h2 hm1 =>
      hop_atB (mGo_any W H s ra rl m1 d1 m2 d2 V.heap.size y1 y2 V hok h1 h2 (Nat.le_refl _) hm1) hA
    have hn1 : n1 ≤ 60 := by rw [← HN1.out]; exact HL1.out
    have hn2 : n2 ≤ 60 := by rw [← HN2.out]; exact HL2.out
    have HC5 := Lib.hid fun V (h3 : Kept w1 V) (h9 : Kept w3 V) => HCW.out a1 a2 n1 c1 n2 c2 l1 l2 w3 V h9 (HR1.out V h3) (HR2.out V h3) (by omega)
    have HGO := Lib.hid fun c w V (h3 : Kept w1 V) => goes_any W H c w s V hok
    obtain ⟨_, ⟨g0, g1, g2⟩, q1, q2⟩ := HKS.out w3 k3
    have kk3 : Kept w3 w3 := Kept.refl _
    clear h400 hall hok HLB HLI HAW
    go_wp2_with fail
    refine (HC5.out w3 k3 kk3).mono ?_
    rintro e w5 ⟨a5, n5, c5, l5, x5, rfl, hp5, hn5, hr5, k5⟩
    have k15 : Kept w1 w5 := keptB k3 k5
    have HP5 := Lib.hid hp5
    have HN5 := Lib.hid hn5
    have HR5 := Lib.hid hr5
    have HK5 := Lib.hid k5
    have HT5 := Lib.hid k15
    obtain ⟨_, ⟨g0, g1, g2⟩, q1, q2⟩ := HKS.out w5 k15
    clear hp5 hn5 hr5 k5
    go_upto_if 36 with fail
    go_cut [4] from 19 (fun v4 V => v4 = .bool false ∧ Kept w1 V)
    case first =>
      by_cases hx : x5 = 0
      · have d5 : (x5 == 0) = true := by simpa using hx
        have HZ : Hid (GoOut W H (bytesOf s) l1 l5 l2 0) := ways_go (by have := HP5.out; rwa [hx] at this)
        have hC7 := HCG.out a1 a5 n1 c1 n5 c5 l1 l5 w5 w5 (Kept.refl _) (HR1.out w5 k15) HR5.out (by omega)
        clear hx
        go_wp2_with fail
        refine hC7.mono ?_
        rintro e w7 ⟨a7, n7, c7, l7, x7, rfl, hp7, hn7, hr7, k7⟩
        have k17 : Kept w1 w7 := keptB k15 k7
        obtain ⟨e1, e2⟩ := hp7.one HZ.out
        subst e1 e2
        have HT7 := Lib.hid k17
        obtain ⟨_, ⟨g0, g1, g2⟩, q1, q2⟩ := HKS.out w7 k17
        have hC8 := ints_anyZ a7 a2 n7 c7 n2 c2 w7.heap.size _ _ w7 hr7 (HR2.out w7 k17)
        rw [decide_eq_true rfl] at hC8
        clear hp7 hn7 hr7 k7 k17
        go_wp2_with fail
        refine hC8.mono ?_
        rintro e w8 ⟨rfl, m8, rfl⟩
        have k18 : Kept w1 (w7.drewN m8) := below_drewN HT7.out _
        go_wp2_with fail
        go_meet
        case rel => exact ⟨rfl, k18⟩
      · have d5 : (x5 == 0) = false := by simpa using hx
        clear hx
        go_wp2_with fail
        go_meet
        case rel => exact ⟨rfl, k15⟩
    case rest =>
      obtain ⟨rfl, k9⟩ := hcut
      have HT9 := Lib.hid k9
      have kk9 : Kept wc wc := Kept.refl _
      obtain ⟨_, ⟨g0, g1, g2⟩, q1, q2⟩ := HKS.out wc k9
      have hC11 := Lib.hid (HCG.out a1 a2 n1 c1 n2 c2 l1 l2 wc wc kk9 (HR1.out wc k9) (HR2.out wc k9) (by omega))
      clear HP5 HN5 HR5 HK5 HT5 HC5 k15 k3 HT3 kk3
      go_wp2_with fail
      refine hC11.out.mono ?_
      rintro e w11 ⟨a11, n11, c11, l11, x11, rfl, hp11, hn11, hr11, k11⟩
      have k111 : Kept w1 w11 := keptB k9 k11
      have HP11 := Lib.hid hp11
      have HN11 := Lib.hid hn11
      have HR11 := Lib.hid hr11
      have HT11 := Lib.hid k111
      obtain ⟨_, ⟨g0, g1, g2⟩, q1, q2⟩ := HKS.out w11 k111
      clear hp11 hn11 hr11 k11 hC11
      by_cases hx : x11 = 0
      · have d1 : (x11 != 0) = false := by simpa using hx
        have HG : Hid (GoOut W H (bytesOf s) l1 l2 l11 0) := by have := HP11.out; rwa [hx] at this
        have HW14 := Lib.hid (go_ways HG.out).1
        have HIX := Lib.hid (go_ways HG.out).2
        have HLE : Hid (l1.length = l2.length ∧ l11.length = l1.length) := by
          rcases HG.out with ⟨h1, _, h2, _⟩ | ⟨_, _, h⟩
          · exact ⟨h1, by rw [h2, goK_len]⟩
          · cases h
        have HC14 := Lib.hid (HCW.out a1 a11 n1 c1 n11 c11 l1 l11 w11 w11 (Kept.refl _) (HR1.out w11 k111) HR11.out (by omega))
        clear hx
        go_wp2_with fail
        refine HC14.out.mono ?_
        rintro e w14 ⟨a14, n14, c14, l14, x14, rfl, hp14, hn14, hr14, k14⟩
        obtain ⟨e1, e2⟩ := hp14.one HW14.out
        subst e2
        have k114 : Kept w1 w14 := keptB k111 k14
        have HN14 := Lib.hid hn14
        have HR14 := Lib.hid hr14
        have HT14 := Lib.hid k114
        have HKB := Lib.hid k14
        have HE14 := Lib.hid e1
        obtain rfl : n14 = n1 := by rw [← hn14, e1, waysK_len, HN1.out]
        obtain rfl : n2 = n14 := by rw [← HN2.out, ← HN1.out, HLE.out.1]
        obtain rfl : n11 = n2 := by rw [← HN11.out, ← HN1.out, HLE.out.2]
        have d2 : ((n11 : Int) != (n11 : Int)) = false := by simp
        obtain ⟨_, ⟨g0, g1, g2⟩, q1, q2⟩ := HKS.out w14 k114
        have HR11' : Hid (∀ V, Kept w14 V → RowZ .i64 V V.heap.size a11 n11 c11 l11) := fun V hV => (HR11.out.below (keptB HKB.out hV)).mono (Below.size (keptB HKB.out hV))
        have HR14' : Hid (∀ V, Kept w14 V → RowZ .i64 V V.heap.size a14 n11 c14 l14) := fun V hV => (HR14.out.below hV).mono (Below.size hV)
        clear hp14 hn14 hr14 k14 e1 HC14 HP11 HN11 HR11 HT11 k111 HT9 k9 kk9 HN14 HR14
        go_wp2_with fail
        go_loopg [16] n11 (fun gg v16 wr => ∃ i : Nat, i + gg = n11 ∧ v16 = .int .i64 i ∧ Hid (Kept w14 wr))
        case atStart => exact ⟨0, by omega, rfl, Kept.refl _⟩
        case round =>
          obtain ⟨i, hig, rfl, HKR⟩ := hrel
          by_cases hi : i < n11
          · have d3 : decide ((i : Int) < (n11 : Int)) = true := by rw [decide_eq_true_eq]; omega
            have hii : (i : Int) < (n11 : Int) := by omega
            have k1r : Kept w1 wr := keptB HT14.out HKR.out
            obtain ⟨b1, o1, rfl, hb1, hc1⟩ := (HR1.out wr k1r).cells (by omega)
            obtain ⟨b2, o2, rfl, hb2, hc2⟩ := (HR2.out wr k1r).cells (by omega)
            obtain ⟨b3, o3, rfl, hb3, hc3⟩ := (HR11'.out wr HKR.out).cells (by omega)
            obtain ⟨b4, o4, rfl, hb4, hc4⟩ := (HR14'.out wr HKR.out).cells (by omega)
            have e1 := hc1 i hi
            have e2 := hc2 i hi
            have e3 := hc3 i hi
            have e4 := hc4 i hi
            have hx4 := HIX.out i (by rw [HN1.out]; exact hi)
            rw [← HE14.out] at hx4
            obtain ⟨hle, hgo⟩ := hx4
            have HG20 : Hid (∀ V, Kept w1 V → Calls Try.prog 19 #[gridV W H s, .int .i64 (l1.getD i 0), .int .i64 (l14.getD i 0)] V fun e w' => e = .returned (.tuple #[.int .i64 (l11.getD i 0), .bool true]) ∧ Below V.heap.size V w') := fun V hV => by
              have := HGO.out (l1.getD i 0) (l14.getD i 0) V hV
              rw [hgo] at this
              exact this
            have HKX : Hid (∀ V, Kept wr V → Kept wr V ∧ (V.cell? ⟨w.heap.size, 0, none⟩ = some (.int .i64 W) ∧ V.cell? ⟨w.heap.size, 1, none⟩ = some (.int .i64 H) ∧ V.cell? ⟨w.heap.size, 2, none⟩ = some (.string s)) ∧ V.cell? ⟨w.heap.size + 1, 0, none⟩ = some (.slice (some ⟨b1, o1, none⟩) n11 c1) ∧ V.cell? ⟨w.heap.size + 1, 1, none⟩ = some (.slice (some ⟨b2, o2, none⟩) n11 c2) ∧ V.cell? ⟨b1, o1 + i, none⟩ = some (.int .i64 (l1.getD i 0)) ∧ V.cell? ⟨b2, o2 + i, none⟩ = some (.int .i64 (l2.getD i 0)) ∧ V.cell? ⟨b3, o3 + i, none⟩ = some (.int .i64 (l11.getD i 0)) ∧ V.cell? ⟨b4, o4 + i, none⟩ = some (.int .i64 (l14.getD i 0))) := fun V hV => by
              obtain ⟨_, hg, hq1, hq2⟩ := HKS.out V (keptB k1r hV)
              exact ⟨hV, hg, hq1, hq2, (Below.cell (p := ⟨b1, o1 + i, none⟩) hV hb1).trans e1, (Below.cell (p := ⟨b2, o2 + i, none⟩) hV hb2).trans e2, (Below.cell (p := ⟨b3, o3 + i, none⟩) hV hb3).trans e3, (Below.cell (p := ⟨b4, o4 + i, none⟩) hV hb4).trans e4⟩
            have HT1R := Lib.hid k1r
            have kr : Kept wr wr := Kept.refl _
            clear hc1 hc2 hc3 hc4 hgo hb1 hb2 hb3 hb4 e1 e2 e3 e4 HIX HE14 HW14 HG HR1 HR2 HR11' HR14' q1 q2 g0 g1 g2
            have d4 : decide (l2.getD i 0 < l14.getD i 0) = false := by rw [decide_eq_false_iff_not]; omega
            have d5 : (l11.getD i 0 != l11.getD i 0) = false := by simp
            have HLEI := Lib.hid hle
            clear hle
            generalize l1.getD i 0 = y1 at *
            generalize l2.getD i 0 = y2 at *
            generalize l11.getD i 0 = y3 at *
            generalize l14.getD i 0 = y4 at *
            obtain ⟨_, ⟨g0, g1, g2⟩, q1, q2, e1, e2, e3, e4⟩ := HKX.out wr kr
            go_wp2_with fail
            go_region_held3 (fun V => Kept wr V ∧ (V.cell? ⟨w.heap.size, 0, none⟩ = some (.int .i64 W) ∧ V.cell? ⟨w.heap.size, 1, none⟩ = some (.int .i64 H) ∧ V.cell? ⟨w.heap.size, 2, none⟩ = some (.string s)) ∧ V.cell? ⟨w.heap.size + 1, 0, none⟩ = some (.slice (some ⟨b1, o1, none⟩) n11 c1) ∧ V.cell? ⟨w.heap.size + 1, 1, none⟩ = some (.slice (some ⟨b2, o2, none⟩) n11 c2) ∧ V.cell? ⟨b1, o1 + i, none⟩ = some (.int .i64 y1) ∧ V.cell? ⟨b2, o2 + i, none⟩ = some (.int .i64 y2) ∧ V.cell? ⟨b3, o3 + i, none⟩ = some (.int .i64 y3) ∧ V.cell? ⟨b4, o4 + i, none⟩ = some (.int .i64 y4))
              (first | exact HKX.out _ (by assumption) | exact HKX.out _ (Kept.drew (by assumption)))
              (first | (go_at_call 19; refine (HG20.out _ (by first | exact k1r | exact Kept.drew k1r)).mono ?_; rintro e w20 ⟨rfl, hb20⟩; have kr20 : Kept wr w20 := (by first | exact keptB kr hb20 | exact keptB (Kept.drew kr) hb20)))
            have HT20 := Lib.hid kr20
            clear hb20 g0 g1 g2 q1 q2 e1 e2 e3 e4
            obtain ⟨_, ⟨g0, g1, g2⟩, q1, q2, e1, e2, e3, e4⟩ := HKX.out w20 kr20
            go_wp2_with fail
            go_quiet (fail)
            have HKN : Hid (Kept w14 (w20.drewN nq)) := below_drewN (keptB HKR.out HT20.out) nq
            go_wp2_with fail
            go_roundg (gk - 1)
            case rel => exact ⟨i + 1, by omega, by first | rfl | go_num, HKN⟩
            case measure => omega
          · obtain rfl : i = n11 := by omega
            have d3 : decide ((i : Int) < (i : Int)) = false := by simp
            have HBE := Lib.hid (HKS.out wr (keptB HT14.out HKR.out)).1
            go_wp2_with fail
            go_ret
            exact ⟨rfl, HBE.out⟩
      · have d1 : (x11 != 0) = true := by simpa using hx
        have hl0 : n11 = 0 := by
          rcases HP11.out with ⟨_, _, _, h⟩ | ⟨_, h, _⟩
          · exact absurd h hx
          · rw [← HN11.out, h]; rfl
        subst hl0
        have HBE := Lib.hid (HKS.out w11 k111).1
        clear hx
        go_wp2_with fail
        go_ret
        exact ⟨rfl, HBE.out⟩
end Go.Proofs.Ytacigmjdppoonaa.Vm
