/- The walk of the law MovesTells. -/
import Derived.Test.YtacigmjdppoonaaAwakeTwelve
import Derived.Test.YtacigmjdppoonaaLight12
import Derived.Test.YtacigmjdppoonaaRefHopsB
import Derived.Test.YtacigmjdppoonaaRefWalks
import Derived.Test.YtacigmjdppoonaaRefNears
import Derived.Deep.RegionHeld3
namespace Go.Proofs.Ytacigmjdppoonaa.Vm
open Go Go.RowKit
set_option maxRecDepth 100000

theorem keptT {a b c : World} (h : Kept a b) (h2 : Kept b c) : Kept a c := Below.trans h (Below.mono h2 (Below.size h))
/-- What the calls answer, where what lay at A is kept. -/
def HopK (A : World) (P : List Int → Int → Prop) (e : Ending) (w' : World) : Prop :=
  ∃ a n c l x, e = .returned (.tuple #[.slice a n c, .int .i64 x]) ∧ P l x ∧ l.length = n ∧ RowZ .i64 w' w'.heap.size a n c l ∧ Kept A w'
theorem hop_at {f : Nat} {args : Array Value} {A V : World} {P : List Int → Int → Prop} (h : Calls Try.prog f args V (HopPost V P)) (hA : Kept A V) : Calls Try.prog f args V (HopK A P) :=
  h.mono fun e V' ⟨a, n, c, l, x, h1, h2, h3, h4, h5⟩ => ⟨a, n, c, l, x, h1, h2, h3, h4.rowAt h3, keptT hA h5⟩
def WalkK (A : World) (P : List (List Int) → Int → Prop) (e : Ending) (w' : World) : Prop :=
  ∃ a n c ls x, e = .returned (.tuple #[.slice a n c, .int .i64 x]) ∧ P ls x ∧ ls.length = n ∧ RowL w' w'.heap.size a n c ls ∧ Kept A w'
theorem walk_at {f : Nat} {args : Array Value} {A V : World} {P : List (List Int) → Int → Prop} (h : Calls Try.prog f args V (WalkPost V P)) (hA : Kept A V) : Calls Try.prog f args V (WalkK A P) :=
  h.mono fun e V' ⟨a, n, c, ls, x, h1, h2, h3, h4, h5⟩ => ⟨a, n, c, ls, x, h1, h2, h3, by
    obtain ⟨a', c', e', hr⟩ := h4.rowL
    injection e' with e1 e2 e3
    subst e1 e2 e3
    exact hr, keptT hA h5⟩
def NearK (A : World) (l : List (Nat × Nat)) (e : Ending) (w' : World) : Prop := ∃ a n c, e = .returned (.slice a n c) ∧ l.length = n ∧ RowP w' w'.heap.size a n c l ∧ Kept A w'
theorem own_rowP {w : World} {B : Nat} {ty : TypeId} {a : Option Addr} {n c : Nat} {l : List (Nat × Nat)} (h : OwnPr w B ty (.slice a n c) l) : RowP w w.heap.size a n c l := by
  obtain ⟨a', c', e', hr⟩ := h.row
  injection e' with e1 e2 e3
  subst e1 e2 e3
  exact hr
theorem near_at {f : Nat} {args : Array Value} {A V : World} {l : List (Nat × Nat)} (h : Calls Try.prog f args V (NearPost V l)) (hA : Kept A V) : Calls Try.prog f args V (NearK A l) :=
  h.mono fun e V' ⟨a, n, c, h1, h3, h4, h5⟩ => ⟨a, n, c, h1, h3, own_rowP h4, keptT hA h5⟩
theorem near_at2 {f : Nat} {args : Array Value} {A V : World} {l : List (Nat × Nat)} (h : Calls Try.prog f args V (NearPost2 V l)) (hA : Kept A V) : Calls Try.prog f args V (NearK A l) :=
  h.mono fun e V' ⟨a, n, c, h1, h3, h4, h5⟩ => ⟨a, n, c, h1, h3, own_rowP h4, keptT hA h5⟩
theorem nearC_small {W : Int} {S : Nat} {cells : List Int} {n : Nat} (hn : n ≤ 1000) : ∀ p ∈ nearC W S cells n n, p.1 ≤ 1000000 ∧ p.2 ≤ 1000000 := by
  intro p hp
  unfold nearC at hp
  obtain ⟨i, hi, hp⟩ := List.mem_flatMap.1 hp
  obtain ⟨j, hj, rfl⟩ := List.mem_map.1 hp
  unfold nextC at hj
  have h1 := List.mem_range.1 hi
  have h2 := List.mem_range.1 (List.mem_filter.1 hj).1
  exact ⟨by show i ≤ _; omega, by show j ≤ _; omega⟩

theorem WalkOut.len {W H : Int} {l : List Nat} {c : List Int} {ls out : List (List Int)} {x : Int} (h : WalkOut W H l c ls out x) : out.length ≤ ls.length + 1 := by
  induction h with
  | done c => simp
  | on _ _ ih => simpa using ih
  | bad _ _ => simp
  | later _ _ _ _ => simp

set_option maxHeartbeats 8000000 in
theorem movesTells_walk (W H : Int) (s : ByteArray) (a : Option Addr) (n c : Nat) (ls : List (List Int)) (w : World) (hW : wfI W) (hH : wfI H) (hs : s.size ≤ maxLen) (hl : RowL w w.heap.size a n c ls ∧ ∀ q ∈ ls, WfZ q) :
    Calls Try.prog 3 #[gridV W H s, .slice a n c] w fun e w' => e = .returned (.bool true) ∧ Below w.heap.size w w' := by
  obtain ⟨w1, hw1⟩ : ∃ w1, w1 = w.alloc (gridO W H s) := ⟨_, rfl⟩
  have hb1 : Below w.heap.size w w1 := by rw [hw1]; exact (Below.refl _ _).alloc (Nat.le_refl _) _
  have hz1 : w1.heap.size = w.heap.size + 1 := by rw [hw1]; simp
  have hg1 : GridAt w1 w.heap.size W H s := by rw [hw1]; exact gridAt_new w W H s
  have HAW := Lib.hid (awake12_any w1)
  have HW1 := Lib.hid hw1
  have HB1 := Lib.hid hb1
  have HZ1 := Lib.hid hz1
  have HG1 := Lib.hid hg1
  have HL := Lib.hid hl.1
  have HLI := Lib.hid fun V (hV : Below w.heap.size w V) => light12_any W H s a n c w.heap.size ls V (hl.1.below hV) hV.size hs
  clear hw1 hb1 hz1 hg1 hl hs hW hH
  go_enter Try.func3, Try.ntmps3
  go_wp2_with fail
  rw [← HW1.out]
  refine HAW.out.mono ?_
  rintro e w2 ⟨rfl, hb2⟩
  have HB2 : Hid (Below w.heap.size w w2) := HB1.out.trans (hb2.mono HB1.out.size)
  have HG2 : Hid (GridAt w2 w.heap.size W H s) := HG1.out.below hb2 (by have := HZ1.out; omega)
  have HZ2 : Hid (w.heap.size + 1 ≤ w2.heap.size) := by have := hb2.size; have := HZ1.out; unfold Hid; omega
  obtain ⟨g0, g1, g2⟩ := HG2.out
  clear hb2
  go_wp2_with fail
  refine (HLI.out w2 HB2.out).mono ?_
  rintro e w3 ⟨lb, rfl, hlb, hb3⟩
  have HB3 : Hid (Below w.heap.size w w3) := HB2.out.trans (hb3.mono HB2.out.size)
  have HG3 : Hid (GridAt w3 w.heap.size W H s) := HG2.out.below hb3 (by have := HZ2.out; omega)
  have HZ3 : Hid (w.heap.size + 1 ≤ w3.heap.size) := Nat.le_trans HZ2.out hb3.size
  have HLB := Lib.hid hlb
  clear hb3 hlb g0 g1 g2
  cases lb with
  | false =>
    go_wp2_with fail
    go_ret
    exact ⟨rfl, HB3.out⟩
  | true =>
    obtain ⟨h400, h30, hall, hok⟩ := HLB.out rfl
    by_cases hn2 : n < 2
    · have e1 : decide ((n : Int) < 2) = true := by rw [decide_eq_true_eq]; omega
      clear h400 h30 hall hok
      go_wp2_with fail
      go_ret
      exact ⟨rfl, HB3.out⟩
    · have e1 : decide ((n : Int) < 2) = false := by rw [decide_eq_false_iff_not]; omega
      obtain ⟨b, off, rfl, hb, hcs⟩ := HL.out.cells (by omega)
      obtain ⟨a0, n0, c0, q0, hr0⟩ := hcs 0 (by omega)
      obtain ⟨a1, n1, c1, q1, hr1⟩ := hcs 1 (by omega)
      have hnc := HL.out.2.1
      have hnx := HL.out.2.2.1
      unfold maxLen at hnx
      rw [Nat.add_zero] at q0
      have hn0 : n0 ≤ 60 := by
        rw [← hr0.1]
        exact hall _ (by have : 0 < ls.length := by rw [HL.out.1]; omega
                         simp [List.getD, this])
      have hLD : RowL w w.heap.size (some ⟨b, off + 1, none⟩) (n - 1) (c - 1) (ls.drop 1) := by
        obtain ⟨a', e, h⟩ := HL.out.drop (k := 1) (by omega) (by omega)
        rw [e b off rfl] at h
        exact h
      have HKS : Hid (∀ V, Kept w3 V → Below w.heap.size w V ∧ (V.cell? ⟨w.heap.size, 0, none⟩ = some (.int .i64 W) ∧ V.cell? ⟨w.heap.size, 1, none⟩ = some (.int .i64 H) ∧ V.cell? ⟨w.heap.size, 2, none⟩ = some (.string s)) ∧ V.cell? ⟨b, off, none⟩ = some (.slice a0 n0 c0) ∧ V.cell? ⟨b, off + 1, none⟩ = some (.slice a1 n1 c1)) := fun V hV => by
        have hbw : Below w.heap.size w V := HB3.out.trans (Below.mono hV HB3.out.size)
        exact ⟨hbw, HG3.out.below hV (by have := HZ3.out; omega), (hbw.cell (p := ⟨b, off, none⟩) hb).trans q0, (hbw.cell (p := ⟨b, off + 1, none⟩) hb).trans q1⟩
      generalize ls.getD 0 [] = l0 at hr0
      generalize ls.getD 1 [] = l1 at hr1
      have HC5 : Hid (∀ A V, Kept w3 V → Kept A V → Calls Try.prog 8 #[gridV W H s, .slice a0 n0 c0, .slice a1 n1 c1] V (HopK A (WaysOut W H (bytesOf s) l0 l1))) := fun A V h3 hA => by
        have hbw := (HKS.out V h3).1
        exact hop_at (mWays_any W H s a0 a1 n0 c0 n1 c1 w.heap.size l0 l1 V hok (hr0.below hbw) (hr1.below hbw) hbw.size (by omega)) hA
      have HC6 : Hid (∀ A V, Kept w3 V → Kept A V → Calls Try.prog 9 #[gridV W H s, .slice a0 n0 c0, .slice a1 n1 c1] V (HopK A (WaysOut W H (bytesOf s) l0 l1))) := fun A V h3 hA => by
        have hbw := (HKS.out V h3).1
        exact hop_at (rWays12_any W H s a0 a1 n0 c0 n1 c1 w.heap.size l0 l1 V hok (hr0.below hbw) (hr1.below hbw) hbw.size (by omega)) hA
      have HC7 : Hid (∀ A V, Kept w3 V → Kept A V → Calls Try.prog 10 #[gridV W H s, .slice a0 n0 c0, .slice a1 n1 c1] V (HopK A (GoOut W H (bytesOf s) l0 l1))) := fun A V h3 hA => by
        have hbw := (HKS.out V h3).1
        exact hop_at (mGo_any W H s a0 a1 n0 c0 n1 c1 w.heap.size l0 l1 V hok (hr0.below hbw) (hr1.below hbw) hbw.size (by omega)) hA
      have HC8 : Hid (∀ A V, Kept w3 V → Kept A V → Calls Try.prog 11 #[gridV W H s, .slice a0 n0 c0, .slice a1 n1 c1] V (HopK A (GoOut W H (bytesOf s) l0 l1))) := fun A V h3 hA => by
        have hbw := (HKS.out V h3).1
        exact hop_at (rGo12_any W H s a0 a1 n0 c0 n1 c1 w.heap.size l0 l1 V hok (hr0.below hbw) (hr1.below hbw) hbw.size (by omega)) hA
      have HC9 : Hid (∀ A V, Kept w3 V → Kept A V → Calls Try.prog 12 #[gridV W H s, .slice a0 n0 c0, .slice (some ⟨b, off + 1, none⟩) (n - 1) (c - 1)] V (WalkK A (WalkOut W H (bytesOf s) l0 (ls.drop 1)))) := fun A V h3 hA => by
        have hbw := (HKS.out V h3).1
        exact walk_at (mWalk_any W H s a0 (some ⟨b, off + 1, none⟩) n0 c0 (n - 1) (c - 1) w.heap.size l0 (ls.drop 1) V hok (hr0.below hbw) (hLD.below hbw) hbw.size (by omega) (by omega)) hA
      have HC10 : Hid (∀ A V, Kept w3 V → Kept A V → Calls Try.prog 13 #[gridV W H s, .slice a0 n0 c0, .slice (some ⟨b, off + 1, none⟩) (n - 1) (c - 1)] V (WalkK A (WalkOut W H (bytesOf s) l0 (ls.drop 1)))) := fun A V h3 hA => by
        have hbw := (HKS.out V h3).1
        exact walk_at (rWalk12_any W H s a0 (some ⟨b, off + 1, none⟩) n0 c0 (n - 1) (c - 1) w.heap.size l0 (ls.drop 1) V hok (hr0.below hbw) (hLD.below hbw) hbw.size (by omega) (by omega)) hA
      have HC14 : Hid (∀ A V, Kept w3 V → Kept A V → Calls Try.prog 17 #[gridV W H s, .slice a0 n0 c0] V (NearK A (nearC W s.size l0 n0 n0))) := fun A V h3 hA => by
        have hbw := (HKS.out V h3).1
        exact near_at (mNear_any W H s a0 n0 c0 w.heap.size l0 V hok (hr0.below hbw) hbw.size (by omega)) hA
      have HC15 : Hid (∀ A V, Kept w3 V → Kept A V → Calls Try.prog 18 #[gridV W H s, .slice a0 n0 c0] V (NearK A (nearC W s.size l0 n0 n0))) := fun A V h3 hA => by
        have hbw := (HKS.out V h3).1
        exact near_at2 (rNear12_any W H s a0 n0 c0 w.heap.size l0 V hok (hr0.below hbw) hbw.size (by omega)) hA
      have HN0 := Lib.hid hn0
      have HPS : Hid (∀ p ∈ nearC W s.size l0 n0 n0, p.1 ≤ 1000000 ∧ p.2 ≤ 1000000) := nearC_small (by omega)
      have HPN : Hid ((nearC W s.size l0 n0 n0).length ≤ 1000000) := by
        have h1 := nearC_len (W := W) (S := s.size) (cells := l0) (n := n0) n0
        have h2 : n0 * n0 ≤ 60 * 60 := Nat.mul_le_mul hn0 hn0
        unfold Hid; omega
      have HWL : Hid ((ls.drop 1).length ≤ 30) := by unfold Hid; rw [List.length_drop, HL.out.1]; omega
      generalize nearC W s.size l0 n0 n0 = NL at HC14 HC15 HPS HPN
      generalize ls.drop 1 = ld at HC9 HC10 HWL
      clear h400 h30 hall hok hcs q0 q1 hr0 hr1 hLD HLB HAW HLI
      have hn1i : (1 : Int) < (n : Int) := by omega
      have hn0i : (0 : Int) < (n : Int) := by omega
      have hn0n : 0 < n := by omega
      have hn1n : 1 < n := by omega
      have hc1n : ¬ c = 1 := by omega
      have hle1 : 1 ≤ n := by omega
      have hle1i : (1 : Int) ≤ (n : Int) := by omega
      have hle1c : 1 ≤ c := by omega
      have kk : Kept w3 w3 := Kept.refl _
      obtain ⟨_, ⟨g0, g1, g2⟩, q0, q1⟩ := HKS.out w3 kk
      go_wp2_with fail
      go_region_held3 (fun V => Kept w3 V ∧ Below w.heap.size w V ∧ (V.cell? ⟨w.heap.size, 0, none⟩ = some (.int .i64 W) ∧ V.cell? ⟨w.heap.size, 1, none⟩ = some (.int .i64 H) ∧ V.cell? ⟨w.heap.size, 2, none⟩ = some (.string s)) ∧ V.cell? ⟨b, off, none⟩ = some (.slice a0 n0 c0) ∧ V.cell? ⟨b, off + 1, none⟩ = some (.slice a1 n1 c1))
        (first | exact ⟨by assumption, HKS.out _ (by assumption)⟩ | exact ⟨Kept.drew (by assumption), HKS.out _ (Kept.drew (by assumption))⟩)
        (first | (go_at_call 8; refine (HC5.out w3 _ (by first | exact kk | exact Kept.drew kk) (by first | exact kk | exact Kept.drew kk)).mono ?_; rintro e w5 ⟨a5, n5, c5, l5, x5, rfl, hp5, hn5, hr5, k5⟩; have k35 : Kept w3 w5 := keptT kk k5))
      have HP5 := Lib.hid hp5
      have HN5 := Lib.hid hn5
      have HR5 := Lib.hid hr5
      have HK5 := Lib.hid k5
      have HT5 := Lib.hid k35
      clear hp5 hn5 hr5 k5 g0 g1 g2 q0 q1 kk
      have kk6 : Kept w5 w5 := Kept.refl _
      obtain ⟨_, ⟨g0, g1, g2⟩, q0, q1⟩ := HKS.out w5 k35
      go_wp2_with fail
      go_region_held3 (fun V => Kept w3 V ∧ Below w.heap.size w V ∧ (V.cell? ⟨w.heap.size, 0, none⟩ = some (.int .i64 W) ∧ V.cell? ⟨w.heap.size, 1, none⟩ = some (.int .i64 H) ∧ V.cell? ⟨w.heap.size, 2, none⟩ = some (.string s)) ∧ V.cell? ⟨b, off, none⟩ = some (.slice a0 n0 c0) ∧ V.cell? ⟨b, off + 1, none⟩ = some (.slice a1 n1 c1))
        (first | exact ⟨by assumption, HKS.out _ (by assumption)⟩ | exact ⟨Kept.drew (by assumption), HKS.out _ (Kept.drew (by assumption))⟩)
        (first | (go_at_call 9; refine (HC6.out w5 _ (by first | exact k35 | exact Kept.drew k35) (by first | exact kk6 | exact Kept.drew kk6)).mono ?_; rintro e w6 ⟨a6, n6, c6, l6, x6, rfl, hp6, hn6, hr6, k6⟩; have k36 : Kept w3 w6 := keptT k35 k6))
      have HP6 := Lib.hid hp6
      have HN6 := Lib.hid hn6
      have HR6 := Lib.hid hr6
      have HK6 := Lib.hid k6
      have HT6 := Lib.hid k36
      clear hp6 hn6 hr6 k6 g0 g1 g2 q0 q1 kk6 k35
      have kk7 : Kept w6 w6 := Kept.refl _
      obtain ⟨_, ⟨g0, g1, g2⟩, q0, q1⟩ := HKS.out w6 k36
      go_wp2_with fail
      go_region_held3 (fun V => Kept w3 V ∧ Below w.heap.size w V ∧ (V.cell? ⟨w.heap.size, 0, none⟩ = some (.int .i64 W) ∧ V.cell? ⟨w.heap.size, 1, none⟩ = some (.int .i64 H) ∧ V.cell? ⟨w.heap.size, 2, none⟩ = some (.string s)) ∧ V.cell? ⟨b, off, none⟩ = some (.slice a0 n0 c0) ∧ V.cell? ⟨b, off + 1, none⟩ = some (.slice a1 n1 c1))
        (first | exact ⟨by assumption, HKS.out _ (by assumption)⟩ | exact ⟨Kept.drew (by assumption), HKS.out _ (Kept.drew (by assumption))⟩)
        (first | (go_at_call 10; refine (HC7.out w6 _ (by first | exact k36 | exact Kept.drew k36) (by first | exact kk7 | exact Kept.drew kk7)).mono ?_; rintro e w7 ⟨a7, n7, c7, l7, x7, rfl, hp7, hn7, hr7, k7⟩; have k37 : Kept w3 w7 := keptT k36 k7))
      have HP7 := Lib.hid hp7
      have HN7 := Lib.hid hn7
      have HR7 := Lib.hid hr7
      have HK7 := Lib.hid k7
      have HT7 := Lib.hid k37
      clear hp7 hn7 hr7 k7 g0 g1 g2 q0 q1 kk7 k36
      have kk8 : Kept w7 w7 := Kept.refl _
      obtain ⟨_, ⟨g0, g1, g2⟩, q0, q1⟩ := HKS.out w7 k37
      go_wp2_with fail
      go_region_held3 (fun V => Kept w3 V ∧ Below w.heap.size w V ∧ (V.cell? ⟨w.heap.size, 0, none⟩ = some (.int .i64 W) ∧ V.cell? ⟨w.heap.size, 1, none⟩ = some (.int .i64 H) ∧ V.cell? ⟨w.heap.size, 2, none⟩ = some (.string s)) ∧ V.cell? ⟨b, off, none⟩ = some (.slice a0 n0 c0) ∧ V.cell? ⟨b, off + 1, none⟩ = some (.slice a1 n1 c1))
        (first | exact ⟨by assumption, HKS.out _ (by assumption)⟩ | exact ⟨Kept.drew (by assumption), HKS.out _ (Kept.drew (by assumption))⟩)
        (first | (go_at_call 11; refine (HC8.out w7 _ (by first | exact k37 | exact Kept.drew k37) (by first | exact kk8 | exact Kept.drew kk8)).mono ?_; rintro e w8 ⟨a8, n8, c8, l8, x8, rfl, hp8, hn8, hr8, k8⟩; have k38 : Kept w3 w8 := keptT k37 k8))
      have HP8 := Lib.hid hp8
      have HN8 := Lib.hid hn8
      have HR8 := Lib.hid hr8
      have HK8 := Lib.hid k8
      have HT8 := Lib.hid k38
      clear hp8 hn8 hr8 k8 g0 g1 g2 q0 q1 kk8 k37
      have kk9 : Kept w8 w8 := Kept.refl _
      obtain ⟨_, ⟨g0, g1, g2⟩, q0, q1⟩ := HKS.out w8 k38
      go_wp2_with fail
      go_region_held3 (fun V => Kept w3 V ∧ Below w.heap.size w V ∧ (V.cell? ⟨w.heap.size, 0, none⟩ = some (.int .i64 W) ∧ V.cell? ⟨w.heap.size, 1, none⟩ = some (.int .i64 H) ∧ V.cell? ⟨w.heap.size, 2, none⟩ = some (.string s)) ∧ V.cell? ⟨b, off, none⟩ = some (.slice a0 n0 c0) ∧ V.cell? ⟨b, off + 1, none⟩ = some (.slice a1 n1 c1))
        (first | exact ⟨by assumption, HKS.out _ (by assumption)⟩ | exact ⟨Kept.drew (by assumption), HKS.out _ (Kept.drew (by assumption))⟩)
        (first | (go_at_call 12; refine (HC9.out w8 _ (by first | exact k38 | exact Kept.drew k38) (by first | exact kk9 | exact Kept.drew kk9)).mono ?_; rintro e w9 ⟨a9, n9, c9, l9, x9, rfl, hp9, hn9, hr9, k9⟩; have k39 : Kept w3 w9 := keptT k38 k9))
      have HP9 := Lib.hid hp9
      have HN9 := Lib.hid hn9
      have HR9 := Lib.hid hr9
      have HK9 := Lib.hid k9
      have HT9 := Lib.hid k39
      clear hp9 hn9 hr9 k9 g0 g1 g2 q0 q1 kk9 k38
      have kk10 : Kept w9 w9 := Kept.refl _
      obtain ⟨_, ⟨g0, g1, g2⟩, q0, q1⟩ := HKS.out w9 k39
      go_wp2_with fail
      go_region_held3 (fun V => Kept w3 V ∧ Below w.heap.size w V ∧ (V.cell? ⟨w.heap.size, 0, none⟩ = some (.int .i64 W) ∧ V.cell? ⟨w.heap.size, 1, none⟩ = some (.int .i64 H) ∧ V.cell? ⟨w.heap.size, 2, none⟩ = some (.string s)) ∧ V.cell? ⟨b, off, none⟩ = some (.slice a0 n0 c0) ∧ V.cell? ⟨b, off + 1, none⟩ = some (.slice a1 n1 c1))
        (first | exact ⟨by assumption, HKS.out _ (by assumption)⟩ | exact ⟨Kept.drew (by assumption), HKS.out _ (Kept.drew (by assumption))⟩)
        (first | (go_at_call 13; refine (HC10.out w9 _ (by first | exact k39 | exact Kept.drew k39) (by first | exact kk10 | exact Kept.drew kk10)).mono ?_; rintro e w10 ⟨a10, n10, c10, l10, x10, rfl, hp10, hn10, hr10, k10⟩; have k310 : Kept w3 w10 := keptT k39 k10))
      have HP10 := Lib.hid hp10
      have HN10 := Lib.hid hn10
      have HR10 := Lib.hid hr10
      have HK10 := Lib.hid k10
      have HT10 := Lib.hid k310
      clear hp10 hn10 hr10 k10 g0 g1 g2 q0 q1 kk10 k39
      obtain ⟨e56, f56⟩ := HP5.out.one HP6.out
      obtain ⟨e78, f78⟩ := HP7.out.one HP8.out
      obtain ⟨e90, f90⟩ := HP9.out.one HP10.out
      subst e56 f56 e78 f78 e90 f90
      obtain rfl : n5 = n6 := HN5.out.symm.trans HN6.out
      obtain rfl : n7 = n8 := HN7.out.symm.trans HN8.out
      obtain rfl : n9 = n10 := HN9.out.symm.trans HN10.out
      have HK610 : Hid (Kept w6 w10) := keptT HK7.out (keptT HK8.out (keptT HK9.out HK10.out))
      have HK510 : Hid (Kept w5 w10) := keptT HK6.out HK610.out
      have HK810 : Hid (Kept w8 w10) := keptT HK9.out HK10.out
      have HK710 : Hid (Kept w7 w10) := keptT HK8.out HK810.out
      have HI1 := Lib.hid (ints_anyZ a5 a6 n5 c5 n5 c6 w10.heap.size l5 l5 w10 ((HR5.out.below HK510.out).mono (Below.size HK510.out)) ((HR6.out.below HK610.out).mono (Below.size HK610.out)))
      rw [decide_eq_true (rfl : l5 = l5)] at HI1
      clear k310
      go_wp2_with fail
      refine HI1.out.mono ?_
      rintro e w11 ⟨rfl, m11, hw11⟩
      have HK11 : Hid (Kept w10 w11) := by unfold Hid; rw [hw11]; exact below_drewN (Below.refl _ _) m11
      clear hw11
      have HI2 := Lib.hid (ints_anyZ a7 a8 n7 c7 n7 c8 w11.heap.size l7 l7 w11 ((HR7.out.below (keptT HK710.out HK11.out)).mono (Below.size (keptT HK710.out HK11.out))) ((HR8.out.below (keptT HK810.out HK11.out)).mono (Below.size (keptT HK810.out HK11.out))))
      rw [decide_eq_true (rfl : l7 = l7)] at HI2
      go_wp2_with fail
      refine HI2.out.mono ?_
      rintro e w12 ⟨rfl, m12, hw12⟩
      have HK12 : Hid (Kept w10 w12) := by unfold Hid; rw [hw12]; exact below_drewN HK11.out m12
      clear hw12
      have HI3 := Lib.hid (listsSame_any a9 a10 n9 c9 c10 w12.heap.size l9 w12 ((HR9.out.below (keptT HK10.out HK12.out)).mono (Below.size (keptT HK10.out HK12.out))) ((HR10.out.below HK12.out).mono (Below.size HK12.out)) (by have h1 := HP9.out.len; have h2 := HN9.out; have := HWL.out; omega))
      go_wp2_with fail
      refine HI3.out.mono ?_
      rintro e w13 ⟨rfl, hb13⟩
      have k13 : Kept w3 w13 := keptT (keptT HT10.out HK12.out) hb13
      have kk13 : Kept w13 w13 := Kept.refl _
      have HT13 := Lib.hid k13
      clear hb13
      obtain ⟨_, ⟨g0, g1, g2⟩, q0, q1⟩ := HKS.out w13 k13
      go_wp2_with fail
      go_region_held3 (fun V => Kept w3 V ∧ Below w.heap.size w V ∧ (V.cell? ⟨w.heap.size, 0, none⟩ = some (.int .i64 W) ∧ V.cell? ⟨w.heap.size, 1, none⟩ = some (.int .i64 H) ∧ V.cell? ⟨w.heap.size, 2, none⟩ = some (.string s)) ∧ V.cell? ⟨b, off, none⟩ = some (.slice a0 n0 c0) ∧ V.cell? ⟨b, off + 1, none⟩ = some (.slice a1 n1 c1))
        (first | exact ⟨by assumption, HKS.out _ (by assumption)⟩ | exact ⟨Kept.drew (by assumption), HKS.out _ (Kept.drew (by assumption))⟩)
        (first
          | (go_at_call 17; refine (HC14.out w13 _ (by first | exact k13 | exact Kept.drew k13) (by first | exact kk13 | exact Kept.drew kk13)).mono ?_; rintro e w14 ⟨a14, n14, c14, rfl, hn14, hr14, k14⟩; have k314 : Kept w3 w14 := keptT k13 k14; have kk14 : Kept w14 w14 := Kept.refl _)
          | (go_at_call 18; refine (HC15.out w14 _ (by first | exact k314 | exact Kept.drew k314) (by first | exact kk14 | exact Kept.drew kk14)).mono ?_; rintro e w15 ⟨a15, n15, c15, rfl, hn15, hr15, k15⟩; have k315 : Kept w3 w15 := keptT k314 k15; obtain rfl : n14 = n15 := hn14.symm.trans hn15; have HCP := Lib.hid (pairs12_any a14 a15 n14 c14 c15 w15.heap.size NL w15 ((hr14.below k15).mono (Below.size k15)) hr15 (by have := HPN.out; omega) HPS.out))
          | (go_at_call 16; refine (HCP.out).mono ?_; rintro e w16 ⟨rfl, m16, hw16⟩; have k316 : Kept w3 w16 := (by rw [hw16]; exact below_drewN k315 m16); clear hw16))
      have HF := Lib.hid (HKS.out _ k316).1
      clear k316 k315 k314 hr14 hr15 k14 k15
      go_wp2_with fail
      go_ret
      exact ⟨rfl, HF.out⟩
end Go.Proofs.Ytacigmjdppoonaa.Vm
