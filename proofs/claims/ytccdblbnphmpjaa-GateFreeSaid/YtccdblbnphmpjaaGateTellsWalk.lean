/- The walk of the law GateTells, over what is said of the package's Gate, Clash and of awake (premises). -/
import Derived.Test.YtccdblbnphmpjaaRefGate
import Derived.Test.YtccdblbnphmpjaaRefClash
namespace Go.Proofs.Ytccdblbnphmpjaa.Vm
open Go Go.RowKit

/-- What is said of a function that tells who meet. -/
def SaysClash (f : Nat) : Prop := ∀ (a1 a2 : Option Addr) (n1 c1 n2 c2 B : Nat) (fr to : List Int) (w : World), RowZ .i64 w B a1 n1 c1 fr → RowZ .i64 w B a2 n2 c2 to → B ≤ w.heap.size → n1 ≤ 100000 → n2 ≤ 100000 → WfZ fr → WfZ to →
  Calls Try.prog f #[.slice a1 n1 c1, .slice a2 n2 c2] w fun e w' => ∃ x y, e = .returned (.tuple #[.int .i64 x, .int .i64 y]) ∧ ClashIs fr to (min n1 n2) x y ∧ Below w.heap.size w w'
theorem rclash_says : SaysClash 11 := by
  intro a1 a2 n1 c1 n2 c2 B fr to w h1 h2 _ hn1 hn2 _ _
  refine (rclash_any a1 a2 n1 c1 n2 c2 B fr to w h1 h2 (by omega) (by omega)).mono ?_
  rintro e w' ⟨x, y, rfl, hc, d, rfl⟩
  exact ⟨x, y, rfl, hc, below_drewN (Below.refl _ _) d⟩
/-- What is said of awake. -/
def SaysAwake (f : Nat) : Prop := ∀ w : World, Calls Try.prog f #[] w fun e w' => e = .returned (.bool true) ∧ Below w.heap.size w w'

def lightG (n1 n2 n3 : Nat) : Bool := decide (n1 ≤ 60 ∧ n2 ≤ 60 ∧ n3 ≤ 60)
theorem lightG_in {n1 n2 n3 : Nat} (h : lightG n1 n2 n3 = true) : n1 ≤ 60 ∧ n2 ≤ 60 ∧ n3 ≤ 60 := of_decide_eq_true h

set_option maxRecDepth 100000 in
set_option maxHeartbeats 4000000 in
theorem light8_any (a1 a2 a3 : Option Addr) (n1 c1 n2 c2 n3 c3 : Nat) (w : World) (h1 : n1 ≤ maxLen) (h2 : n2 ≤ maxLen) (h3 : n3 ≤ maxLen) :
    Calls Try.prog 7 #[.agg #[.slice a1 n1 c1, .slice a2 n2 c2, .slice a3 n3 c3]] w fun e w' => e = .returned (.bool (lightG n1 n2 n3)) ∧ Below w.heap.size w w' := by
  have hB0 : ∀ o, Below w.heap.size w (w.alloc o) := fun o => (Below.refl _ _).alloc (Nat.le_refl _) o
  unfold maxLen at h1 h2 h3
  by_cases k1 : n1 ≤ 60
  · have d1 : decide ((n1 : Int) ≤ 60) = true := decide_eq_true (by omega)
    by_cases k2 : n2 ≤ 60
    · have d2 : decide ((n2 : Int) ≤ 60) = true := decide_eq_true (by omega)
      by_cases k3 : n3 ≤ 60
      · have HE : Hid (true = lightG n1 n2 n3) := Eq.symm (decide_eq_true (And.intro k1 (And.intro k2 k3)))
        have d3 : decide ((n3 : Int) ≤ 60) = true := decide_eq_true (by omega)
        go_enter Try.func7, Try.ntmps7
        go_wp2_with fail
        go_ret
        exact ⟨ret_bool HE.out, hB0 _⟩
      · have HE : Hid (false = lightG n1 n2 n3) := Eq.symm (decide_eq_false (fun h => k3 h.2.2))
        have d3 : decide ((n3 : Int) ≤ 60) = false := decide_eq_false (by omega)
        go_enter Try.func7, Try.ntmps7
        go_wp2_with fail
        go_ret
        exact ⟨ret_bool HE.out, hB0 _⟩
    · have HE : Hid (false = lightG n1 n2 n3) := Eq.symm (decide_eq_false (fun h => k2 h.2.1))
      have d2 : decide ((n2 : Int) ≤ 60) = false := decide_eq_false (by omega)
      go_enter Try.func7, Try.ntmps7
      go_wp2_with fail
      go_ret
      exact ⟨ret_bool HE.out, hB0 _⟩
  · have HE : Hid (false = lightG n1 n2 n3) := Eq.symm (decide_eq_false (fun h => k1 h.1))
    have d1 : decide ((n1 : Int) ≤ 60) = false := decide_eq_false (by omega)
    go_enter Try.func7, Try.ntmps7
    go_wp2_with fail
    go_ret
    exact ⟨ret_bool HE.out, hB0 _⟩
/-- The three lists lie in block b. -/
structure ThreeAt (b : Nat) (v1 v2 v3 : Value) (V : World) : Prop where
  l0 : V.cell? ⟨b, 0, none⟩ = some v1
  l1 : V.cell? ⟨b, 1, none⟩ = some v2
  l2 : V.cell? ⟨b, 2, none⟩ = some v3
theorem ThreeAt.below {b B : Nat} {v1 v2 v3 : Value} {V V' : World} (h : ThreeAt b v1 v2 v3 V) (hb : Below B V V') (hB : b < B) : ThreeAt b v1 v2 v3 V' :=
  ⟨(hb.cell (p := ⟨b, 0, none⟩) hB).trans h.l0, (hb.cell (p := ⟨b, 1, none⟩) hB).trans h.l1, (hb.cell (p := ⟨b, 2, none⟩) hB).trans h.l2⟩
theorem three_head (w : World) (v1 v2 v3 : Value) (t : TypeId) :
    ∃ w1, w1 = w.alloc (.cells #[v1, v2, v3] t) ∧ Below w.heap.size w w1 ∧ w1.heap.size = w.heap.size + 1 ∧ ThreeAt w.heap.size v1 v2 v3 w1 := by
  have hc : ∀ i v, #[v1, v2, v3][i]? = some v → (w.alloc (.cells #[v1, v2, v3] t)).cell? ⟨w.heap.size, i, none⟩ = some v := fun i v hv => by
    rw [cell_of_row (w.alloc (.cells #[v1, v2, v3] t)) w.heap.size i #[v1, v2, v3] t (0, 0) (heap_alloc_new w _)]
    exact hv
  exact ⟨_, rfl, (Below.refl _ _).alloc (Nat.le_refl _) _, by simp, hc 0 v1 rfl, hc 1 v2 rfl, hc 2 v3 rfl⟩

set_option maxRecDepth 100000 in
set_option maxHeartbeats 4000000 in
theorem gateTells_says (HA : SaysAwake 6) (HG : SaysGate 8) (HC : SaysClash 10)
    (a1 : Option Addr) (n1 c1 : Nat) (a2 : Option Addr) (n2 c2 : Nat) (a3 : Option Addr) (n3 c3 : Nat) (z1 z2 z3 : List Int) (w : World)
    (r1 : RowZ .i64 w w.heap.size a1 n1 c1 z1) (r2 : RowZ .i64 w w.heap.size a2 n2 c2 z2) (r3 : RowZ .i64 w w.heap.size a3 n3 c3 z3) (y1 : WfZ z1) (y2 : WfZ z2) (y3 : WfZ z3) :
    Calls Try.prog 3 #[.agg #[.slice a1 n1 c1, .slice a2 n2 c2, .slice a3 n3 c3]] w fun e w' => e = .returned (.bool true) ∧ Below w.heap.size w w' := by
  obtain ⟨w1, hw1, hB1, hz1, hT1⟩ := three_head w (.slice a1 n1 c1) (.slice a2 n2 c2) (.slice a3 n3 c3) 23
  have HW1 := Lib.hid hw1
  have HR1 := Lib.hid r1
  have HR2 := Lib.hid r2
  have HR3 := Lib.hid r3
  have HY1 := Lib.hid y1
  have HY2 := Lib.hid y2
  have HY3 := Lib.hid y3
  have HLI := Lib.hid fun w => light8_any a1 a2 a3 n1 c1 n2 c2 n3 c3 w (Nat.le_trans r1.2.1 r1.2.2.1) (Nat.le_trans r2.2.1 r2.2.2.1) (Nat.le_trans r3.2.1 r3.2.2.1)
  clear hw1 r1 r2 r3 y1 y2 y3
  go_enter Try.func3, Try.ntmps3
  go_wp2_with fail
  rw [← HW1.out]
  refine (HA w1).mono ?_
  rintro e w2 ⟨rfl, hb2⟩
  have hB2 := hB1.trans (hb2.mono hB1.size)
  have hT2 := hT1.below hb2 (by omega)
  have hz2 := hb2.size
  obtain ⟨g1, g2, g3⟩ := id hT2
  have HT2 := Lib.hid hT2
  clear hT1 hT2 hb2 HW1
  cases hlg : lightG n1 n2 n3
  · have hli := HLI.out w2
    rw [hlg] at hli
    have HLI2 := Lib.hid hli
    clear hli hlg HLI
    go_wp2_with fail
    refine HLI2.out.mono ?_
    rintro e w3 ⟨rfl, hb3⟩
    have hB3 := hB2.trans (hb3.mono hB2.size)
    go_wp2_with fail
    go_ret
    exact ⟨rfl, hB3⟩
  have hli := HLI.out w2
  rw [hlg] at hli
  have HLI2 := Lib.hid hli
  obtain ⟨k1, k2, k3⟩ := lightG_in hlg
  clear hli hlg HLI
  go_wp2_with fail
  refine HLI2.out.mono ?_
  rintro e w3 ⟨rfl, hb3⟩
  have hB3 := hB2.trans (hb3.mono hB2.size)
  have hT3 := HT2.out.below hb3 (by omega)
  have hz3 := hb3.size
  obtain ⟨g1, g2, g3⟩ := id hT3
  have HT3 := Lib.hid hT3
  have HB3 := Lib.hid hB3
  have hG3 := Lib.hid (HG a1 a2 a3 n1 c1 n2 c2 n3 c3 w.heap.size z1 z2 z3 w3 (HR1.out.below hB3) (HR2.out.below hB3) (HR3.out.below hB3) hB3.size (by omega) (by omega) (by omega) HY1.out HY2.out HY3.out)
  clear hT3 hb3 HT2 HLI2 hB2
  go_wp2_with fail
  refine hG3.out.mono ?_
  rintro e w4 ⟨b1, m1, d1, x1, o1, rfl, ho1, rb1, hb4⟩
  have hB4 := HB3.out.trans (hb4.mono HB3.out.size)
  have hT4 := HT3.out.below hb4 (by omega)
  have hz4 := hb4.size
  obtain ⟨g1, g2, g3⟩ := id hT4
  have HT4 := Lib.hid hT4
  have HB4 := Lib.hid hB4
  have HRB1 := Lib.hid rb1
  have HO1 := Lib.hid ho1
  have hG4 := Lib.hid (rgate_any a1 a2 a3 n1 c1 n2 c2 n3 c3 w.heap.size z1 z2 z3 w4 (HR1.out.below hB4) (HR2.out.below hB4) (HR3.out.below hB4) hB4.size (by omega) (by omega) (by omega) HY1.out HY2.out HY3.out)
  clear hT4 hb4 HT3 hG3 hB3 hB4 rb1 ho1
  go_wp2_with fail
  refine hG4.out.mono ?_
  rintro e w5 ⟨b2, m2, d2, x2, o2, rfl, ho2, rb2, hb5⟩
  obtain ⟨rfl, rfl⟩ := HO1.out.one ho2
  have hB5 := HB4.out.trans (hb5.mono HB4.out.size)
  have hT5 := HT4.out.below hb5 (by omega)
  have hz5 := hb5.size
  obtain ⟨g1, g2, g3⟩ := id hT5
  have HT5 := Lib.hid hT5
  have HB5 := Lib.hid hB5
  have HRB2 := Lib.hid ((HRB1.out.below hb5).mono hb5.size)
  have HRD2 := Lib.hid rb2
  have hC5 := Lib.hid (HC a1 a2 n1 c1 n2 c2 w.heap.size z1 z2 w5 (HR1.out.below hB5) (HR2.out.below hB5) hB5.size (by omega) (by omega) HY1.out HY2.out)
  clear hT5 hb5 HT4 hG4 hB5 rb2 ho2 HO1 HRB1
  go_wp2_with fail
  refine hC5.out.mono ?_
  rintro e w6 ⟨x3, y3, rfl, hc6, hb6⟩
  have hB6 := HB5.out.trans (hb6.mono HB5.out.size)
  have hT6 := HT5.out.below hb6 (by omega)
  have hz6 := hb6.size
  obtain ⟨g1, g2, g3⟩ := id hT6
  have HB6 := Lib.hid hB6
  have HC6 := Lib.hid hc6
  have HRB3 := Lib.hid ((HRB2.out.below hb6).mono hb6.size)
  have HRD3 := Lib.hid ((HRD2.out.below hb6).mono hb6.size)
  have hC6 := Lib.hid (rclash_says a1 a2 n1 c1 n2 c2 w.heap.size z1 z2 w6 (HR1.out.below hB6) (HR2.out.below hB6) hB6.size (by omega) (by omega) HY1.out HY2.out)
  clear hT6 hb6 HT5 hC5 hB6 hc6 HRB2 HRD2
  go_wp2_with fail
  refine hC6.out.mono ?_
  rintro e w7 ⟨x4, y4, rfl, hc7, hb7⟩
  obtain ⟨rfl, rfl⟩ := HC6.out.one hc7
  have hB7 := HB6.out.trans (hb7.mono HB6.out.size)
  have HB7 := Lib.hid hB7
  have hI7 : Hid (Calls Try.prog 12 #[.slice b1 m1 d1, .slice b2 m2 d2] w7 fun e w' => e = .returned (.bool true) ∧ ∃ m, w' = w7.drewN m) :=
    (ints_anyZ b1 b2 m1 d1 m2 d2 w7.heap.size o1 o1 w7 ((HRB3.out.below hb7).mono hb7.size) ((HRD3.out.below hb7).mono hb7.size)).mono fun _ _ h => ⟨h.1.trans (by rw [decide_eq_true rfl]), h.2⟩
  clear hb7 hC6 hB7 hc7 HRB3 HRD3 g1 g2 g3
  go_wp2_with fail
  refine hI7.out.mono ?_
  rintro e w8 ⟨rfl, d, rfl⟩
  have hB8 := Lib.hid (below_drewN HB7.out d)
  have q1 : ((x1 : Int) == x1) = true := by simp
  have q2 : ((x3 : Int) == x3) = true := by simp
  have q3 : ((y3 : Int) == y3) = true := by simp
  go_wp2_with fail
  go_ret
  exact ⟨rfl, hB8.out⟩
end Go.Proofs.Ytccdblbnphmpjaa.Vm
