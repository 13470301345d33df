/- The contract of the document's Light on states. -/
import Derived.Test.YtopgboepkckkjaaStWords
namespace Go.Proofs.Ytopgboepkckkjaa.Vm
open Go Go.RowKit

/-- May a state be gone through? -/
def light5 (n a b c : Nat) : Bool := decide (n ≤ 150 ∧ a ≤ 12 ∧ b ≤ 20 ∧ c ≤ 20)
theorem light5_in {n a b c : Nat} (h : light5 n a b c = true) : n ≤ 150 ∧ a ≤ 12 ∧ b ≤ 20 ∧ c ≤ 20 := of_decide_eq_true h
set_option maxRecDepth 100000 in
set_option maxHeartbeats 400000 in
theorem light5_any (W H : Int) (g : ByteArray) (h : Sh) (w : World) (hs : g.size ≤ maxLen) (h1 : h.n1 ≤ maxLen) (h2 : h.n2 ≤ maxLen) (h3 : h.n3 ≤ maxLen) :
    Calls Try.prog 14 #[gridV W H g, shV h] w fun e w' => e = .returned (.bool (light5 g.size h.n1 h.n2 h.n3)) ∧ Below w.heap.size w w' := by
  obtain ⟨w2, hw2, hB2, hz2, hg2, hs2⟩ := gs_head w W H g h
  obtain ⟨t, a1, n1, c1, a2, n2, c2, a3, n3, c3⟩ := h
  simp only [] at h1 h2 h3 ⊢
  rw [hw2] at hB2
  have HB := Lib.hid hB2
  unfold maxLen at hs h1 h2 h3
  clear hw2 hB2 hz2 hg2 hs2
  by_cases k0 : g.size ≤ 150
  · by_cases k1 : n1 ≤ 12
    · by_cases k2 : n2 ≤ 20
      · by_cases k3 : n3 ≤ 20
        · have HE : Hid (true = light5 g.size n1 n2 n3) := Eq.symm (decide_eq_true ⟨k0, k1, k2, k3⟩)
          have d3 : decide ((n3 : Int) ≤ 20) = true := decide_eq_true (by omega)
          go_enter Try.func14, Try.ntmps14
          go_wp2_with fail
          go_ret
          exact ⟨ret_bool HE.out, HB.out⟩
        · have HE : Hid (false = light5 g.size n1 n2 n3) := Eq.symm (decide_eq_false (fun h => k3 h.2.2.2))
          have d3 : decide ((n3 : Int) ≤ 20) = false := decide_eq_false (by omega)
          go_enter Try.func14, Try.ntmps14
          go_wp2_with fail
          go_ret
          exact ⟨ret_bool HE.out, HB.out⟩
      · have HE : Hid (false = light5 g.size n1 n2 n3) := Eq.symm (decide_eq_false (fun h => k2 h.2.2.1))
        go_enter Try.func14, Try.ntmps14
        go_wp2_with fail
        go_ret
        exact ⟨ret_bool HE.out, HB.out⟩
    · have HE : Hid (false = light5 g.size n1 n2 n3) := Eq.symm (decide_eq_false (fun h => k1 h.2.1))
      go_enter Try.func14, Try.ntmps14
      go_wp2_with fail
      go_ret
      exact ⟨ret_bool HE.out, HB.out⟩
  · have HE : Hid (false = light5 g.size n1 n2 n3) := Eq.symm (decide_eq_false (fun h => k0 h.1))
    go_enter Try.func14, Try.ntmps14
    go_wp2_with fail
    go_ret
    exact ⟨ret_bool HE.out, HB.out⟩
end Go.Proofs.Ytopgboepkckkjaa.Vm
