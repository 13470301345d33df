/- The contract of tuggerlaw10.light. -/
import Derived.Test.YtopgboepkckkjaaLightFives
import Derived.Test.YtopgboepkckkjaaRefStRights
import Derived.Test.YtopgboepkckkjaaRights
namespace Go.Proofs.Ytopgboepkckkjaa.Vm
open Go Go.RowKit

/-- May a state be gone through? -/
noncomputable def light10 (W H : Int) (g : ByteArray) (h : Sh) (s : St) : Bool := light5 g.size h.n1 h.n2 h.n3 && (rightS W H (bytesOf g) && rightB (floorS (bytesOf g)) s)
theorem light10_in {W H : Int} {g : ByteArray} {h : Sh} {s : St} (hl : light10 W H g h s = true) : (g.size ≤ 150 ∧ h.n1 ≤ 12 ∧ h.n2 ≤ 20 ∧ h.n3 ≤ 20) ∧ RightP (floorS (bytesOf g)) s ∧ rightS W H (bytesOf g) = true := by
  unfold light10 at hl
  simp only [Bool.and_eq_true] at hl
  exact ⟨light5_in hl.1, yes_iff.1 hl.2.2, hl.2.1⟩
set_option maxRecDepth 100000 in
set_option maxHeartbeats 1000000 in
theorem light10_any (W H : Int) (g : ByteArray) (h : Sh) (s : St) (B : Nat) (w : World) (hg : g.size ≤ maxLen) (hin : StIn w B h s) (hB : B ≤ w.heap.size) :
    Calls Try.prog 7 #[gridV W H g, shV h] w fun e w' => e = .returned (.bool (light10 W H g h s)) ∧ Below w.heap.size w w' := by
  obtain ⟨w2, hw2, hB2, hz2, hg2, hs2⟩ := gs_head w W H g h
  have HLI := Lib.hid fun V => light5_any W H g h V hg hin.rs.len hin.ts.len (Nat.le_trans hin.bl.2.1 hin.bl.2.2.1)
  have HRI := Lib.hid fun V => rright_any W H g V hg
  have HIN := Lib.hid ((hin.mono hB).below hB2)
  have HRR := Lib.hid fun (V : World) (hV : Below w2.heap.size w2 V) => rstRight_any W H g h s w.heap.size V hg (HIN.out.below (hV.mono hB2.size)) (by have := hV.size; omega)
  have HB2 := Lib.hid hB2
  have HG2 := Lib.hid hg2
  have HS2 := Lib.hid hs2
  have HW := Lib.hid hw2
  unfold light10
  generalize light5 g.size h.n1 h.n2 h.n3 = L at HLI
  generalize rightS W H (bytesOf g) = R at HRI
  generalize rightB (floorS (bytesOf g)) s = Q at HRR
  obtain ⟨t, a1, n1, c1, a2, n2, c2, a3, n3, c3⟩ := h
  obtain ⟨g0, g1, g2⟩ := hg2
  obtain ⟨s0, s1, s2, s3⟩ := hs2
  simp only [] at s0 s1 s2 s3
  clear hw2 hB2 hin hg
  go_enter Try.func7, Try.ntmps7
  go_wp2_with fail
  rw [← HW.out]
  refine (HLI.out _).mono ?_
  rintro e w3 ⟨rfl, hb3⟩
  have HB3 := Lib.hid hb3
  have hg3 := HG2.out.below hb3 (by omega)
  have hs3 := HS2.out.below hb3 (by omega)
  clear g0 g1 g2 s0 s1 s2 s3 hb3 HLI
  obtain ⟨g0, g1, g2⟩ := hg3
  obtain ⟨s0, s1, s2, s3⟩ := hs3
  simp only [] at s0 s1 s2 s3
  cases L
  · go_wp2_with fail
    go_ret
    exact ⟨by simp, HB2.out.trans (HB3.out.mono HB2.out.size)⟩
  go_wp2_with fail
  refine (HRI.out _).mono ?_
  rintro e w4 ⟨rfl, hb4⟩
  have HB4 := Lib.hid (HB3.out.trans (hb4.mono HB3.out.size))
  have hg4 := HG2.out.below HB4.out (by omega)
  have hs4 := HS2.out.below HB4.out (by omega)
  clear g0 g1 g2 s0 s1 s2 s3 hb4 HRI
  obtain ⟨g0, g1, g2⟩ := hg4
  obtain ⟨s0, s1, s2, s3⟩ := hs4
  simp only [] at s0 s1 s2 s3
  cases R
  · go_wp2_with fail
    go_ret
    exact ⟨by simp, HB2.out.trans (HB4.out.mono HB2.out.size)⟩
  go_wp2_with fail
  refine (HRR.out _ HB4.out).mono ?_
  rintro e w5 ⟨rfl, hb5⟩
  have HB5 := Lib.hid (HB4.out.trans (hb5.mono HB4.out.size))
  clear g0 g1 g2 s0 s1 s2 s3 hb5 HRR
  go_wp2_with fail
  go_ret
  exact ⟨by simp, HB2.out.trans (HB5.out.mono HB2.out.size)⟩
end Go.Proofs.Ytopgboepkckkjaa.Vm
