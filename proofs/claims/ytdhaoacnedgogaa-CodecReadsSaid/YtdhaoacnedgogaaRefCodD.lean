/- The contracts of the document's Digest, and of what says how much a state, or a record, may hold in laws. -/
import Derived.Test.YtdhaoacnedgogaaRefCodS
import Derived.Test.YtdhaoacnedgogaaRefChecks
import Derived.Test.YtdhaoacnedgogaaStSames
namespace Go.Proofs.Ytdhaoacnedgogaa.Vm
open Go Go.RowKit

set_option maxRecDepth 100000 in
set_option maxHeartbeats 1000000 in
theorem rdigest_any (h : Sh) (s : St) (w : World) (hin : StIn w w.heap.size h s) (hn : s.rs.length ≤ 1000 ∧ s.ts.length ≤ 1000 ∧ s.bl.length ≤ 1000) :
    Calls Try.prog 16 #[shV h] w fun e w' => ∃ d : Nat, e = .returned (.int .u32 d) ∧ (CanS s → d = crc (encS s)) ∧ (¬ CanS s → d = 0) ∧ Below w.heap.size w w' := by
  have hB1 : Below w.heap.size w (w.alloc (shO h)) := (Below.refl _ _).alloc (Nat.le_refl _) _
  have hs1 := stAt_new w h
  obtain ⟨w1, hw1⟩ : ∃ w1, w1 = w.alloc (shO h) := ⟨_, rfl⟩
  rw [← hw1] at hB1 hs1
  have HW := Lib.hid hw1
  have HB1 := Lib.hid hB1
  have HC := Lib.hid (rcodS_any h s w1 ((hin.below hB1).mono hB1.size) hn)
  obtain ⟨t, a1, n1, c1, a2, n2, c2, a3, n3, c3⟩ := h
  obtain ⟨s0, s1, s2, s3⟩ := hs1
  simp only [] at s0 s1 s2 s3
  clear hin hn hB1 hw1
  go_enter Try.func16, Try.ntmps16
  go_wp2_with fail
  rw [← HW.out]
  refine HC.out.mono ?_
  rintro e w2 ⟨v, er, rfl, h1, h2, hb⟩
  have HBB := Lib.hid (HB1.out.trans (hb.mono HB1.out.size))
  clear s0 s1 s2 s3
  by_cases hc : CanS s
  · obtain ⟨rfl, hown⟩ := h1 hc
    obtain ⟨va, vc, hv, hrow⟩ := hown.slice
    have HCK := Lib.hid (rcheck_any va (encS s).length vc w2.heap.size (encS s) w2 hrow (encS_byte s))
    have HCC := Lib.hid hc
    generalize (encS s).length = nl at hv HCK
    subst hv
    clear h1 h2 hrow hown hc hb
    go_wp2_with fail
    refine HCK.out.mono ?_
    rintro e w3 ⟨rfl, rfl⟩
    go_wp2_with fail
    go_ret
    exact ⟨_, rfl, fun _ => rfl, fun h => absurd HCC.out h, HBB.out⟩
  · obtain ⟨rfl, rfl⟩ := h2 hc
    have HCC := Lib.hid hc
    clear h1 h2 hc hb
    go_wp2_with fail
    go_ret
    exact ⟨0, rfl, fun h => absurd h HCC.out, fun _ => rfl, HBB.out⟩

/-- A state that laws look at. -/
def FewS (h : Sh) : Prop := h.n1 ≤ 60 ∧ h.n2 ≤ 60 ∧ h.n3 ≤ 60
instance (h : Sh) : Decidable (FewS h) := by unfold FewS; exact inferInstance
set_option maxRecDepth 100000 in
set_option maxHeartbeats 1000000 in
theorem rfew_any (h : Sh) (s : St) (w : World) (hin : StIn w w.heap.size h s) :
    Calls Try.prog 8 #[shV h] w fun e w' => e = .returned (.bool (decide (FewS h))) ∧ Below w.heap.size w w' := by
  have hB1 : Below w.heap.size w (w.alloc (shO h)) := (Below.refl _ _).alloc (Nat.le_refl _) _
  have hs1 := stAt_new w h
  obtain ⟨w1, hw1⟩ : ∃ w1, w1 = w.alloc (shO h) := ⟨_, rfl⟩
  rw [← hw1] at hB1 hs1
  have HW := Lib.hid hw1
  have HB1 := Lib.hid hB1
  have HSM := Lib.hid (rstSame_any h h s s w1.heap.size w1 ((hin.below hB1).mono hB1.size) ((hin.below hB1).mono hB1.size) (Nat.le_refl _))
  rw [sameSt_all (s := s) (t := s) rfl rfl rfl rfl] at HSM
  obtain ⟨t, a1, n1, c1, a2, n2, c2, a3, n3, c3⟩ := h
  obtain ⟨s0, s1, s2, s3⟩ := hs1
  simp only [] at s0 s1 s2 s3
  unfold FewS
  simp only []
  clear hin hB1 hw1
  by_cases k1 : n1 ≤ 60
  · by_cases k2 : n2 ≤ 60
    · by_cases k3 : n3 ≤ 60
      · rw [decide_eq_true (show n1 ≤ 60 ∧ n2 ≤ 60 ∧ n3 ≤ 60 from ⟨k1, k2, k3⟩)]
        have k1' : (n1 : Int) ≤ 60 := by omega
        have k2' : (n2 : Int) ≤ 60 := by omega
        have k3' : (n3 : Int) ≤ 60 := by omega
        go_enter Try.func8, Try.ntmps8
        go_wp2_with fail
        rw [← HW.out]
        refine HSM.out.mono ?_
        rintro e w2 ⟨rfl, hb⟩
        have HBB := Lib.hid (HB1.out.trans (hb.mono HB1.out.size))
        clear s0 s1 s2 s3 hb
        go_wp2_with fail
        go_ret
        exact ⟨rfl, HBB.out⟩
      · rw [decide_eq_false (show ¬ (n1 ≤ 60 ∧ n2 ≤ 60 ∧ n3 ≤ 60) from fun h => k3 h.2.2)]
        have k1' : (n1 : Int) ≤ 60 := by omega
        have k2' : (n2 : Int) ≤ 60 := by omega
        have k3' : ¬ (n3 : Int) ≤ 60 := by omega
        go_enter Try.func8, Try.ntmps8
        go_wp2_with fail
        go_ret
        exact ⟨rfl, by rw [← HW.out]; exact HB1.out⟩
    · rw [decide_eq_false (show ¬ (n1 ≤ 60 ∧ n2 ≤ 60 ∧ n3 ≤ 60) from fun h => k2 h.2.1)]
      have k1' : (n1 : Int) ≤ 60 := by omega
      have k2' : ¬ (n2 : Int) ≤ 60 := by omega
      go_enter Try.func8, Try.ntmps8
      go_wp2_with fail
      go_ret
      exact ⟨rfl, by rw [← HW.out]; exact HB1.out⟩
  · rw [decide_eq_false (show ¬ (n1 ≤ 60 ∧ n2 ≤ 60 ∧ n3 ≤ 60) from fun h => k1 h.1)]
    have k1' : ¬ (n1 : Int) ≤ 60 := by omega
    go_enter Try.func8, Try.ntmps8
    go_wp2_with fail
    go_ret
    exact ⟨rfl, by rw [← HW.out]; exact HB1.out⟩
end Go.Proofs.Ytdhaoacnedgogaa.Vm
