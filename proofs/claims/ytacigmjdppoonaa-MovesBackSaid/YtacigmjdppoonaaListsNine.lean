/- The contracts of layer 9's document function Lists (lists that are the same) and of its law's light. -/
import Derived.Test.YtacigmjdppoonaaIntRows
import Derived.Test.YtacigmjdppoonaaFloors
import Derived.Deep.LoopGhost
namespace Go.Proofs.Ytacigmjdppoonaa.Vm
open Go Go.RowKit
set_option maxRecDepth 100000

set_option maxHeartbeats 1000000 in
theorem listsSame_any (a1 a2 : Option Addr) (n c1 c2 B : Nat) (ls : List (List Int)) (w : World) (h1 : RowL w B a1 n c1 ls) (h2 : RowL w B a2 n c2 ls) (hn : n ≤ 100000) :
    Calls Try.prog 15 #[.slice a1 n c1, .slice a2 n c2] w fun e w' => e = .returned (.bool true) ∧ Below w.heap.size w w' := by
  have HC1 := Lib.hid (fun h => h1.cells h)
  have HC2 := Lib.hid (fun h => h2.cells h)
  have hm1 := h1.2.1
  have hm2 := h2.2.1
  have hx1 := h1.2.2.1
  have hx2 := h2.2.2.1
  unfold maxLen at hx1 hx2
  have e0 : ((n : Int) != (n : Int)) = false := by simp
  clear h1 h2
  go_enter Try.func15, Try.ntmps15
  go_wp2_with fail
  go_loopg [5] n (fun gg v wr => ∃ k : Nat, k + gg = n ∧ v = .int .i64 k ∧ Hid (∃ m, wr = w.drewN m))
  case atStart => exact ⟨0, by omega, rfl, 0, rfl⟩
  case round =>
    obtain ⟨k, hk, rfl, HD⟩ := hrel
    by_cases hlt : k < n
    · obtain ⟨b1, o1, rfl, hb1, hc1⟩ := HC1.out (by omega)
      obtain ⟨b2, o2, rfl, hb2, hc2⟩ := HC2.out (by omega)
      obtain ⟨x1, m1, y1, k1, z1⟩ := hc1 k hlt
      obtain ⟨x2, m2, y2, k2, z2⟩ := hc2 k hlt
      obtain ⟨md, hwd⟩ := HD.out
      have HK : Hid (∀ m, (w.drewN m).cell? ⟨b1, o1 + k, none⟩ = some (.slice x1 m1 y1) ∧ (w.drewN m).cell? ⟨b2, o2 + k, none⟩ = some (.slice x2 m2 y2)) := fun m =>
        ⟨((below_drewN (Below.refl (b1 + 1) _) m).cell (p := ⟨b1, o1 + k, none⟩) (Nat.lt_succ_self b1)).trans k1, ((below_drewN (Below.refl (b2 + 1) _) m).cell (p := ⟨b2, o2 + k, none⟩) (Nat.lt_succ_self b2)).trans k2⟩
      obtain rfl : m1 = m2 := z1.1.symm.trans z2.1
      generalize ls.getD k [] = q at z1 z2
      have hy1 := z1.2.1
      have hy2 := z2.2.1
      have hv1 := z1.2.2.1
      have hv2 := z2.2.2.1
      unfold maxLen at hv1 hv2
      have em : ((m1 : Int) != (m1 : Int)) = false := by simp
      have HZ1 := Lib.hid fun h => z1.cells h
      have HZ2 := Lib.hid fun h => z2.cells h
      have HWD := Lib.hid hwd
      obtain ⟨hk1, hk2⟩ := HK.out md
      rw [← hwd] at hk1 hk2
      clear hc1 hc2 z1 z2 k1 k2 hwd
      go_wp2_with fail
      go_quiet (fail)
      have HQ : Hid (wr.drewN nq = w.drewN (md + nq)) := by unfold Hid; rw [HWD.out, World.drewN_drewN]
      clear hk1 hk2
      obtain ⟨V, hV⟩ : ∃ V, V = wr.drewN nq := ⟨_, rfl⟩
      obtain ⟨hk1, hk2⟩ := HK.out (md + nq)
      rw [← HQ.out, ← hV] at hk1 hk2
      rw [← hV]
      have HV : Hid (V = w.drewN (md + nq)) := by unfold Hid; rw [hV, HQ.out]
      clear hV
      go_wp2_with fail
      go_loopg [6] m1 (fun gg v wz => ∃ i : Nat, i + gg = m1 ∧ v = .int .i64 i ∧ Hid (∃ m, wz = w.drewN m))
      case atStart => exact ⟨0, by omega, rfl, _, HV.out⟩
      case round =>
        obtain ⟨i, hi, rfl, HE⟩ := hrel
        obtain ⟨me, hwe⟩ := HE.out
        have HWE := Lib.hid hwe
        obtain ⟨hk1', hk2'⟩ := HK.out me
        rw [← hwe] at hk1' hk2'
        by_cases hli : i < m1
        · obtain ⟨p1, f1, rfl, hp1, hq1⟩ := HZ1.out (by omega)
          obtain ⟨p2, f2, rfl, hp2, hq2⟩ := HZ2.out (by omega)
          have hw1 : wr.cell? ⟨p1, f1 + i, none⟩ = some (.int .i64 (q.getD i 0)) := by rw [hwe]; exact ((below_drewN (Below.refl (p1 + 1) _) me).cell (p := ⟨p1, f1 + i, none⟩) (Nat.lt_succ_self p1)).trans (hq1 i hli)
          have hw2 : wr.cell? ⟨p2, f2 + i, none⟩ = some (.int .i64 (q.getD i 0)) := by rw [hwe]; exact ((below_drewN (Below.refl (p2 + 1) _) me).cell (p := ⟨p2, f2 + i, none⟩) (Nat.lt_succ_self p2)).trans (hq2 i hli)
          generalize q.getD i 0 = z at hw1 hw2
          have ez : (z != z) = false := by simp
          clear hq1 hq2 hwe hk1 hk2
          go_wp2_with fail
          go_quiet (fail)
          have HQ2 : Hid (wr.drewN nq = w.drewN (me + nq)) := by unfold Hid; rw [HWE.out, World.drewN_drewN]
          go_wp2_with fail
          go_roundg (gk - 1)
          case rel => exact ⟨i + 1, by omega, by go_num, _, HQ2.out⟩
          case measure => omega
        · clear hwe hk1 hk2
          obtain rfl : i = m1 := by omega
          go_wp2_with fail
          go_roundg (n - (k + 1))
          case rel => exact ⟨k + 1, by omega, by go_num, _, HWE.out⟩
          case measure => omega
    · obtain rfl : k = n := by omega
      obtain ⟨m, hm⟩ := HD.out
      have HBF : Hid (Below w.heap.size w wr) := by unfold Hid; rw [hm]; exact below_drewN (Below.refl _ _) m
      clear hm
      go_wp2_with fail
      go_ret
      exact ⟨rfl, HBF.out⟩

end Go.Proofs.Ytacigmjdppoonaa.Vm
