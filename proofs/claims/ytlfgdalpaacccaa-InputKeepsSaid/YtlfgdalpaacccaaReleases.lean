/- The contract of input's release. -/
import Derived.Test.YtlfgdalpaacccaaInTurns
import Derived.BigRegion
import Derived.RegionTactic
namespace Go.Proofs.Ytlfgdalpaacccaa.Vm
open Go Go.RowKit

theorem freeT_at_place {ts : List Rec} {id : Int} {k : Nat} (hk : k < ts.length) (hf : findS ts id = (k : Int)) :
    freeT ts id = (ts.set k (setF (ts.getD k zr) 3 1)).set k (setF ((ts.set k (setF (ts.getD k zr) 3 1)).getD k zr) 4 (-1)) := by
  unfold freeT
  rw [hf, if_neg (by omega), Int.toNat_natCast, set_at hk, List.set_set]
  rfl

set_option maxRecDepth 100000 in
set_option maxHeartbeats 2000000 in
theorem release_any (B b : Nat) (h : Sh) (s : St) (id : Int) (w : World) (m : Mine w B b h s) (hid : 0 ≤ findS s.ts id) :
    Calls Try.prog 56 #[.pointer (some ⟨b, 0, none⟩), .int .i64 id] w fun e w' => e = .returned (.tuple #[]) ∧ TurnsH w B b h ⟨s.tick, s.rs, freeT s.ts id, s.bl⟩ w' := by
  have HFD := Lib.hid (find_any h s.ts id w.heap.size w m.stIn.ts (Nat.le_refl _))
  obtain ⟨k, hk, hf⟩ : ∃ k : Nat, k < s.ts.length ∧ findS s.ts id = k := by
    rcases findS_cases s.ts id with ⟨e, _⟩ | ⟨k, hk, e, _⟩
    · omega
    · exact ⟨k, hk, e⟩
  rw [hf] at HFD
  obtain ⟨s0, s1, s2, s3⟩ := m.stAt
  have HM := Lib.hid m
  have HFR := Lib.hid (freeT_at_place hk hf)
  have hltb := m.lt
  obtain ⟨t, a1, n1, c1, a2, n2, c2, a3, n3, c3⟩ := h
  simp only [] at s0 s1 s2 s3
  clear m hid hf
  go_enter Try.func56, Try.ntmps56
  go_wp2_with fail
  refine HFD.out.mono ?_
  rintro e w2 ⟨rfl, hb2⟩
  have t2 := TurnsH.calls HM.out hb2
  obtain ⟨lb, ha, hlb, hlt2, hcs, hfz⟩ := t2.m.c.ts.at (by omega)
  simp only [] at ha
  subst ha
  have hne : lb ≠ b := fun e => own_apart t2.m.c.ts t2.m.o (by decide) (by rw [e]; rfl)
  have hne' : b ≠ lb := fun e => hne e.symm
  have HT : Hid (TurnsH w B b ⟨t, a1, n1, c1, some ⟨lb, 0, none⟩, n2, c2, a3, n3, c3⟩ ⟨s.tick, s.rs, freeT s.ts id, s.bl⟩ (((w2.setCell ⟨lb, k * 5 + 3, none⟩ (.int .i64 1)).setCell ⟨lb, k * 5 + 4, none⟩ (.int .i64 (-1))).drew)) := by
    unfold Hid
    rw [HFR.out]
    have t3 := t2.trans (t2.m.setT rfl hk (show 3 < 5 by omega) 1)
    exact (t3.trans (t3.m.setT rfl (i := k) (by simpa using hk) (show 4 < 5 by omega) (-1))).drew
  have hc3 := (hcs k hk).2.2.2.1
  have hc4 := (hcs k hk).2.2.2.2
  have f3 := hfz (k * 5 + 3)
  have f4 := hfz (k * 5 + 4)
  have hkn : k < n2 := by have := t2.m.c.n2; simp only [] at this; omega
  have hnm := t2.m.stIn.ts.len
  unfold maxLen at hnm
  simp only [] at hnm
  have hk0 : (0 : Int) ≤ (k : Int) := by omega
  have hk1 : (k : Int) < (n2 : Int) := by omega
  have q2 := t2.m.stAt.2.2.1
  simp only [] at q2
  have hlb2 := t2.m.lt
  generalize (s.ts.getD k zr).d = o3 at hc3
  generalize (s.ts.getD k zr).e = o4 at hc4
  clear s0 s1 s2 s3 hb2 HFD t2 hcs hfz HM HFR hlb
  go_wp2_with fail
  go_region
  all_goals go_wp2_with fail
  all_goals go_end0
  all_goals exact ⟨rfl, HT.out⟩
end Go.Proofs.Ytlfgdalpaacccaa.Vm
