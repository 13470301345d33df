/- The contracts of codec's State and Digest. The contract of codec's Record. -/
import Derived.Test.YtplnaaokapilpaaDoorFits
import Derived.Test.YtplnaaokapilpaaDoorRecNums
import Derived.Test.YtplnaaokapilpaaDoorRefPuts
import Derived.Test.YtplnaaokapilpaaDoorChecks
namespace Go.Proofs.YtplnaaokapilpaaDoor.Vm
open Go Go.RowKit

theorem numsP_lt {s : St} (h : CanS s) : ∀ y ∈ numsP s, y < 18446744073709551616 := by
  have gp : ∀ {l : List Int} {p : Int}, -1 ≤ p → UpIn p l → ∀ y ∈ gapP p l, y < 18446744073709551616 := by
    intro l
    induction l with
    | nil => intro p _ _ y hy; simp [gapP] at hy
    | cons x r ih =>
      intro p hp hu y hy
      obtain ⟨h1, h2, h3⟩ := hu
      unfold gapP at hy
      rcases List.mem_cons.1 hy with rfl | hy
      · omega
      · exact ih (by omega) h3 y hy
  intro y hy
  unfold numsP at hy
  have ht := h.tick
  have hr := h.rn
  have htn := h.tn
  have hbn := h.bn
  rcases List.mem_append.1 hy with hy | hy
  · rcases List.mem_append.1 hy with hy | hy
    · rcases List.mem_append.1 hy with hy | hy
      · rcases List.mem_append.1 hy with hy | hy
        · rcases List.mem_append.1 hy with hy | hy
          · simp at hy
            rcases hy with rfl | rfl <;> omega
          · obtain ⟨r, hr, hy⟩ := List.mem_flatMap.1 hy
            obtain ⟨a, b, c, d, e⟩ := h.rob r hr
            simp [robN] at hy
            rcases hy with rfl | rfl | rfl | rfl | rfl <;> omega
        · simp at hy; omega
      · obtain ⟨r, hr, hy⟩ := List.mem_flatMap.1 hy
        obtain ⟨a, b, c, d, e, f⟩ := h.job r hr
        simp [jobP] at hy
        rcases hy with rfl | rfl | rfl | rfl | rfl <;> omega
    · simp at hy; omega
  · exact gp (by omega) h.up y hy
theorem encs_nat (l : List Int) : encs (l.map Int.toNat) = l.flatMap encI := by
  unfold encs
  rw [List.flatMap_map]
  rfl


end Go.Proofs.YtplnaaokapilpaaDoor.Vm

namespace Go.Proofs.YtplnaaokapilpaaDoor.Vm
open Go Go.RowKit

theorem encs_natR (l : List Int) : encs (l.map Int.toNat) = l.flatMap encI := by
  unfold encs
  rw [List.flatMap_map]
  rfl

set_option maxRecDepth 100000 in
set_option maxHeartbeats 1000000 in
theorem codP_any (h : Rh) (x : Rcd) (w : World) (hin : RhIn w w.heap.size h x) (hwf : WfR x) (hn : x.ins.length ≤ 1000 ∧ x.ws.length ≤ 100000 ∧ (runs x.ws).length ≤ 10000) :
    Calls Tryd.prog 16 #[rhV h] w fun e w' => ∃ v er, e = .returned (.tuple #[v, .int .i64 er]) ∧ (CanR x → er = 0 ∧ Own w' w.heap.size v (encR x)) ∧ (¬ CanR x → er = 1 ∧ v = .slice none 0 0) ∧ Below w.heap.size w w' := by
  have hB1 : Below w.heap.size w (w.alloc (rhO h)) := (Below.refl _ _).alloc (Nat.le_refl _) _
  have hs1 := rhAt_new w h
  obtain ⟨w1, hw1⟩ : ∃ w1, w1 = w.alloc (rhO h) := ⟨_, rfl⟩
  have hz1 : w1.heap.size = w.heap.size + 1 := by rw [hw1]; simp
  rw [← hw1] at hB1 hs1
  have HW := Lib.hid hw1
  have HB1 := Lib.hid hB1
  have HS := Lib.hid hs1
  have HIN := Lib.hid (hin.below hB1)
  have HN := Lib.hid hn
  have HWF := Lib.hid hwf
  have HF := Lib.hid (recFits_any h x w1 ((hin.below hB1).mono hB1.size))
  obtain ⟨t, a1, n1, c1, a2, n2, c2, a3, n3, c3, ck⟩ := h
  obtain ⟨s0, s1, s2, s3, s4⟩ := hs1
  simp only [] at s0 s1 s2 s3 s4
  have hz1a : w.heap.size + 1 ≤ w1.heap.size := by omega
  clear hin hn hB1 hw1 hz1 hwf
  by_cases hc : CanR x
  · have HC := Lib.hid hc
    rw [canRB_yes hc] at HF
    clear hc
    go_enter Tryd.func16, Tryd.ntmps16
    go_wp2_with fail
    rw [← HW.out]
    refine HF.out.mono ?_
    rintro e w2 ⟨rfl, hb2⟩
    have HB2 := Lib.hid hb2
    have hsz := hb2.size
    obtain ⟨p0, p1, p2, p3, p4⟩ := HS.out.below hb2 (by omega)
    simp only [] at p0 p1 p2 p3 p4
    have HU := Lib.hid (recNums_any ⟨t, a1, n1, c1, a2, n2, c2, a3, n3, c3, ck⟩ x w2 (((HIN.out).below (hb2.mono (by omega))).mono (by omega)) HWF.out HN.out HC.out)
    clear s0 s1 s2 s3 s4 hb2
    go_wp2_with fail
    refine HU.out.mono ?_
    rintro e w3 ⟨na, nc, rfl, hu, hb3⟩
    have hl := numsR_len HC.out
    have hq := HN.out
    have HP := Lib.hid (put_any na (numsR x).length nc _ w3 (hu.row (fun y hy => (numsR_in HC.out HWF.out ⟨hq.1, hq.2.1⟩ y hy).1)) (fun z hz => by
      obtain ⟨y, hy, rfl⟩ := List.mem_map.1 hz
      have := numsR_in HC.out HWF.out ⟨hq.1, hq.2.1⟩ y hy
      omega) (by omega))
    have HB3 := Lib.hid hb3
    rw [encs_natR, numsR_enc] at HP
    obtain ⟨nn, hnn⟩ : ∃ nn, (numsR x).length = nn := ⟨_, rfl⟩
    rw [hnn] at HP ⊢
    clear hu hb3 hl hq hnn
    go_wp2_with fail
    refine HP.out.mono ?_
    rintro e w4 ⟨v, rfl, ho, hb4⟩
    have HO := Lib.hid ho
    have hb3 := HB3.out
    have HB4 := Lib.hid (HB1.out.trans ((HB2.out.trans ((hb3.mono hsz).trans (hb4.mono (by have := hb3.size; omega)))).mono (by omega)))
    clear ho hb4
    go_wp2_with fail
    refine bodyPost_ret (results_tmp2 rfl _ _ _) rfl ?_
    exact ⟨v, 0, by first | rfl | trivial, fun _ => ⟨rfl, HO.out.mono (by have := hb3.size; omega)⟩, fun h => absurd HC.out h, HB4.out⟩
  · have HC := Lib.hid hc
    rw [canRB_no hc] at HF
    clear hc
    go_enter Tryd.func16, Tryd.ntmps16
    go_wp2_with fail
    rw [← HW.out]
    refine HF.out.mono ?_
    rintro e w2 ⟨rfl, hb2⟩
    have HB2 := Lib.hid (HB1.out.trans (hb2.mono (by omega)))
    clear s0 s1 s2 s3 s4 hb2
    go_wp2_with fail
    refine bodyPost_ret (results_tmp2 rfl _ _ _) rfl ?_
    exact ⟨.slice none 0 0, 1, by first | rfl | trivial, fun h => absurd h HC.out, fun _ => ⟨rfl, rfl⟩, HB2.out⟩
end Go.Proofs.YtplnaaokapilpaaDoor.Vm
