/- tuggerlaw05.StateNews returns true for every input: the state of robots in any cells is the document's, and may be. -/
import Derived.Test.YtincamjkfpcpiaaRefStNews
import Derived.Test.YtincamjkfpcpiaaStSames
import Derived.Test.YtincamjkfpcpiaaStRights
import Derived.Test.YtincamjkfpcpiaaOpens
import Derived.Test.YtincamjkfpcpiaaRights
import Derived.Test.YtincamjkfpcpiaaArgs
namespace Go.Proofs.Ytincamjkfpcpiaa.Vm
open Go Go.RowKit

theorem newS_wf (fl : Int → Bool) (cells : List Int) : WfC (newS fl cells) := by
  intro i hi
  unfold newS at hi ⊢
  by_cases h : newE fl cells = 0
  · rw [if_pos h] at hi ⊢
    simp only [] at hi ⊢
    have hl : i < cells.length := by simpa [newR] using hi
    rw [newR_at hl]
    exact (by decide : (Lit.int .i64 (0 : Int)).wf = true)
  · rw [if_neg h] at hi
    exact absurd hi (Nat.not_lt_zero _)

set_option maxRecDepth 100000 in
set_option maxHeartbeats 1000000 in
theorem stateNews_walk (haw : ∀ w : World, Calls Try.prog 6 #[] w fun e w' => e = .returned (.bool true) ∧ Below w.heap.size w w')
    (W H : Int) (g : ByteArray) (a : Option Addr) (n c : Nat) (zs : List Int) (w : World) (hg : g.size ≤ maxLen) (hi : IsRow .i64 w a n c zs) :
    Calls Try.prog 4 #[gridV W H g, .slice a n c] w fun e w' => e = .returned (.bool true) ∧ Below w.heap.size w w' := by
  obtain ⟨hr, hwz, hnm⟩ := hi.rowZ
  generalize zs.take n = cells at hr hwz
  have hg0 := gridAt_new w W H g
  have hB0 : Below w.heap.size w (w.alloc (gridO W H g)) := (Below.refl _ _).alloc (Nat.le_refl _) _
  have hz0 : (w.alloc (gridO W H g)).heap.size = w.heap.size + 1 := by simp
  obtain ⟨u0, hu0⟩ : ∃ u0, u0 = w.alloc (gridO W H g) := ⟨_, rfl⟩
  rw [← hu0] at hg0 hB0 hz0
  have HU0 := Lib.hid hu0
  have HG0 := Lib.hid hg0
  have HR := Lib.hid hr
  have HAW := Lib.hid haw
  have HG := Lib.hid hg
  have HRI := Lib.hid fun V => rright_any W H g V hg
  have HN := Lib.hid fun (V : World) (hV : Below w.heap.size w V) => new_any W H g a n c _ cells V hg (hr.below hV) hV.size
  have HM := Lib.hid fun (V : World) (hV : Below w.heap.size w V) => rnew_any W H g a n c _ cells V hg (hr.below hV) hV.size
  unfold maxLen at hg hnm
  clear hu0 hg0 hr haw hi hwz
  go_enter Try.func4, Try.ntmps4
  go_wp2_with fail
  rw [← HU0.out]
  refine (HAW.out u0).mono ?_
  rintro e w1 ⟨rfl, hb1⟩
  have hB1 := hB0.trans (hb1.mono hB0.size)
  have hg1 := HG0.out.below hb1 (by omega)
  have hz1 : w.heap.size < w1.heap.size := by have := hb1.size; omega
  obtain ⟨g1, g2, g3⟩ := id hg1
  have HG1 := Lib.hid hg1
  clear hg1 hb1 HAW HU0 HG0 hB0 hz0
  by_cases hk : 150 < g.size
  · go_wp2_with fail
    go_ret
    exact ⟨rfl, hB1⟩
  by_cases hk2 : 1100 < n
  · go_wp2_with fail
    go_ret
    exact ⟨rfl, hB1⟩
  cases hrg : rightS W H (bytesOf g)
  · have hri := HRI.out w1
    rw [hrg] at hri
    have HRI2 := Lib.hid hri
    clear hri hrg HRI
    go_wp2_with fail
    refine HRI2.out.mono ?_
    rintro e w2 ⟨rfl, hb2⟩
    have hB2 := hB1.trans (hb2.mono hB1.size)
    go_wp2_with fail
    go_ret
    exact ⟨rfl, hB2⟩
  have hri := HRI.out w1
  rw [hrg] at hri
  have HRI2 := Lib.hid hri
  clear hri hrg HRI
  go_wp2_with fail
  refine HRI2.out.mono ?_
  rintro e w2 ⟨rfl, hb2⟩
  have hB2 := hB1.trans (hb2.mono hB1.size)
  have hg2' := HG1.out.below hb2 hz1
  have hz2 : w.heap.size < w2.heap.size := by have := hb2.size; omega
  clear g1 g2 g3
  obtain ⟨g1, g2, g3⟩ := id hg2'
  have HG2 := Lib.hid hg2'
  clear hg2' hb2 HG1 hB1 hz1 HRI2
  go_wp2_with fail
  refine (HN.out _ hB2).mono ?_
  rintro e w3 ⟨h1, he, hC1, hb3⟩
  obtain ⟨fl, hfl⟩ : ∃ fl, floorS (bytesOf g) = fl := ⟨_, rfl⟩
  rw [hfl] at he hC1 HM
  have HFL := Lib.hid hfl
  obtain ⟨er, her⟩ : ∃ er, newE fl cells = er := ⟨_, rfl⟩
  rw [her] at he
  subst he
  have HER := Lib.hid her
  have hB3 := hB2.trans (hb3.mono hB2.size)
  have hal : Below w3.heap.size w3 (w3.alloc (shO h1)) := (Below.refl _ _).alloc (Nat.le_refl _) _
  have hst := stAt_new w3 h1
  have hzu : (w3.alloc (shO h1)).heap.size = w3.heap.size + 1 := by simp
  have hz3 : w.heap.size < w3.heap.size := by have := hb3.size; omega
  have hg3' := HG2.out.below hb3 hz2
  have hI := hC1.stIn.below hal
  have hBu := hB3.trans (hal.mono hB3.size)
  clear g1 g2 g3
  obtain ⟨g1, g2, g3⟩ := id hg3'
  have hgu := hg3'.below hal hz3
  obtain ⟨u, hu⟩ : ∃ u, u = w3.alloc (shO h1) := ⟨_, rfl⟩
  rw [← hu] at hst hzu hI hBu hgu
  have HU := Lib.hid hu
  have HST := Lib.hid hst
  have HI := Lib.hid hI
  have HGU := Lib.hid hgu
  clear hfl her hC1 hb3 hal hst hI hgu hu hg3' HG2 HN
  go_wp2_with fail
  rw [← HU.out]
  refine (HM.out _ hBu).mono ?_
  rintro e w4 ⟨h2, he, hC2, hb4⟩
  rw [HER.out] at he
  subst he
  have hB4 := hBu.trans (hb4.mono hBu.size)
  have hs4 := HST.out.below hb4 (by omega)
  have hg4 := HGU.out.below hb4 (by omega)
  have hI4 := HI.out.below (hb4.mono (by omega))
  have hz4 : w3.heap.size < w4.heap.size := by have := hb4.size; omega
  have hz4' : w.heap.size < w4.heap.size := by omega
  have hal : Below w4.heap.size w4 (w4.alloc (shO h2)) := (Below.refl _ _).alloc (Nat.le_refl _) _
  have hst := stAt_new w4 h2
  have hzv : (w4.alloc (shO h2)).heap.size = w4.heap.size + 1 := by simp
  have hBv := hB4.trans (hal.mono hB4.size)
  have hI5 := (hI4.below (hal.mono (by omega))).mono (show w3.heap.size ≤ w4.heap.size by omega)
  have hJ5 := hC2.stIn.below hal
  have HSM := Lib.hid (rstSame_any h1 h2 (newS fl cells) (newS fl cells) _ (w4.alloc (shO h2)) hI5 hJ5 (by simp))
  rw [sameSt_all rfl rfl rfl rfl] at HSM
  have HS5 := Lib.hid (hs4.below hal hz4)
  have HG5 := Lib.hid (hg4.below hal hz4')
  have HI5 := Lib.hid hI5
  have HB5 := Lib.hid hBv
  clear g1 g2 g3
  obtain ⟨s0, s1, s2, s3⟩ := hs4
  clear hg4 hI4 hb4 hal hst hBv hI5 hJ5 hC2 hB4 hBu HM HU HST HI HGU hB3 hB2
  go_wp2_with fail
  refine HSM.out.mono ?_
  rintro e w5 ⟨rfl, hb5⟩
  have hB6 := HB5.out.trans (hb5.mono HB5.out.size)
  obtain ⟨g1, g2, g3⟩ := HG5.out.below hb5 (by omega)
  obtain ⟨t0, t1, t2, t3⟩ := HS5.out.below hb5 (by omega)
  have hI6 := HI5.out.below (hb5.mono (by omega))
  clear s0 s1 s2 s3
  by_cases he0 : er = 0
  · have HRT := Lib.hid (stRight_any W H g h1 (newS fl cells) _ w5 HG.out hI6 (by have := hb5.size; omega) (newS_wf _ _))
    rw [HFL.out, show rightB fl (newS fl cells) = true from yes_true (new_right (HER.out.trans he0))] at HRT
    subst he0
    clear hI6 hb5
    go_wp2_with fail
    refine HRT.out.mono ?_
    rintro e w6 ⟨rfl, hb6⟩
    have hB7 := hB6.trans (hb6.mono hB6.size)
    go_wp2_with fail
    go_ret
    exact ⟨rfl, hB7⟩
  · have e1 : (er != 0) = true := by simpa using he0
    clear he0
    go_wp2_with fail
    go_ret
    exact ⟨rfl, hB6⟩
end Go.Proofs.Ytincamjkfpcpiaa.Vm
